/-
  Layer 9: the document's own answer: small letters, quoted texts, Quote. Conditions: sizes.
-/
import Derived.Test.YtceknmibopnmhaaDoorWRefB
import Derived.Test.YtceknmibopnmhaaDoorWName
import Derived.Test.YtceknmibopnmhaaDoorBase
import Derived.Deep.RegionLaw
import Derived.Deep.AppendLies
namespace Go.Proofs.YtceknmibopnmhaaDoor
open Go.ChangeShapes Go.WideShapes Go.ChangeAt Go.RowKit
set_option linter.unusedVariables false

/-- string(b) -/
theorem rrun_str {w : World} {B : Nat} {A : Option Addr} {l : List UInt8} (h : Rd w B A l) (c : Nat) :
    (convert 39 9 (.slice A l.length c)).run Tryd.prog w = .ok (.string ⟨l.toArray⟩) w := by
  rcases Nat.eq_zero_or_pos l.length with h0 | h0
  · have hl : l = [] := List.eq_nil_of_length_eq_zero h0
    subst hl
    show (convert 39 9 (.slice A 0 c)).run Tryd.prog w = _
    rw [run_convert_bytes_string w 39 9 5 A 0 c Tryd.underlying39 Tryd.underlying5 Tryd.underlying9]
    cases A <;> simp [Conv.bytesToString, loadCells]
    all_goals rfl
  · obtain ⟨ad, rfl, _, hc⟩ := h h0
    exact run_convert_bytes_back w 39 9 5 ad c l Tryd.underlying39 Tryd.underlying5 Tryd.underlying9 fun j hj => hc j _ (List.getElem?_eq_getElem hj)
theorem turn_skip {F : UInt8 → UInt8} {s : ByteArray} {B g k : Nat} {w0 wr : World} (hk : k < s.size) (hb : Below B w0 wr) (hz : g < wr.heap.size)
    (hc : ∀ j, j < s.size → wr.cell? ⟨g, j, none⟩ = some (.int .u8 ((midU F s k j).toNat : Int)) ∧ wr.frozen? ⟨g, j, none⟩ = false) (hF : F (s.data.toList.getD k 0) = s.data.toList.getD k 0) (i : Value) (hi : i = .int .i64 ((k + 1 : Nat) : Int)) :
    TurnRel F s B g w0 i wr := by
  subst hi
  refine ⟨k + 1, hk, rfl, hb, hz, fun j hj => ⟨?_, (hc j hj).2⟩⟩
  rw [(hc j hj).1]
  by_cases e : k = j
  · subst e
    simp only [midU, Nat.lt_irrefl, if_false, Nat.lt_succ_self, if_true, hF]
  · have : (j < k + 1) = (j < k) := by simp; omega
    simp only [midU, this]
set_option maxRecDepth 100000 in
set_option maxHeartbeats 1000000 in
theorem rsmall_any (s : ByteArray) (w : World) (hs : s.size ≤ 65536) : Calls Tryd.prog 36 #[.string s] w fun e w' => e = .returned (.string (turnedS M.sm s)) ∧ Below w.heap.size w w' := by
  have HV := Lib.hid (fun (X : World) => Lib.run_convert_string_bytes (P := Tryd.prog) X 9 39 5 s Tryd.underlying9 Tryd.underlying39 Tryd.underlying5)
  have hcv := HV.out w
  have HBG := Lib.hid (turn_begin M.sm s w.heap.size w w (Below.refl _ _) (Nat.le_refl _))
  go_enter Tryd.func36, Tryd.ntmps36
  go_wp2_with fail
  go_loopw [4] (fun i wr => TurnRel M.sm s w.heap.size w.heap.size w i wr) (fun i _ => s.size - (intOf i).toNat)
  case atStart => exact HBG.out
  case round =>
    obtain ⟨q, hq, rfl, hb, hz, hc⟩ := hrel
    by_cases hlt : q < s.size
    · obtain ⟨hq1, hq2⟩ := hc q hlt
      obtain ⟨u, hu⟩ : ∃ u, s.data.toList.getD q 0 = u := ⟨_, rfl⟩
      have hmid : midU M.sm s q q = u := by simp [midU, ← hu]
      rw [hmid] at hq1
      have hun := u.toNat_lt
      by_cases hg : 65 ≤ u.toNat ∧ u.toNat ≤ 90
      · have HS := Lib.hid (fun z hv i hi => turn_step M.sm s _ w.heap.size q w _ hlt (Nat.le_refl _) hb hz hc z hv i hi)
        have HM := Lib.hid (show ((u.toNat : Int) + 32) = ((M.sm (s.data.toList.getD q 0)).toNat : Int) by rw [hu, M.sm_n, if_pos hg]; omega)
        obtain ⟨n, hn⟩ : ∃ n, u.toNat = n := ⟨_, rfl⟩
        rw [hn] at HM hg hq1 hun
        obtain ⟨g1, g2⟩ := hg
        clear hc hb hu hmid hn
        go_wp2_with fail
        exact ⟨HS.out _ (by rw [← HM.out]) _ (by go_num), by simp [intOf]; omega⟩
      · have HS := Lib.hid (fun i hi => turn_skip (F := M.sm) (g := w.heap.size) hlt hb hz hc (by rw [hu, ← UInt8.toNat_inj, M.sm_n, if_neg hg]) i hi)
        obtain ⟨n, hn⟩ : ∃ n, u.toNat = n := ⟨_, rfl⟩
        rw [hn] at hg hq1 hun
        clear hc hb hu hmid hn
        by_cases g1 : 65 ≤ n
        · have g2 : ¬ n ≤ 90 := by omega
          clear hg
          go_wp2_with fail
          exact ⟨HS.out _ (by go_num), by simp [intOf]; omega⟩
        · clear hg
          go_wp2_with fail
          exact ⟨HS.out _ (by go_num), by simp [intOf]; omega⟩
    · obtain rfl : q = s.size := by omega
      have hst := turn_end M.sm s w.heap.size _ hz hc (grownCap w s.size 0 5)
      have HB3 := Lib.hid hb
      clear hc hb
      obtain ⟨y, HY⟩ : ∃ y, Hid (turnedS M.sm s = y) := ⟨_, Lib.hid rfl⟩
      rw [HY.out] at hst
      go_wp2_with fail
      go_ret
      exact ⟨(congrArg (fun z => Ending.returned (Value.string z)) HY.out.symm : Ending.returned (.string y) = .returned (.string (turnedS M.sm s))), HB3.out⟩
/-- what quoted and blob tell: the bytes, and where it ends -/
def RetQ (o : Option (List UInt8 × Nat)) (a : Nat) (w : World) (e : Ending) (w' : World) : Prop :=
  (∃ l n, o = some (l, n) ∧ e = .returned (.tuple #[.string ⟨l.toArray⟩, .int .i64 ((a + n : Nat) : Int)]) ∧ Below w.heap.size w w') ∨ (o = none ∧ e = .returned (.tuple #[.string nb, .int .i64 (-1)]) ∧ Below w.heap.size w w')
theorem ret_q {l : ByteArray} {z z' : Int} (h : z = z') : Ending.returned (.tuple #[.string l, .int .i64 z]) = .returned (.tuple #[.string l, .int .i64 z']) := by rw [h]
def QtRel (f : List UInt8 → Option (List UInt8 × Nat)) (s : ByteArray) (a : Nat) (w : World) (v i : Value) (wr : World) : Prop :=
  ∃ (k : Nat) (out : List UInt8), a ≤ k ∧ k ≤ s.size ∧ i = .int .i64 (k : Int) ∧ Own wr w.heap.size v out ∧ out.length ≤ k ∧ f (s.data.toList.drop a) = (f (s.data.toList.drop k)).map (fun x => (out ++ x.1, x.2 + (k - a))) ∧ Below w.heap.size w wr
theorem qt_next {o o' : Option (List UInt8 × Nat)} {p : Option (List UInt8 × Nat)} {out b : List UInt8} {m n m' : Nat} (h : o = p.map (fun x => (out ++ x.1, x.2 + m))) (hp : p = o'.map (fun x => (b ++ x.1, x.2 + n))) (hm : m' = n + m) :
    o = o'.map (fun x => ((out ++ b) ++ x.1, x.2 + m')) := by
  rw [h, hp, M.opt_map2, hm]
set_option maxRecDepth 100000 in
set_option maxHeartbeats 1000000 in
theorem rquoted_any (s : ByteArray) (a0 a : Nat) (w : World) (hs : s.size ≤ 65536) (ha : a0 + 1 = a) (hle : a ≤ s.size) :
    Calls Tryd.prog 33 #[.string s, .int .i64 (a0 : Int)] w (RetQ (M.qt (s.data.toList.drop a)) a w) := by
  have haz : (a0 : Int) + 1 = (a : Int) := by omega
  go_enter Tryd.func33, Tryd.ntmps33
  go_wp2_with fail
  go_loopw [6, 7] (fun v i wr => QtRel M.qt s a w v i wr) (fun _ i _ => s.size - (intOf i).toNat)
  case atStart => exact ⟨a, [], Nat.le_refl _, hle, rfl, World.ownsRow_nil w w.heap.size _ _, Nat.zero_le _, by cases M.qt (s.data.toList.drop a) <;> simp, Below.refl _ _⟩
  case round =>
    obtain ⟨k, out, hak, hk, rfl, ho, hlen, hq, hb⟩ := hrel
    have hsz := hb.size
    clear haz ha hle
    by_cases hlt : k < s.size
    · rw [drop_at s k hlt] at hq
      have hc := (s[k]).toNat_lt
      by_cases h39 : s[k].toNat = 39
      · have e39 : s[k] = 39 := u8eq (n := 39) h39 (by omega)
        have hz : (s[k].toNat : Int) = 39 := by omega
        rw [e39] at hq
        by_cases hn : ∃ h2 : k + 1 < s.size, s[k + 1].toNat = 39
        · obtain ⟨h2, h3⟩ := hn
          have hz2 : (s[k + 1].toNat : Int) = 39 := by omega
          rw [drop_at s (k + 1) h2, u8eq (n := 39) h3 (by omega)] at hq
          have HQ := Lib.hid (qt_next (b := [39]) (n := 2) (m' := k + 2 - a) hq (M.qt_two _) (by omega))
          have HB := Lib.hid hb
          have HO := Lib.hid ho
          clear hq hb ho h3 e39 h39
          go_wp2_with (at_builtin; refine wpList_app1 rfl _ _ rfl w.heap.size _ out rfl HO.out _ 39 rfl rfl (by omega) hsz ?_; intro v1 wx ho1 hb1)
          exact ⟨⟨k + 2, out ++ [39], by omega, by omega, by go_num, ho1, by simp; omega, HQ.out, HB.out.trans hb1⟩, by simp [intOf]; omega⟩
        · have HQ := Lib.hid (show M.qt (s.data.toList.drop a) = some (out, k + 1 - a) from by
            rw [hq, M.qt_end _ (fun h => hn (by
              by_cases h2 : k + 1 < s.size
              · rw [drop_at s (k + 1) h2] at h
                exact ⟨h2, by rw [show s[k + 1] = 39 by simpa using h]; rfl⟩
              · rw [List.drop_of_length_le (by simp; omega)] at h
                cases h))]
            simp
            omega)
          obtain ⟨A, c, rfl, hc1, hc2, hrd⟩ := ho.form
          have hst := rrun_str hrd c
          have HB := Lib.hid hb
          clear hrd ho hq hb e39 h39
          by_cases h2 : k + 1 < s.size
          · have hz2 : ¬ (s[k + 1].toNat : Int) = 39 := fun e => hn ⟨h2, by omega⟩
            clear hn
            go_wp2_with fail
            refine bodyPost_ret (results_tmp2 rfl _ _ _) rfl ?_
            exact .inl ⟨out, k + 1 - a, HQ.out, ret_q (by omega), HB.out⟩
          · clear hn
            go_wp2_with fail
            refine bodyPost_ret (results_tmp2 rfl _ _ _) rfl ?_
            exact .inl ⟨out, k + 1 - a, HQ.out, ret_q (by omega), HB.out⟩
      · have hz : ¬ (s[k].toNat : Int) = 39 := by omega
        have HQ := Lib.hid (qt_next (b := [s[k]]) (n := 1) (m' := k + 1 - a) hq (M.qt_byte _ (fun e => h39 (by rw [e]; rfl))) (by omega))
        have HB := Lib.hid hb
        have HO := Lib.hid ho
        clear hq hb ho h39
        go_wp2_with (at_builtin; refine wpList_app1 rfl _ _ rfl w.heap.size _ out rfl HO.out _ s[k] rfl rfl (by omega) hsz ?_; intro v1 wx ho1 hb1)
        exact ⟨⟨k + 1, out ++ [s[k]], by omega, by omega, by go_num, ho1, by simp; omega, HQ.out, HB.out.trans hb1⟩, by simp [intOf]; omega⟩
    · obtain rfl : k = s.size := by omega
      have HQ := Lib.hid (show M.qt (s.data.toList.drop a) = none from by
        rw [hq, List.drop_of_length_le (by simp)]
        rfl)
      have HB := Lib.hid hb
      clear hq hb ho
      go_wp2_with fail
      refine bodyPost_ret (results_tmp2 rfl _ _ _) rfl ?_
      exact .inr ⟨HQ.out, rfl, HB.out⟩
def DblRel (s : ByteArray) (w : World) (v i : Value) (wr : World) : Prop :=
  ∃ k : Nat, k ≤ s.size ∧ i = .int .i64 (k : Int) ∧ Own wr w.heap.size v (39 :: M.dblQ (s.data.toList.take k)) ∧ Below w.heap.size w wr
theorem dblQ_snoc (l : List UInt8) (c : UInt8) : M.dblQ (l ++ [c]) = M.dblQ l ++ (if c = 39 then [39, 39] else [c]) := by simp [M.dblQ]
theorem Own.new1 (w : World) (u : UInt8) : Own (w.alloc (.cells #[.int .u8 (u.toNat : Int)] 5)) w.heap.size (.slice (some ⟨w.heap.size, 0, none⟩) 1 1) [u] := by
  refine ⟨rfl, .inr ⟨w.heap.size, 1, #[.int .u8 (u.toNat : Int)], rfl, Nat.le_refl _, ?_, Nat.le_refl _, by simp only [maxLen]; omega, rfl, ?_⟩⟩
  · rw [heap_alloc_new]
  · simp [bs, b8]
set_option maxRecDepth 100000 in
set_option maxHeartbeats 1000000 in
theorem rQuote_any (s : ByteArray) (w : World) (hs : s.size ≤ 65536) : Calls Tryd.prog 7 #[.string s] w fun e w' => e = .returned (.string ⟨(M.quoteL s.data.toList).toArray⟩) ∧ Below w.heap.size w w' := by
  have HN := Lib.hid (Own.new1 w 39)
  go_enter Tryd.func7, Tryd.ntmps7
  go_wp2_with fail
  go_loopw [3, 4] (fun v i wr => DblRel s w v i wr) (fun _ i _ => s.size - (intOf i).toNat)
  case atStart => exact ⟨0, Nat.zero_le _, rfl, HN.out, (Below.refl _ _).alloc (Nat.le_refl _) _⟩
  case round =>
    obtain ⟨k, hk, rfl, ho, hb⟩ := hrel
    have hsz := hb.size
    have hln := M.dblQ_le (s.data.toList.take k)
    rw [List.length_take] at hln
    have HLN := Lib.hid (show (39 :: M.dblQ (s.data.toList.take k)).length ≤ 140000 by simp only [List.length_cons]; omega)
    have HB := Lib.hid hb
    have HO := Lib.hid ho
    clear hln ho hb
    by_cases hlt : k < s.size
    · have HS := Lib.hid (show 39 :: M.dblQ (s.data.toList.take (k + 1)) = (39 :: M.dblQ (s.data.toList.take k)) ++ (if s[k] = 39 then [39, 39] else [s[k]]) from by
        rw [List.take_add_one, get_at s k hlt, Option.toList_some, dblQ_snoc]
        rfl)
      have hc := (s[k]).toNat_lt
      by_cases h39 : s[k].toNat = 39
      · have e39 : s[k] = 39 := u8eq (n := 39) h39 (by omega)
        rw [e39, if_pos rfl] at HS
        have hz : (s[k].toNat : Int) = 39 := by omega
        clear e39 h39
        go_upto_region 6 with (at_builtin; refine wpList_app1 rfl _ _ rfl w.heap.size _ _ rfl HO.out _ 39 (by rfl) rfl (by have := HLN.out; omega) hsz ?_; intro v1 wx ho1 hb1)
        have HO1 := Lib.hid ho1
        have HB1 := Lib.hid (HB.out.trans hb1)
        clear ho1 hb1
        go_wp2_with (at_builtin; refine wpList_app1 rfl _ _ rfl w.heap.size _ _ rfl HO1.out _ 39 rfl rfl (by have := HLN.out; simp only [List.length_append, List.length_singleton]; omega) HB1.out.size ?_; intro v2 wy ho2 hb2)
        exact ⟨⟨k + 1, hlt, by go_num, by rw [HS.out, show ([39, 39] : List UInt8) = [39] ++ [39] from rfl, ← List.append_assoc]; exact ho2, HB1.out.trans hb2⟩, by simp [intOf]; omega⟩
      · rw [if_neg (fun e => h39 (by rw [e]; rfl))] at HS
        have hz : ¬ (s[k].toNat : Int) = 39 := by omega
        clear h39
        go_wp2_with (at_builtin; refine wpList_app1 rfl _ _ rfl w.heap.size _ _ rfl HO.out _ s[k] rfl rfl (by have := HLN.out; omega) hsz ?_; intro v1 wx ho1 hb1)
        exact ⟨⟨k + 1, hlt, by go_num, by rw [HS.out]; exact ho1, HB.out.trans hb1⟩, by simp [intOf]; omega⟩
    · obtain rfl : k = s.size := by omega
      rw [show s.data.toList.take s.size = s.data.toList from List.take_of_length_le (by simp)] at HO HLN
      go_wp2_with (at_builtin; refine wpList_app1 rfl _ _ rfl w.heap.size _ _ rfl HO.out _ 39 rfl rfl (by have := HLN.out; omega) hsz ?_; intro v1 wx ho1 hb1; obtain ⟨A, c, rfl, hc1, hc2, hrd⟩ := ho1.form; have hst := rrun_str hrd c; simp only [List.length_append, List.length_cons, List.length_nil, Nat.zero_add] at hst; have HB1 := Lib.hid (HB.out.trans hb1); clear hrd ho1 hb1)
      go_ret
      exact ⟨rfl, HB1.out⟩
end Go.Proofs.YtceknmibopnmhaaDoor
