/-
  SorterRewinds returns true for any keys and any number: the walk. Conditions: sizes.
-/
import Derived.Test.YtifnhdnmohlfiaaQHelp
import Derived.Test.YtifnhdnmohlfiaaRBackS
namespace Go.Proofs.Ytifnhdnmohlfiaa
open Go.ChangeShapes Go.WideShapes Go.ChangeAt Go.RowKit
set_option linter.unusedVariables false

theorem mrg_none {α : Type} (lt : α → α → Bool) : ∀ (a b : List α), (∀ x ∈ a, ∀ y ∈ b, lt y x = false) → mrg lt a b = a ++ b
  | [], b, _ => by rw [mrg_nil_left]; rfl
  | x :: a, [], _ => by rw [mrg_nil_right, List.append_nil]
  | x :: a, y :: b, h => by
    rw [mrg_cons, if_neg (by rw [h x List.mem_cons_self y List.mem_cons_self]; decide), mrg_none lt a (y :: b) fun u hu v hv => h u (List.mem_cons_of_mem _ hu) v hv]
    rfl
theorem srt_none {α : Type} (lt : α → α → Bool) : ∀ (n : Nat) (l : List α), l.length ≤ n → (∀ x ∈ l, ∀ y ∈ l, lt y x = false) → srt lt l = l
  | n, l, hn, h => by
    by_cases h2 : l.length < 2
    · exact srt_short lt l h2
    · match n, hn with
      | 0, hn => omega
      | n + 1, hn =>
        rw [srt_long lt l h2, srt_none lt n _ (by rw [List.length_take]; omega) (fun x hx y hy => h x (List.mem_of_mem_take hx) y (List.mem_of_mem_take hy)),
          srt_none lt n _ (by rw [List.length_drop]; omega) (fun x hx y hy => h x (List.mem_of_mem_drop hx) y (List.mem_of_mem_drop hy)),
          mrg_none lt _ _ (fun x hx y hy => h x (List.mem_of_mem_take hx) y (List.mem_of_mem_drop hy)), List.take_append_drop]
def prow (p : Pr) : List Trip := [p.1, p.2]
def pkr (p : Pr) : KR := ([], putL (prow p))
theorem left_none (ps : List Pr) : (left false (ps.map pkr)).map Prod.snd = ps.map fun p => putL (prow p) := by
  rw [left, if_neg (by decide), srt_none ltK _ _ (Nat.le_refl _) (fun x hx y hy => by
    obtain ⟨p, _, rfl⟩ := List.mem_map.1 hx
    obtain ⟨q, _, rfl⟩ := List.mem_map.1 hy
    exact lt_none _ _), List.map_map]
  rfl
theorem okPs_get {ps : List Pr} (h : okPs ps = true) : ps.length ≤ 120 ∧ ∀ p ∈ ps, okT p.1 = true ∧ okT p.2 = true := by
  obtain ⟨h1, h2⟩ := Bool.and_eq_true_iff.1 h
  refine ⟨of_decide_eq_true h1, fun p hp => ?_⟩
  have := List.all_eq_true.1 h2 p hp
  exact Bool.and_eq_true_iff.1 this
theorem good_okT {t : Trip} (h : okT t = true) (hn : In64 t.2.1) : Rt t.1 t.2.1 t.2.2 ∧ t.2.2.size ≤ 100 ∧ In64 t.2.1 := by
  obtain ⟨h1, h2⟩ := Bool.and_eq_true_iff.1 h
  exact ⟨of_decide_eq_true h1, of_decide_eq_true h2, hn⟩
/-- the pairs are right -/
def GoodP (ps : List Pr) : Prop := ps.length ≤ 120 ∧ ∀ p ∈ ps, GoodR (prow p)
theorem GoodP.of {ps : List Pr} (h : okPs ps = true) (hn : ∀ p ∈ ps, In64 p.1.2.1 ∧ In64 p.2.2.1) : GoodP ps := by
  obtain ⟨h1, h2⟩ := okPs_get h
  refine ⟨h1, fun p hp t ht => ?_⟩
  obtain ⟨a, b⟩ := h2 p hp
  obtain ⟨c, d⟩ := hn p hp
  simp only [prow, List.mem_cons, List.mem_nil_iff, or_false] at ht
  rcases ht with rfl | rfl
  · exact good_okT a c
  · exact good_okT b d
def RewRel1 (w : World) (s : Nat) (ps : List Pr) (v : Value) (wr : World) : Prop :=
  ∃ (j : Nat) (va : Value), j ≤ ps.length ∧ v = .int .i64 (j : Int) ∧ SorU wr w.heap.size s va [] false ((ps.take j).map pkr) ∧ Below w.heap.size w wr
def RewRel2 (w : World) (s : Nat) (ps : List Pr) (a : Nat) (v : Value) (wr : World) : Prop :=
  ∃ j k : Nat, j ≤ a ∧ v = .int .i64 (j : Int) ∧ k ≤ ps.length ∧ SorS wr w.heap.size s (ps.map fun p => putL (prow p)) k ∧ Below w.heap.size w wr
def RewRel3 (w : World) (s : Nat) (ps : List Pr) (v : Value) (wr : World) : Prop :=
  ∃ j : Nat, j ≤ ps.length ∧ v = .int .i64 (j : Int) ∧ SorS wr w.heap.size s (ps.map fun p => putL (prow p)) j ∧ Below w.heap.size w wr
def RewRel4 (w : World) (s : Nat) (ps : List Pr) (v : Value) (wr : World) : Prop :=
  ∃ j : Nat, j ≤ 3 ∧ v = .int .i64 (j : Int) ∧ SorS wr w.heap.size s (ps.map fun p => putL (prow p)) ps.length ∧ Below w.heap.size w wr
/-- Next, wherever its place is -/
theorem Next_two {w : World} {lo s : Nat} {ps : List Pr} {k : Nat} (h : SorS w lo s (ps.map fun p => putL (prow p)) k) (hg : GoodP ps) (hk : k ≤ ps.length) :
    Calls Try.prog 18 #[.pointer (some ⟨s, 0, none⟩)] w fun e w' => ∃ v b k', e = .returned (.tuple #[v, .bool b]) ∧ k' ≤ ps.length ∧ SorS w' lo s (ps.map fun p => putL (prow p)) k' ∧ But (fun k => k = s) w w' := by
  have hl := hg.1
  by_cases hlt : k < ps.length
  · obtain ⟨p, hp⟩ : ∃ p, ps[k]? = some p := ⟨ps[k], List.getElem?_eq_getElem hlt⟩
    refine (Next_s h (putL (prow p)) (by rw [List.getElem?_map, hp]; rfl) (prow p) (getN_good _ (by show 2 ≤ 150; omega) (hg.2 p (List.mem_of_getElem? hp))) (by rw [List.length_map]; omega)).mono ?_
    rintro e w' ⟨v, rfl, _, hs, hb⟩
    exact ⟨v, true, k + 1, rfl, by omega, hs, hb⟩
  · refine (Next_s_end h (by rw [List.length_map]; omega) (by omega)).mono ?_
    rintro e w' ⟨rfl, hs, hb⟩
    exact ⟨_, false, k, rfl, hk, hs, But.of_below hb⟩
theorem SorS.keep {w w' : World} {lo s : Nat} {B : List (List UInt8)} {k : Nat} {a : World} (h : SorS w lo s B k) (hb : But (fun k => k = s) w w') (ha : Below lo a w) (hlo : lo ≤ w.heap.size) : Below lo a w' :=
  ha.trans (hb.below hlo fun i hi => by rw [hi]; exact h.lo.1)
set_option maxRecDepth 100000 in
set_option maxHeartbeats 4000000 in
theorem rew_go (A : Option Addr) (c : Nat) (ps : List Pr) (a : Nat) (w : World) (hR : RdR w w.heap.size A (flat ps)) (hz : ∀ p ∈ ps, p.1.2.2.size ≤ 9223372036854775807 ∧ p.2.2.2.size ≤ 9223372036854775807) (hl : ps.length ≤ 9223372036854775807) (hok : okPs ps = true) (hg : GoodP ps) (ha : a ≤ 255) :
    Calls Try.prog 9 #[.slice A ps.length c, .int .u8 (a : Int)] w fun e w' => e = .returned (.bool true) ∧ Below w.heap.size w w' := by
  have HR := Lib.hid hR
  have HG := Lib.hid hg
  have HOK := Lib.hid hok
  obtain ⟨n, hn⟩ : ∃ n, ps.length = n := ⟨_, rfl⟩
  have hrt := right7_any A n c ps w hn.symm hR hz hl
  have HRT := Lib.hid hrt
  have hn2 : n ≤ 120 := by rw [← hn]; exact hg.1
  have HN := Lib.hid hn
  rw [hn]
  clear hR hz hl hok hg hn hrt
  go_enter Try.func9, Try.ntmps9
  go_wp2_with fail
  refine HRT.out.mono ?_
  rintro e w1 ⟨rfl, hb1⟩
  rw [HOK.out]
  have HB1 := Lib.hid hb1
  clear hb1
  go_wp2_with fail
  refine (New_u none 0 0 [] false _ rfl (fun h => absurd h (by simp)) (by simp) (fun _ => ⟨rfl, rfl⟩)).mono ?_
  rintro e w2 ⟨s, rfl, hs, hb⟩
  have HS := Lib.hid (hs.mono HB1.out.size)
  have HB := Lib.hid (HB1.out.trans (hb.mono HB1.out.size))
  clear hs hb
  go_wp2_with fail
  go_loopw [27] (fun v wr => RewRel1 w s ps v wr) (fun v _ => n - (intOf v).toNat)
  case atStart => exact ⟨0, _, Nat.zero_le _, rfl, HS.out, HB.out⟩
  case round =>
    obtain ⟨j, va, hj, rfl, hs, hb⟩ := hrel
    have hnl := HN.out
    by_cases hlt : j < n
    · obtain ⟨p, hp⟩ : ∃ p, ps[j]? = some p := ⟨ps[j]'(by omega), List.getElem?_eq_getElem _⟩
      have hR2 := (HR.out.below hb)
      obtain ⟨ad, rfl, hal, _⟩ := hR2 (by rw [flat_length]; omega)
      have HRP := Lib.hid (show RdR wr wr.heap.size (some (ad.add (j * 6))) (prow p) from by
        have h1 := pair_rd hR2 j p hp
        intro hp
        obtain ⟨x, e, hx, hc⟩ := h1 hp
        exact ⟨x, e, Nat.lt_of_lt_of_le hx hb.size, hc⟩)
      have q1 : (j : Int) < (n : Int) := by omega
      have q2 : (0 : Int) ≤ (j : Int) := by omega
      have HS2 := Lib.hid hs
      have HB2 := Lib.hid hb
      have HP := Lib.hid hp
      have HGP := Lib.hid (HG.out.2 p (List.mem_of_getElem? hp))
      have HLL := Lib.hid (show ((ps.take j).map pkr).length < 65536 by rw [List.length_map, List.length_take]; omega)
      clear hs hb hp hnl hR2 hal
      go_wp2_with fail
      refine (Add_u HS2.out HB2.out.size none 0 [] _ _ (prow p) (fun h => absurd h (by simp)) HRP.out keyOk_nil (rowOk_good _ (by show 2 ≤ 150; omega) HGP.out) rfl HLL.out 0 2 rfl rfl).mono ?_
      rintro e w3 ⟨rfl, va', hs3, hv, hb3⟩
      have HS3 := Lib.hid hs3
      have HB3 := Lib.hid (HB2.out.trans (hb3.below HB2.out.size fun i hi => (HS2.out.lo i hi).1))
      clear hs3 hv hb3
      go_wp2_with fail
      refine ⟨⟨j + 1, va', by have := HN.out; omega, by go_num, ?_, HB3.out⟩, by simp [intOf]; omega⟩
      rw [List.take_add_one, HP.out, List.map_append]
      exact HS3.out
    · obtain rfl : j = n := by omega
      have HS2 := Lib.hid (show SorU wr w.heap.size s va [] false (ps.map pkr) from by rw [List.take_of_length_le (by omega)] at hs; exact hs)
      have HB2 := Lib.hid hb
      have HLL := Lib.hid (show (ps.map pkr).length ≤ 65536 by rw [List.length_map]; omega)
      clear hs hb hnl
      go_wp2_with fail
      refine (Sort_u HS2.out HB2.out.size HLL.out).mono ?_
      rintro e w3 ⟨rfl, hs3, hb3⟩
      rw [left_none] at hs3
      have HS3 := Lib.hid hs3
      have HB3 := Lib.hid (HB2.out.trans (hb3.below HB2.out.size fun i hi => by rw [hi]; exact (HS2.out.lo _ (.inl rfl)).1))
      clear hs3 hb3
      go_wp2_with fail
      go_loopw [8] (fun v wr => RewRel2 w s ps a v wr) (fun v _ => a - (intOf v).toNat)
      case atStart => exact ⟨0, 0, Nat.zero_le _, rfl, Nat.zero_le _, HS3.out, HB3.out⟩
      case round =>
        obtain ⟨i, k, hi, rfl, hk, hs, hb⟩ := hrel
        by_cases hlt2 : i < a
        · have q1 : (i : Int) < (a : Int) := by omega
          have HS4 := Lib.hid hs
          have HB4 := Lib.hid hb
          have HK := Lib.hid hk
          clear hs hb hk
          go_wp2_with fail
          refine (Next_two HS4.out HG.out HK.out).mono ?_
          rintro e w4 ⟨v, b, k', rfl, hk', hs4, hb4⟩
          have HS5 := Lib.hid hs4
          have HB5 := Lib.hid (HS4.out.keep hb4 HB4.out HB4.out.size)
          clear hs4 hb4
          go_wp2_with fail
          exact ⟨⟨i + 1, k', by omega, by go_num, hk', HS5.out, HB5.out⟩, by simp [intOf]; omega⟩
        · have q1 : ¬ (i : Int) < (a : Int) := by omega
          have HS4 := Lib.hid hs
          have HB4 := Lib.hid hb
          clear hs hb hk
          go_wp2_with fail
          refine (Rewind_s HS4.out).mono ?_
          rintro e w5 ⟨rfl, hs5, hb5⟩
          have HS5 := Lib.hid hs5
          have HB5 := Lib.hid (HS4.out.keep hb5 HB4.out HB4.out.size)
          clear hs5 hb5
          go_wp2_with fail
          go_loopw [53] (fun v wr => RewRel3 w s ps v wr) (fun v _ => j - (intOf v).toNat)
          case atStart => exact ⟨0, Nat.zero_le _, rfl, HS5.out, HB5.out⟩
          case round =>
            obtain ⟨q, hq, rfl, hs, hb⟩ := hrel
            have hnl := HN.out
            by_cases hlt3 : q < j
            · obtain ⟨p, hp⟩ : ∃ p, ps[q]? = some p := ⟨ps[q]'(by omega), List.getElem?_eq_getElem _⟩
              obtain ⟨ad, rfl, _, _⟩ := HR.out (by rw [flat_length]; omega)
              have q2 : (q : Int) < (j : Int) := by omega
              have q3 : (0 : Int) ≤ (q : Int) := by omega
              have HS6 := Lib.hid hs
              have HB6 := Lib.hid hb
              have HP := Lib.hid hp
              have HGP := Lib.hid (HG.out.2 p (List.mem_of_getElem? hp))
              clear hs hb hp hnl
              go_wp2_with fail
              refine (Next_s HS6.out (putL (prow p)) (by rw [List.getElem?_map, HP.out]; rfl) (prow p) (getN_good _ (by show 2 ≤ 150; omega) HGP.out) (by rw [List.length_map]; have := HN.out; omega)).mono ?_
              rintro e w6 ⟨v, rfl, hov, hs6, hb6⟩
              obtain ⟨A6, c6, rfl, _, _, hr6⟩ := hov.form
              have HS7 := Lib.hid hs6
              have HB7 := Lib.hid (HS6.out.keep hb6 HB6.out HB6.out.size)
              have HR6 := Lib.hid hr6
              have HRP := Lib.hid (show RdR w6 w6.heap.size (some (ad.add (q * 6))) (prow p) from by
                have h1 := pair_rd (HR.out.below HB7.out) q p HP.out
                intro hp
                obtain ⟨x, e, hx, hc⟩ := h1 hp
                exact ⟨x, e, Nat.lt_of_lt_of_le hx HB7.out.size, hc⟩)
              clear hov hs6 hb6 hr6
              go_wp2_with fail
              refine (SameValues_any A6 _ _ (prow p) _ _ _ (prow p) _ HR6.out HRP.out rfl rfl (by show 2 ≤ 1000000; omega) true (decide_eq_true rfl)).mono ?_
              rintro e w7 ⟨rfl, hb8⟩
              have HS8 := Lib.hid (HS7.out.on hb8)
              have HB8 := Lib.hid (HB7.out.trans (hb8.mono HB7.out.size))
              clear hb8
              go_wp2_with fail
              exact ⟨⟨q + 1, by have := HN.out; omega, by go_num, HS8.out, HB8.out⟩, by simp [intOf]; omega⟩
            · have q2 : ¬ (q : Int) < (j : Int) := by omega
              have hqj : q = ps.length := by omega
              have HS6 := Lib.hid (show SorS wr w.heap.size s (ps.map fun p => putL (prow p)) ps.length from by rw [← hqj]; exact hs)
              have HB6 := Lib.hid hb
              clear hs hb hqj hnl
              go_wp2_with fail
              go_loopw [12] (fun v wr => RewRel4 w s ps v wr) (fun v _ => 3 - (intOf v).toNat)
              case atStart => exact ⟨0, by omega, rfl, HS6.out, HB6.out⟩
              case round =>
                obtain ⟨z, hz, rfl, hs, hb⟩ := hrel
                by_cases hlt4 : z < 3
                · have q4 : (z : Int) < 3 := by omega
                  have HS7 := Lib.hid hs
                  have HB7 := Lib.hid hb
                  clear hs hb
                  go_wp2_with fail
                  refine (Next_s_end HS7.out (by rw [List.length_map]; exact Nat.le_refl _) (by have := HN.out; omega)).mono ?_
                  rintro e w8 ⟨rfl, hs8, hb8⟩
                  have HS8 := Lib.hid hs8
                  have HB8 := Lib.hid (HB7.out.trans (hb8.mono HB7.out.size))
                  clear hs8 hb8
                  go_wp2_with fail
                  exact ⟨⟨z + 1, by omega, by go_num, HS8.out, HB8.out⟩, by simp [intOf]; omega⟩
                · obtain rfl : z = 3 := by omega
                  have HS7 := Lib.hid hs
                  have HB7 := Lib.hid hb
                  clear hs hb
                  go_wp2_with fail
                  refine (Len_s HS7.out (by rw [List.length_map]; have := HN.out; omega)).mono ?_
                  rintro e w8 ⟨rfl, hb8⟩
                  rw [List.length_map, HN.out]
                  have HB8 := Lib.hid (HB7.out.trans (hb8.mono HB7.out.size))
                  clear hb8
                  go_wp2_with fail
                  refine (awk7_any _).mono ?_
                  rintro e w9 ⟨rfl, hb9⟩
                  go_wp2_with fail
                  go_ret
                  exact ⟨rfl, HB8.out.trans (hb9.mono HB8.out.size)⟩
set_option maxRecDepth 100000 in
theorem rew_no (A : Option Addr) (c : Nat) (ps : List Pr) (a : Int) (w : World) (hR : RdR w w.heap.size A (flat ps)) (hz : ∀ p ∈ ps, p.1.2.2.size ≤ 9223372036854775807 ∧ p.2.2.2.size ≤ 9223372036854775807) (hl : ps.length ≤ 9223372036854775807) (hok : okPs ps = false) :
    Calls Try.prog 9 #[.slice A ps.length c, .int .u8 a] w fun e w' => e = .returned (.bool true) ∧ Below w.heap.size w w' := by
  have HRT := Lib.hid (right7_any A ps.length c ps w rfl hR hz hl)
  have HOK := Lib.hid hok
  clear hR hz hl hok
  go_enter Try.func9, Try.ntmps9
  go_wp2_with fail
  refine HRT.out.mono ?_
  rintro e w1 ⟨rfl, hb1⟩
  rw [HOK.out]
  have HB1 := Lib.hid hb1
  clear hb1
  go_wp2_with fail
  refine (awk7_any _).mono ?_
  rintro e w9 ⟨rfl, hb9⟩
  go_wp2_with fail
  go_ret
  exact ⟨rfl, HB1.out.trans (hb9.mono HB1.out.size)⟩
theorem rew_walk (A : Option Addr) (c : Nat) (ps : List Pr) (a : Int) (w : World) (hR : RdR w w.heap.size A (flat ps)) (hs : ∀ p ∈ ps, (In64 p.1.2.1 ∧ p.1.2.2.size ≤ maxLen) ∧ In64 p.2.2.1 ∧ p.2.2.2.size ≤ maxLen) (hc : ps.length ≤ c) (hm : c ≤ maxLen) (ha : 0 ≤ a ∧ a ≤ 255) :
    Calls Try.prog 9 #[.slice A ps.length c, .int .u8 a] w fun e w' => e = .returned (.bool true) ∧ Below w.heap.size w w' := by
  have hz : ∀ p ∈ ps, p.1.2.2.size ≤ 9223372036854775807 ∧ p.2.2.2.size ≤ 9223372036854775807 := fun p hp => by
    obtain ⟨⟨_, h1⟩, _, h2⟩ := hs p hp
    unfold maxLen at h1 h2
    omega
  have hl : ps.length ≤ 9223372036854775807 := by unfold maxLen at hm; omega
  cases hok : okPs ps with
  | false => exact rew_no A c ps a w hR hz hl hok
  | true =>
    obtain ⟨n, rfl⟩ : ∃ n : Nat, a = n := ⟨a.toNat, by omega⟩
    exact rew_go A c ps n w hR hz hl hok (GoodP.of hok fun p hp => ⟨(hs p hp).1.1, (hs p hp).2.1⟩) (by omega)
end Go.Proofs.Ytifnhdnmohlfiaa
