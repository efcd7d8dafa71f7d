/-
  Layer 9: great letters outside of quotes: turned. Conditions: sizes.
-/
import Derived.Test.YtfoepciempoakaaDoorWLoc
namespace Go.Proofs.YtfoepciempoakaaDoor
open Go.ChangeShapes Go.WideShapes Go.ChangeAt Go.RowKit
set_option linter.unusedVariables false

namespace M
def lower (c : UInt8) : Bool := decide (97 ≤ c.toNat) && decide (c.toNat ≤ 122)
def upTo (c : UInt8) : UInt8 := c - 32
theorem upTo_n {c : UInt8} (h : 97 ≤ c.toNat) : (upTo c).toNat = c.toNat - 32 := by
  have hc := c.toNat_lt
  have h32 : (32 : UInt8).toNat = 32 := rfl
  unfold upTo
  rw [UInt8.toNat_sub, h32]
  omega
/-- within quotes, behind so many bytes -/
def stq (q : Bool) (l : List UInt8) : Bool := l.foldl (fun q c => q != (c == 39)) q
/-- what a text is turned into, where the flags say so -/
def trn : Bool → List UInt8 → (Nat → Bool) → List UInt8
  | _, [], _ => []
  | q, c :: r, f => (if (!(q != (c == 39)) && lower c && f 0) = true then upTo c else c) :: trn (q != (c == 39)) r (fun i => f (i + 1))
theorem trn_length : ∀ (l : List UInt8) (q : Bool) (f : Nat → Bool), (trn q l f).length = l.length
  | [], _, _ => rfl
  | c :: r, q, f => by simp [trn, trn_length r]
theorem trn_get : ∀ (l : List UInt8) (q : Bool) (f : Nat → Bool) (k : Nat) (c : UInt8), l[k]? = some c → (trn q l f)[k]? = some (if (!(stq q (l.take (k + 1))) && lower c && f k) = true then upTo c else c)
  | [], _, _, k, c, h => by simp at h
  | d :: r, q, f, 0, c, h => by
    obtain rfl : d = c := by simpa using h
    simp [trn, stq]
  | d :: r, q, f, k + 1, c, h => by
    have h' : r[k]? = some c := by simpa using h
    have := trn_get r (q != (d == 39)) (fun i => f (i + 1)) k c h'
    simp only [trn, List.getElem?_cons_succ, this]
    rfl
theorem trn_sim : ∀ (l : List UInt8) (q : Bool) (f : Nat → Bool), Sim q l (trn q l f)
  | [], q, f => .nil q
  | c :: r, q, f => by
    by_cases hc : c = 39
    · subst hc
      have h := trn_sim r (!q) (fun i => f (i + 1))
      have e : (q != ((39 : UInt8) == 39)) = !q := by cases q <;> rfl
      simp only [trn, e]
      rw [if_neg (by simp [lower])]
      exact .quote q _ _ h
    · have h := trn_sim r q (fun i => f (i + 1))
      have hc' : (c == 39) = false := beq_eq_false_iff_ne.2 hc
      have e : (q != (c == 39)) = q := by rw [hc']; cases q <;> rfl
      simp only [trn, e]
      cases q with
      | true =>
        rw [if_neg (by simp)]
        exact .within c _ _ hc h
      | false =>
        by_cases hx : (!false && lower c && f 0) = true
        · rw [if_pos hx]
          simp only [lower, Bool.not_false, Bool.true_and, Bool.and_eq_true, decide_eq_true_eq] at hx
          exact .out c _ _ _ hc (.inr ⟨hx.1.1, hx.1.2, upTo_n hx.1.1⟩) h
        · rw [if_neg hx]
          exact .out c c _ _ hc (.inl rfl) h
theorem stq_snoc (q : Bool) (l : List UInt8) (k : Nat) (c : UInt8) (h : l[k]? = some c) : stq q (l.take (k + 1)) = (stq q (l.take k) != (c == 39)) := by
  unfold stq
  rw [List.take_add_one, h, Option.toList_some, List.foldl_append]
  rfl
end M
def RdF (w : World) (B : Nat) (A : Option Addr) (l : List Bool) : Prop := 0 < l.length → ∃ ad, A = some ad ∧ ad.block < B ∧ ∀ j d, l[j]? = some d → w.cell? (ad.add j) = some (.bool d)
theorem blockAdd (a : Addr) (n : Nat) : (a.add n).block = a.block := by
  unfold Addr.add
  split <;> rfl
theorem RdF.on {w w' : World} {A : Option Addr} {l : List Bool} (h : RdF w w.heap.size A l) (hb : Below w.heap.size w w') : RdF w' w'.heap.size A l := by
  intro hp
  obtain ⟨ad, e, hB, hc⟩ := h hp
  exact ⟨ad, e, Nat.lt_of_lt_of_le hB hb.size, fun j u hu => (hb.cell (p := ad.add j) (by rw [blockAdd]; exact hB)).trans (hc j u hu)⟩
/-- bytes in memory of the call's own, k of them turned -/
def MidRel (x : ByteArray) (T : List UInt8) (g : Nat) (w0 : World) (k : Nat) (wr : World) : Prop :=
  Below w0.heap.size w0 wr ∧ g < wr.heap.size ∧ ∀ j, j < x.size → wr.cell? ⟨g, j, none⟩ = some (.int .u8 ((if j < k then T.getD j 0 else x.data.toList.getD j 0).toNat : Int)) ∧ wr.frozen? ⟨g, j, none⟩ = false
theorem MidRel.begin (x : ByteArray) (T : List UInt8) (w : World) : MidRel x T w.heap.size w 0 (Lib.bytesWorld w 5 x) := by
  refine ⟨Lib.bytesWorld_below _ _ _, by rw [Lib.bytesWorld_size]; omega, fun j hj => ⟨?_, bytesWorld_frozen _ _ _ _ hj⟩⟩
  rw [Lib.bytesWorld_cell _ _ _ _ hj]
  simp
theorem MidRel.same {x : ByteArray} {T : List UInt8} {g : Nat} {w0 wr : World} {k : Nat} (h : MidRel x T g w0 k wr) (he : T.getD k 0 = x.data.toList.getD k 0) : MidRel x T g w0 (k + 1) wr := by
  refine ⟨h.1, h.2.1, fun j hj => ⟨?_, (h.2.2 j hj).2⟩⟩
  rw [(h.2.2 j hj).1]
  congr 4
  by_cases h1 : j < k
  · rw [if_pos h1, if_pos (by omega)]
  · by_cases h2 : j = k
    · subst h2
      rw [if_neg h1, if_pos (by omega), he]
    · rw [if_neg h1, if_neg (by omega)]
theorem MidRel.set {x : ByteArray} {T : List UInt8} {g : Nat} {w0 wr : World} {k : Nat} (h : MidRel x T g w0 k wr) (hk : k < x.size) (hg : w0.heap.size ≤ g) (z : Int) (hz : z = ((T.getD k 0).toNat : Int)) : MidRel x T g w0 (k + 1) (wr.setCell ⟨g, k, none⟩ (.int .u8 z)) := by
  subst hz
  refine ⟨h.1.setCell (by simpa using hg) _, by simpa using h.2.1, fun j hj => ⟨?_, by rw [World.frozen?_setCell]; exact (h.2.2 j hj).2⟩⟩
  by_cases e : k = j
  · subst e
    rw [World.cell?_setCell_same (h := (h.2.2 k hk).1)]
    simp
  · rw [World.cell?_setCell_other (h := by simp), (h.2.2 j hj).1]
    have : (j < k + 1) = (j < k) := by simp; omega
    simp only [this]
theorem MidRel.done {x : ByteArray} {T : List UInt8} {g : Nat} {w0 wr : World} (h : MidRel x T g w0 x.size wr) (hT : T.length = x.size) (c : Nat) :
    (convert 45 9 (.slice (some ⟨g, 0, none⟩) x.size c)).run Tryd.prog wr = .ok (.string ⟨T.toArray⟩) wr := by
  have := run_bytes T c h.2.1 (fun j hj => by
    rw [hT] at hj
    rw [(h.2.2 j hj).1, if_pos hj])
  rw [hT] at this
  exact this
def TrnRel (x : ByteArray) (T : List UInt8) (g : Nat) (w0 : World) (v6 t : Value) (wr : World) : Prop :=
  ∃ k : Nat, k ≤ x.size ∧ t = .int .i64 (k : Int) ∧ v6 = .bool (M.stq false (x.data.toList.take k)) ∧ MidRel x T g w0 k wr
set_option maxRecDepth 100000 in
set_option maxHeartbeats 4000000 in
theorem turned_any (x : ByteArray) (A : Option Addr) (F : List Bool) (cap : Nat) (w : World) (hx : x.size ≤ 500) (hF : RdF w w.heap.size A F) (hFl : F.length ≤ 9223372036854775807) :
    Calls Tryd.prog 15 #[.string x, .slice A F.length cap] w fun e w' => e = .returned (.string ⟨(M.trn false x.data.toList (F.getD · false)).toArray⟩) ∧ Below w.heap.size w w' := by
  obtain ⟨T, HT⟩ : ∃ T, Hid (M.trn false x.data.toList (F.getD · false) = T) := ⟨_, Lib.hid rfl⟩
  have HTL := Lib.hid (show T.length = x.size by rw [← HT.out, M.trn_length]; simp)
  have HV := Lib.hid (fun (X : World) => Lib.run_convert_string_bytes (P := Tryd.prog) X 9 45 5 x Tryd.underlying9 Tryd.underlying45 Tryd.underlying5)
  have hcv := HV.out w
  have HBG := Lib.hid (MidRel.begin x T w)
  have HFF := Lib.hid hF
  have HFL := Lib.hid hFl
  rw [HT.out]
  clear hF
  go_enter Tryd.func15, Tryd.ntmps15
  go_wp2_with fail
  go_loopw [6, 7, 12] (fun v6 _ t wr => TrnRel x T w.heap.size w v6 t wr) (fun _ _ t _ => x.size - (intOf t).toNat)
  case atStart => exact ⟨0, Nat.zero_le _, rfl, rfl, HBG.out⟩
  case round =>
    obtain ⟨k, hk, rfl, rfl, hm⟩ := hrel
    by_cases hlt : k < x.size
    · have hcell := (hm.2.2 k hlt).1
      have hfrz := (hm.2.2 k hlt).2
      rw [if_neg (by omega)] at hcell
      have hget : x.data.toList.getD k 0 = x[k] := by rw [List.getD, get_at x k hlt]; rfl
      rw [hget] at hcell
      have HTK := Lib.hid (show T.getD k 0 = if (!(M.stq false (x.data.toList.take (k + 1))) && M.lower x[k] && F.getD k false) = true then M.upTo x[k] else x[k] by
        rw [← HT.out, List.getD, M.trn_get _ _ _ _ _ (get_at x k hlt)]
        rfl)
      have HST := Lib.hid (M.stq_snoc false x.data.toList k x[k] (get_at x k hlt))
      have HGET := Lib.hid hget
      have HM := Lib.hid hm
      have hFR := (HFF.out).on hm.1
      have HFR := Lib.hid hFR
      have hlo : M.lower x[k] = (decide (97 ≤ (x[k]).toNat) && decide ((x[k]).toNat ≤ 122)) := rfl
      have hup : 97 ≤ (x[k]).toNat → (M.upTo x[k]).toNat = (x[k]).toNat - 32 := M.upTo_n
      have h39 : (x[k] == 39) = decide ((x[k]).toNat = 39) := by rw [Bool.eq_iff_iff]; simp [← UInt8.toNat_inj]
      have hc := (x[k]).toNat_lt
      have HLO := Lib.hid hlo
      have HUP := Lib.hid hup
      have H39 := Lib.hid h39
      clear hget hm hFR hlo hup h39
      obtain ⟨n, hn⟩ : ∃ n, (x[k]).toNat = n := ⟨_, rfl⟩
      obtain ⟨q, hq⟩ : ∃ q, M.stq false (x.data.toList.take k) = q := ⟨_, rfl⟩
      obtain ⟨q2, hq2⟩ : ∃ q2, M.stq false (x.data.toList.take (k + 1)) = q2 := ⟨_, rfl⟩
      rw [hn] at hcell HLO HUP H39 hc
      rw [hq, hq2, H39.out] at HST
      rw [hq2, HLO.out] at HTK
      -- the byte stays as it is
      have HSAME : Hid ((!q2 && (decide (97 ≤ n) && decide (n ≤ 122)) && F.getD k false) = false → TrnRel x T w.heap.size w (.bool q2) (.int .i64 ((k + 1 : Nat) : Int)) wr) := Lib.hid fun h => by
        refine ⟨k + 1, hlt, rfl, by rw [hq2], HM.out.same ?_⟩
        rw [HTK.out, h, HGET.out]
        rfl
      have HSET : Hid ((!q2 && (decide (97 ≤ n) && decide (n ≤ 122)) && F.getD k false) = true → TrnRel x T w.heap.size w (.bool q2) (.int .i64 ((k + 1 : Nat) : Int)) (wr.setCell ⟨w.heap.size, k, none⟩ (.int .u8 ((n : Int) - 32)))) := Lib.hid fun h => by
        refine ⟨k + 1, hlt, rfl, by rw [hq2], HM.out.set hlt (Nat.le_refl _) _ ?_⟩
        rw [HTK.out, h, if_pos rfl]
        have h97 : 97 ≤ n := by
          simp only [Bool.and_eq_true, decide_eq_true_eq] at h
          exact h.1.2.1
        rw [HUP.out h97]
        omega
      rw [hq]
      clear HTK HLO HUP H39 HGET hq hq2 hn hcv
      by_cases h39 : n = 39
      · subst h39
        cases q
        · obtain rfl : q2 = true := HST.out
          have HS := Lib.hid (HSAME.out rfl)
          clear HSAME HSET HST
          go_wp2_with fail
          go_roundw
          case rel => exact HS.out
          case measure => simp [intOf]; omega
        · obtain rfl : q2 = false := HST.out
          have HS := Lib.hid (HSAME.out rfl)
          clear HSAME HSET HST
          go_wp2_with fail
          go_roundw
          case rel => exact HS.out
          case measure => simp [intOf]; omega
      · have h39' : ((n : Int) == 39) = false := beq_eq_false_iff_ne.2 (by omega)
        have hq3 : q2 = q := by rw [HST.out, decide_eq_false h39]; cases q <;> rfl
        subst hq3
        clear h39 HST
        cases q2
        · by_cases h97 : 97 ≤ n
          · by_cases h122 : n ≤ 122
            · by_cases hkl : k < F.length
              · obtain ⟨ad, rfl, _, hcF⟩ := HFR.out (by omega)
                have hF0 := hcF k _ (List.getElem?_eq_getElem hkl)
                have HG := Lib.hid (show F.getD k false = F[k] by rw [List.getD, List.getElem?_eq_getElem hkl]; rfl)
                rw [HG.out] at HSAME HSET
                clear hcF
                generalize F[k] = fl at *
                have hkl2 : (k : Int) < (F.length : Int) := by omega
                cases fl
                · have HS := Lib.hid (HSAME.out (by simp))
                  clear HSAME HSET
                  go_wp2_with fail
                  go_roundw
                  case rel => exact HS.out
                  case measure => simp [intOf]; omega
                · have HS := Lib.hid (HSET.out (by simp [h97, h122]))
                  clear HSAME HSET
                  go_wp2_with fail
                  go_roundw
                  case rel => exact HS.out
                  case measure => simp [intOf]; omega
              · have HS := Lib.hid (HSAME.out (by rw [List.getD, List.getElem?_eq_none (by omega)]; simp))
                have hkl2 : decide ((k : Int) < (F.length : Int)) = false := decide_eq_false (by omega)
                have hkl3 : ¬ k < F.length := hkl
                clear HSAME HSET
                go_wp2_with fail
                go_roundw
                case rel => exact HS.out
                case measure => simp [intOf]; omega
            · have HS := Lib.hid (HSAME.out (by rw [decide_eq_false h122]; simp))
              clear HSAME HSET
              go_wp2_with fail
              go_roundw
              case rel => exact HS.out
              case measure => simp [intOf]; omega
          · have HS := Lib.hid (HSAME.out (by rw [decide_eq_false h97]; simp))
            clear HSAME HSET
            go_wp2_with fail
            go_roundw
            case rel => exact HS.out
            case measure => simp [intOf]; omega
        · have HS := Lib.hid (HSAME.out (by simp))
          clear HSAME HSET
          go_wp2_with fail
          go_roundw
          case rel => exact HS.out
          case measure => simp [intOf]; omega
    · obtain rfl : k = x.size := by omega
      have hst := hm.done HTL.out (grownCap w x.size 0 5)
      have HB := Lib.hid hm.1
      clear hm hcv
      go_wp2_with fail
      go_ret
      exact ⟨rfl, HB.out⟩
end Go.Proofs.YtfoepciempoakaaDoor
