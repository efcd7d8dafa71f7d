/-
  Layer 9: the document's own answer: one token: signs. Conditions: sizes.
-/
import Derived.Test.YtceknmibopnmhaaDoorWRefG
namespace Go.Proofs.YtceknmibopnmhaaDoor
open Go.ChangeShapes Go.WideShapes Go.ChangeAt Go.RowKit
set_option linter.unusedVariables false

theorem find_at {α : Type} (p : α → Bool) : ∀ (L : List α) (i : Nat) (a : α), (∀ x ∈ L.take i, p x = false) → L[i]? = some a → p a = true → L.find? p = some a
  | [], i, a, _, h, _ => by simp at h
  | b :: L, 0, a, _, h, hp => by
    obtain rfl : b = a := by simpa using h
    rw [List.find?_cons_of_pos hp]
  | b :: L, i + 1, a, h0, h, hp => by
    have hb : p b = false := h0 b (by simp)
    rw [List.find?_cons_of_neg (by simp [hb])]
    exact find_at p L i a (fun x hx => h0 x (by simp [hx])) (by simpa using h) hp
theorem signs_at {i : Nat} {nm : ByteArray} (h : signsR[i]? = some nm) : M.sgL[i]? = some nm.data.toList ∧ (nm.size = 1 ∨ nm.size = 2) := by
  refine ⟨by rw [← signsR_list, List.getElem?_map, h]; rfl, ?_⟩
  have := List.mem_of_getElem? h
  revert this
  have hall : signsR.all (fun b => decide (b.size = 1 ∨ b.size = 2)) = true := by decide +kernel
  intro hm
  exact of_decide_eq_true (List.all_eq_true.1 hall nm hm)
def SgR (l : List UInt8) (w1 : World) (v : Value) (wr : World) : Prop :=
  ∃ i : Nat, i ≤ 18 ∧ v = .int .i64 (i : Int) ∧ (∀ x ∈ M.sgL.take i, x.isPrefixOf l = false) ∧ Below w1.heap.size w1 wr
theorem pre_iff (s nm : ByteArray) (k : Nat) (h : k + nm.size ≤ s.size) : nm.data.toList.isPrefixOf (s.data.toList.drop k) = true ↔ s.extract k (k + nm.size) = nm := by
  have hl : nm.data.toList.length = nm.size := by simp
  rw [List.isPrefixOf_iff_prefix]
  constructor
  · rintro ⟨r, hr⟩
    apply ba_ext
    rw [ext_mid, ← hr, ← hl]
    exact List.take_left
  · intro e
    have e2 : (s.extract k (k + nm.size)).data.toList = nm.data.toList := by rw [e]
    rw [ext_mid] at e2
    exact ⟨(s.data.toList.drop k).drop nm.size, by rw [← e2]; exact List.take_append_drop _ _⟩
theorem pre_len {nm : ByteArray} {l : List UInt8} (h : nm.data.toList.isPrefixOf l = true) : nm.size ≤ l.length := by
  obtain ⟨r, hr⟩ := List.isPrefixOf_iff_prefix.1 h
  have hl : nm.data.toList.length = nm.size := by simp
  rw [← hr, List.length_append]
  omega
theorem drewNRW {B : Nat} {a w : World} (h : Below B a w) (n : Nat) : Below B a (w.drewN n) := ⟨h.os, h.tape, h.output, h.size, h.block⟩
set_option maxRecDepth 100000 in
set_option maxHeartbeats 2000000 in
theorem rone_sign (s : ByteArray) (k : Nat) (w : World) (hs : s.size ≤ 65536) (hk : k < s.size) (hd : M.dg s[k] = false) (hn : M.nm s[k] = false) (h39 : s[k].toNat ≠ 39) :
    Calls Tryd.prog 14 #[.string s, .int .i64 (k : Int)] w (RetOne (M.sgT (s.data.toList.drop k)) k w) := by
  obtain ⟨w1, hw1, HB5, HB⟩ := w5_named w
  have HC := Lib.hid (rdigit_any s[k])
  have HL := Lib.hid (rletter_any s[k])
  rw [hd] at HC
  rw [hn] at HL
  have hx : ¬ (s[k].toNat = 120 ∨ s[k].toNat = 88) := fun h => by
    rw [nm_n] at hn
    have := of_decide_eq_false hn
    omega
  have e1 : ((s[k].toNat : Int) == 120) = false := beq_eq_false_iff_ne.2 (by omega)
  have e2 : ((s[k].toNat : Int) == 88) = false := beq_eq_false_iff_ne.2 (by omega)
  have h3 : ((s[k].toNat : Int) == 39) = false := beq_eq_false_iff_ne.2 (by omega)
  clear hx h39 hd hn
  go_enter Tryd.func14, Tryd.ntmps14
  go_wp2_with fail
  refine (HC.out _).mono ?_
  rintro e w2 ⟨rfl, rfl⟩
  go_wp2_with fail
  refine (HL.out _).mono ?_
  rintro e w2 ⟨rfl, rfl⟩
  go_upto_region 29 with (fail)
  obtain ⟨w6, hw6⟩ : ∃ w6, w1.alloc (.cells (signsR.map Value.string).toArray 9) = w6 := ⟨_, rfl⟩
  have hls : LsAt w6 w1.heap.size signsR := by rw [← hw6]; exact LsAt.new _ _
  have hal6 : Below w1.heap.size w1 w6 := by rw [← hw6]; exact (Below.refl _ _).alloc (Nat.le_refl _) _
  simp only [signsR, List.map_cons, List.map_nil] at hw6
  rw [hw6]
  clear hw6
  have HLS := Lib.hid hls
  have HB6 := Lib.hid (HB.out.trans (hal6.mono HB.out.size))
  have HX6 := Lib.hid (HB5.out.on hal6)
  clear hal6 hls HC HL e1 e2 h3
  generalize w1.heap.size = g13 at *
  go_wp2_with fail
  go_loopw [14] (fun v wr => SgR (s.data.toList.drop k) w6 v wr) (fun v _ => 18 - (intOf v).toNat)
  case atStart => exact ⟨0, by omega, rfl, by simp, Below.refl _ _⟩
  case round =>
    obtain ⟨i, hi, rfl, hno, hb⟩ := hrel
    by_cases hlt : i < 18
    · obtain ⟨nm, hnm⟩ : ∃ nm, signsR[i]? = some nm := ⟨_, List.getElem?_eq_getElem (show i < signsR.length from hlt)⟩
      have y0 := (HLS.out.on hb).2 i nm hnm
      obtain ⟨hat, hsz⟩ := signs_at hnm
      have hi18 : (i : Int) < 18 := by omega
      have HNO := Lib.hid (show nm.data.toList.isPrefixOf (s.data.toList.drop k) = false → ∀ x ∈ M.sgL.take (i + 1), x.isPrefixOf (s.data.toList.drop k) = false from fun h x hx => by
        rw [List.take_add_one, hat, Option.toList_some, List.mem_append, List.mem_singleton] at hx
        rcases hx with hx | rfl
        · exact hno x hx
        · exact h)
      have HYES := Lib.hid (show nm.data.toList.isPrefixOf (s.data.toList.drop k) = true → M.sgT (s.data.toList.drop k) = (6, nm.data.toList, 0, nm.size) from fun h => by
        rw [M.sgT_find, find_at _ _ i _ hno hat h]
        simp)
      have HPI := Lib.hid (fun h => pre_iff s nm k h)
      have HPL := Lib.hid (fun h => pre_len (nm := nm) (l := s.data.toList.drop k) h)
      have HBR := Lib.hid hb
      have hm3 : nm.size ≤ 2 := by omega
      clear hat hno hb hnm hsz
      by_cases hfit : k + nm.size ≤ s.size
      · have hfz : (k : Int) + (nm.size : Int) ≤ (s.size : Int) := by omega
        by_cases heq : s.extract k (k + nm.size) = nm
        · have HT := Lib.hid (HYES.out ((HPI.out hfit).2 heq))
          have he2 : ((s.extract k (k + nm.size)).toList == nm.toList) = true := by rw [heq]; simp
          clear heq
          go_upto_region 32 with (fail)
          go_quiet (fail)
          have HBQ := Lib.hid (drewNRW HBR.out nq)
          have y1 : (wr.drewN nq).cell? ⟨g13, i, none⟩ = some (.string nm) := y0
          clear y0
          generalize wr.drewN nq = wq at *
          have HB7 := Lib.hid (HB6.out.trans (HBQ.out.mono HB6.out.size))
          obtain ⟨c0, c1, c2, c3, c4⟩ := (HX6.out.on HBQ.out).cells
          obtain ⟨f0, f1, f2, f3, f4⟩ := (HX6.out.on HBQ.out).frz
          go_upto_region 33 with (fail)
          have hwm : IntKind.i64.wrap ((k : Int) + (nm.size : Int)) = (k : Int) + (nm.size : Int) := IntWalk.i64_in _ (by omega)
          go_region_law (fail)
          all_goals
            go_wp2_with fail
            refine bodyPost_ret (v := wd 6 nm 0 k ((k : Int) + (nm.size : Int))) (by simp [results, Tryd.results14, go_sem, c0, c1, c2, c3, c4]) rfl ⟨.inr ?_, drewR (end5 HB7.out _ _ _ _ _)⟩
            rw [HT.out]
            exact ⟨by simp, ret_nm (ba_eta nm) (show (k : Int) + (nm.size : Int) = ((k + nm.size : Nat) : Int) by omega)⟩
        · have he2 : ((s.extract k (k + nm.size)).toList == nm.toList) = false := beq_eq_false_iff_ne.2 (tl_neW heq)
          have HF := Lib.hid (HNO.out (by
            cases hq : nm.data.toList.isPrefixOf (s.data.toList.drop k) with
            | false => rfl
            | true => exact absurd ((HPI.out hfit).1 hq) heq))
          clear heq
          go_upto_region 32 with (fail)
          go_quiet (fail)
          go_wp2_with fail
          exact ⟨⟨i + 1, by omega, by go_num, HF.out, drewNRW HBR.out _⟩, by simp [intOf]; omega⟩
      · have hfz : ¬ (k : Int) + (nm.size : Int) ≤ (s.size : Int) := by omega
        have HF := Lib.hid (HNO.out (by
          cases hq : nm.data.toList.isPrefixOf (s.data.toList.drop k) with
          | false => rfl
          | true =>
            have := HPL.out hq
            simp at this
            omega))
        go_upto_region 32 with (fail)
        go_quiet (fail)
        go_wp2_with fail
        exact ⟨⟨i + 1, by omega, by go_num, HF.out, drewNRW HBR.out _⟩, by simp [intOf]; omega⟩
    · obtain rfl : i = 18 := by omega
      have HT := Lib.hid (show M.sgT (s.data.toList.drop k) = M.no by
        rw [M.sgT_find, List.find?_eq_none.2 (fun x hx => by
          have := hno x (by rw [show M.sgL.take 18 = M.sgL from rfl]; exact hx)
          simp [this])])
      have HB7 := Lib.hid (HB6.out.trans (hb.mono HB6.out.size))
      obtain ⟨c0, c1, c2, c3, c4⟩ := (HX6.out.on hb).cells
      obtain ⟨f0, f1, f2, f3, f4⟩ := (HX6.out.on hb).frz
      clear hno hb
      go_wp2_with fail
      refine bodyPost_ret (v := wd 0 nb 0 0 0) (by simp [results, Tryd.results14, go_sem, c0, c1, c2, c3, c4]) rfl ⟨.inl ?_, end5 HB7.out _ _ _ _ _⟩
      rw [HT.out]
      exact ⟨rfl, rfl⟩
end Go.Proofs.YtceknmibopnmhaaDoor
