/-
  Layer 7, sorter: inOrder tells the list in order. Conditions: no more than 2^20 entries.
-/
import Derived.Test.YtifnhdnmohlfiaaQMerge
namespace Go.Proofs.Ytifnhdnmohlfiaa
open Go.ChangeShapes Go.WideShapes Go.ChangeAt Go.RowKit
set_option linter.unusedVariables false

theorem OwnE.mono {w : World} {base base' : Nat} {v : Value} {l : List En} (h : OwnE w base v l) (hb : base' ≤ base) : OwnE w base' v l := by
  obtain ⟨h1, h2⟩ := h
  refine ⟨h1, ?_⟩
  rcases h2 with h2 | ⟨g, cap, cur, hv, hg, r⟩
  · exact .inl h2
  · exact .inr ⟨g, cap, cur, hv, Nat.le_trans hb hg, r⟩
def InRet (w : World) (l : List En) (e : Ending) (w' : World) : Prop := ∃ A c, e = .returned (.slice A l.length c) ∧ l.length ≤ c ∧ c ≤ 9223372036854775807 ∧ RdE w' w'.heap.size A l ∧ (2 ≤ l.length → OwnE w' w.heap.size (.slice A l.length c) l) ∧ Below w.heap.size w w'
set_option maxRecDepth 100000 in
theorem inOrder_short (A : Option Addr) (n c : Nat) (l : List En) (w : World) (hn : n = l.length) (hA : RdE w w.heap.size A l) (hc : l.length ≤ c) (hcm : c ≤ 9223372036854775807) (h2 : l.length < 2) :
    Calls Try.prog 44 #[.slice A n c, .func (.func 45) #[] #[]] w (InRet w (srt ltE l)) := by
  have q1 : decide ((n : Int) < 2) = true := decide_eq_true (by omega)
  have q0 : (n : Int) < 2 := by omega
  have HA := Lib.hid hA
  have HN := Lib.hid hn
  clear hn hA
  go_enter Try.func44, Try.ntmps44
  go_wp2_with fail
  go_ret
  exact ⟨A, c, by rw [srt_short ltE l h2, HN.out]; rfl, by rw [srt_short ltE l h2]; exact hc, hcm, by rw [srt_short ltE l h2]; exact HA.out, fun h => by rw [srt_length] at h; omega, Below.refl _ _⟩
set_option maxRecDepth 100000 in
set_option maxHeartbeats 1000000 in
theorem inOrder_any : ∀ (N : Nat) (A : Option Addr) (n c : Nat) (l : List En) (w : World), n = l.length → RdE w w.heap.size A l → l.length ≤ c → c ≤ 9223372036854775807 → (∀ e ∈ l, EnOk w w.heap.size e) → l.length ≤ 1048576 → l.length ≤ N →
    Calls Try.prog 44 #[.slice A n c, .func (.func 45) #[] #[]] w (InRet w (srt ltE l)) := by
  intro N
  induction N with
  | zero => exact fun A n c l w hn hA hc hcm hok hl hN => inOrder_short A n c l w hn hA hc hcm (by omega)
  | succ N ih =>
    intro A n c l w hn hA hc hcm hok hl hN
    by_cases h2 : l.length < 2
    · exact inOrder_short A n c l w hn hA hc hcm h2
    · obtain ⟨ad, rfl, hal, hcs⟩ := hA (by omega)
      obtain ⟨h, hh⟩ : ∃ h, n / 2 = h := ⟨_, rfl⟩
      have q1 : decide ((n : Int) < 2) = false := decide_eq_false (by omega)
      have q0 : (2 : Int) ≤ (n : Int) := by omega
      have q2 : (n : Int) / 2 = (h : Int) := by rw [← hh]; rfl
      have q3 : (0 : Int) ≤ (h : Int) := by omega
      have q4 : (h : Int) ≤ (n : Int) := by omega
      have q5 : (h : Int) ≤ (c : Int) := by omega
      have q6 : ¬ c = h := by omega
      have lt : (l.take h).length = h := by rw [List.length_take]; omega
      have ld : (l.drop h).length = n - h := by rw [List.length_drop, hn]
      have H1 := Lib.hid (show ∀ W, Below w.heap.size w W → Calls Try.prog 44 #[.slice (some ad) h c, .func (.func 45) #[] #[]] W (InRet W (srt ltE (l.take h))) from fun W hb =>
        ih (some ad) h c (l.take h) W lt.symm ((hA.pre h).on hb) (by omega) hcm (fun e he => (hok e (List.mem_of_mem_take he)).on hb) (by omega) (by omega))
      have H2 := Lib.hid (show ∀ W, Below w.heap.size w W → Calls Try.prog 44 #[.slice (some (ad.add (h * 2))) (n - h) (c - h), .func (.func 45) #[] #[]] W (InRet W (srt ltE (l.drop h))) from fun W hb =>
        ih (some (ad.add (h * 2))) (n - h) (c - h) (l.drop h) W ld.symm ((hA.post h).on hb) (by omega) (by omega) (fun e he => (hok e (List.mem_of_mem_drop he)).on hb) (by omega) (by omega))
      have HS := Lib.hid (show srt ltE l = mrg ltE (srt ltE (l.take h)) (srt ltE (l.drop h)) by rw [srt_long ltE l h2, ← hh, hn])
      have HL := Lib.hid (show (srt ltE (l.take h)).length + (srt ltE (l.drop h)).length ≤ 1048576 by rw [srt_length, srt_length]; omega)
      have HOK1 := Lib.hid (show ∀ e ∈ srt ltE (l.take h), EnOk w w.heap.size e from fun e he => hok e (List.mem_of_mem_take ((srt_perm ltE _ _ (Nat.le_refl _)).mem_iff.1 he)))
      have HOK2 := Lib.hid (show ∀ e ∈ srt ltE (l.drop h), EnOk w w.heap.size e from fun e he => hok e (List.mem_of_mem_drop ((srt_perm ltE _ _ (Nat.le_refl _)).mem_iff.1 he)))
      generalize srt ltE (l.take h) = x at *
      generalize srt ltE (l.drop h) = y at *
      have HW := Lib.hid (show Below w.heap.size w w.drew from ⟨rfl, rfl, rfl, Nat.le_refl _, fun _ _ => rfl⟩)
      clear hn hh lt ld hA hcs hok hl hN h2 ih
      go_enter Try.func44, Try.ntmps44
      go_wp2_with fail
      go_region_held3 (fun X => True) (first | trivial)
        (first
          | (go_at_call 44; (with_reducible refine (H1.out _ HW.out).mono ?_); rintro e1 w1 ⟨A1, c1, rfl, hc1, hm1, hr1, _, hb1⟩; have HR1 := Lib.hid hr1; have HB1 := Lib.hid (show Below w.heap.size w w1 from ⟨hb1.os, hb1.tape, hb1.output, hb1.size, hb1.block⟩); clear hr1 hb1)
          | (go_at_call 44; (with_reducible refine (H2.out _ HB1.out).mono ?_); rintro e2 w2 ⟨A2, c2, rfl, hc2, hm2, hr2, _, hb2⟩; have HR2 := Lib.hid hr2; have HB2 := Lib.hid hb2; clear hr2 hb2)
          | (go_at_call 74; refine (merged_any A1 c1 x A2 c2 y _ (HR1.out.on HB2.out) HR2.out hc1 hc2 hm1 hm2 (fun e he => ((HOK1.out e he).on HB1.out).on HB2.out) (fun e he => ((HOK2.out e he).on HB1.out).on HB2.out) HL.out).mono ?_; rintro e3 w3 ⟨v3, rfl, ho3, hb3⟩; obtain ⟨A3, c3, rfl, g1, g2, g3⟩ := ho3.form; have HO3 := Lib.hid ho3; have HB3 := Lib.hid hb3; have HR3 := Lib.hid g3; clear ho3 hb3 g3))
      go_wp2_with fail
      go_ret
      unfold maxLen at g2
      rw [HS.out]
      exact ⟨A3, c3, rfl, g1, by omega, HR3.out, fun _ => OwnE.mono HO3.out (Nat.le_trans HB1.out.size HB2.out.size), (HB1.out.trans (HB2.out.mono HB1.out.size)).trans (HB3.out.mono (Nat.le_trans HB1.out.size HB2.out.size))⟩
end Go.Proofs.Ytifnhdnmohlfiaa
