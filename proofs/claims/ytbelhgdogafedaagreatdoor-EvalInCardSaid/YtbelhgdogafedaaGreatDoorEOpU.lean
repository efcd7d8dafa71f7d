/-
  Layer 13, eval: signs that are none. Conditions: sizes.
-/
import Derived.Test.YtbelhgdogafedaaGreatDoorEMath
import Derived.Test.YtbelhgdogafedaaGreatDoorVOne
import Derived.Test.YtbelhgdogafedaaGreatDoorVBad
namespace Go.Proofs.YtbelhgdogafedaaGreatDoor
open Go.ChangeShapes Go.WideShapes Go.ChangeAt Go.RowKit
set_option linter.unusedVariables false
set_option maxRecDepth 100000

theorem ne_sign {g : ByteArray} {l : List UInt8} (h : g ≠ ⟨l.toArray⟩) : (g.toList == l) = false := by
  rw [Bool.eq_false_iff]
  intro e
  have e2 : g.toList = l := by simpa using e
  apply h
  rw [ByteArray.toList_eq] at e2
  rcases g with ⟨⟨l⟩⟩
  simpa using e2
set_option maxHeartbeats 1000000 in
theorem Op_unk (g : ByteArray) (k n : Int) (s : ByteArray) (k' n' : Int) (s' : ByteArray) (w : World) (hr : Rt k n s) (hr' : Rt k' n' s') (hg : ∀ x ∈ sAnd :: sOr :: sgn, g ≠ x) :
    Calls Tryz.prog 83 #[.string g, vv k n s, vv k' n' s'] w (RetV nul 2 w) := by
  have F := w3_cells w k n s k' n' s'
  have HR := Lib.hid hr
  have HR' := Lib.hid hr'
  have hs : s.size ≤ 9223372036854775807 := by have := Rt_size hr; omega
  have hs' : s'.size ≤ 9223372036854775807 := by have := Rt_size hr'; omega
  have q1 : (g.toList == [97, 110, 100]) = false := ne_sign (hg _ (by simp [sgn]))
  have q2 : (g.toList == [111, 114]) = false := ne_sign (hg _ (by simp [sgn]))
  have q3 : (g.toList == [43]) = false := ne_sign (hg _ (by simp [sgn]))
  have q4 : (g.toList == [45]) = false := ne_sign (hg _ (by simp [sgn]))
  have q5 : (g.toList == [42]) = false := ne_sign (hg _ (by simp [sgn]))
  have q6 : (g.toList == [47]) = false := ne_sign (hg _ (by simp [sgn]))
  have q7 : (g.toList == [37]) = false := ne_sign (hg _ (by simp [sgn]))
  have q8 : (g.toList == [124, 124]) = false := ne_sign (hg _ (by simp [sgn]))
  have q9 : (g.toList == [61]) = false := ne_sign (hg _ (by simp [sgn]))
  have q10 : (g.toList == [60, 62]) = false := ne_sign (hg _ (by simp [sgn]))
  have q11 : (g.toList == [60]) = false := ne_sign (hg _ (by simp [sgn]))
  have q12 : (g.toList == [60, 61]) = false := ne_sign (hg _ (by simp [sgn]))
  have q13 : (g.toList == [62]) = false := ne_sign (hg _ (by simp [sgn]))
  have q14 : (g.toList == [62, 61]) = false := ne_sign (hg _ (by simp [sgn]))
  have q15 : (g.toList == [108, 105, 107, 101]) = false := ne_sign (hg _ (by simp [sgn]))
  clear hr hr' hg
  go_enter Tryz.func83, Tryz.ntmps83
  go_wp2_with (go_at_call 20; refine (Right_any _ _ _ _ (by assumption)).mono ?_; rintro e wa ⟨rfl, ba⟩; (first | rw [decide_eq_true HR.out] | rw [decide_eq_true HR'.out]); (first | (have hcur := Lib.hid (hcur.out.trans (ba.mono hcur.out.size))) | (have hcur := Lib.hid ((Below.refl (w3 w k n s k' n' s').heap.size (w3 w k n s k' n' s')).trans ba))); obtain ⟨g0, g1, g2, g3, g4, g5⟩ := F _ (hcur.out.mono (by simp)); obtain ⟨hc0, hc1, hc2, hf0, hf1, hf2⟩ := w3_out _ _ _ _ _ _ _ _ hcur.out; have hz : w.heap.size + 2 < wa.heap.size := (by have := hcur.out.size; simp at this; omega); clear ba)
  exact bodyPost_ret (v := .tuple #[nul, .int .i64 2]) (by simp [results, Tryz.results83, go_sem, hc0, hc1, hc2]) rfl ⟨rfl, w3_end _ _ _ _ _ _ _ _ hcur.out _ _ _⟩
set_option maxHeartbeats 1000000 in
theorem One_unk (g : ByteArray) (k n : Int) (s : ByteArray) (w : World) (hr : Rt k n s) (h1 : g ≠ sSub) (h2 : g ≠ sNot) :
    Calls Tryz.prog 82 #[.string g, vv k n s] w (RetV nul 2 w) := by
  have HR := Lib.hid hr
  have hs : s.size ≤ 9223372036854775807 := by have := Rt_size hr; omega
  have q1 : (g.toList == [45]) = false := ne_sign h1
  have q2 : (g.toList == [110, 111, 116]) = false := ne_sign h2
  clear hr h1 h2
  go_enter Tryz.func82, Tryz.ntmps82
  go_wp2_with (go_at_call 20; refine (Right_any _ _ _ _ hs).mono ?_; rintro e wa ⟨rfl, ba⟩; rw [decide_eq_true HR.out]; (first | (have hcur := Lib.hid (hcur.out.trans (ba.mono hcur.out.size))) | (have hcur := Lib.hid ba)); obtain ⟨g0, g1, g2⟩ := w2_cells _ _ _ _ _ hcur.out; obtain ⟨_, u0, u1, u2, v0, v1, v2⟩ := w2_out _ _ _ _ _ hcur.out; have hz : w.heap.size + 1 < wa.heap.size := (by have := hcur.out.size; rw [w2_size] at this; omega); clear ba)
  exact bodyPost_ret (v := .tuple #[nul, .int .i64 2]) (by simp [results, Tryz.results82, go_sem, u0, u1, u2]) rfl ⟨rfl, w2_end _ _ _ _ _ hcur.out _ _ _⟩
set_option maxHeartbeats 1000000 in
theorem Cast_unk (g : ByteArray) (k n : Int) (s : ByteArray) (w : World) (hr : Rt k n s) (h1 : g ≠ sInt) (h2 : g ≠ sText) :
    Calls Tryz.prog 67 #[.string g, vv k n s] w (RetV nul 2 w) := by
  have HR := Lib.hid hr
  have hs : s.size ≤ 9223372036854775807 := by have := Rt_size hr; omega
  have q1 : (g.toList == [105, 110, 116]) = false := ne_sign h1
  have q2 : (g.toList == [116, 101, 120, 116]) = false := ne_sign h2
  clear hr h1 h2
  go_enter Tryz.func67, Tryz.ntmps67
  go_wp2_with (go_at_call 20; refine (Right_any _ _ _ _ hs).mono ?_; rintro e wa ⟨rfl, ba⟩; rw [decide_eq_true HR.out]; (first | (have hcur := Lib.hid (hcur.out.trans (ba.mono hcur.out.size))) | (have hcur := Lib.hid ba)); obtain ⟨g0, g1, g2⟩ := w2_cells _ _ _ _ _ hcur.out; obtain ⟨_, u0, u1, u2, v0, v1, v2⟩ := w2_out _ _ _ _ _ hcur.out; have hz : w.heap.size + 1 < wa.heap.size := (by have := hcur.out.size; rw [w2_size] at this; omega); clear ba)
  exact bodyPost_ret (v := .tuple #[nul, .int .i64 2]) (by simp [results, Tryz.results67, go_sem, u0, u1, u2]) rfl ⟨rfl, w2_end _ _ _ _ _ hcur.out _ _ _⟩
end Go.Proofs.YtbelhgdogafedaaGreatDoor
