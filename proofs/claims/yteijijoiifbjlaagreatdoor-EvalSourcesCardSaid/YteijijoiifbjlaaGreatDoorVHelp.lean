/-
  Show, and, or (layer 2, value). Conditions: sizes.
  The helpers of the statements of layer 2: num, text, blob, errs, op, calls, both. Conditions: what is called returns.
-/
import Derived.Test.YteijijoiifbjlaaGreatDoorVSubF
import Derived.Test.YteijijoiifbjlaaGreatDoorVOp
import Derived.Laws.Concat
import Derived.Test.YteijijoiifbjlaaGreatDoorVLike
namespace Go.Proofs.YteijijoiifbjlaaGreatDoor
open Go.ChangeShapes Go.WideShapes Go.ChangeAt Go.RowKit
set_option linter.unusedVariables false


/-- is it true? -/
def trueV (k n : Int) (s : ByteArray) : Bool := k != 0 && intV k n s != 0
/-- and of two, each by whether it is true, and whether that is known -/
def andK (t u t' u' : Bool) : Int := if (u && !t) || (u' && !t') then 1 else if !u || !u' then 0 else 1
def andN (t u t' u' : Bool) : Int := if (u && !t) || (u' && !t') then 0 else if !u || !u' then 0 else 1
def orK (t u t' u' : Bool) : Int := if t || t' then 1 else if !u || !u' then 0 else 1
def orN (t u t' u' : Bool) : Int := if t || t' then 1 else 0

set_option maxHeartbeats 800000 in
theorem and_any (k n : Int) (s : ByteArray) (k' n' : Int) (s' : ByteArray) (w : World) (hs : s.size ≤ 4611686018427387904) (hs' : s'.size ≤ 4611686018427387904) :
    Calls Tryz.prog 95 #[vv k n s, vv k' n' s'] w fun e w' => e = .returned (vv (andK (trueV k n s) (k != 0) (trueV k' n' s') (k' != 0)) (andN (trueV k n s) (k != 0) (trueV k' n' s') (k' != 0)) ⟨#[]⟩) ∧ Below w.heap.size w w' := by
  have F := w3_cells w k n s k' n' s'
  have HT := Lib.hid (show trueV k n s = (k != 0 && intV k n s != 0) from rfl)
  have HT' := Lib.hid (show trueV k' n' s' = (k' != 0 && intV k' n' s' != 0) from rfl)
  generalize trueV k n s = t at *
  generalize trueV k' n' s' = t' at *
  generalize hu : (k != 0) = u at *
  generalize hu' : (k' != 0) = u' at *
  have HU := Lib.hid hu
  have HU' := Lib.hid hu'
  clear hu hu'
  cases t <;> cases u <;> cases t' <;> cases u'
  all_goals
    go_enter Tryz.func95, Tryz.ntmps95
    go_wp2_with (first
      | (go_at_call 23; refine (Truth_any _ _ _ _ (by assumption)).mono ?_; rintro e wa ⟨rfl, ba⟩; (first | (rw [HU.out, ← HT.out]) | (rw [HU'.out, ← HT'.out])); (first | (have hcur := Lib.hid (hcur.out.trans (ba.mono hcur.out.size))) | (have hcur := Lib.hid ((Below.refl (w3 w k n s k' n' s').heap.size (w3 w k n s k' n' s')).trans ba))); obtain ⟨g0, g1, g2, g3, g4, g5⟩ := F _ (hcur.out.mono (by simp)); obtain ⟨hc0, hc1, hc2, hf0, hf1, hf2⟩ := w3_out _ _ _ _ _ _ _ _ hcur.out; have hz : w.heap.size + 2 < wa.heap.size := (by have := hcur.out.size; simp at this; omega); clear ba)
      | (go_at_call 92; refine (flagValue_any _ _).mono ?_; rintro e wa ⟨rfl, ba⟩; have hcur := Lib.hid (hcur.out.trans (ba.mono hcur.out.size)); obtain ⟨hc0, hc1, hc2, hf0, hf1, hf2⟩ := w3_out _ _ _ _ _ _ _ _ hcur.out; have hz : w.heap.size + 2 < wa.heap.size := (by have := hcur.out.size; simp at this; omega)))
    refine bodyPost_ret ?_ rfl ⟨rfl, w3_end _ _ _ _ _ _ _ _ hcur.out _ _ _⟩
    simp [results, Tryz.results95, go_sem, hc0, hc1, hc2, andK, andN]

set_option maxHeartbeats 800000 in
theorem or_any (k n : Int) (s : ByteArray) (k' n' : Int) (s' : ByteArray) (w : World) (hs : s.size ≤ 4611686018427387904) (hs' : s'.size ≤ 4611686018427387904) :
    Calls Tryz.prog 96 #[vv k n s, vv k' n' s'] w fun e w' => e = .returned (vv (orK (trueV k n s) (k != 0) (trueV k' n' s') (k' != 0)) (orN (trueV k n s) (k != 0) (trueV k' n' s') (k' != 0)) ⟨#[]⟩) ∧ Below w.heap.size w w' := by
  have F := w3_cells w k n s k' n' s'
  have HT := Lib.hid (show trueV k n s = (k != 0 && intV k n s != 0) from rfl)
  have HT' := Lib.hid (show trueV k' n' s' = (k' != 0 && intV k' n' s' != 0) from rfl)
  generalize trueV k n s = t at *
  generalize trueV k' n' s' = t' at *
  generalize hu : (k != 0) = u at *
  generalize hu' : (k' != 0) = u' at *
  have HU := Lib.hid hu
  have HU' := Lib.hid hu'
  clear hu hu'
  cases t <;> cases u <;> cases t' <;> cases u'
  all_goals
    go_enter Tryz.func96, Tryz.ntmps96
    go_wp2_with (first
      | (go_at_call 23; refine (Truth_any _ _ _ _ (by assumption)).mono ?_; rintro e wa ⟨rfl, ba⟩; (first | (rw [HU.out, ← HT.out]) | (rw [HU'.out, ← HT'.out])); (first | (have hcur := Lib.hid (hcur.out.trans (ba.mono hcur.out.size))) | (have hcur := Lib.hid ((Below.refl (w3 w k n s k' n' s').heap.size (w3 w k n s k' n' s')).trans ba))); obtain ⟨g0, g1, g2, g3, g4, g5⟩ := F _ (hcur.out.mono (by simp)); obtain ⟨hc0, hc1, hc2, hf0, hf1, hf2⟩ := w3_out _ _ _ _ _ _ _ _ hcur.out; have hz : w.heap.size + 2 < wa.heap.size := (by have := hcur.out.size; simp at this; omega); clear ba)
      | (go_at_call 92; refine (flagValue_any _ _).mono ?_; rintro e wa ⟨rfl, ba⟩; have hcur := Lib.hid (hcur.out.trans (ba.mono hcur.out.size)); obtain ⟨hc0, hc1, hc2, hf0, hf1, hf2⟩ := w3_out _ _ _ _ _ _ _ _ hcur.out; have hz : w.heap.size + 2 < wa.heap.size := (by have := hcur.out.size; simp at this; omega)))
    refine bodyPost_ret ?_ rfl ⟨rfl, w3_end _ _ _ _ _ _ _ _ hcur.out _ _ _⟩
    simp [results, Tryz.results96, go_sem, hc0, hc1, hc2, orK, orN]

end Go.Proofs.YteijijoiifbjlaaGreatDoor

namespace Go.Proofs.YteijijoiifbjlaaGreatDoor
open Go.ChangeShapes Go.WideShapes Go.ChangeAt Go.RowKit
set_option linter.unusedVariables false

end Go.Proofs.YteijijoiifbjlaaGreatDoor
