/-
  Show, and, or (layer 2, value). Conditions: sizes.
-/
import Derived.Test.YtceknmibopnmhaaGreatDoorVSubF
import Derived.Test.YtceknmibopnmhaaGreatDoorVOp
import Derived.Laws.Concat
namespace Go.Proofs.YtceknmibopnmhaaGreatDoor
open Go.ChangeShapes Go.WideShapes Go.ChangeAt Go.RowKit
set_option linter.unusedVariables false

/-- a text as it is shown -/
def showT (s : ByteArray) : ByteArray := (⟨#[39]⟩ : ByteArray) ++ ⟨(Lib.replaceAll s.data.toList [39] [39, 39]).toArray⟩ ++ ⟨#[39]⟩
/-- a blob as it is shown -/
def showB (s : ByteArray) : ByteArray := (⟨#[88, 39]⟩ : ByteArray) ++ ⟨(hexL s.data.toList).toArray⟩ ++ ⟨#[39]⟩

theorem Show_text (n : Int) (s : ByteArray) (w : World) (hW : Wd w) (hs : s.size ≤ 1073741824) (hlen : s.size + Lib.countB s ⟨#[39]⟩ * 2 ≤ 1099511627776) (hr : (Lib.replaceAll s.data.toList [39] [39, 39]).length ≤ 4398046511104) :
    Calls Tryz.prog 69 #[vv 2 n s] w fun e w' => e = .returned (.string (showT s)) ∧ Below w.heap.size w w' := by
  have hb0 : Below w.heap.size w (w.alloc (box 2 n s)) := (Below.refl _ _).alloc (Nat.le_refl _) _
  obtain ⟨_, m, hm⟩ := hW.on hb0
  have HM := Lib.hid hm
  have HL := Lib.hid hlen
  generalize hcv : (⟨(Lib.replaceAll s.data.toList [39] [39, 39]).toArray⟩ : ByteArray) = cut
  have HC := Lib.hid hcv
  have hcs : cut.size ≤ 4398046511104 := by rw [← hcv]; show (List.toArray _).size ≤ _; simpa using hr
  have HX := Lib.hid (show (⟨#[39]⟩ : ByteArray) ++ cut ++ ⟨#[39]⟩ = showT s by rw [← hcv]; rfl)
  clear hcv hm hlen hr hW
  go_enter Tryz.func69, Tryz.ntmps69
  go_wp2_with (go_at_call 96; (refine (Tryz.strings_ReplaceAll s ⟨#[39]⟩ ⟨#[39, 39]⟩ m _ (by omega) HM.out (by show 1 ≤ 1; omega) (by have := HL.out; show s.size + _ * 2 ≤ _; omega)).mono ?_; rintro e wa ⟨rfl, ba⟩; rw [HC.out]))
  go_ret
  exact ⟨congrArg (fun x => Ending.returned (.string x)) HX.out, hb0.trans (ba.mono hb0.size)⟩

theorem Show_blob (n : Int) (s : ByteArray) (w : World) (hs : s.size ≤ 1099511627776) :
    Calls Tryz.prog 69 #[vv 3 n s] w fun e w' => e = .returned (.string (showB s)) ∧ Below w.heap.size w w' := by
  generalize hcv : (⟨(hexL s.data.toList).toArray⟩ : ByteArray) = cut
  have HC := Lib.hid hcv
  have hcs : cut.size ≤ 4398046511104 := by rw [← hcv]; show (List.toArray _).size ≤ _; rw [List.size_toArray, hexL_length]; have : s.data.toList.length = s.size := rfl; omega
  have HX := Lib.hid (show (⟨#[88, 39]⟩ : ByteArray) ++ cut ++ ⟨#[39]⟩ = showB s by rw [← hcv]; rfl)
  have hb0 : Below w.heap.size w (w.alloc (box 3 n s)) := (Below.refl _ _).alloc (Nat.le_refl _) _
  clear hcv
  go_enter Tryz.func69, Tryz.ntmps69
  go_wp2_with (go_at_call 97; refine (hexDigits_any _ _ hs).mono ?_; rintro e wa ⟨rfl, ba⟩; rw [HC.out])
  go_ret
  exact ⟨congrArg (fun x => Ending.returned (.string x)) HX.out, hb0.trans (ba.mono hb0.size)⟩

/-- is it true? -/
def trueV (k n : Int) (s : ByteArray) : Bool := k != 0 && intV k n s != 0
/-- and of two, each by whether it is true, and whether that is known -/
def andK (t u t' u' : Bool) : Int := if (u && !t) || (u' && !t') then 1 else if !u || !u' then 0 else 1
def andN (t u t' u' : Bool) : Int := if (u && !t) || (u' && !t') then 0 else if !u || !u' then 0 else 1
def orK (t u t' u' : Bool) : Int := if t || t' then 1 else if !u || !u' then 0 else 1
def orN (t u t' u' : Bool) : Int := if t || t' then 1 else 0

set_option maxHeartbeats 800000 in
theorem and_any (k n : Int) (s : ByteArray) (k' n' : Int) (s' : ByteArray) (w : World) (hs : s.size ≤ 4611686018427387904) (hs' : s'.size ≤ 4611686018427387904) :
    Calls Tryz.prog 51 #[vv k n s, vv k' n' s'] w fun e w' => e = .returned (vv (andK (trueV k n s) (k != 0) (trueV k' n' s') (k' != 0)) (andN (trueV k n s) (k != 0) (trueV k' n' s') (k' != 0)) ⟨#[]⟩) ∧ Below w.heap.size w w' := by
  have F := w3_cells w k n s k' n' s'
  have HT := Lib.hid (show trueV k n s = (k != 0 && intV k n s != 0) from rfl)
  have HT' := Lib.hid (show trueV k' n' s' = (k' != 0 && intV k' n' s' != 0) from rfl)
  generalize trueV k n s = t at *
  generalize trueV k' n' s' = t' at *
  generalize hu : (k != 0) = u at *
  generalize hu' : (k' != 0) = u' at *
  have HU := Lib.hid hu
  have HU' := Lib.hid hu'
  clear hu hu'
  cases t <;> cases u <;> cases t' <;> cases u'
  all_goals
    go_enter Tryz.func51, Tryz.ntmps51
    go_wp2_with (first
      | (go_at_call 56; refine (Truth_any _ _ _ _ (by assumption)).mono ?_; rintro e wa ⟨rfl, ba⟩; (first | (rw [HU.out, ← HT.out]) | (rw [HU'.out, ← HT'.out])); (first | (have hcur := Lib.hid (hcur.out.trans (ba.mono hcur.out.size))) | (have hcur := Lib.hid ((Below.refl (w3 w k n s k' n' s').heap.size (w3 w k n s k' n' s')).trans ba))); obtain ⟨g0, g1, g2, g3, g4, g5⟩ := F _ (hcur.out.mono (by simp)); obtain ⟨hc0, hc1, hc2, hf0, hf1, hf2⟩ := w3_out _ _ _ _ _ _ _ _ hcur.out; have hz : w.heap.size + 2 < wa.heap.size := (by have := hcur.out.size; simp at this; omega); clear ba)
      | (go_at_call 57; refine (flagValue_any _ _).mono ?_; rintro e wa ⟨rfl, ba⟩; have hcur := Lib.hid (hcur.out.trans (ba.mono hcur.out.size)); obtain ⟨hc0, hc1, hc2, hf0, hf1, hf2⟩ := w3_out _ _ _ _ _ _ _ _ hcur.out; have hz : w.heap.size + 2 < wa.heap.size := (by have := hcur.out.size; simp at this; omega)))
    refine bodyPost_ret ?_ rfl ⟨rfl, w3_end _ _ _ _ _ _ _ _ hcur.out _ _ _⟩
    simp [results, Tryz.results51, go_sem, hc0, hc1, hc2, andK, andN]

set_option maxHeartbeats 800000 in
theorem or_any (k n : Int) (s : ByteArray) (k' n' : Int) (s' : ByteArray) (w : World) (hs : s.size ≤ 4611686018427387904) (hs' : s'.size ≤ 4611686018427387904) :
    Calls Tryz.prog 52 #[vv k n s, vv k' n' s'] w fun e w' => e = .returned (vv (orK (trueV k n s) (k != 0) (trueV k' n' s') (k' != 0)) (orN (trueV k n s) (k != 0) (trueV k' n' s') (k' != 0)) ⟨#[]⟩) ∧ Below w.heap.size w w' := by
  have F := w3_cells w k n s k' n' s'
  have HT := Lib.hid (show trueV k n s = (k != 0 && intV k n s != 0) from rfl)
  have HT' := Lib.hid (show trueV k' n' s' = (k' != 0 && intV k' n' s' != 0) from rfl)
  generalize trueV k n s = t at *
  generalize trueV k' n' s' = t' at *
  generalize hu : (k != 0) = u at *
  generalize hu' : (k' != 0) = u' at *
  have HU := Lib.hid hu
  have HU' := Lib.hid hu'
  clear hu hu'
  cases t <;> cases u <;> cases t' <;> cases u'
  all_goals
    go_enter Tryz.func52, Tryz.ntmps52
    go_wp2_with (first
      | (go_at_call 56; refine (Truth_any _ _ _ _ (by assumption)).mono ?_; rintro e wa ⟨rfl, ba⟩; (first | (rw [HU.out, ← HT.out]) | (rw [HU'.out, ← HT'.out])); (first | (have hcur := Lib.hid (hcur.out.trans (ba.mono hcur.out.size))) | (have hcur := Lib.hid ((Below.refl (w3 w k n s k' n' s').heap.size (w3 w k n s k' n' s')).trans ba))); obtain ⟨g0, g1, g2, g3, g4, g5⟩ := F _ (hcur.out.mono (by simp)); obtain ⟨hc0, hc1, hc2, hf0, hf1, hf2⟩ := w3_out _ _ _ _ _ _ _ _ hcur.out; have hz : w.heap.size + 2 < wa.heap.size := (by have := hcur.out.size; simp at this; omega); clear ba)
      | (go_at_call 57; refine (flagValue_any _ _).mono ?_; rintro e wa ⟨rfl, ba⟩; have hcur := Lib.hid (hcur.out.trans (ba.mono hcur.out.size)); obtain ⟨hc0, hc1, hc2, hf0, hf1, hf2⟩ := w3_out _ _ _ _ _ _ _ _ hcur.out; have hz : w.heap.size + 2 < wa.heap.size := (by have := hcur.out.size; simp at this; omega)))
    refine bodyPost_ret ?_ rfl ⟨rfl, w3_end _ _ _ _ _ _ _ _ hcur.out _ _ _⟩
    simp [results, Tryz.results52, go_sem, hc0, hc1, hc2, orK, orN]

end Go.Proofs.YtceknmibopnmhaaGreatDoor
