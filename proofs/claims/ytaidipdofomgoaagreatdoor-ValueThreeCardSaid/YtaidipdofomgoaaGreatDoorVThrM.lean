/-
  Three-valued logic (layer 2, value): and, or, not of values as mathematics, and what the statements' helpers tell of it. Conditions: right values.
-/
import Derived.Test.YtaidipdofomgoaaGreatDoorVOrdM
import Derived.Test.YtaidipdofomgoaaGreatDoorVArg3
namespace Go.Proofs.YtaidipdofomgoaaGreatDoor
open Go.ChangeShapes Go.WideShapes Go.ChangeAt Go.RowKit
set_option linter.unusedVariables false

abbrev T3 := Option Bool
def kOf : T3 → Int
  | none => 0
  | some _ => 1
def nOf : T3 → Int
  | some true => 1
  | _ => 0
/-- what a value says: not known, true, false -/
def tri (k n : Int) (s : ByteArray) : T3 := if k = 0 then none else some (intV k n s != 0)
def and3 : T3 → T3 → T3
  | some false, _ => some false
  | _, some false => some false
  | some true, some true => some true
  | _, _ => none
def or3 : T3 → T3 → T3
  | some true, _ => some true
  | _, some true => some true
  | some false, some false => some false
  | _, _ => none
def not3 : T3 → T3
  | some b => some !b
  | none => none
theorem rt3 (t : T3) : Rt (kOf t) (nOf t) ⟨#[]⟩ := by
  cases t with
  | none => exact Rt_nul
  | some b => exact Rt_int _
theorem tri3 (t : T3) : tri (kOf t) (nOf t) ⟨#[]⟩ = t := by
  rcases t with _ | _ | _ <;> rfl
theorem and_tri (k n : Int) (s : ByteArray) (k' n' : Int) (s' : ByteArray) : andK (trueV k n s) (k != 0) (trueV k' n' s') (k' != 0) = kOf (and3 (tri k n s) (tri k' n' s')) ∧ andN (trueV k n s) (k != 0) (trueV k' n' s') (k' != 0) = nOf (and3 (tri k n s) (tri k' n' s')) := by
  unfold trueV tri
  generalize (intV k n s != 0) = b
  generalize (intV k' n' s' != 0) = b'
  by_cases h : k = 0 <;> by_cases h' : k' = 0 <;> simp only [h, h', bne_self_eq_false, if_true, if_false, Bool.false_and, (show (k != 0) = !decide (k = 0) from by simp [bne, h]), (show (k' != 0) = !decide (k' = 0) from by simp [bne, h'])] <;> cases b <;> cases b' <;> simp [andK, andN, and3, kOf, nOf]
theorem or_tri (k n : Int) (s : ByteArray) (k' n' : Int) (s' : ByteArray) : orK (trueV k n s) (k != 0) (trueV k' n' s') (k' != 0) = kOf (or3 (tri k n s) (tri k' n' s')) ∧ orN (trueV k n s) (k != 0) (trueV k' n' s') (k' != 0) = nOf (or3 (tri k n s) (tri k' n' s')) := by
  unfold trueV tri
  generalize (intV k n s != 0) = b
  generalize (intV k' n' s' != 0) = b'
  by_cases h : k = 0 <;> by_cases h' : k' = 0 <;> simp only [h, h', bne_self_eq_false, if_true, if_false, Bool.false_and, (show (k != 0) = !decide (k = 0) from by simp [bne, h]), (show (k' != 0) = !decide (k' = 0) from by simp [bne, h'])] <;> cases b <;> cases b' <;> simp [orK, orN, or3, kOf, nOf]

/-- the sign g makes f of two values -/
def Bx (g : ByteArray) (f : T3 → T3 → T3) : Prop := ∀ (k n : Int) (s : ByteArray) (k' n' : Int) (s' : ByteArray), Rt k n s → Rt k' n' s' → BothIs g k n s k' n' s' (kOf (f (tri k n s) (tri k' n' s'))) (nOf (f (tri k n s) (tri k' n' s'))) ⟨#[]⟩
theorem bx_and : Bx ⟨#[97, 110, 100]⟩ and3 := by
  intro k n s k' n' s' hr hr'
  obtain ⟨h1, h2⟩ := and_tri k n s k' n' s'
  rw [← h1, ← h2]
  exact both_is _ _ _ _ _ _ _ _ _ _ 0 fun W => Op_and k n s k' n' s' W hr hr'
theorem bx_or : Bx ⟨#[111, 114]⟩ or3 := by
  intro k n s k' n' s' hr hr'
  obtain ⟨h1, h2⟩ := or_tri k n s k' n' s'
  rw [← h1, ← h2]
  exact both_is _ _ _ _ _ _ _ _ _ _ 0 fun W => Op_or k n s k' n' s' W hr hr'
theorem b3 {g : ByteArray} {f : T3 → T3 → T3} (h : Bx g f) {k n : Int} {s : ByteArray} {k' n' : Int} {s' : ByteArray} (hr : Rt k n s) (hr' : Rt k' n' s') {t u : T3} (ht : tri k n s = t) (hu : tri k' n' s' = u) : BothIs g k n s k' n' s' (kOf (f t u)) (nOf (f t u)) ⟨#[]⟩ := by
  subst ht hu
  exact h k n s k' n' s' hr hr'
theorem n3 {k n : Int} {s : ByteArray} (hr : Rt k n s) {t : T3} (ht : tri k n s = t) : NotIs k n s (kOf (not3 t)) (nOf (not3 t)) ⟨#[]⟩ := by
  subst ht
  by_cases h : k = 0
  · have e : tri k n s = none := by simp [tri, h]
    rw [e]
    exact fun W => not_any k n s 0 0 ⟨#[]⟩ 0 W fun X => One_not_null k n s X hr h
  · have e : tri k n s = some (intV k n s != 0) := by simp [tri, h]
    have e2 : trueV k n s = (intV k n s != 0) := by simp [trueV, h]
    rw [e]
    refine fun W => not_any k n s 1 _ ⟨#[]⟩ 0 W fun X => One_not k n s X hr h _ ?_
    rw [e2]
    cases (intV k n s != 0) <;> rfl
end Go.Proofs.YtaidipdofomgoaaGreatDoor
