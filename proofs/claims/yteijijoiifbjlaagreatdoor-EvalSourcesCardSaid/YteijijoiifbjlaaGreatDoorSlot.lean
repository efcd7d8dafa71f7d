/-
  What the operations of a region leave in their slots: moves, choices, comparisons, loads. No conditions.
-/
import Derived.Test.YteijijoiifbjlaaGreatDoorStep
import Derived.WalkKit
import Derived.ProofKit
namespace Go.Proofs.YteijijoiifbjlaaGreatDoor
open Go.RowKit
set_option linter.unusedVariables false

/-- the slot holds just that -/
def IsV (x : Value) : Value → World → Prop := fun v _ => v = x
def MonoF (p : Value → World → Prop) : Prop := ∀ v w w', p v w → Below w.heap.size w w' → p v w'
theorem mono_isV (x : Value) : MonoF (IsV x) := fun _ _ _ h _ => h
def AnyF : Value → World → Prop := fun _ _ => True
theorem mono_any : MonoF AnyF := fun _ _ _ _ _ => trivial
theorem monoL {l : List (Value → World → Prop)} (h : ∀ p ∈ l, MonoF p) (i : Nat) (v : Value) (w w' : World) (hp : (l.getD i AnyF) v w) (hb : Below w.heap.size w w') : (l.getD i AnyF) v w' := by
  by_cases hi : i < l.length
  · have e : l.getD i AnyF = l[i] := by simp [List.getD, hi]
    rw [e] at hp ⊢
    exact h _ (List.getElem_mem hi) v w w' hp hb
  · have e : l.getD i AnyF = AnyF := by simp [List.getD, Nat.le_of_not_lt hi]
    rw [e]
    trivial

theorem map1 {f : Operand → Value} {x : Operand} {v : Value} (h : f x = v) : (#[x] : Array Operand).map f = #[v] := by simp [h]
theorem map2 {f : Operand → Value} {x y : Operand} {v u : Value} (h : f x = v) (g : f y = u) : (#[x, y] : Array Operand).map f = #[v, u] := by simp [h, g]
theorem map3 {f : Operand → Value} {x y z : Operand} {v u t : Value} (h : f x = v) (g : f y = u) (k : f z = t) : (#[x, y, z] : Array Operand).map f = #[v, u, t] := by simp [h, g, k]
theorem map4 {f : Operand → Value} {x y z q : Operand} {v u t s : Value} (h : f x = v) (g : f y = u) (k : f z = t) (l : f q = s) : (#[x, y, z, q] : Array Operand).map f = #[v, u, t, s] := by simp [h, g, k, l]

section
variable {P : Program} {ops : Array Oper} {Q : Exit → Act → World → Prop} {i : Nat} {a : Act} {w : World} {R : Value → World → Prop}
theorem step_move {x : Operand} {v : Value} (hop : opO ops i = some (.move x)) (hw : Wanted ops i a) (hv : a.eval x = v) (hR : R v w) : wpOp P ops Q i (fun a' w' => ∃ v, a' = a.put (dstO ops i) v ∧ R v w') a w :=
  step_run hop hw (fun o ho => by simp [execOp, ho, hv]) hR
theorem step_assign {x : Operand} {v : Value} (hop : opO ops i = some (.assign x)) (hw : Wanted ops i a) (hv : a.eval x = v) (hR : R v w) : wpOp P ops Q i (fun a' w' => ∃ v, a' = a.put (dstO ops i) v ∧ R v w') a w :=
  step_run hop hw (fun o ho => by simp [execOp, ho, hv]) hR
theorem step_pickT {x y z : Operand} {v : Value} (hop : opO ops i = some (.pick x y z)) (hw : Wanted ops i a) (hb : a.eval x = .bool true) (hv : a.eval y = v) (hR : R v w) : wpOp P ops Q i (fun a' w' => ∃ v, a' = a.put (dstO ops i) v ∧ R v w') a w :=
  step_run hop hw (fun o ho => by simp only [execOp, ho, hb]; subst hv; rfl) hR
theorem step_pickF {x y z : Operand} {v : Value} (hop : opO ops i = some (.pick x y z)) (hw : Wanted ops i a) (hb : a.eval x = .bool false) (hv : a.eval z = v) (hR : R v w) : wpOp P ops Q i (fun a' w' => ∃ v, a' = a.put (dstO ops i) v ∧ R v w') a w :=
  step_run hop hw (fun o ho => by simp only [execOp, ho, hb]; subst hv; rfl) hR
theorem step_eqI {x y : Operand} {t t' : TypeId} {k : IntKind} {m n : Int} {b : Bool} (hop : opO ops i = some (.binOp .eql t x y t')) (hw : Wanted ops i a) (hx : a.eval x = .int k m) (hy : a.eval y = .int k n) (hb : (m == n) = b) (hR : R (.bool b) w) : wpOp P ops Q i (fun a' w' => ∃ v, a' = a.put (dstO ops i) v ∧ R v w') a w :=
  step_run hop hw (fun o ho => by subst hb; simp [execOp, ho, hx, hy, eqGuard, binOp, Op.intCmp]) hR
theorem step_eqS {x y : Operand} {t t' : TypeId} {m n : ByteArray} {b : Bool} (hop : opO ops i = some (.binOp .eql t x y t')) (hw : Wanted ops i a) (hx : a.eval x = .string m) (hy : a.eval y = .string n) (hb : (m.toList == n.toList) = b) (hR : R (.bool b) w) : wpOp P ops Q i (fun a' w' => ∃ v, a' = a.put (dstO ops i) v ∧ R v w') a w :=
  step_run hop hw (fun o ho => by subst hb; simp [execOp, ho, hx, hy, eqGuard, binOp, Op.stringOp]) hR
end
end Go.Proofs.YteijijoiifbjlaaGreatDoor
