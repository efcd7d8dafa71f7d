/-
  More of what operations leave in their slots: sums, the greater and the less of two, not; and the greater theorems for either kind of region. No conditions.
-/
import Derived.Test.YtceknmibopnmhaaGreatDoorVSlot
import Derived.Test.YtceknmibopnmhaaGreatDoorStepSeq
namespace Go.Proofs.YtceknmibopnmhaaGreatDoor
open Go.ChangeShapes Go.WideShapes Go.ChangeAt Go.RowKit
set_option linter.unusedVariables false
set_option maxRecDepth 100000
section
variable {P : Program} {ops : Array Oper} {Q : Exit → Act → World → Prop} {i : Nat} {a : Act} {w : World} {R : Value → World → Prop}
theorem step_addI {x y : Operand} {t t' : TypeId} {k : IntKind} {m n r : Int} (hop : opO ops i = some (.binOp .add t x y t')) (hw : Wanted ops i a) (hx : a.eval x = .int k m) (hy : a.eval y = .int k n) (hb : k.wrap (m + n) = r) (hR : R (.int k r) w) : wpOp P ops Q i (fun a' w' => ∃ v, a' = a.put (dstO ops i) v ∧ R v w') a w :=
  step_run hop hw (fun o ho => by subst hb; simp [execOp, ho, hx, hy, eqGuard, binOp, Op.intArith]) hR
theorem step_subI {x y : Operand} {t t' : TypeId} {k : IntKind} {m n r : Int} (hop : opO ops i = some (.binOp .sub t x y t')) (hw : Wanted ops i a) (hx : a.eval x = .int k m) (hy : a.eval y = .int k n) (hb : k.wrap (m - n) = r) (hR : R (.int k r) w) : wpOp P ops Q i (fun a' w' => ∃ v, a' = a.put (dstO ops i) v ∧ R v w') a w :=
  step_run hop hw (fun o ho => by subst hb; simp [execOp, ho, hx, hy, eqGuard, binOp, Op.intArith]) hR
theorem step_not {x : Operand} {t : TypeId} {p b : Bool} (hop : opO ops i = some (.unOp .not t x)) (hw : Wanted ops i a) (hx : a.eval x = .bool p) (hb : (!p) = b) (hR : R (.bool b) w) : wpOp P ops Q i (fun a' w' => ∃ v, a' = a.put (dstO ops i) v ∧ R v w') a w :=
  step_run hop hw (fun o ho => by subst hb; simp [execOp, ho, hx, Op.unary]) hR
theorem step_max {x y : Operand} {k : IntKind} {ts : Array TypeId} {m n r : Int} (hop : opO ops i = some (.call { callee := .builtin .max, args := #[x, y], argTypes := ts })) (hw : Wanted ops i a) (hx : a.eval x = .int k m) (hy : a.eval y = .int k n) (hb : max m n = r) (hR : R (.int k r) w) : wpOp P ops Q i (fun a' w' => ∃ v, a' = a.put (dstO ops i) v ∧ R v w') a w :=
  step_run hop hw (fun o ho => by subst hb; simp only [execOp, ho, resolve, List.map_toArray, List.map_cons, List.map_nil, hx, hy]; simp [invoke, builtin, go_sem]) hR
theorem step_min {x y : Operand} {k : IntKind} {ts : Array TypeId} {m n r : Int} (hop : opO ops i = some (.call { callee := .builtin .min, args := #[x, y], argTypes := ts })) (hw : Wanted ops i a) (hx : a.eval x = .int k m) (hy : a.eval y = .int k n) (hb : min m n = r) (hR : R (.int k r) w) : wpOp P ops Q i (fun a' w' => ∃ v, a' = a.put (dstO ops i) v ∧ R v w') a w :=
  step_run hop hw (fun o ho => by subst hb; simp only [execOp, ho, resolve, List.map_toArray, List.map_cons, List.map_nil, hx, hy]; simp [invoke, builtin, go_sem]) hR
theorem region_as2 {id : Nat} {ops' : Array Oper} {b : Bool} (h : ops = ops') (g : (Code.region id ops' b).wp P Q a w) : (Code.region id ops b).wp P Q a w := by
  subst h; exact g
end
end Go.Proofs.YtceknmibopnmhaaGreatDoor
