/-
  What the operations of a region leave in their slots, where values of layer 2 are boxed, loaded and compared. No conditions.
-/
import Derived.Test.YtceknmibopnmhaaGreatDoorVAwW
namespace Go.Proofs.YtceknmibopnmhaaGreatDoor
open Go.ChangeShapes Go.WideShapes Go.ChangeAt Go.RowKit
set_option linter.unusedVariables false
set_option maxRecDepth 100000

theorem map0 (f : Operand → Value) : (#[] : Array Operand).map f = #[] := by simp
/-- the boxed value at p -/
def BoxAt (p : Nat) (k n : Int) (s : ByteArray) (w : World) : Prop := w.cell? ⟨p, 0, none⟩ = some (.int .u8 k) ∧ w.cell? ⟨p, 1, none⟩ = some (.int .i64 n) ∧ w.cell? ⟨p, 2, none⟩ = some (.string s)
/-- p's value, from now on -/
def BoxOn (w0 : World) (p : Nat) (k n : Int) (s : ByteArray) : Prop := ∀ w, Below w0.heap.size w0 w → BoxAt p k n s w

section
variable {ops : Array Oper} {Q : Exit → Act → World → Prop} {i : Nat} {a : Act} {w : World} {R : Value → World → Prop}
theorem step_loadB {x : Operand} {p : Nat} {k n : Int} {s : ByteArray} (hop : opO ops i = some (.load 24 x)) (hw : Wanted ops i a) (hx : a.eval x = .pointer (some ⟨p, 0, none⟩)) (hn : BoxAt p k n s w) (hR : R (vv k n s) w) : wpOp Tryz.prog ops Q i (fun a' w' => ∃ v, a' = a.put (dstO ops i) v ∧ R v w') a w := by
  obtain ⟨h0, h1, h2⟩ := hn
  refine step_run (v := vv k n s) hop hw (fun o ho => ?_) hR
  simp only [execOp, ho, hx]
  simp [go_sem, h0, h1, h2]
theorem step_fieldN {x : Operand} {p : Nat} (hop : opO ops i = some (.fieldAddr 24 x 1)) (hw : Wanted ops i a) (hx : a.eval x = .pointer (some ⟨p, 0, none⟩)) (hR : R (.pointer (some ⟨p, 1, none⟩)) w) : wpOp Tryz.prog ops Q i (fun a' w' => ∃ v, a' = a.put (dstO ops i) v ∧ R v w') a w := by
  refine step_run hop hw (fun o ho => ?_) hR
  simp only [execOp, ho, hx]
  simp [go_sem]
theorem step_fieldK {x : Operand} {p : Nat} (hop : opO ops i = some (.fieldAddr 24 x 0)) (hw : Wanted ops i a) (hx : a.eval x = .pointer (some ⟨p, 0, none⟩)) (hR : R (.pointer (some ⟨p, 0, none⟩)) w) : wpOp Tryz.prog ops Q i (fun a' w' => ∃ v, a' = a.put (dstO ops i) v ∧ R v w') a w := by
  refine step_run hop hw (fun o ho => ?_) hR
  simp only [execOp, ho, hx]
  simp [go_sem]
theorem step_loadN {x : Operand} {p : Nat} {k n : Int} {s : ByteArray} (hop : opO ops i = some (.load 2 x)) (hw : Wanted ops i a) (hx : a.eval x = .pointer (some ⟨p, 1, none⟩)) (hn : BoxAt p k n s w) (hR : R (.int .i64 n) w) : wpOp Tryz.prog ops Q i (fun a' w' => ∃ v, a' = a.put (dstO ops i) v ∧ R v w') a w := by
  obtain ⟨h0, h1, h2⟩ := hn
  refine step_run hop hw (fun o ho => ?_) hR
  simp only [execOp, ho, hx]
  simp [go_sem, h1]
theorem step_loadK {x : Operand} {p : Nat} {k n : Int} {s : ByteArray} (hop : opO ops i = some (.load 22 x)) (hw : Wanted ops i a) (hx : a.eval x = .pointer (some ⟨p, 0, none⟩)) (hn : BoxAt p k n s w) (hR : R (.int .u8 k) w) : wpOp Tryz.prog ops Q i (fun a' w' => ∃ v, a' = a.put (dstO ops i) v ∧ R v w') a w := by
  obtain ⟨h0, h1, h2⟩ := hn
  refine step_run hop hw (fun o ho => ?_) hR
  simp only [execOp, ho, hx]
  simp [go_sem, h0]
theorem step_fldN {x : Operand} {k n : Int} {s : ByteArray} (hop : opO ops i = some (.field 24 x 1)) (hw : Wanted ops i a) (hx : a.eval x = vv k n s) (hR : R (.int .i64 n) w) : wpOp Tryz.prog ops Q i (fun a' w' => ∃ v, a' = a.put (dstO ops i) v ∧ R v w') a w := by
  refine step_run hop hw (fun o ho => ?_) hR
  simp only [execOp, ho, hx]
  simp [go_sem, Instr.field, run_underlying Tryz.underlying24, asAgg]
theorem step_nul (hop : opO ops i = some (.build 24 #[])) (hw : Wanted ops i a) (hR : R nul w) : wpOp Tryz.prog ops Q i (fun a' w' => ∃ v, a' = a.put (dstO ops i) v ∧ R v w') a w := by
  refine step_run hop hw (fun o ho => ?_) hR
  simp only [execOp, ho, List.map_toArray, List.map_nil]
  simp [go_sem]
/-- are they one? -/
def sameV (k n : Int) (s : ByteArray) (k' n' : Int) (s' : ByteArray) : Bool := decide (k = k' ∧ n = n' ∧ s = s')
theorem same_self (k n : Int) (s : ByteArray) : sameV k n s k n s = true := by simp [sameV]
theorem toList_beq (s t : ByteArray) : (s.toList == t.toList) = decide (s = t) := by
  rcases s with ⟨⟨l⟩⟩
  rcases t with ⟨⟨m⟩⟩
  rw [Bool.eq_iff_iff]
  simp [ByteArray.toList_eq]
theorem step_eqV {x y : Operand} {k n : Int} {s : ByteArray} {k' n' : Int} {s' : ByteArray} {b : Bool} (hop : opO ops i = some (.binOp .eql 24 x y 24)) (hw : Wanted ops i a) (hx : a.eval x = vv k n s) (hy : a.eval y = vv k' n' s') (hb : sameV k n s k' n' s' = b) (hR : R (.bool b) w) : wpOp Tryz.prog ops Q i (fun a' w' => ∃ v, a' = a.put (dstO ops i) v ∧ R v w') a w := by
  refine step_run (v := .bool b) hop hw (fun o ho => ?_) hR
  subst hb
  simp only [execOp, ho, hx, hy]
  by_cases h1 : k = k' <;> by_cases h2 : n = n' <;> by_cases h3 : s = s' <;> simp [go_sem, eqGuard, sameV, toList_beq, h1, h2, h3]
theorem step_neV {x y : Operand} {k n : Int} {s : ByteArray} {k' n' : Int} {s' : ByteArray} {b : Bool} (hop : opO ops i = some (.binOp .neq 24 x y 24)) (hw : Wanted ops i a) (hx : a.eval x = vv k n s) (hy : a.eval y = vv k' n' s') (hb : (!sameV k n s k' n' s') = b) (hR : R (.bool b) w) : wpOp Tryz.prog ops Q i (fun a' w' => ∃ v, a' = a.put (dstO ops i) v ∧ R v w') a w := by
  refine step_run (v := .bool b) hop hw (fun o ho => ?_) hR
  subst hb
  simp only [execOp, ho, hx, hy]
  by_cases h1 : k = k' <;> by_cases h2 : n = n' <;> by_cases h3 : s = s' <;> simp [go_sem, eqGuard, sameV, toList_beq, h1, h2, h3]
theorem step_neI {P : Program} {x y : Operand} {t t' : TypeId} {k : IntKind} {m n : Int} {b : Bool} (hop : opO ops i = some (.binOp .neq t x y t')) (hw : Wanted ops i a) (hx : a.eval x = .int k m) (hy : a.eval y = .int k n) (hb : (m != n) = b) (hR : R (.bool b) w) : wpOp P ops Q i (fun a' w' => ∃ v, a' = a.put (dstO ops i) v ∧ R v w') a w :=
  step_run hop hw (fun o ho => by subst hb; simp [execOp, ho, hx, hy, eqGuard, binOp, Op.intCmp]) hR
theorem step_ltI {P : Program} {x y : Operand} {t t' : TypeId} {k : IntKind} {m n : Int} {b : Bool} (hop : opO ops i = some (.binOp .lss t x y t')) (hw : Wanted ops i a) (hx : a.eval x = .int k m) (hy : a.eval y = .int k n) (hb : decide (m < n) = b) (hR : R (.bool b) w) : wpOp P ops Q i (fun a' w' => ∃ v, a' = a.put (dstO ops i) v ∧ R v w') a w :=
  step_run hop hw (fun o ho => by subst hb; simp [execOp, ho, hx, hy, eqGuard, binOp, Op.intCmp]) hR
theorem step_leI {P : Program} {x y : Operand} {t t' : TypeId} {k : IntKind} {m n : Int} {b : Bool} (hop : opO ops i = some (.binOp .leq t x y t')) (hw : Wanted ops i a) (hx : a.eval x = .int k m) (hy : a.eval y = .int k n) (hb : decide (m ≤ n) = b) (hR : R (.bool b) w) : wpOp P ops Q i (fun a' w' => ∃ v, a' = a.put (dstO ops i) v ∧ R v w') a w :=
  step_run hop hw (fun o ho => by subst hb; simp [execOp, ho, hx, hy, eqGuard, binOp, Op.intCmp]) hR
theorem step_gtI {P : Program} {x y : Operand} {t t' : TypeId} {k : IntKind} {m n : Int} {b : Bool} (hop : opO ops i = some (.binOp .gtr t x y t')) (hw : Wanted ops i a) (hx : a.eval x = .int k m) (hy : a.eval y = .int k n) (hb : decide (n < m) = b) (hR : R (.bool b) w) : wpOp P ops Q i (fun a' w' => ∃ v, a' = a.put (dstO ops i) v ∧ R v w') a w :=
  step_run hop hw (fun o ho => by subst hb; simp [execOp, ho, hx, hy, eqGuard, binOp, Op.intCmp]) hR
theorem step_geI {P : Program} {x y : Operand} {t t' : TypeId} {k : IntKind} {m n : Int} {b : Bool} (hop : opO ops i = some (.binOp .geq t x y t')) (hw : Wanted ops i a) (hx : a.eval x = .int k m) (hy : a.eval y = .int k n) (hb : decide (n ≤ m) = b) (hR : R (.bool b) w) : wpOp P ops Q i (fun a' w' => ∃ v, a' = a.put (dstO ops i) v ∧ R v w') a w :=
  step_run hop hw (fun o ho => by subst hb; simp [execOp, ho, hx, hy, eqGuard, binOp, Op.intCmp]) hR
theorem step_neB {x y : Operand} {p q b : Bool} (hop : opO ops i = some (.binOp .neq 4 x y 4)) (hw : Wanted ops i a) (hx : a.eval x = .bool p) (hy : a.eval y = .bool q) (hb : (p != q) = b) (hR : R (.bool b) w) : wpOp Tryz.prog ops Q i (fun a' w' => ∃ v, a' = a.put (dstO ops i) v ∧ R v w') a w := by
  refine step_run (v := .bool b) hop hw (fun o ho => ?_) hR
  subst hb
  simp only [execOp, ho, hx, hy]
  cases p <;> cases q <;> simp [go_sem, eqGuard, binOp, run_equal_bool _ _ _ _ Tryz.underlying4]
theorem step_eqB {x y : Operand} {p q b : Bool} (hop : opO ops i = some (.binOp .eql 4 x y 4)) (hw : Wanted ops i a) (hx : a.eval x = .bool p) (hy : a.eval y = .bool q) (hb : (p == q) = b) (hR : R (.bool b) w) : wpOp Tryz.prog ops Q i (fun a' w' => ∃ v, a' = a.put (dstO ops i) v ∧ R v w') a w := by
  refine step_run (v := .bool b) hop hw (fun o ho => ?_) hR
  subst hb
  simp only [execOp, ho, hx, hy]
  simp [go_sem, eqGuard, binOp, run_equal_bool _ _ _ _ Tryz.underlying4]
theorem step_neg {P : Program} {x : Operand} {t : TypeId} {m n : Int} (hop : opO ops i = some (.unOp .neg t x)) (hw : Wanted ops i a) (hx : a.eval x = .int .i64 m) (hn : IntKind.i64.wrap (-m) = n) (hR : R (.int .i64 n) w) : wpOp P ops Q i (fun a' w' => ∃ v, a' = a.put (dstO ops i) v ∧ R v w') a w :=
  step_run hop hw (fun o ho => by subst hn; simp [execOp, ho, hx, Op.unary, Op.intArith]) hR
theorem step_extract {P : Program} {x : Operand} {vs : Array Value} {j : Nat} {v : Value} (hop : opO ops i = some (.extract x j)) (hw : Wanted ops i a) (hx : a.eval x = .tuple vs) (hv : vs[j]? = some v) (hR : R v w) : wpOp P ops Q i (fun a' w' => ∃ v, a' = a.put (dstO ops i) v ∧ R v w') a w :=
  step_run hop hw (fun o ho => by simp [execOp, ho, hx, Instr.extract, hv]) hR
end
end Go.Proofs.YtceknmibopnmhaaGreatDoor
