/-
  Layer 8: AggNumbers: what its regions' operations leave in their slots. No conditions.
-/
import Derived.Test.YtceknmibopnmhaaGreatDoorAEnM
import Derived.Test.YtceknmibopnmhaaGreatDoorSlot
import Derived.Test.YtceknmibopnmhaaGreatDoorStepSeq
namespace Go.Proofs.YtceknmibopnmhaaGreatDoor
open Go.ChangeShapes Go.WideShapes Go.ChangeAt Go.RowKit
set_option linter.unusedVariables false
set_option maxRecDepth 100000

/-- the slot holds a slice of these values -/
def IsL (l : List Trip) : Value → World → Prop := fun v w => ∃ b, v = .slice (some ⟨b, 0, none⟩) l.length l.length ∧ RdT w (some ⟨b, 0, none⟩) l
theorem mono_isL (l : List Trip) : MonoF (IsL l) := fun _ _ _ ⟨b, e, h⟩ hb => ⟨b, e, h.on hb⟩
theorem upto_zero {p : Nat → Prop} : ∀ i, i < 0 → p i := fun i h => absurd h (Nat.not_lt_zero i)
theorem upto_succ {p : Nat → Prop} {n : Nat} (h : ∀ i, i < n → p i) (hn : p n) : ∀ i, i < n + 1 → p i := by
  intro i hi
  rcases Nat.lt_succ_iff_lt_or_eq.1 hi with h1 | h1
  · exact h i h1
  · subst h1; exact hn
theorem map0 (f : Operand → Value) : (#[] : Array Operand).map f = #[] := by simp
/-- p's value, from now on -/
def BoxOn (w0 : World) (p : Nat) (k n : Int) (s : ByteArray) : Prop := ∀ w, Below w0.heap.size w0 w → BoxT w p (k, n, s)
/-- comes tells so, of any list that reads so -/
def CmIs (w0 : World) (k n : Int) (s name : ByteArray) (d : Bool) (vs : List Trip) (r : Bool) : Prop := ∀ (w : World) (b : Nat), Below w0.heap.size w0 w → RdT w (some ⟨b, 0, none⟩) vs → Calls Tryz.prog 27 #[vv k n s, .string name, .bool d, .slice (some ⟨b, 0, none⟩) vs.length vs.length] w fun e w' => e = .returned (.bool r) ∧ Below w.heap.size w w'
def ErIs (w0 : World) (q : Int) (name : ByteArray) (vs : List Trip) : Prop := ∀ (w : World) (b : Nat), Below w0.heap.size w0 w → RdT w (some ⟨b, 0, none⟩) vs → Calls Tryz.prog 33 #[.int .i64 q, .string name, .slice (some ⟨b, 0, none⟩) vs.length vs.length] w fun e w' => e = .returned (.bool true) ∧ Below w.heap.size w w'
def AwOn (w0 : World) : Prop := ∀ w : World, Below w0.heap.size w0 w → Calls Tryz.prog 34 #[] w fun e w' => e = .returned (.bool true) ∧ Below w.heap.size w w'
theorem cm_is {name : ByteArray} {all d : Bool} {fin : Bool → List Trip → Trip × Int} (hn : Named name all fin) (had : (all && d) = false) (k n : Int) (s : ByteArray) (vs : List Trip) (r : Bool) (hr : (decide ((fin d (valsOf all vs)).2 = 0) && decide ((fin d (valsOf all vs)).1 = (k, n, s))) = r) (hg : ∀ t ∈ vs, GoodT t) (hl : vs.length ≤ 1000) {w0 : World} (hW : Wd w0) : CmIs w0 k n s name d vs r := by
  intro w b hb hR
  have h := comes_any hn had (k, n, s) w (hW.on hb) (some ⟨b, 0, none⟩) vs.length vs hR hg hl (Nat.le_refl _)
  rw [hr] at h
  exact h
theorem er_is {name : ByteArray} {all : Bool} {fin : Bool → List Trip → Trip × Int} (hn : Named name all fin) (q : Int) (vs : List Trip) (hr : fin false (valsOf all vs) = (nuT, q)) (hg : ∀ t ∈ vs, GoodT t) (hl : vs.length ≤ 1000) {w0 : World} (hW : Wd w0) : ErIs w0 q name vs := by
  intro w b hb hR
  refine (errs_any hn q w (hW.on hb) (some ⟨b, 0, none⟩) vs.length vs hR hg hl (Nat.le_refl _)).mono ?_
  rintro e w' ⟨rfl, hb⟩
  exact ⟨by rw [hr]; simp, hb⟩
def sameV (k n : Int) (s : ByteArray) (k' n' : Int) (s' : ByteArray) : Bool := decide (k = k' ∧ n = n' ∧ s = s')
theorem toList_beq (s t : ByteArray) : (s.toList == t.toList) = decide (s = t) := by
  rcases s with ⟨⟨l⟩⟩
  rcases t with ⟨⟨m⟩⟩
  rw [Bool.eq_iff_iff]
  simp [ByteArray.toList_eq]
theorem same_self (k n : Int) (s : ByteArray) : sameV k n s k n s = true := by simp [sameV]
section
variable {ops : Array Oper} {Q : Exit → Act → World → Prop} {i : Nat} {a : Act} {w : World} {R : Value → World → Prop}
theorem step_loadB {x : Operand} {p : Nat} {k n : Int} {s : ByteArray} (hop : opO ops i = some (.load 24 x)) (hw : Wanted ops i a) (hx : a.eval x = .pointer (some ⟨p, 0, none⟩)) (hn : BoxT w p (k, n, s)) (hR : R (vv k n s) w) : wpOp Tryz.prog ops Q i (fun a' w' => ∃ v, a' = a.put (dstO ops i) v ∧ R v w') a w := by
  obtain ⟨h0, h1, h2⟩ := hn.cells
  dsimp only at h0 h1 h2
  refine step_run (v := vv k n s) hop hw (fun o ho => ?_) hR
  simp only [execOp, ho, hx]
  simp [go_sem, h0, h1, h2]
theorem step_eqV {x y : Operand} {k n : Int} {s : ByteArray} {k' n' : Int} {s' : ByteArray} {b : Bool} (hop : opO ops i = some (.binOp .eql 24 x y 24)) (hw : Wanted ops i a) (hx : a.eval x = vv k n s) (hy : a.eval y = vv k' n' s') (hb : sameV k n s k' n' s' = b) (hR : R (.bool b) w) : wpOp Tryz.prog ops Q i (fun a' w' => ∃ v, a' = a.put (dstO ops i) v ∧ R v w') a w := by
  refine step_run (v := .bool b) hop hw (fun o ho => ?_) hR
  subst hb
  simp only [execOp, ho, hx, hy]
  by_cases h1 : k = k' <;> by_cases h2 : n = n' <;> by_cases h3 : s = s' <;> simp [go_sem, eqGuard, sameV, toList_beq, h1, h2, h3]
theorem step_neI {P : Program} {x y : Operand} {t t' : TypeId} {k : IntKind} {m n : Int} {b : Bool} (hop : opO ops i = some (.binOp .neq t x y t')) (hw : Wanted ops i a) (hx : a.eval x = .int k m) (hy : a.eval y = .int k n) (hb : (m != n) = b) (hR : R (.bool b) w) : wpOp P ops Q i (fun a' w' => ∃ v, a' = a.put (dstO ops i) v ∧ R v w') a w :=
  step_run hop hw (fun o ho => by subst hb; simp [execOp, ho, hx, hy, eqGuard, binOp, Op.intCmp]) hR
theorem step_addI {x y : Operand} {t t' : TypeId} {k : IntKind} {m n r : Int} (hop : opO ops i = some (.binOp .add t x y t')) (hw : Wanted ops i a) (hx : a.eval x = .int k m) (hy : a.eval y = .int k n) (hb : k.wrap (m + n) = r) (hR : R (.int k r) w) : wpOp Tryz.prog ops Q i (fun a' w' => ∃ v, a' = a.put (dstO ops i) v ∧ R v w') a w :=
  step_run hop hw (fun o ho => by subst hb; simp [execOp, ho, hx, hy, eqGuard, binOp, Op.intArith]) hR
theorem step_addS {x y : Operand} {t t' : TypeId} {m n r : ByteArray} (hop : opO ops i = some (.binOp .add t x y t')) (hw : Wanted ops i a) (hx : a.eval x = .string m) (hy : a.eval y = .string n) (hb : (m.size : Int) + n.size ≤ 9223372036854775807 ∧ m ++ n = r) (hR : R (.string r) w) : wpOp Tryz.prog ops Q i (fun a' w' => ∃ v, a' = a.put (dstO ops i) v ∧ R v w') a w :=
  step_run hop hw (fun o ho => by obtain ⟨hz, rfl⟩ := hb; simp [execOp, ho, hx, hy, eqGuard, binOp, Op.stringOp, hz]) hR
theorem step_not {x : Operand} {t : TypeId} {p b : Bool} (hop : opO ops i = some (.unOp .not t x)) (hw : Wanted ops i a) (hx : a.eval x = .bool p) (hb : (!p) = b) (hR : R (.bool b) w) : wpOp Tryz.prog ops Q i (fun a' w' => ∃ v, a' = a.put (dstO ops i) v ∧ R v w') a w :=
  step_run hop hw (fun o ho => by subst hb; simp [execOp, ho, hx, Op.unary]) hR
theorem step_sliceFrom1 {x : Operand} {s r : ByteArray} (hop : opO ops i = some (.slice 9 x (some (.const (.int .i64 1))) none none)) (hw : Wanted ops i a) (hx : a.eval x = .string s) (h1 : (1 : Int) ≤ s.size) (hb : s.extract 1 s.size = r) (hR : R (.string r) w) : wpOp Tryz.prog ops Q i (fun a' w' => ∃ v, a' = a.put (dstO ops i) v ∧ R v w') a w :=
  step_run hop hw (fun o ho => by subst hb; simp only [execOp, ho, hx, Option.map]; simp [Instr.sliceAt, go_sem, h1]) hR
theorem step_buildT {xs : Array (Nat × Operand)} {n : Nat} (vs : List Trip) (hop : opO ops i = some (.buildSlice 27 n xs)) (hw : Wanted ops i a) (hn : n = vs.length)
    (hrun : (execOp a.eval { dst := none, op := .buildSlice 27 n xs, type := 0, pos := "", after := #[], guard := none }).run Tryz.prog w = .ok (.value (.slice (some ⟨w.heap.size, 0, none⟩) vs.length vs.length)) (w.alloc (.cells (cellsT vs).toArray 24)))
    (hR : ∀ b, RdT (w.alloc (.cells (cellsT vs).toArray 24)) (some ⟨b, 0, none⟩) vs → Below w.heap.size w (w.alloc (.cells (cellsT vs).toArray 24)) → R (.slice (some ⟨b, 0, none⟩) vs.length vs.length) (w.alloc (.cells (cellsT vs).toArray 24))) :
    wpOp Tryz.prog ops Q i (fun a' w' => ∃ v, a' = a.put (dstO ops i) v ∧ R v w') a w := by
  refine step_run (v := .slice (some ⟨w.heap.size, 0, none⟩) vs.length vs.length) (w' := w.alloc (.cells (cellsT vs).toArray 24)) hop hw (fun o ho => ?_) (hR _ (rdt_built w vs) ((Below.refl _ _).alloc (Nat.le_refl _) _))
  rw [← hrun]
  simp only [execOp, ho]
theorem step_build1 {x : Operand} {k n : Int} {s : ByteArray} (hop : opO ops i = some (.buildSlice 27 1 #[(0, x)])) (hw : Wanted ops i a) (hx : a.eval x = vv k n s)
    (hR : ∀ b, RdT (w.alloc (.cells (cellsT [(k, n, s)]).toArray 24)) (some ⟨b, 0, none⟩) [(k, n, s)] → Below w.heap.size w (w.alloc (.cells (cellsT [(k, n, s)]).toArray 24)) → R (.slice (some ⟨b, 0, none⟩) [(k, n, s)].length [(k, n, s)].length) (w.alloc (.cells (cellsT [(k, n, s)]).toArray 24))) : wpOp Tryz.prog ops Q i (fun a' w' => ∃ v, a' = a.put (dstO ops i) v ∧ R v w') a w := by
  refine step_buildT [(k, n, s)] hop hw rfl ?_ hR
  simp only [execOp, List.map_toArray, List.map_cons, List.map_nil, hx]
  simp [go_sem, cellsT]
theorem step_build2 {x y : Operand} {k n : Int} {s : ByteArray} {k2 n2 : Int} {s2 : ByteArray} (hop : opO ops i = some (.buildSlice 27 2 #[(0, x), (1, y)])) (hw : Wanted ops i a) (hx : a.eval x = vv k n s) (hy : a.eval y = vv k2 n2 s2)
    (hR : ∀ b, RdT (w.alloc (.cells (cellsT [(k, n, s), (k2, n2, s2)]).toArray 24)) (some ⟨b, 0, none⟩) [(k, n, s), (k2, n2, s2)] → Below w.heap.size w (w.alloc (.cells (cellsT [(k, n, s), (k2, n2, s2)]).toArray 24)) → R (.slice (some ⟨b, 0, none⟩) [(k, n, s), (k2, n2, s2)].length [(k, n, s), (k2, n2, s2)].length) (w.alloc (.cells (cellsT [(k, n, s), (k2, n2, s2)]).toArray 24))) : wpOp Tryz.prog ops Q i (fun a' w' => ∃ v, a' = a.put (dstO ops i) v ∧ R v w') a w := by
  refine step_buildT [(k, n, s), (k2, n2, s2)] hop hw rfl ?_ hR
  simp only [execOp, List.map_toArray, List.map_cons, List.map_nil, hx, hy]
  simp [go_sem, cellsT]
theorem step_build3 {x y z : Operand} {k n : Int} {s : ByteArray} {k2 n2 : Int} {s2 : ByteArray} {k3 n3 : Int} {s3 : ByteArray} (hop : opO ops i = some (.buildSlice 27 3 #[(0, x), (1, y), (2, z)])) (hw : Wanted ops i a) (hx : a.eval x = vv k n s) (hy : a.eval y = vv k2 n2 s2) (hz : a.eval z = vv k3 n3 s3)
    (hR : ∀ b, RdT (w.alloc (.cells (cellsT [(k, n, s), (k2, n2, s2), (k3, n3, s3)]).toArray 24)) (some ⟨b, 0, none⟩) [(k, n, s), (k2, n2, s2), (k3, n3, s3)] → Below w.heap.size w (w.alloc (.cells (cellsT [(k, n, s), (k2, n2, s2), (k3, n3, s3)]).toArray 24)) → R (.slice (some ⟨b, 0, none⟩) [(k, n, s), (k2, n2, s2), (k3, n3, s3)].length [(k, n, s), (k2, n2, s2), (k3, n3, s3)].length) (w.alloc (.cells (cellsT [(k, n, s), (k2, n2, s2), (k3, n3, s3)]).toArray 24))) : wpOp Tryz.prog ops Q i (fun a' w' => ∃ v, a' = a.put (dstO ops i) v ∧ R v w') a w := by
  refine step_buildT [(k, n, s), (k2, n2, s2), (k3, n3, s3)] hop hw rfl ?_ hR
  simp only [execOp, List.map_toArray, List.map_cons, List.map_nil, hx, hy, hz]
  simp [go_sem, cellsT]
theorem step_build4 {x y z q : Operand} {k n : Int} {s : ByteArray} {k2 n2 : Int} {s2 : ByteArray} {k3 n3 : Int} {s3 : ByteArray} {k4 n4 : Int} {s4 : ByteArray} (hop : opO ops i = some (.buildSlice 27 4 #[(0, x), (1, y), (2, z), (3, q)])) (hw : Wanted ops i a) (hx : a.eval x = vv k n s) (hy : a.eval y = vv k2 n2 s2) (hz : a.eval z = vv k3 n3 s3) (hq : a.eval q = vv k4 n4 s4)
    (hR : ∀ b, RdT (w.alloc (.cells (cellsT [(k, n, s), (k2, n2, s2), (k3, n3, s3), (k4, n4, s4)]).toArray 24)) (some ⟨b, 0, none⟩) [(k, n, s), (k2, n2, s2), (k3, n3, s3), (k4, n4, s4)] → Below w.heap.size w (w.alloc (.cells (cellsT [(k, n, s), (k2, n2, s2), (k3, n3, s3), (k4, n4, s4)]).toArray 24)) → R (.slice (some ⟨b, 0, none⟩) [(k, n, s), (k2, n2, s2), (k3, n3, s3), (k4, n4, s4)].length [(k, n, s), (k2, n2, s2), (k3, n3, s3), (k4, n4, s4)].length) (w.alloc (.cells (cellsT [(k, n, s), (k2, n2, s2), (k3, n3, s3), (k4, n4, s4)]).toArray 24))) : wpOp Tryz.prog ops Q i (fun a' w' => ∃ v, a' = a.put (dstO ops i) v ∧ R v w') a w := by
  refine step_buildT [(k, n, s), (k2, n2, s2), (k3, n3, s3), (k4, n4, s4)] hop hw rfl ?_ hR
  simp only [execOp, List.map_toArray, List.map_cons, List.map_nil, hx, hy, hz, hq]
  simp [go_sem, cellsT]
end
theorem region_asE {ops ops' : Array Oper} {P : Program} {Q : Exit → Act → World → Prop} {a : Act} {w : World} {id : Nat} {b : Bool} (h : ops = ops') (g : (Code.region id ops' b).wp P Q a w) : (Code.region id ops b).wp P Q a w := by
  subst h
  exact g
end Go.Proofs.YtceknmibopnmhaaGreatDoor
