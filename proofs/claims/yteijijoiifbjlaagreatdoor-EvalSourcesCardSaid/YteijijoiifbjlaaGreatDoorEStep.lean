/-
  Layer 13, eval: operations of regions: loads, stores, slices and expressions that are built. No conditions.
-/
import Derived.Test.YteijijoiifbjlaaGreatDoorEKnd
import Derived.Test.YteijijoiifbjlaaGreatDoorStepBoxM
import Derived.Test.YteijijoiifbjlaaGreatDoorSlot
namespace Go.Proofs.YteijijoiifbjlaaGreatDoor
open Go.ChangeShapes Go.WideShapes Go.ChangeAt Go.RowKit
set_option linter.unusedVariables false
set_option linter.unusedSimpArgs false
set_option maxRecDepth 100000

theorem map0 (f : Operand → Value) : (#[] : Array Operand).map f = #[] := by simp
/-- the boxed value at p -/
def BoxAt (p : Nat) (k n : Int) (s : ByteArray) (w : World) : Prop := w.cell? ⟨p, 0, none⟩ = some (.int .u8 k) ∧ w.cell? ⟨p, 1, none⟩ = some (.int .i64 n) ∧ w.cell? ⟨p, 2, none⟩ = some (.string s)
/-- p's value, from now on -/
def BoxOn (w0 : World) (p : Nat) (k n : Int) (s : ByteArray) : Prop := ∀ w, Below w0.heap.size w0 w → BoxAt p k n s w

/-- a block that is empty yet -/
def NewAt (p : Nat) (w : World) : Prop := BoxAt p 0 0 ⟨#[]⟩ w ∧ w.frozen? ⟨p, 0, none⟩ = false ∧ w.frozen? ⟨p, 1, none⟩ = false ∧ w.frozen? ⟨p, 2, none⟩ = false
theorem new_keep (p : Nat) (w w' : World) (h : NewAt p w) (hp : p < w.heap.size) (hb : Below w.heap.size w w') : NewAt p w' := by
  obtain ⟨hc, hf⟩ := bcell hb
  obtain ⟨⟨h0, h1, h2⟩, f0, f1, f2⟩ := h
  exact ⟨⟨(hc _ _ hp).trans h0, (hc _ _ hp).trans h1, (hc _ _ hp).trans h2⟩, (hf _ _ hp).trans f0, (hf _ _ hp).trans f1, (hf _ _ hp).trans f2⟩
theorem boxAt_keep {k n : Int} {s : ByteArray} (p : Nat) (w w' : World) (h : BoxAt p k n s w) (hp : p < w.heap.size) (hb : Below w.heap.size w w') : BoxAt p k n s w' := by
  obtain ⟨hc, hf⟩ := bcell hb
  obtain ⟨h0, h1, h2⟩ := h
  exact ⟨(hc _ _ hp).trans h0, (hc _ _ hp).trans h1, (hc _ _ hp).trans h2⟩
/-- a block with a value, that may be written -/
def BoxF (p : Nat) (t : Trip) (w : World) : Prop := BoxAt p t.1 t.2.1 t.2.2 w ∧ w.frozen? ⟨p, 0, none⟩ = false ∧ w.frozen? ⟨p, 1, none⟩ = false ∧ w.frozen? ⟨p, 2, none⟩ = false
theorem BoxF.lt {p : Nat} {t : Trip} {w : World} (h : BoxF p t w) : p < w.heap.size := block_lt_of_cell h.1.1
theorem BoxF.on {p : Nat} {t : Trip} {w w' : World} (h : BoxF p t w) (hb : Below w.heap.size w w') : BoxF p t w' := by
  have hlt := h.lt
  obtain ⟨hc, hf⟩ := bcell hb
  obtain ⟨⟨h0, h1, h2⟩, f0, f1, f2⟩ := h
  exact ⟨⟨(hc _ _ hlt).trans h0, (hc _ _ hlt).trans h1, (hc _ _ hlt).trans h2⟩, (hf _ _ hlt).trans f0, (hf _ _ hlt).trans f1, (hf _ _ hlt).trans f2⟩
theorem BoxF.new (W : World) (k n : Int) (s : ByteArray) : BoxF W.heap.size (k, n, s) (W.alloc (box k n s)) := by
  refine ⟨⟨?_, ?_, ?_⟩, ?_, ?_, ?_⟩ <;> simp [go_sem]
theorem BoxF.set {p : Nat} {t : Trip} {w : World} (h : BoxF p t w) (k n : Int) (s : ByteArray) : BoxF p (k, n, s) (((w.setCell ⟨p, 0, none⟩ (.int .u8 k)).setCell ⟨p, 1, none⟩ (.int .i64 n)).setCell ⟨p, 2, none⟩ (.string s)) := by
  have hlt := h.lt
  obtain ⟨⟨h0, h1, h2⟩, f0, f1, f2⟩ := h
  refine ⟨⟨?_, ?_, ?_⟩, ?_, ?_, ?_⟩ <;> simp [go_sem, h0, h1, h2, f0, f1, f2]
theorem boxF_keep {t : Trip} (p : Nat) (w w' : World) (h : BoxF p t w) (hp : p < w.heap.size) (hb : Below w.heap.size w w') : BoxF p t w' := h.on hb
def FlatF (p : Value → World → Prop) : Prop := ∀ v w w', p v w → p v w'
theorem flat_isV (x : Value) : FlatF (IsV x) := fun _ _ _ h => h
theorem flat_any : FlatF AnyF := fun _ _ _ _ => trivial
theorem flatL {l : List (Value → World → Prop)} (h : ∀ p ∈ l, FlatF p) (i : Nat) (v : Value) (w w' : World) (hp : (l.getD i AnyF) v w) : (l.getD i AnyF) v w' := by
  by_cases hi : i < l.length
  · have e : l.getD i AnyF = l[i] := by simp [List.getD, hi]
    rw [e] at hp ⊢
    exact h _ (List.getElem_mem hi) v w w' hp
  · have e : l.getD i AnyF = AnyF := by simp [List.getD, Nat.le_of_not_lt hi]
    rw [e]
    trivial
section
variable {ops : Array Oper} {Q : Exit → Act → World → Prop} {i : Nat} {a : Act} {w : World}
theorem step_allocV {F : Nat → Value → World → Prop} {da : Tmp} (hop : opO ops i = some (.alloc 38)) (hw : Wanted ops i a) (hd : dstO ops i = some da) (hF : ∀ v w, F i v w) :
    wpOp Tryz.prog ops Q i (fun a' w' => ∃ p, a' = a.put (some da) (.pointer (some ⟨p, 0, none⟩)) ∧ F i (.pointer (some ⟨p, 0, none⟩)) w' ∧ w.heap.size ≤ p ∧ p < w'.heap.size ∧ NewAt p w' ∧ Below w.heap.size w w') a w := by
  have h := step_run (P := Tryz.prog) (ops := ops) (i := i) (a := a) (w := w) (Q := Q) (R := fun v w' => v = .pointer (some ⟨w.heap.size, 0, none⟩) ∧ w' = w.alloc (box 0 0 ⟨#[]⟩)) (v := .pointer (some ⟨w.heap.size, 0, none⟩)) (w' := w.alloc (box 0 0 ⟨#[]⟩)) hop hw (fun o ho => by simp only [execOp, ho]; simp [go_sem]) ⟨rfl, rfl⟩
  rw [hd] at h
  refine wpOp_mono ?_ h
  rintro a' w' ⟨v, rfl, rfl, rfl⟩
  refine ⟨w.heap.size, rfl, hF _ _, Nat.le_refl _, by simp, ⟨⟨?_, ?_, ?_⟩, ?_, ?_, ?_⟩, (Below.refl _ _).alloc (Nat.le_refl _) _⟩ <;> simp [go_sem]
theorem step_storeV {w0 : World} {x y : Operand} {p : Nat} {k n : Int} {s : ByteArray} (hop : opO ops i = some (.store 38 x y)) (hw : Wanted ops i a) (hd : dstO ops i = none) (hx : a.eval x = .pointer (some ⟨p, 0, none⟩)) (hy : a.eval y = vv k n s) (hC : Below w0.heap.size w0 w) (hp0 : w0.heap.size ≤ p) (hp1 : p < w.heap.size) (hn : NewAt p w) :
    wpOp Tryz.prog ops Q i (fun a' w' => a' = a ∧ BoxAt p k n s w' ∧ Below w0.heap.size w0 w' ∧ w'.heap.size = w.heap.size) a w := by
  obtain ⟨⟨h0, h1, h2⟩, f0, f1, f2⟩ := hn
  cases ho : ops[i]? with
  | none => simp [opO, ho] at hop
  | some o =>
    have hoo : o.op = .store 38 x y := by simpa [opO, ho] using hop
    have hdn : o.dst = none := by simpa [dstO, ho] using hd
    have hrun : (execOp a.eval o).run Tryz.prog w = .ok .skip (((w.setCell ⟨p, 0, none⟩ (.int .u8 k)).setCell ⟨p, 1, none⟩ (.int .i64 n)).setCell ⟨p, 2, none⟩ (.string s)) := by
      simp only [execOp, hoo, hx, hy]
      simp [go_sem, h0, h1, h2, f0, f1, f2]
    unfold wpOp
    rw [ho]
    simp only
    rw [if_pos (hw.is ho)]
    left
    unfold Oper.wp
    rw [hrun]
    refine ⟨by simp [hdn, Act.put], ?_, ?_, ?_⟩
    · refine ⟨?_, ?_, ?_⟩ <;> simp [go_sem, h0, h1, h2]
    · exact ((hC.setCell hp0 _).setCell hp0 _).setCell hp0 _
    · simp
theorem step_storeF {w0 : World} {x y : Operand} {p : Nat} {tt : Trip} (hop : opO ops i = some (.store 38 x y)) (hw : Wanted ops i a) (hd : dstO ops i = none) (hx : a.eval x = .pointer (some ⟨p, 0, none⟩)) (hy : a.eval y = vT tt) (hC : Below w0.heap.size w0 w) (hp0 : w0.heap.size ≤ p) (hp1 : p < w.heap.size) (hn : NewAt p w) :
    wpOp Tryz.prog ops Q i (fun a' w' => a' = a ∧ BoxF p tt w' ∧ Below w0.heap.size w0 w' ∧ w'.heap.size = w.heap.size) a w := by
  have hn' : BoxF p nulT w := hn
  obtain ⟨⟨h0, h1, h2⟩, f0, f1, f2⟩ := hn
  obtain ⟨k, n, s⟩ := tt
  cases ho : ops[i]? with
  | none => simp [opO, ho] at hop
  | some o =>
    have hoo : o.op = .store 38 x y := by simpa [opO, ho] using hop
    have hdn : o.dst = none := by simpa [dstO, ho] using hd
    have hrun : (execOp a.eval o).run Tryz.prog w = .ok .skip (((w.setCell ⟨p, 0, none⟩ (.int .u8 k)).setCell ⟨p, 1, none⟩ (.int .i64 n)).setCell ⟨p, 2, none⟩ (.string s)) := by
      simp only [execOp, hoo, hx, hy]
      simp [go_sem, h0, h1, h2, f0, f1, f2]
    unfold wpOp
    rw [ho]
    simp only
    rw [if_pos (hw.is ho)]
    left
    unfold Oper.wp
    rw [hrun]
    refine ⟨by simp [hdn, Act.put], ?_, ?_, ?_⟩
    · exact hn'.set k n s
    · exact ((hC.setCell hp0 _).setCell hp0 _).setCell hp0 _
    · simp
end
theorem upto_zero {p : Nat → Prop} : ∀ i, i < 0 → p i := fun i h => absurd h (Nat.not_lt_zero i)
theorem upto_succ {p : Nat → Prop} {n : Nat} (h : ∀ i, i < n → p i) (hn : p n) : ∀ i, i < n + 1 → p i := by
  intro i hi
  rcases Nat.lt_succ_iff_lt_or_eq.1 hi with h1 | h1
  · exact h i h1
  · subst h1; exact hn
/-- the slot holds that expression -/
def IsE (e : Ee) : Value → World → Prop := fun v w => ExV w e v
theorem mono_isE (e : Ee) : MonoF (IsE e) := fun _ _ _ h hb => ExV.on h hb
/-- the slot holds a list of these expressions -/
def IsK (l : List Ee) : Value → World → Prop := fun v w => ∃ A c, v = .slice A l.length c ∧ l.length ≤ c ∧ ExK w l A
theorem mono_isK (l : List Ee) : MonoF (IsK l) := fun _ _ _ ⟨A, c, h1, h2, h3⟩ hb => ⟨A, c, h1, h2, h3.on hb⟩
/-- the slot holds a list of these values -/
def IsT (l : List Trip) : Value → World → Prop := fun v w => ∃ A c, v = .slice A l.length c ∧ l.length ≤ c ∧ RdT w A l
theorem mono_isT (l : List Trip) : MonoF (IsT l) := fun _ _ _ ⟨A, c, h1, h2, h3⟩ hb => ⟨A, c, h1, h2, h3.on hb⟩
/-- the slot holds a list of these rows -/
def IsR (l : List (List Trip)) : Value → World → Prop := fun v w => ∃ A c, v = .slice A l.length c ∧ l.length ≤ c ∧ RdR w A l
theorem mono_isR (l : List (List Trip)) : MonoF (IsR l) := fun _ _ _ ⟨A, c, h1, h2, h3⟩ hb => ⟨A, c, h1, h2, h3.on hb⟩
/-- a value is that Env -/
def EnvV (w : World) (x : EnvM) (v : Value) : Prop :=
  ∃ Ar cr Ak ck At ct Ab cb, v = .agg #[.slice Ar x.rows.length cr, .slice Ak x.keys.length ck, .slice At x.totals.length ct, .slice Ab x.binds.length cb] ∧
    (RdR w Ar x.rows ∧ RdT w Ak x.keys ∧ RdT w At x.totals ∧ RdT w Ab x.binds)
theorem EnvV.on {w w' : World} {x : EnvM} {v : Value} (h : EnvV w x v) (hb : Below w.heap.size w w') : EnvV w' x v := by
  obtain ⟨Ar, cr, Ak, ck, At, ct, Ab, cb, h0, g0, g1, g2, g3⟩ := h
  exact ⟨Ar, cr, Ak, ck, At, ct, Ab, cb, h0, g0.on hb, g1.on hb, g2.on hb, g3.on hb⟩
def IsX (x : EnvM) : Value → World → Prop := fun v w => EnvV w x v
theorem mono_isX (x : EnvM) : MonoF (IsX x) := fun _ _ _ h hb => EnvV.on h hb
section
variable {ops : Array Oper} {Q : Exit → Act → World → Prop} {i : Nat} {a : Act} {w : World} {R : Value → World → Prop}
theorem step_extract {P : Program} {x : Operand} {vs : Array Value} {j : Nat} {v : Value} (hop : opO ops i = some (.extract x j)) (hw : Wanted ops i a) (hx : a.eval x = .tuple vs) (hv : vs[j]? = some v) (hR : R v w) : wpOp P ops Q i (fun a' w' => ∃ v, a' = a.put (dstO ops i) v ∧ R v w') a w :=
  step_run hop hw (fun o ho => by simp [execOp, ho, hx, Instr.extract, hv]) hR
theorem step_loadB {x : Operand} {p : Nat} {k n : Int} {s : ByteArray} (hop : opO ops i = some (.load 38 x)) (hw : Wanted ops i a) (hx : a.eval x = .pointer (some ⟨p, 0, none⟩)) (hn : BoxAt p k n s w) (hR : R (vv k n s) w) : wpOp Tryz.prog ops Q i (fun a' w' => ∃ v, a' = a.put (dstO ops i) v ∧ R v w') a w := by
  obtain ⟨h0, h1, h2⟩ := hn
  refine step_run (v := vv k n s) hop hw (fun o ho => ?_) hR
  simp only [execOp, ho, hx]
  simp [go_sem, h0, h1, h2]
theorem step_nul (hop : opO ops i = some (.build 38 #[])) (hw : Wanted ops i a) (hR : R nul w) : wpOp Tryz.prog ops Q i (fun a' w' => ∃ v, a' = a.put (dstO ops i) v ∧ R v w') a w := by
  refine step_run hop hw (fun o ho => ?_) hR
  simp only [execOp, ho, List.map_toArray, List.map_nil]
  simp [go_sem]
/-- the address of a place in a list of values -/
theorem step_ixT {x y : Operand} {b o len cap m : Nat} (hop : opO ops i = some (.indexAddr 27 x y)) (hw : Wanted ops i a) (hx : a.eval x = .slice (some ⟨b, o, none⟩) len cap) (hy : a.eval y = .int .i64 (m : Int)) (hm : m < len) (hR : R (.pointer (some ⟨b, o + m * 3, none⟩)) w) : wpOp Tryz.prog ops Q i (fun a' w' => ∃ v, a' = a.put (dstO ops i) v ∧ R v w') a w := by
  refine step_run hop hw (fun o' ho => ?_) hR
  have h1 : (0 : Int) ≤ (m : Int) := by omega
  have h2 : (m : Int) < (len : Int) := by omega
  simp only [execOp, ho, hx, hy]
  simp [go_sem, h1, h2]
/-- a value, wherever it stands -/
theorem step_loadT {x : Operand} {b o : Nat} {t : Trip} (hop : opO ops i = some (.load 38 x)) (hw : Wanted ops i a) (hx : a.eval x = .pointer (some ⟨b, o, none⟩)) (hn : w.cell? ⟨b, o, none⟩ = some (.int .u8 t.1) ∧ w.cell? ⟨b, o + 1, none⟩ = some (.int .i64 t.2.1) ∧ w.cell? ⟨b, o + 2, none⟩ = some (.string t.2.2)) (hR : R (vT t) w) : wpOp Tryz.prog ops Q i (fun a' w' => ∃ v, a' = a.put (dstO ops i) v ∧ R v w') a w := by
  obtain ⟨h0, h1, h2⟩ := hn
  refine step_run (v := vT t) hop hw (fun o ho => ?_) hR
  simp only [execOp, ho, hx]
  simp [go_sem, h0, h1, h2]
/-- an expression in a box -/
theorem step_loadE {x : Operand} {p : Nat} {k n c : Int} {s t : ByteArray} {A : Option Addr} {len cp : Nat} (hop : opO ops i = some (.load 25 x)) (hw : Wanted ops i a) (hx : a.eval x = .pointer (some ⟨p, 0, none⟩)) (hc : ECell w p 0 k s t n c A len cp) (hR : R (exprV k s t n c A len cp) w) : wpOp Tryz.prog ops Q i (fun a' w' => ∃ v, a' = a.put (dstO ops i) v ∧ R v w') a w := by
  refine step_run (v := exprV k s t n c A len cp) hop hw (fun o ho => ?_) hR
  obtain ⟨c0, c1, c2, c3, c4, c5⟩ := hc
  simp only [Nat.zero_add] at c1 c2 c3 c4 c5
  simp only [execOp, ho, hx]
  simp [go_sem, c0, c1, c2, c3, c4, c5]
/-- an Env in a box -/
theorem step_loadX {x : Operand} {p : Nat} {v0 v1 v2 v3 : Value} (hop : opO ops i = some (.load 29 x)) (hw : Wanted ops i a) (hx : a.eval x = .pointer (some ⟨p, 0, none⟩)) (hc : w.cell? ⟨p, 0, none⟩ = some v0 ∧ w.cell? ⟨p, 1, none⟩ = some v1 ∧ w.cell? ⟨p, 2, none⟩ = some v2 ∧ w.cell? ⟨p, 3, none⟩ = some v3) (hR : R (.agg #[v0, v1, v2, v3]) w) : wpOp Tryz.prog ops Q i (fun a' w' => ∃ v, a' = a.put (dstO ops i) v ∧ R v w') a w := by
  refine step_run (v := .agg #[v0, v1, v2, v3]) hop hw (fun o ho => ?_) hR
  obtain ⟨c0, c1, c2, c3⟩ := hc
  simp only [execOp, ho, hx]
  simp [go_sem, c0, c1, c2, c3]
/-- an Env of nothing -/
theorem step_nulX (hop : opO ops i = some (.build 29 #[])) (hw : Wanted ops i a) (hR : R (.agg #[.slice none 0 0, .slice none 0 0, .slice none 0 0, .slice none 0 0]) w) : wpOp Tryz.prog ops Q i (fun a' w' => ∃ v, a' = a.put (dstO ops i) v ∧ R v w') a w := by
  refine step_run hop hw (fun o ho => ?_) hR
  simp only [execOp, ho, List.map_toArray, List.map_nil]
  simp [go_sem]
end
theorem env_nul (w : World) : EnvV w ⟨[], [], [], []⟩ (.agg #[.slice none 0 0, .slice none 0 0, .slice none 0 0, .slice none 0 0]) :=
  ⟨none, 0, none, 0, none, 0, none, 0, rfl, .inl rfl, .inl rfl, .inl rfl, .inl rfl⟩
end Go.Proofs.YteijijoiifbjlaaGreatDoor
