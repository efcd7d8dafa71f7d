/-
  A block that a region makes for a value, and fills. No conditions.
-/
import Derived.Test.YtceknmibopnmhaaGreatDoorVSlot3
import Derived.Test.YtceknmibopnmhaaGreatDoorStepBox
namespace Go.Proofs.YtceknmibopnmhaaGreatDoor
open Go.ChangeShapes Go.WideShapes Go.ChangeAt Go.RowKit
set_option linter.unusedVariables false
set_option maxRecDepth 100000
/-- a block that is empty yet -/
def NewAt (p : Nat) (w : World) : Prop := BoxAt p 0 0 ⟨#[]⟩ w ∧ w.frozen? ⟨p, 0, none⟩ = false ∧ w.frozen? ⟨p, 1, none⟩ = false ∧ w.frozen? ⟨p, 2, none⟩ = false
theorem new_keep (p : Nat) (w w' : World) (h : NewAt p w) (hp : p < w.heap.size) (hb : Below w.heap.size w w') : NewAt p w' := by
  obtain ⟨hc, hf⟩ := bcell hb
  obtain ⟨⟨h0, h1, h2⟩, f0, f1, f2⟩ := h
  exact ⟨⟨(hc _ _ hp).trans h0, (hc _ _ hp).trans h1, (hc _ _ hp).trans h2⟩, (hf _ _ hp).trans f0, (hf _ _ hp).trans f1, (hf _ _ hp).trans f2⟩
theorem boxAt_keep {k n : Int} {s : ByteArray} (p : Nat) (w w' : World) (h : BoxAt p k n s w) (hp : p < w.heap.size) (hb : Below w.heap.size w w') : BoxAt p k n s w' := by
  obtain ⟨hc, hf⟩ := bcell hb
  obtain ⟨h0, h1, h2⟩ := h
  exact ⟨(hc _ _ hp).trans h0, (hc _ _ hp).trans h1, (hc _ _ hp).trans h2⟩
def FlatF (p : Value → World → Prop) : Prop := ∀ v w w', p v w → p v w'
theorem flat_isV (x : Value) : FlatF (IsV x) := fun _ _ _ h => h
theorem flat_any : FlatF AnyF := fun _ _ _ _ => trivial
theorem flatL {l : List (Value → World → Prop)} (h : ∀ p ∈ l, FlatF p) (i : Nat) (v : Value) (w w' : World) (hp : (l.getD i AnyF) v w) : (l.getD i AnyF) v w' := by
  by_cases hi : i < l.length
  · have e : l.getD i AnyF = l[i] := by simp [List.getD, hi]
    rw [e] at hp ⊢
    exact h _ (List.getElem_mem hi) v w w' hp
  · have e : l.getD i AnyF = AnyF := by simp [List.getD, Nat.le_of_not_lt hi]
    rw [e]
    trivial
/-- a value that a call tells with an error -/
def OpRet (g : ByteArray) (k n : Int) (s : ByteArray) (k' n' : Int) (s' : ByteArray) (x y : Int) (er : Int) : Prop :=
  ∀ W, Calls Tryz.prog 12 #[.string g, vv k n s, vv k' n' s'] W fun e w' => e = .returned (.tuple #[vv x y ⟨#[]⟩, .int .i64 er]) ∧ Below W.heap.size W w'
section
variable {ops : Array Oper} {Q : Exit → Act → World → Prop} {i : Nat} {a : Act} {w : World}
theorem step_allocV {F : Nat → Value → World → Prop} {da : Tmp} (hop : opO ops i = some (.alloc 24)) (hw : Wanted ops i a) (hd : dstO ops i = some da) (hF : ∀ v w, F i v w) :
    wpOp Tryz.prog ops Q i (fun a' w' => ∃ p, a' = a.put (some da) (.pointer (some ⟨p, 0, none⟩)) ∧ F i (.pointer (some ⟨p, 0, none⟩)) w' ∧ w.heap.size ≤ p ∧ p < w'.heap.size ∧ NewAt p w' ∧ Below w.heap.size w w') a w := by
  have h := step_run (P := Tryz.prog) (ops := ops) (i := i) (a := a) (w := w) (Q := Q) (R := fun v w' => v = .pointer (some ⟨w.heap.size, 0, none⟩) ∧ w' = w.alloc (box 0 0 ⟨#[]⟩)) (v := .pointer (some ⟨w.heap.size, 0, none⟩)) (w' := w.alloc (box 0 0 ⟨#[]⟩)) hop hw (fun o ho => by simp only [execOp, ho]; simp [go_sem]) ⟨rfl, rfl⟩
  rw [hd] at h
  refine wpOp_mono ?_ h
  rintro a' w' ⟨v, rfl, rfl, rfl⟩
  refine ⟨w.heap.size, rfl, hF _ _, Nat.le_refl _, by simp, ⟨⟨?_, ?_, ?_⟩, ?_, ?_, ?_⟩, (Below.refl _ _).alloc (Nat.le_refl _) _⟩ <;> simp [go_sem]
theorem step_storeV {w0 : World} {x y : Operand} {p : Nat} {k n : Int} {s : ByteArray} (hop : opO ops i = some (.store 24 x y)) (hw : Wanted ops i a) (hd : dstO ops i = none) (hx : a.eval x = .pointer (some ⟨p, 0, none⟩)) (hy : a.eval y = vv k n s) (hC : Below w0.heap.size w0 w) (hp0 : w0.heap.size ≤ p) (hp1 : p < w.heap.size) (hn : NewAt p w) :
    wpOp Tryz.prog ops Q i (fun a' w' => a' = a ∧ BoxAt p k n s w' ∧ Below w0.heap.size w0 w' ∧ w'.heap.size = w.heap.size) a w := by
  obtain ⟨⟨h0, h1, h2⟩, f0, f1, f2⟩ := hn
  cases ho : ops[i]? with
  | none => simp [opO, ho] at hop
  | some o =>
    have hoo : o.op = .store 24 x y := by simpa [opO, ho] using hop
    have hdn : o.dst = none := by simpa [dstO, ho] using hd
    have hrun : (execOp a.eval o).run Tryz.prog w = .ok .skip (((w.setCell ⟨p, 0, none⟩ (.int .u8 k)).setCell ⟨p, 1, none⟩ (.int .i64 n)).setCell ⟨p, 2, none⟩ (.string s)) := by
      simp only [execOp, hoo, hx, hy]
      simp [go_sem, h0, h1, h2, f0, f1, f2]
    unfold wpOp
    rw [ho]
    simp only
    rw [if_pos (hw.is ho)]
    left
    unfold Oper.wp
    rw [hrun]
    refine ⟨by simp [hdn, Act.put], ?_, ?_, ?_⟩
    · refine ⟨?_, ?_, ?_⟩ <;> simp [go_sem, h0, h1, h2]
    · exact ((hC.setCell hp0 _).setCell hp0 _).setCell hp0 _
    · simp
end
end Go.Proofs.YtceknmibopnmhaaGreatDoor
