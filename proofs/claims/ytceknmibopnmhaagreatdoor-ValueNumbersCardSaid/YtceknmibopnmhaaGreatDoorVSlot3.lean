/-
  An array of two strings that lies boxed: its places, and what they hold. No conditions.
-/
import Derived.Test.YtceknmibopnmhaaGreatDoorVSlot2
namespace Go.Proofs.YtceknmibopnmhaaGreatDoor
open Go.ChangeShapes Go.WideShapes Go.ChangeAt Go.RowKit
set_option linter.unusedVariables false
set_option maxRecDepth 100000
def StrsAt (p : Nat) (s0 s1 : ByteArray) (w : World) : Prop := w.cell? ⟨p, 0, none⟩ = some (.string s0) ∧ w.cell? ⟨p, 1, none⟩ = some (.string s1)
def StrsOn (w0 : World) (p : Nat) (s0 s1 : ByteArray) : Prop := ∀ w, Below w0.heap.size w0 w → StrsAt p s0 s1 w
section
variable {ops : Array Oper} {Q : Exit → Act → World → Prop} {i : Nat} {a : Act} {w : World} {R : Value → World → Prop}
theorem step_loadS0 {x : Operand} {p : Nat} {s0 s1 : ByteArray} (hop : opO ops i = some (.load 9 x)) (hw : Wanted ops i a) (hx : a.eval x = .pointer (some ⟨p, 0, none⟩)) (hn : StrsAt p s0 s1 w) (hR : R (.string s0) w) : wpOp Tryz.prog ops Q i (fun a' w' => ∃ v, a' = a.put (dstO ops i) v ∧ R v w') a w := by
  obtain ⟨h0, h1⟩ := hn
  refine step_run (v := .string s0) hop hw (fun o ho => ?_) hR
  simp only [execOp, ho, hx]
  simp [go_sem, h0]
theorem step_loadS1 {x : Operand} {p : Nat} {s0 s1 : ByteArray} (hop : opO ops i = some (.load 9 x)) (hw : Wanted ops i a) (hx : a.eval x = .pointer (some ⟨p, 1, none⟩)) (hn : StrsAt p s0 s1 w) (hR : R (.string s1) w) : wpOp Tryz.prog ops Q i (fun a' w' => ∃ v, a' = a.put (dstO ops i) v ∧ R v w') a w := by
  obtain ⟨h0, h1⟩ := hn
  refine step_run (v := .string s1) hop hw (fun o ho => ?_) hR
  simp only [execOp, ho, hx]
  simp [go_sem, h1]
end
end Go.Proofs.YtceknmibopnmhaaGreatDoor
