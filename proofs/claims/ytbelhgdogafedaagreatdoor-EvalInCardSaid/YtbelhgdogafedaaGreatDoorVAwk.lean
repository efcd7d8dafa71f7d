/-
  What the statements' own examples of substr and hex come to. Conditions: numbers of 64 bits; the library's variables are as its text lays them.
-/
import Derived.Test.YtbelhgdogafedaaGreatDoorVHelp
namespace Go.Proofs.YtbelhgdogafedaaGreatDoor
open Go.ChangeShapes Go.WideShapes Go.ChangeAt Go.RowKit
set_option linter.unusedVariables false

abbrev cells3 (k n : Int) (s : ByteArray) (k' n' : Int) (s' : ByteArray) (k2 n2 : Int) (s2 : ByteArray) : Obj :=
  .cells #[.int .u8 k, .int .i64 n, .string s, .int .u8 k', .int .i64 n', .string s', .int .u8 k2, .int .i64 n2, .string s2] 38
theorem rdv3 (X : World) (k n : Int) (s : ByteArray) (k' n' : Int) (s' : ByteArray) (k2 n2 : Int) (s2 : ByteArray) : RdV (X.alloc (cells3 k n s k' n' s' k2 n2 s2)) X.heap.size 0 [(k, n, s), (k', n', s'), (k2, n2, s2)] := by
  refine ⟨by simp, fun j a b c hj => ?_⟩
  match j, hj with
  | 0, hj => obtain ⟨rfl, rfl, rfl⟩ : k = a ∧ n = b ∧ s = c := by simpa using hj
             refine ⟨?_, ?_, ?_⟩ <;> simp [go_sem]
  | 1, hj => obtain ⟨rfl, rfl, rfl⟩ : k' = a ∧ n' = b ∧ s' = c := by simpa using hj
             refine ⟨?_, ?_, ?_⟩ <;> simp [go_sem]
  | 2, hj => obtain ⟨rfl, rfl, rfl⟩ : k2 = a ∧ n2 = b ∧ s2 = c := by simpa using hj
             refine ⟨?_, ?_, ?_⟩ <;> simp [go_sem]
  | j + 3, hj => simp at hj
theorem rdv1 (X : World) (k n : Int) (s : ByteArray) : RdV (X.alloc (box k n s)) X.heap.size 0 [(k, n, s)] := by
  refine ⟨by simp, fun j a b c hj => ?_⟩
  match j, hj with
  | 0, hj => obtain ⟨rfl, rfl, rfl⟩ : k = a ∧ n = b ∧ s = c := by simpa using hj
             refine ⟨?_, ?_, ?_⟩ <;> simp [go_sem]
  | j + 1, hj => simp at hj

theorem pBad_of {t : Trip} (h : Rt t.1 t.2.1 t.2.2) : pBad t = false := by simp [pBad, h]

end Go.Proofs.YtbelhgdogafedaaGreatDoor
