/-
  The contract of BytesJoin's own function value: what a list has behind its count, twice, and that the count is right. Conditions: sizes as stated.
-/
import Derived.Test.YtlichbiioejpiaaOpen
import Derived.Test.YtlichbiioejpiaaListMath
import Derived.Deep.RegionHeld
import Derived.Laws.Concat
namespace Go.Proofs.Ytlichbiioejpiaa
open Go.ChangeShapes Go.WideShapes Go.ChangeAt Go.RowKit
set_option linter.unusedVariables false

def EachRel (ls : List (List UInt8)) (w : World) (each x i : Value) (wr : World) : Prop := ∃ k : Nat, k ≤ ls.length ∧ i = .int .i64 k ∧ each = .string ⟨(blobsE (ls.take k)).toArray⟩ ∧ Below w.heap.size w wr

def RetGoods (ls : List (List UInt8)) (w : World) (e : Ending) (w' : World) : Prop :=
  e = .returned (.tuple #[.string ⟨(blobsE ls).toArray⟩, .string ⟨(blobsE ls).toArray⟩, .bool true]) ∧ Below w.heap.size w w'

end Go.Proofs.Ytlichbiioejpiaa
