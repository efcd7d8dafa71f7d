/-
  record.cutPart: the value whose part b begins with, and what is behind that part. Conditions: sizes.
-/
import Derived.Test.YtdhdfeiobjmdaaaRCutS
namespace Go.Proofs.Ytdhdfeiobjmdaaa
open Go.ChangeShapes Go.WideShapes Go.ChangeAt Go.RowKit
set_option linter.unusedVariables false

/-- the value whose part this begins with, and what is behind it -/
def getP (t : UInt8) : List UInt8 → Option (Trip × List UInt8)
  | [] => none
  | c :: l => if (c ^^^ t).toNat = 1 then some ((0, 0, ⟨#[]⟩), l)
      else if (c ^^^ t).toNat = 2 then (if l.length < 8 then none else some ((1, (numN t l 8 : Int) - 9223372036854775808, ⟨#[]⟩), l.drop 8))
      else if (c ^^^ t).toNat = 3 then (getS t l 0).map (fun p => ((2, 0, ⟨p.1.toArray⟩), p.2))
      else if (c ^^^ t).toNat = 4 then (getS t l 0).map (fun p => ((3, 0, ⟨p.1.toArray⟩), p.2))
      else none
def PartPost (w : World) (A : Option Addr) (b : List UInt8) (cap : Nat) (o : Option (Trip × List UInt8)) (e : Ending) (w' : World) : Prop :=
  (match o with
    | none => e = .returned (.tuple #[vv 0 0 ⟨#[]⟩, .slice none 0 0, .bool false])
    | some ((k, n, s), r) => ∃ A' c', e = .returned (.tuple #[vv k n s, .slice A' r.length c', .bool true]) ∧ (r.length ≤ c' ∧ c' ≤ cap) ∧ Tail A b A' r) ∧ Below w.heap.size w w'
end Go.Proofs.Ytdhdfeiobjmdaaa
