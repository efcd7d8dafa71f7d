/-
  What the law on cuts calls (layer 2, value): its closure (Call, the error dropped) at length, upper, lower, hex, instr and substr. Conditions: texts of at most 65536 bytes; the library's variables are as its text lays them.
-/
import Derived.Test.YtifnhdnmohlfiaaGreatDoorVUpper
import Derived.Test.YtifnhdnmohlfiaaGreatDoorVCallC
import Derived.Test.YtifnhdnmohlfiaaGreatDoorVHelp
import Derived.Test.YtifnhdnmohlfiaaGreatDoorVAwS
namespace Go.Proofs.YtifnhdnmohlfiaaGreatDoor
open Go.ChangeShapes Go.WideShapes Go.ChangeAt Go.RowKit
set_option linter.unusedVariables false

/-- a text of the law's: right, not too long -/
theorem bad_text {s : ByteArray} (h : s.size ≤ 65536) : pBad (2, 0, s) = false := pBad_of (.inr (.inr ⟨.inl rfl, rfl, h⟩))
theorem bad_int (z : Int) : pBad (1, z, ⟨#[]⟩) = false := pBad_of (.inr (.inl ⟨rfl, rfl⟩))

end Go.Proofs.YtifnhdnmohlfiaaGreatDoor
