/-
  The helpers of the statements of layer 2: num, text, blob, errs, op, calls, both. Conditions: what is called returns.
-/
import Derived.Test.YtbelhgdogafedaaGreatDoorVShow
import Derived.Test.YtbelhgdogafedaaGreatDoorVLike
namespace Go.Proofs.YtbelhgdogafedaaGreatDoor
open Go.ChangeShapes Go.WideShapes Go.ChangeAt Go.RowKit
set_option linter.unusedVariables false

end Go.Proofs.YtbelhgdogafedaaGreatDoor
