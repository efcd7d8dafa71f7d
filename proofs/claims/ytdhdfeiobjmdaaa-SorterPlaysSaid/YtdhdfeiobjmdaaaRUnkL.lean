/-
  record.Unkey of any bytes and flags, beyond the limits too. Conditions: sizes of Go's own.
-/
import Derived.Test.YtdhdfeiobjmdaaaRBackM
namespace Go.Proofs.Ytdhdfeiobjmdaaa
open Go.ChangeShapes Go.WideShapes Go.ChangeAt Go.RowKit
set_option linter.unusedVariables false

/-- the row whose key by these flags this is, within the limits -/
def unkN (ds : List Bool) (b : List UInt8) : Option (List Trip) := if ds.length ≤ 200 ∧ b.length ≤ 1048576 then getK ds b else none
end Go.Proofs.Ytdhdfeiobjmdaaa
