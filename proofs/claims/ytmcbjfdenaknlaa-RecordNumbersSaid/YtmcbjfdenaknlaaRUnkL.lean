/-
  record.Unkey of any bytes and flags, beyond the limits too. Conditions: sizes of Go's own.
-/
import Derived.Test.YtmcbjfdenaknlaaRBackM
namespace Go.Proofs.Ytmcbjfdenaknlaa
open Go.ChangeShapes Go.WideShapes Go.ChangeAt Go.RowKit
set_option linter.unusedVariables false

set_option maxRecDepth 100000 in
theorem Unkey_flags (A : Option Addr) (n cap : Nat) (F : Option Addr) (fcap m : Nat) (w : World) (h : 200 < m) :
    Calls Try.prog 9 #[.slice A n cap, .slice F m fcap] w fun e w' => UnkPost w none e w' := by
  go_enter Try.func9, Try.ntmps9
  go_wp2_with fail
  go_ret2
  exact ⟨rfl, Below.refl _ _⟩
set_option maxRecDepth 100000 in
theorem Unkey_long (A : Option Addr) (n cap : Nat) (F : Option Addr) (fcap m : Nat) (w : World) (hm : m ≤ 200) (h : 1048576 < n) :
    Calls Try.prog 9 #[.slice A n cap, .slice F m fcap] w fun e w' => UnkPost w none e w' := by
  go_enter Try.func9, Try.ntmps9
  go_wp2_with fail
  go_ret2
  exact ⟨rfl, Below.refl _ _⟩
/-- the row whose key by these flags this is, within the limits -/
def unkN (ds : List Bool) (b : List UInt8) : Option (List Trip) := if ds.length ≤ 200 ∧ b.length ≤ 1048576 then getK ds b else none
theorem Unkey_any (A : Option Addr) (n cap : Nat) (b : List UInt8) (F : Option Addr) (m fcap : Nat) (ds : List Bool) (w : World) (hn : n = b.length) (hm : m = ds.length) (hR : Rd w w.heap.size A b) (hF : RdF w w.heap.size F ds) (hc : b.length ≤ cap) (hc2 : cap ≤ 9223372036854775807) :
    Calls Try.prog 9 #[.slice A n cap, .slice F m fcap] w fun e w' => UnkPost w (unkN ds b) e w' := by
  subst hn hm
  by_cases h1 : ds.length ≤ 200
  · by_cases h2 : b.length ≤ 1048576
    · rw [unkN, if_pos ⟨h1, h2⟩]
      exact Unkey_go A cap b F fcap ds w hR hF hc hc2 h2 h1 _ (Lib.hid rfl)
    · rw [unkN, if_neg fun h => h2 h.2]
      exact Unkey_long A b.length cap F fcap ds.length w h1 (by omega)
  · rw [unkN, if_neg fun h => h1 h.1]
    exact Unkey_flags A b.length cap F fcap ds.length w (by omega)
end Go.Proofs.Ytmcbjfdenaknlaa
