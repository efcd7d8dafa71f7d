/-
  BytesTells of more than 600 bytes, or more than 20 strings. No conditions beyond that.
-/
import Derived.Test.YtlobfmdkaghfmaaTell
import Derived.Test.YtlobfmdkaghfmaaOpen
namespace Go.Proofs.Ytlobfmdkaghfmaa
open Go.ChangeShapes Go.WideShapes Go.ChangeAt Go.RowKit
set_option linter.unusedVariables false

set_option maxRecDepth 100000 in
theorem tells_far (n : Int) (A : Option Addr) (c l : Nat) (p many most : Int) (B : Option Addr) (d m : Nat) (w : World) (hl : l ≤ 9223372036854775807) (hm : m ≤ 9223372036854775807) (h : 600 < l ∨ 20 < m) :
    Calls Try.prog 4 #[.int .u64 n, .slice A l c, .int .i64 p, .int .i64 many, .int .i64 most, .slice B m d] w fun e w' => e = .returned (.bool true) ∧ Below w.heap.size w w' := by
  by_cases h1 : 600 < l
  · have h600 : decide ((600 : Int) < l) = true := decide_eq_true (by omega)
    go_enter Try.func4, Try.ntmps4
    go_wp2_with fail
    refine (awake_any _).mono ?_
    rintro e w9 ⟨rfl, hb9⟩
    go_wp2_with fail
    go_ret
    exact ⟨rfl, hb9⟩
  · have h600 : decide ((600 : Int) < l) = false := decide_eq_false (by omega)
    have h20 : decide ((20 : Int) < m) = true := decide_eq_true (by omega)
    go_enter Try.func4, Try.ntmps4
    go_wp2_with fail
    refine (awake_any _).mono ?_
    rintro e w9 ⟨rfl, hb9⟩
    go_wp2_with fail
    go_ret
    exact ⟨rfl, hb9⟩
end Go.Proofs.Ytlobfmdkaghfmaa
