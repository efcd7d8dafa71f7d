/-
  record.Put and record.Key of rows that are refused: too many values, a value that is not right, flags that are not as many. Conditions: sizes as stated.
-/
import Derived.Test.YtdhdfeiobjmdaaaRPutR
import Derived.Test.YtdhdfeiobjmdaaaRKey
namespace Go.Proofs.Ytdhdfeiobjmdaaa
open Go.ChangeShapes Go.WideShapes Go.ChangeAt Go.RowKit
set_option linter.unusedVariables false

/-- nothing, and an error -/
def NoRet (E : Int) (w : World) (e : Ending) (w' : World) : Prop := e = .returned (.tuple #[.slice none 0 0, .int .i64 E]) ∧ Below w.heap.size w w'

set_option maxRecDepth 100000 in
theorem Put_many (A : Option Addr) (n cap : Nat) (w : World) (hl : 200 < n) (hl2 : n ≤ 1000) :
    Calls Try.prog 27 #[.slice A n cap] w fun e w' => NoRet 3 w e w' := by
  go_enter Try.func27, Try.ntmps27
  go_wp2_with fail
  go_ret2
  exact ⟨rfl, Below.refl _ _⟩
set_option maxRecDepth 100000 in
theorem Put_bad (A : Option Addr) (cap : Nat) (vs : List Trip) (w : World) (hR : RdR w w.heap.size A vs) (hl : vs.length ≤ 200) (hs : ∀ t ∈ vs, t.2.2.size ≤ 300) (hb : vs.any pBad = true) :
    Calls Try.prog 27 #[.slice A vs.length cap] w fun e w' => NoRet 2 w e w' := by
  go_enter Try.func27, Try.ntmps27
  go_wp2_with (go_at_call 48; refine (allRight_any A cap vs _ (fun t ht => by have := hs t ht; omega) (by omega) hR).mono ?_; rintro e w1 ⟨rfl, hb1⟩; rw [hb])
  go_ret2
  exact ⟨rfl, hb1⟩
set_option maxRecDepth 100000 in
theorem Key_many (A : Option Addr) (n cap : Nat) (F : Option Addr) (m fcap : Nat) (w : World) (hl : 200 < n) (hl2 : n ≤ 1000) :
    Calls Try.prog 26 #[.slice A n cap, .slice F m fcap] w fun e w' => NoRet 3 w e w' := by
  go_enter Try.func26, Try.ntmps26
  go_wp2_with fail
  go_ret2
  exact ⟨rfl, Below.refl _ _⟩
set_option maxRecDepth 100000 in
theorem Key_bad (A : Option Addr) (cap : Nat) (vs : List Trip) (F : Option Addr) (m fcap : Nat) (w : World) (hR : RdR w w.heap.size A vs) (hl : vs.length ≤ 200) (hs : ∀ t ∈ vs, t.2.2.size ≤ 300) (hb : vs.any pBad = true) :
    Calls Try.prog 26 #[.slice A vs.length cap, .slice F m fcap] w fun e w' => NoRet 2 w e w' := by
  go_enter Try.func26, Try.ntmps26
  go_wp2_with (go_at_call 48; refine (allRight_any A cap vs _ (fun t ht => by have := hs t ht; omega) (by omega) hR).mono ?_; rintro e w1 ⟨rfl, hb1⟩; rw [hb])
  go_ret2
  exact ⟨rfl, hb1⟩
set_option maxRecDepth 100000 in
theorem Key_uneven (A : Option Addr) (cap : Nat) (vs : List Trip) (F : Option Addr) (m fcap : Nat) (w : World) (hR : RdR w w.heap.size A vs) (hl : vs.length ≤ 200) (hm : m ≤ 1000) (hd : ¬ m = vs.length) (hs : ∀ t ∈ vs, t.2.2.size ≤ 300) (hb : vs.any pBad = false) :
    Calls Try.prog 26 #[.slice A vs.length cap, .slice F m fcap] w fun e w' => NoRet 2 w e w' := by
  have hdi : ((m : Int) != vs.length) = true := by
    have : ¬ (m : Int) = vs.length := by omega
    simpa using this
  clear hd
  go_enter Try.func26, Try.ntmps26
  go_wp2_with (go_at_call 48; refine (allRight_any A cap vs _ (fun t ht => by have := hs t ht; omega) (by omega) hR).mono ?_; rintro e w1 ⟨rfl, hb1⟩; rw [hb])
  go_ret2
  exact ⟨rfl, hb1⟩
end Go.Proofs.Ytdhdfeiobjmdaaa
