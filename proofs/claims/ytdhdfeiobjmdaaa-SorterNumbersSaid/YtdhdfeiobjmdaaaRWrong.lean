/-
  RecordNumbers' helpers: bytes that are no row, bytes that are no key of one column. Conditions: at most 1000 bytes.
-/
import Derived.Test.YtdhdfeiobjmdaaaRRefA
import Derived.Test.YtdhdfeiobjmdaaaRUnkL
import Derived.Test.YtdhdfeiobjmdaaaRAwk
import Derived.Test.YtdhdfeiobjmdaaaRGet
namespace Go.Proofs.Ytdhdfeiobjmdaaa
open Go.ChangeShapes Go.WideShapes Go.ChangeAt Go.RowKit
set_option linter.unusedVariables false

theorem own_some2 {w : World} {base n c : Nat} {A : Option Addr} {l : List UInt8} (h : Own w base (.slice A n c) l) (hl : 0 < l.length) : ∃ g, A = some ⟨g, 0, none⟩ := by
  obtain ⟨h1, h2⟩ := h
  rcases h2 with ⟨_, h0⟩ | ⟨g, cap, cur, hv, _⟩
  · omega
  · simp only [Value.slice.injEq] at hv
    exact ⟨g, hv.1⟩
theorem not_u8 (u : UInt8) : bits .xor .u8 (if IntKind.u8.signed = true then -1 else IntKind.u8.max) (u.toNat : Int) = ((u ^^^ 255).toNat : Int) := by
  have hu := u.toNat_lt
  have e : (if IntKind.u8.signed = true then (-1 : Int) else IntKind.u8.max) = ((255 : Nat) : Int) := by decide
  rw [e, u8_xor_nat 255 u.toNat (by omega) (by omega), UInt8.toNat_xor, Nat.xor_comm]
  rfl
end Go.Proofs.Ytdhdfeiobjmdaaa
