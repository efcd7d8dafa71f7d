/-
  Plain mathematics for BytesNumbers: the digits of the powers of 128 and of the numbers ahead of them; the chapter's wrong lists. No conditions.
-/
import Derived.Test.YtnmlbkgkamfioaaPowMath
import Derived.Test.YtnmlbkgkamfioaaListMath
namespace Go.Proofs.Ytnmlbkgkamfioaa
open Go.Lib

def hiL (k : Nat) : List UInt8 := List.replicate k 128 ++ [1]
def loL (k : Nat) : List UInt8 := List.replicate k 255 ++ [127]
theorem hiL_succ (k : Nat) : hiL (k + 1) = 128 :: hiL k := rfl
theorem loL_succ (k : Nat) : loL (k + 1) = 255 :: loL k := rfl

theorem uvarint_pow : ∀ k : Nat, uvarint (128 ^ k) = hiL k
  | 0 => by rw [Nat.pow_zero, uvarint_small (by omega)]; rfl
  | k + 1 => by rw [Nat.pow_succ, uvarint_times _ (Nat.pow_pos (by omega)), uvarint_pow k]; rfl
theorem uvarint_ahead : ∀ k : Nat, uvarint (128 ^ (k + 1) - 1) = loL k
  | 0 => by rw [show (128 : Nat) ^ (0 + 1) - 1 = 127 from by decide, uvarint_small (by omega)]; rfl
  | k + 1 => by
    have hp : 0 < 128 ^ (k + 1) := Nat.pow_pos (by omega)
    have e : 128 ^ (k + 1 + 1) - 1 = (128 ^ (k + 1) - 1) * 128 + 127 := by rw [Nat.pow_succ 128 (k + 1)]; omega
    have h1 : 128 ^ (k + 1) ≥ 128 := by rw [Nat.pow_succ]; have : 0 < 128 ^ k := Nat.pow_pos (by omega); omega
    rw [e, uvarint_big (by omega), show ((128 ^ (k + 1) - 1) * 128 + 127) / 128 = 128 ^ (k + 1) - 1 from by omega, show ((128 ^ (k + 1) - 1) * 128 + 127) % 128 + 128 = 255 from by omega, uvarint_ahead k]
    rfl

def nines : List UInt8 := [255, 255, 255, 255, 255, 255, 255, 255, 255]
theorem uvarint_most : uvarint 18446744073709551615 = [255, 255, 255, 255, 255, 255, 255, 255, 255, 1] := by
  have h : decU 10 0 0 [255, 255, 255, 255, 255, 255, 255, 255, 255, 1] = (18446744073709551615, 10, 0) := by decide +kernel
  obtain ⟨m, h1, h2, ⟨rest, h3⟩, _⟩ := decU_back 10 0 0 _ _ _ rfl h
  obtain rfl : 18446744073709551615 = m := by rw [Nat.pow_zero, Nat.mul_one, Nat.zero_add] at h1; exact h1
  have hl := congrArg List.length h3
  rw [List.length_append] at hl
  have hr : rest = [] := List.eq_nil_of_length_eq_zero (by simp at hl; omega)
  rw [hr, List.append_nil] at h3
  exact h3.symm

/-- the wrong lists: bytes, how many, how long -/
def tab : List (List UInt8 × Int × Int) := [([3, 97, 98], -1, 3), ([2, 97, 98], -1, 1), ([0], -1, -1), ([2, 0], 2, 0), ([1, 1, 97], 1, 0), ([0], -1, 0), ([1, 128, 0], 1, 9), ([128, 0], 9, 9)]
/-- what the calls tell of them -/
def want : List Nat := [11, 3, 3, 3, 3, 3, 3, 11, 3, 3, 0, 3, 0, 10, 10, 10]
theorem tab_want : tab.flatMap (fun x => [(blobAt x.1 0 x.2.2).2.2, (blobsAt x.1 0 x.2.1 x.2.2).2.2]) = want := by decide +kernel
end Go.Proofs.Ytnmlbkgkamfioaa
