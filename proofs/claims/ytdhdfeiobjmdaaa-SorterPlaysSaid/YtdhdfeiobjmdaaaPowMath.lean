/-
  Plain mathematics for BytesPowers: how many digits a number has, and how numbers compare by their digits. No conditions.
-/
import Derived.Test.YtdhdfeiobjmdaaaMath
namespace Go.Proofs.Ytdhdfeiobjmdaaa
open Go.Lib

theorem len_gt : ∀ (j n : Nat), j < (uvarint n).length ↔ j = 0 ∨ 128 ^ j ≤ n
  | 0, n => by have := uvarint_pos n; simp; omega
  | j + 1, n => by
    by_cases hs : n < 128
    · rw [uvarint_small hs]
      have : 128 ^ 1 ≤ 128 ^ (j + 1) := Nat.pow_le_pow_right (by omega) (by omega)
      simp only [List.length_cons, List.length_nil]
      omega
    · rw [uvarint_big (by omega), List.length_cons]
      have ih := len_gt j (n / 128)
      have h1 : j + 1 < (uvarint (n / 128)).length + 1 ↔ j < (uvarint (n / 128)).length := by omega
      rw [h1, ih, Nat.pow_succ]
      have h2 : 128 ^ j ≤ n / 128 ↔ 128 ^ j * 128 ≤ n := Nat.le_div_iff_mul_le (by omega)
      rw [h2]
      constructor
      · rintro (h | h)
        · subst h; right; simp; omega
        · exact .inr h
      · rintro (h | h)
        · omega
        · exact .inr h

theorem less_of_len {n m : Nat} (h : (uvarint n).length < (uvarint m).length) : n < m := by
  have h1 := (len_gt (uvarint n).length m).1 h
  have h2 := uvarint_pos n
  have h3 : ¬ (uvarint n).length < (uvarint n).length := by omega
  rw [len_gt] at h3
  omega

theorem uvarint_inj {n m : Nat} (h : uvarint n = uvarint m) : n = m := by
  suffices hk : ∀ k n m, n < 128 ^ k → uvarint n = uvarint m → n = m from hk n n m (Nat.lt_of_lt_of_le Nat.lt_two_pow_self (Nat.pow_le_pow_left (by omega) n)) h
  intro k
  induction k with
  | zero =>
    intro n m hn he
    have : n = 0 := by simpa using hn
    subst this
    rw [uvarint_small (by omega)] at he
    have hl := congrArg List.length he
    have hm : m < 128 := uvarint_of_one (by simpa using hl.symm)
    rw [uvarint_small hm] at he
    injection he with he
    have := congrArg UInt8.toNat he
    simp only [Nat.toUInt8, UInt8.toNat_ofNat'] at this
    omega
  | succ k ih =>
    intro n m hn he
    have hl := congrArg List.length he
    by_cases hs : n < 128
    · rw [uvarint_small hs] at he hl
      have hm : m < 128 := uvarint_of_one (by simpa using hl.symm)
      rw [uvarint_small hm] at he
      injection he with he
      have := congrArg UInt8.toNat he
      simp only [Nat.toUInt8, UInt8.toNat_ofNat'] at this
      omega
    · have hm : 128 ≤ m := by
        rw [uvarint_big (by omega), List.length_cons] at hl
        have := uvarint_pos (n / 128)
        exact uvarint_of_more (by omega)
      rw [uvarint_big (by omega), uvarint_big hm] at he
      injection he with h1 h2
      have e := ih (n / 128) (m / 128) (by rw [Nat.pow_succ] at hn; exact Nat.div_lt_of_lt_mul (by rw [Nat.mul_comm]; exact hn)) h2
      have := congrArg UInt8.toNat h1
      simp only [Nat.toUInt8, UInt8.toNat_ofNat'] at this
      omega

/-- of two numbers of as many digits, the first digit from the end on that is another one decides -/
theorem less_by_digit : ∀ (k n m : Nat) (x y : UInt8), (uvarint n).length = (uvarint m).length → (uvarint n)[k]? = some x → (uvarint m)[k]? = some y → (uvarint n).drop (k + 1) = (uvarint m).drop (k + 1) → x ≠ y → (n < m ↔ x.toNat < y.toNat)
  | k, n, m, x, y, hl, hx, hy, hd, hne => by
    by_cases hs : n < 128
    · rw [uvarint_small hs] at hl hx
      have hm : m < 128 := uvarint_of_one (by simpa using hl.symm)
      rw [uvarint_small hm] at hy
      cases k with
      | zero =>
        obtain rfl : n.toUInt8 = x := by simpa using hx
        obtain rfl : m.toUInt8 = y := by simpa using hy
        simp only [Nat.toUInt8, UInt8.toNat_ofNat']
        omega
      | succ k => simp at hx
    · have hm : 128 ≤ m := by
        rw [uvarint_big (by omega), List.length_cons] at hl
        have := uvarint_pos (n / 128)
        exact uvarint_of_more (by omega)
      rw [uvarint_big (by omega)] at hl hx hd
      rw [uvarint_big hm] at hl hy hd
      cases k with
      | zero =>
        have e := uvarint_inj (by simpa using hd)
        obtain rfl : (n % 128 + 128).toUInt8 = x := by simpa using hx
        obtain rfl : (m % 128 + 128).toUInt8 = y := by simpa using hy
        simp only [Nat.toUInt8, UInt8.toNat_ofNat']
        omega
      | succ k =>
        have ih := less_by_digit k (n / 128) (m / 128) x y (by simpa using hl) (by simpa using hx) (by simpa using hy) (by simpa using hd) hne
        have hnn : n / 128 ≠ m / 128 := by
          intro e
          rw [e] at hx
          have h1 : (uvarint (m / 128))[k]? = some x := by simpa using hx
          have h2 : (uvarint (m / 128))[k]? = some y := by simpa using hy
          rw [h1] at h2
          injection h2 with h2
          exact hne h2
        rw [← ih]
        omega

theorem uvarint_times (n : Nat) (h : 0 < n) : uvarint (n * 128) = 128 :: uvarint n := by
  rw [uvarint_big (by omega), show n * 128 / 128 = n from by omega, show n * 128 % 128 + 128 = 128 from by omega]
  rfl
end Go.Proofs.Ytdhdfeiobjmdaaa
