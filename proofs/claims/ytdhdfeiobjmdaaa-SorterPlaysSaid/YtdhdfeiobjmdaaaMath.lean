/-
  Plain mathematics of layer 1, without the program: how many digits a number has, and what its digits are. No conditions but that numbers are below 2^64.
-/
import Derived.Lib.Varint
import Derived.Lib.BitFns
namespace Go.Proofs.Ytdhdfeiobjmdaaa
open Go.Lib

theorem dg_eq (n : Nat) (hn : n < 18446744073709551616) : max 1 ((bitLen n + 6) / 7) = (uvarint n).length := by
  suffices h : ∀ k n, n < 128 ^ k → n < 18446744073709551616 → max 1 ((bitLen n + 6) / 7) = (uvarint n).length from
    h 10 n (Nat.lt_of_lt_of_le hn (by decide)) hn
  intro k
  induction k with
  | zero =>
    intro n h _
    have : n = 0 := by simpa using h
    subst this
    rw [uvarint_small (by omega)]
    decide
  | succ k ih =>
    intro n h hn
    by_cases hs : n < 128
    · rw [uvarint_small hs]
      have : bitLen n ≤ 7 := bitLenAux_le 64 n 7 (by simpa using hs)
      simp only [List.length_cons, List.length_nil]
      omega
    · have h1 := bitLen_shift 7 n (by simpa using Nat.le_of_not_lt hs) (by simpa using hn)
      have h2 := ih (n / 128) (by rw [Nat.pow_succ] at h; exact Nat.div_lt_of_lt_mul (by rw [Nat.mul_comm]; exact h)) (by omega)
      have h3 : 0 < bitLen (n / 128) := by
        rw [bitLen_half (n / 128) (by omega) (by simp; omega)]
        omega
      have e : (2 : Nat) ^ 7 = 128 := by decide
      rw [e] at h1
      rw [uvarint_big (by omega), List.length_cons, ← h2, h1]
      omega

theorem uvarint_of_one {n : Nat} (h : (uvarint n).length = 1) : n < 128 := by
  by_cases hs : n < 128
  · exact hs
  · rw [uvarint_big (by omega), List.length_cons] at h
    have := uvarint_pos (n / 128)
    omega

theorem uvarint_of_more {n : Nat} (h : 1 < (uvarint n).length) : 128 ≤ n := by
  by_cases hs : n < 128
  · rw [uvarint_small hs] at h
    simp at h
  · omega

/-- isAbove -/
def above (n limit : Int) : Bool := decide (limit < 0) || decide (limit < n)
/-- mayBeLast -/
def lastOk (d i : Nat) : Bool := !(decide (0 < i) && decide (d = 0)) && (decide (i < 9) || decide (d ≤ 1))

/-- what GetUint tells of bytes, i digits read already, which say acc: the number, how many digits, the error -/
def decU : (f i acc : Nat) → List UInt8 → Nat × Nat × Nat
  | 0, _, _, _ => (0, 0, 10)
  | _ + 1, _, _, [] => (0, 0, 11)
  | f + 1, i, acc, d :: t =>
    if 128 ≤ d.toNat then decU f (i + 1) (acc + d.toNat % 128 * 128 ^ i) t
    else if lastOk d.toNat i then (acc + d.toNat % 128 * 128 ^ i, i + 1, 0) else (0, 0, 10)

/-- GetUint: the number, the next place, the error -/
def uintAt (l : List UInt8) (p : Int) : Nat × Nat × Nat :=
  if p < 0 ∨ (l.length : Int) < p then (0, 0, 2)
  else ((decU 10 0 0 (l.drop p.toNat)).1, (if (decU 10 0 0 (l.drop p.toNat)).2.2 = 0 then p.toNat + (decU 10 0 0 (l.drop p.toNat)).2.1 else 0), (decU 10 0 0 (l.drop p.toNat)).2.2)

/-- GetBlob: the bytes, the next place, the error -/
def blobAt (l : List UInt8) (p most : Int) : List UInt8 × Nat × Nat :=
  if (uintAt l p).2.2 ≠ 0 then ([], 0, (uintAt l p).2.2)
  else if above (uintAt l p).1 most = true then ([], 0, 3)
  else if above (uintAt l p).1 ((l.length : Int) - (uintAt l p).2.1) = true then ([], 0, 11)
  else ((l.drop (uintAt l p).2.1).take (uintAt l p).1, (uintAt l p).2.1 + (uintAt l p).1, 0)

/-- n strings, one behind the other -/
def blobsGo (l : List UInt8) (most : Int) : Nat → Nat → List (List UInt8) × Nat × Nat
  | 0, p => ([], p, 0)
  | n + 1, p =>
    if (blobAt l p most).2.2 ≠ 0 then ([], 0, (blobAt l p most).2.2)
    else if (blobsGo l most n (blobAt l p most).2.1).2.2 ≠ 0 then ([], 0, (blobsGo l most n (blobAt l p most).2.1).2.2)
    else ((blobAt l p most).1 :: (blobsGo l most n (blobAt l p most).2.1).1, (blobsGo l most n (blobAt l p most).2.1).2.1, 0)

/-- GetBlobs: the list, the next place, the error -/
def blobsAt (l : List UInt8) (p many most : Int) : List (List UInt8) × Nat × Nat :=
  if (uintAt l p).2.2 ≠ 0 then ([], 0, (uintAt l p).2.2)
  else if above (uintAt l p).1 many = true then ([], 0, 3)
  else blobsGo l most (uintAt l p).1 (uintAt l p).2.1

/-- a string, written -/
def blobE (m : List UInt8) : List UInt8 := uvarint m.length ++ m
/-- strings, written one behind the other -/
def blobsE (ls : List (List UInt8)) : List UInt8 := (ls.map blobE).flatten

theorem pow128 (k : Nat) : 128 ^ k = 2 ^ (7 * k) := by
  rw [Nat.pow_mul]

/-- what decU answers -/
theorem decU_err : ∀ (f i acc : Nat) (l : List UInt8), (decU f i acc l).2.2 ≠ 0 → (decU f i acc l).1 = 0 ∧ (decU f i acc l).2.1 = 0 ∧ ((decU f i acc l).2.2 = 10 ∨ (decU f i acc l).2.2 = 11)
  | 0, _, _, _, _ => by simp [decU]
  | _ + 1, _, _, [], _ => by simp [decU]
  | f + 1, i, acc, d :: t, h => by
    unfold decU at h ⊢
    by_cases h1 : 128 ≤ d.toNat
    · rw [if_pos h1] at h ⊢
      exact decU_err f _ _ t h
    · rw [if_neg h1] at h ⊢
      by_cases h2 : lastOk d.toNat i = true
      · rw [if_pos h2] at h
        exact absurd rfl h
      · rw [if_neg h2]
        simp

theorem decU_short : ∀ (f i acc : Nat) (l : List UInt8), (decU f i acc l).2.2 = 11 → l.length < f ∧ ∀ d ∈ l, 128 ≤ d.toNat
  | 0, _, _, _, h => by simp [decU] at h
  | _ + 1, _, _, [], _ => by simp
  | f + 1, i, acc, d :: t, h => by
    unfold decU at h
    by_cases h1 : 128 ≤ d.toNat
    · rw [if_pos h1] at h
      have := decU_short f _ _ t h
      refine ⟨by simp; omega, fun x hx => ?_⟩
      rcases List.mem_cons.1 hx with e | e
      · rw [e]; exact h1
      · exact this.2 x e
    · rw [if_neg h1] at h
      by_cases h2 : lastOk d.toNat i = true
      · rw [if_pos h2] at h
        simp at h
      · rw [if_neg h2] at h
        simp at h

/-- what is written is read back -/
theorem decU_enc : ∀ (f i acc m : Nat) (rest : List UInt8), f + i = 10 → m * 128 ^ i < 18446744073709551616 → 0 < f → (0 < i → 0 < m) →
    decU f i acc (uvarint m ++ rest) = (acc + m * 128 ^ i, i + (uvarint m).length, 0)
  | 0, _, _, _, _, _, _, h, _ => absurd h (by omega)
  | f + 1, i, acc, m, rest, hf, hm, _, hpos => by
    by_cases hs : m < 128
    · rw [uvarint_small hs]
      have hd : m.toUInt8.toNat = m := by simp only [Nat.toUInt8, UInt8.toNat_ofNat']; omega
      have hl : lastOk m i = true := by
        simp only [lastOk, Bool.and_eq_true, Bool.not_eq_true', Bool.and_eq_false_iff, decide_eq_false_iff_not, Bool.or_eq_true, decide_eq_true_eq]
        refine ⟨?_, ?_⟩
        · by_cases hi : 0 < i
          · right; have := hpos hi; omega
          · left; exact hi
        · by_cases hi : i < 9
          · left; exact hi
          · right
            obtain rfl : i = 9 := by omega
            omega
      simp only [List.cons_append, List.nil_append, decU, hd]
      rw [if_neg (by omega), if_pos hl, Nat.mod_eq_of_lt hs]
      simp
    · have hlen : 0 < f := by
        rcases Nat.eq_zero_or_pos f with h0 | h0
        · subst h0
          obtain rfl : i = 9 := by omega
          omega
        · exact h0
      rw [uvarint_big (by omega)]
      have hd : (m % 128 + 128).toUInt8.toNat = m % 128 + 128 := by simp only [Nat.toUInt8, UInt8.toNat_ofNat']; omega
      have hm' : m / 128 * 128 ^ (i + 1) ≤ m * 128 ^ i := by
        rw [Nat.pow_succ, Nat.mul_comm (128 ^ i) 128, ← Nat.mul_assoc]
        exact Nat.mul_le_mul_right _ (by omega)
      have ih := decU_enc f (i + 1) (acc + m % 128 * 128 ^ i) (m / 128) rest (by omega) (by omega) hlen (fun _ => by omega)
      simp only [List.cons_append, decU, hd]
      rw [if_pos (by omega), show (m % 128 + 128) % 128 = m % 128 from by omega, ih, List.length_cons]
      have e : m % 128 * 128 ^ i + m / 128 * 128 ^ (i + 1) = m * 128 ^ i := by
        rw [Nat.pow_succ, Nat.mul_comm (128 ^ i) 128, ← Nat.mul_assoc, ← Nat.add_mul]
        congr 1
        omega
      refine Prod.ext ?_ (Prod.ext ?_ rfl)
      · show acc + m % 128 * 128 ^ i + m / 128 * 128 ^ (i + 1) = acc + m * 128 ^ i
        omega
      · show i + 1 + _ = i + (_ + 1)
        omega

/-- what is read is what would be written -/
theorem decU_back : ∀ (f i acc n c : Nat) (l : List UInt8), f + i = 10 → decU f i acc l = (n, c, 0) →
    ∃ m, n = acc + m * 128 ^ i ∧ c = i + (uvarint m).length ∧ (∃ rest, l = uvarint m ++ rest) ∧ m * 128 ^ i < 18446744073709551616 ∧ (0 < i → 0 < m)
  | 0, _, _, _, _, _, _, h => by simp [decU] at h
  | _ + 1, _, _, _, _, [], _, h => by simp [decU] at h
  | f + 1, i, acc, n, c, d :: t, hf, h => by
    unfold decU at h
    have hd := d.toNat_lt
    by_cases h1 : 128 ≤ d.toNat
    · rw [if_pos h1] at h
      obtain ⟨m, hn, hc, ⟨rest, hr⟩, hlt, hpos⟩ := decU_back f (i + 1) _ n c t (by omega) h
      have hm := hpos (by omega)
      have hp : 128 ^ (i + 1) = 128 * 128 ^ i := by rw [Nat.pow_succ, Nat.mul_comm]
      have e : (d.toNat % 128 + m * 128) * 128 ^ i = d.toNat % 128 * 128 ^ i + m * 128 ^ (i + 1) := by
        rw [Nat.add_mul, hp, Nat.mul_assoc]
      have hq : (d.toNat % 128 + m * 128) / 128 = m := by omega
      have hq2 : (d.toNat % 128 + m * 128) % 128 = d.toNat % 128 := by omega
      have hv : uvarint (d.toNat % 128 + m * 128) = d :: uvarint m := by
        rw [uvarint_big (by omega), hq, hq2]
        congr 1
        apply UInt8.toNat_inj.1
        simp only [Nat.toUInt8, UInt8.toNat_ofNat']
        omega
      refine ⟨d.toNat % 128 + m * 128, by rw [hn, e]; omega, by rw [hc, hv, List.length_cons]; omega, ⟨rest, by rw [hv, hr]; rfl⟩, ?_, fun _ => by omega⟩
      -- m * 128^(i+1) < 2^64 is a multiple of 128^(i+1), which divides 2^64 but for i + 1 = 10
      rw [e]
      by_cases h9 : i + 1 ≤ 9
      · have hpk : 128 ^ (i + 1) = 2 ^ (7 * (i + 1)) := pow128 (i + 1)
        have hdvd : 2 ^ 64 = 2 ^ (7 * (i + 1)) * 2 ^ (64 - 7 * (i + 1)) := by rw [← Nat.pow_add]; congr 1; omega
        have hlt' : m < 2 ^ (64 - 7 * (i + 1)) := by
          rw [hpk, Nat.mul_comm] at hlt
          have : 2 ^ (7 * (i + 1)) * m < 2 ^ (7 * (i + 1)) * 2 ^ (64 - 7 * (i + 1)) := by rw [← hdvd]; exact hlt
          exact Nat.lt_of_mul_lt_mul_left this
        have h3 : d.toNat % 128 * 128 ^ i < 128 ^ (i + 1) := by
          rw [hp]
          exact Nat.mul_lt_mul_of_pos_right (by omega) (Nat.pow_pos (by omega))
        have h4 : (m + 1) * 128 ^ (i + 1) ≤ 2 ^ (64 - 7 * (i + 1)) * 128 ^ (i + 1) := Nat.mul_le_mul_right _ hlt'
        have h5 : 2 ^ (64 - 7 * (i + 1)) * 128 ^ (i + 1) = 18446744073709551616 := by rw [hpk, Nat.mul_comm, ← hdvd]
        rw [Nat.add_mul] at h4
        omega
      · obtain rfl : i = 9 := by omega
        have h10 : (18446744073709551616 : Nat) ≤ 1 * 128 ^ (9 + 1) := by decide
        have h11 : (1 : Nat) * 128 ^ (9 + 1) ≤ m * 128 ^ (9 + 1) := Nat.mul_le_mul_right _ hm
        exact absurd hlt (Nat.not_lt.2 (Nat.le_trans h10 h11))
    · rw [if_neg h1] at h
      by_cases h2 : lastOk d.toNat i = true
      · rw [if_pos h2] at h
        simp only [Prod.mk.injEq, and_true] at h
        have hm : d.toNat % 128 = d.toNat := by omega
        simp only [lastOk, Bool.and_eq_true, Bool.not_eq_true', Bool.and_eq_false_iff, decide_eq_false_iff_not, Bool.or_eq_true, decide_eq_true_eq] at h2
        have hv : uvarint d.toNat = [d] := by
          rw [uvarint_small (by omega)]
          congr 1
          apply UInt8.toNat_inj.1
          simp only [Nat.toUInt8, UInt8.toNat_ofNat']
          omega
        refine ⟨d.toNat, by rw [← h.1, hm], by rw [← h.2, hv]; rfl, ⟨t, by rw [hv]; rfl⟩, ?_, fun hi => by omega⟩
        rcases h2.2 with h9 | h9
        · have : 128 ^ i ≤ 128 ^ 8 := Nat.pow_le_pow_right (by omega) (by omega)
          have h3 : d.toNat * 128 ^ i ≤ 127 * 128 ^ 8 := Nat.mul_le_mul (by omega) this
          omega
        · have : 128 ^ i ≤ 128 ^ 9 := Nat.pow_le_pow_right (by omega) (by omega)
          have h3 : d.toNat * 128 ^ i ≤ 1 * 128 ^ 9 := Nat.mul_le_mul h9 this
          omega
      · rw [if_neg h2] at h
        simp at h

theorem uintAt_enc (a b : List UInt8) (n : Nat) (p : Int) (hp : p = (a.length : Nat)) (hn : n < 18446744073709551616) : uintAt (a ++ (uvarint n ++ b)) p = (n, a.length + (uvarint n).length, 0) := by
  subst hp
  have h := decU_enc 10 0 0 n b rfl (by simpa using hn) (by omega) (fun h => absurd h (by omega))
  unfold uintAt
  rw [if_neg (by simp; omega), Int.toNat_natCast, List.drop_left, h]
  simp

theorem uintAt_back (l : List UInt8) (p : Int) (n q : Nat) (h : uintAt l p = (n, q, 0)) :
    n < 18446744073709551616 ∧ 0 ≤ p ∧ q = p.toNat + (uvarint n).length ∧ q ≤ l.length ∧ (l.drop p.toNat).take (uvarint n).length = uvarint n := by
  unfold uintAt at h
  by_cases hp : p < 0 ∨ (l.length : Int) < p
  · rw [if_pos hp] at h
    simp at h
  · rw [if_neg hp] at h
    simp only [Prod.mk.injEq] at h
    obtain ⟨h1, h2, h3⟩ := h
    rw [if_pos h3] at h2
    obtain ⟨m, hn, hc, ⟨rest, hr⟩, hlt, _⟩ := decU_back 10 0 0 n (decU 10 0 0 (l.drop p.toNat)).2.1 (l.drop p.toNat) rfl (Prod.ext h1 (Prod.ext rfl h3))
    obtain rfl : n = m := by simpa using hn
    have hlen := congrArg List.length hr
    rw [List.length_drop, List.length_append] at hlen
    refine ⟨by simpa using hlt, by omega, by omega, by omega, ?_⟩
    rw [hr, List.take_left]
theorem decU_all : ∀ (f i acc : Nat) (l : List UInt8), (∀ d ∈ l, 128 ≤ d.toNat) → l.length < f → decU f i acc l = (0, 0, 11)
  | 0, _, _, _, _, h => absurd h (by omega)
  | _ + 1, _, _, [], _, _ => rfl
  | f + 1, i, acc, d :: t, ha, hl => by
    unfold decU
    rw [if_pos (ha d (by simp))]
    exact decU_all f _ _ t (fun x hx => ha x (by simp [hx])) (by simpa using hl)

/-- all digits but the last bear the bit -/
theorem uvarint_init (n : Nat) : ∀ d ∈ (uvarint n).take ((uvarint n).length - 1), 128 ≤ d.toNat := by
  suffices h : ∀ k n, n < 128 ^ k → ∀ d ∈ (uvarint n).take ((uvarint n).length - 1), 128 ≤ d.toNat from h n n (Nat.lt_of_lt_of_le Nat.lt_two_pow_self (Nat.pow_le_pow_left (by omega) n))
  intro k
  induction k with
  | zero =>
    intro n h
    have : n = 0 := by simpa using h
    subst this
    rw [uvarint_small (by omega)]
    simp
  | succ k ih =>
    intro n h d hd
    by_cases hs : n < 128
    · rw [uvarint_small hs] at hd
      simp at hd
    · rw [uvarint_big (by omega)] at hd
      have hp := uvarint_pos (n / 128)
      obtain ⟨j, hj⟩ : ∃ j, (uvarint (n / 128)).length = j + 1 := ⟨(uvarint (n / 128)).length - 1, by omega⟩
      rw [List.length_cons, Nat.add_sub_cancel, hj, List.take_succ_cons] at hd
      rcases List.mem_cons.1 hd with e | e
      · rw [e]
        simp only [Nat.toUInt8, UInt8.toNat_ofNat']
        omega
      · refine ih (n / 128) (by rw [Nat.pow_succ] at h; exact Nat.div_lt_of_lt_mul (by rw [Nat.mul_comm]; exact h)) d ?_
        rw [hj, Nat.add_sub_cancel]
        exact e

theorem uintAt_cut (n : Nat) (hn : n < 18446744073709551616) : uintAt ((uvarint n).take ((uvarint n).length - 1)) 0 = (0, 0, 11) := by
  have h := decU_all 10 0 0 _ (uvarint_init n) (by rw [List.length_take]; have := uvarint_length64 hn; have := uvarint_pos n; omega)
  unfold uintAt
  rw [if_neg (by omega)]
  simp only [Int.toNat_zero, List.drop_zero, h]
  rfl

theorem uintAt_whole (n : Nat) (hn : n < 18446744073709551616) : uintAt (uvarint n) 0 = (n, (uvarint n).length, 0) := by
  have h := uintAt_enc [] [] n 0 rfl hn
  simpa using h
end Go.Proofs.Ytdhdfeiobjmdaaa
