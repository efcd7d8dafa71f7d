/-
  Contracts of the document's own answers for layer 1: a number, a string, a list, written. Conditions: sizes as stated.
-/
import Derived.Test.YtlobfmdkaghfmaaRef
namespace Go.Proofs.Ytlobfmdkaghfmaa
open Go.ChangeShapes Go.WideShapes Go.ChangeAt Go.RowKit
set_option linter.unusedVariables false

theorem refUint_any (A : Option Addr) (c : Nat) (l : List UInt8) (n : Nat) (w : World) (hl : l.length ≤ 274877906944) (hn : n < 18446744073709551616) (hA : Rd w w.heap.size A l) :
    Calls Try.prog 23 #[.slice A l.length c, .int .u64 n] w (RetOwn (l ++ Lib.uvarint n) w) := by
  have hD2 := Lib.uvarint_length64 hn
  go_enter Try.func23, Try.ntmps23
  go_wp2_with fail
  refine (Varint_any n w hn).mono ?_
  rintro e w1 ⟨v1, rfl, ho1, hb1⟩
  obtain ⟨A1, c1, rfl, hc1, hc2, hrd1⟩ := ho1.form
  have hA1 := hA.on hb1
  clear ho1
  go_wp2_with fail
  refine (behind_any A c l A1 c1 (Lib.uvarint n) w1 hl (by omega) hA1 hrd1).mono ?_
  rintro e w2 ⟨v2, rfl, ho2, hb2⟩
  go_wp2_with fail
  go_ret
  exact ⟨v2, rfl, ho2.mono hb1.size, hb1.trans (hb2.mono hb1.size)⟩

theorem refBlob_any (A : Option Addr) (c : Nat) (l : List UInt8) (B : Option Addr) (d : Nat) (m : List UInt8) (w : World) (hl : l.length ≤ 137438953472) (hm : m.length ≤ 137438953472) (hA : Rd w w.heap.size A l) (hB : Rd w w.heap.size B m) :
    Calls Try.prog 24 #[.slice A l.length c, .slice B m.length d] w (RetOwn (l ++ blobE m) w) := by
  have hD2 := Lib.uvarint_length64 (x := m.length) (by omega)
  go_enter Try.func24, Try.ntmps24
  go_wp2_with fail
  refine (refUint_any A c l m.length w (by omega) (by omega) hA).mono ?_
  rintro e w1 ⟨v1, rfl, ho1, hb1⟩
  obtain ⟨A1, c1, rfl, hc1, hc2, hrd1⟩ := ho1.form
  have hB1 := hB.on hb1
  have hlen : (l ++ Lib.uvarint m.length).length ≤ 137438953482 := by rw [List.length_append]; omega
  generalize hq : l ++ Lib.uvarint m.length = q at *
  have HQ := Lib.hid hq
  clear ho1 hq
  go_wp2_with fail
  refine (behind_any A1 c1 q B d m w1 (by omega) (by omega) hrd1 hB1).mono ?_
  rintro e w2 ⟨v2, rfl, ho2, hb2⟩
  rw [← HQ.out, List.append_assoc] at ho2
  go_wp2_with fail
  go_ret
  exact ⟨v2, rfl, ho2.mono hb1.size, hb1.trans (hb2.mono hb1.size)⟩

def RefPuts (pre : List UInt8) (ls : List (List UInt8)) (w : World) (v i : Value) (wr : World) : Prop :=
  ∃ k : Nat, k ≤ ls.length ∧ i = .int .i64 k ∧ Own wr w.heap.size v (pre ++ blobsE (ls.take k)) ∧ Below w.heap.size w wr

theorem refBlobs_any (A : Option Addr) (c : Nat) (l : List UInt8) (B : Option Addr) (d : Nat) (ls : List (List UInt8)) (w : World) (hl : l.length ≤ 1073741824) (hls : ls.length ≤ 1073741824) (hm : (blobsE ls).length ≤ 1073741824) (hA : Rd w w.heap.size A l) (hB : RdL w w.heap.size B ls) :
    Calls Try.prog 25 #[.slice A l.length c, .slice B ls.length d] w (RetOwn (l ++ (Lib.uvarint ls.length ++ blobsE ls)) w) := by
  have hD2 := Lib.uvarint_length64 (x := ls.length) (by omega)
  go_enter Try.func25, Try.ntmps25
  go_wp2_with fail
  refine (refUint_any A c l ls.length w (by omega) (by omega) hA).mono ?_
  rintro e w1 ⟨v1, rfl, ho1, hb1⟩
  have hlen : (l ++ Lib.uvarint ls.length).length ≤ 1073741834 := by rw [List.length_append]; omega
  generalize hq : l ++ Lib.uvarint ls.length = pre at *
  have HQ := Lib.hid hq
  clear hq
  go_wp2_with fail
  go_loopw [5, 6] (fun v i wr => RefPuts pre ls w v i wr) (fun _ i _ => ls.length - (intOf i).toNat)
  case atStart => exact ⟨0, Nat.zero_le _, rfl, by simpa [blobsE] using ho1, hb1⟩
  case round =>
    obtain ⟨k, hk, rfl, ho, hb⟩ := hrel
    have hle := blobsE_take_le ls k
    have hxl : (pre ++ blobsE (ls.take k)).length ≤ 4294967296 := by rw [List.length_append]; omega
    by_cases hlt : k < ls.length
    · obtain ⟨ad, m, A2, c2, rfl, hadb, hget, hcell, _, _, hrd⟩ := (hB.on hb).cell hlt
      have hml := blobE_le (mem_of_get hget)
      rw [blobE_length] at hml
      have hsn := take_snoc hget
      have HSN := Lib.hid (show pre ++ blobsE (ls.take (k + 1)) = (pre ++ blobsE (ls.take k)) ++ blobE m from by rw [hsn, blobsE_snoc, ← List.append_assoc])
      obtain ⟨A1, c1, hv, hc1, hc2, hrd1⟩ := ho.form
      generalize hcur : pre ++ blobsE (ls.take k) = cur at *
      subst hv
      clear hget hsn hcur
      go_wp2_with fail
      refine (refBlob_any A1 c1 cur A2 c2 m _ (by omega) (by omega) hrd1 hrd).mono ?_
      rintro e w3 ⟨v3, rfl, ho3, hb3⟩
      go_wp2_with fail
      go_roundw
      case rel => exact ⟨k + 1, by omega, by go_num, by rw [HSN.out]; exact ho3.mono hb.size, hb.trans (hb3.mono hb.size)⟩
      case measure => simp [intOf]; omega
    · obtain rfl : k = ls.length := by omega
      rw [List.take_length, ← HQ.out, List.append_assoc] at ho
      go_wp2_with fail
      go_ret
      exact ⟨_, rfl, ho, hb⟩

/-- the digits up to the first one below 128, ten at most -/
def takeD : Nat → List UInt8 → List UInt8
  | 0, _ => []
  | _ + 1, [] => []
  | f + 1, d :: t => if d.toNat < 128 then [d] else d :: takeD f t
/-- what digits say -/
def valD : List UInt8 → Nat
  | [] => 0
  | d :: t => d.toNat % 128 + 128 * valD t

theorem takeD_enc : ∀ (f n : Nat) (rest : List UInt8), (Lib.uvarint n).length ≤ f → takeD f (Lib.uvarint n ++ rest) = Lib.uvarint n
  | 0, n, rest, h => by have := Lib.uvarint_pos n; omega
  | f + 1, n, rest, h => by
    by_cases hs : n < 128
    · rw [Lib.uvarint_small hs]
      have hd : n.toUInt8.toNat = n := by simp only [Nat.toUInt8, UInt8.toNat_ofNat']; omega
      simp [takeD, hd, hs]
    · rw [Lib.uvarint_big (by omega)] at h ⊢
      have hd : (n % 128 + 128).toUInt8.toNat = n % 128 + 128 := by simp only [Nat.toUInt8, UInt8.toNat_ofNat']; omega
      have ih := takeD_enc f (n / 128) rest (by simpa using h)
      simp only [List.cons_append, takeD, hd]
      rw [if_neg (by omega), ih]
theorem valD_enc (n : Nat) : valD (Lib.uvarint n) = n := by
  suffices hk : ∀ k n, n < 128 ^ k → valD (Lib.uvarint n) = n from hk n n (Nat.lt_of_lt_of_le Nat.lt_two_pow_self (Nat.pow_le_pow_left (by omega) n))
  intro k
  induction k with
  | zero =>
    intro n h
    have : n = 0 := by simpa using h
    subst this
    rw [Lib.uvarint_small (by omega)]
    rfl
  | succ k ih =>
    intro n h
    by_cases hs : n < 128
    · rw [Lib.uvarint_small hs]
      have hd : n.toUInt8.toNat = n := by simp only [Nat.toUInt8, UInt8.toNat_ofNat']; omega
      simp only [valD, hd]
      omega
    · rw [Lib.uvarint_big (by omega)]
      have hd : (n % 128 + 128).toUInt8.toNat = n % 128 + 128 := by simp only [Nat.toUInt8, UInt8.toNat_ofNat']; omega
      have := ih (n / 128) (by rw [Nat.pow_succ] at h; exact Nat.div_lt_of_lt_mul (by rw [Nat.mul_comm]; exact h))
      simp only [valD, hd, this]
      omega
/-- short: the digits end ahead of their last one, and are not ten -/
def shortD (D : List UInt8) : Prop := D.length < 10 ∧ ∀ d ∈ D, 128 ≤ d.toNat
theorem takeD_split : ∀ (f : Nat) (l : List UInt8), ∃ rest, l = takeD f l ++ rest ∧ (takeD f l).length ≤ f
  | 0, l => ⟨l, rfl, Nat.zero_le _⟩
  | f + 1, [] => ⟨[], rfl, Nat.zero_le _⟩
  | f + 1, d :: t => by
    by_cases h : d.toNat < 128
    · exact ⟨t, by simp [takeD, h], by simp [takeD, h]⟩
    · obtain ⟨rest, h1, h2⟩ := takeD_split f t
      refine ⟨rest, ?_, ?_⟩
      · simp only [takeD, if_neg h, List.cons_append]
        rw [← h1]
      · simp only [takeD, if_neg h, List.length_cons]
        omega
theorem decU_takeD : ∀ (f i acc : Nat) (l : List UInt8), (decU f i acc l).2.2 = 11 ↔ ((takeD f l).length < f ∧ ∀ d ∈ takeD f l, 128 ≤ d.toNat)
  | 0, i, acc, l => by simp [decU, takeD]
  | f + 1, i, acc, [] => by simp [decU, takeD]
  | f + 1, i, acc, d :: t => by
    unfold decU takeD
    by_cases h : d.toNat < 128
    · rw [if_pos h, if_neg (by omega)]
      by_cases h2 : lastOk d.toNat i = true
      · rw [if_pos h2]
        simp only [List.length_cons, List.length_nil, List.mem_singleton, forall_eq]
        omega
      · rw [if_neg h2]
        simp only [List.length_cons, List.length_nil, List.mem_singleton, forall_eq]
        omega
    · rw [if_neg h, if_pos (by omega), decU_takeD f (i + 1) _ t]
      simp only [List.length_cons, List.mem_cons, forall_eq_or_imp]
      exact ⟨fun ⟨a, b⟩ => ⟨by omega, by omega, b⟩, fun ⟨a, _, b⟩ => ⟨by omega, b⟩⟩

/-- the document's GetUint tells what decU does -/
theorem decU_ref (l D : List UInt8) (v : Nat) (hD : takeD 10 l = D) (hv : v = valD D % 18446744073709551616) :
    (shortD D → decU 10 0 0 l = (0, 0, 11)) ∧ (¬ shortD D → Lib.uvarint v = D → decU 10 0 0 l = (v, D.length, 0)) ∧ (¬ shortD D → Lib.uvarint v ≠ D → decU 10 0 0 l = (0, 0, 10)) := by
  have hs := decU_takeD 10 0 0 l
  rw [hD] at hs
  have herr := decU_err 10 0 0 l
  refine ⟨fun h => ?_, fun h he => ?_, fun h he => ?_⟩
  · have h11 := hs.2 h
    have := herr (by omega)
    exact Prod.ext this.1 (Prod.ext this.2.1 h11)
  · obtain ⟨rest, hr, _⟩ := takeD_split 10 l
    rw [hD, ← he] at hr
    have hlt : v < 18446744073709551616 := by rw [hv]; exact Nat.mod_lt _ (by omega)
    have := decU_enc 10 0 0 v rest rfl (by simpa using hlt) (by omega) (fun h => absurd h (by omega))
    rw [← hr] at this
    rw [this, ← he]
    simp
  · by_cases h0 : (decU 10 0 0 l).2.2 = 0
    · exfalso
      obtain ⟨m, hn, hc, ⟨rest, hr⟩, hlt, _⟩ := decU_back 10 0 0 (decU 10 0 0 l).1 (decU 10 0 0 l).2.1 l rfl (Prod.ext rfl (Prod.ext rfl h0))
      have hm64 : m < 18446744073709551616 := by simpa using hlt
      have hDm : D = Lib.uvarint m := by rw [← hD, hr]; exact takeD_enc 10 m rest (Lib.uvarint_length64 hm64)
      apply he
      rw [hv, hDm, valD_enc, Nat.mod_eq_of_lt hm64]
    · have h3 := herr h0
      rcases h3.2.2 with h10 | h11
      · exact Prod.ext h3.1 (Prod.ext h3.2.1 h10)
      · exact absurd (hs.1 h11) h
end Go.Proofs.Ytlobfmdkaghfmaa
