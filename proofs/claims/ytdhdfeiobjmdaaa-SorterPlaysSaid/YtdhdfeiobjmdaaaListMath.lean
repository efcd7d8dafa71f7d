/-
  Plain mathematics of lists: what is written of a list is read back, within limits, and not if it is cut off. Conditions: sizes as stated.
-/
import Derived.Test.YtdhdfeiobjmdaaaMath
namespace Go.Proofs.Ytdhdfeiobjmdaaa
open Go.Lib

theorem above_false {n limit : Int} (h : above n limit = false) : 0 ≤ limit ∧ n ≤ limit := by
  simp only [above, Bool.or_eq_false_iff, decide_eq_false_iff_not] at h
  omega
theorem above_of_le {n limit : Int} (h0 : 0 ≤ limit) (h : n ≤ limit) : above n limit = false := by
  simp only [above, Bool.or_eq_false_iff, decide_eq_false_iff_not]
  omega
theorem above_of_lt {n limit : Int} (h : limit < n) : above n limit = true := by
  simp only [above, Bool.or_eq_true, decide_eq_true_eq]
  omega

theorem uintAt_end (l : List UInt8) (p : Int) (hp : p = (l.length : Nat)) : uintAt l p = (0, 0, 11) := by
  subst hp
  unfold uintAt
  rw [if_neg (by omega), Int.toNat_natCast, List.drop_length]
  rfl

theorem blobAt_enc (pre m rest : List UInt8) (p most : Int) (hp : p = (pre.length : Nat)) (hm : m.length < 18446744073709551616) :
    blobAt (pre ++ (blobE m ++ rest)) p most = if above m.length most = true then ([], 0, 3) else (m, pre.length + (blobE m).length, 0) := by
  have hu : uintAt (pre ++ (blobE m ++ rest)) p = (m.length, pre.length + (uvarint m.length).length, 0) := by
    have h := uintAt_enc pre (m ++ rest) m.length p hp hm
    unfold blobE
    rw [List.append_assoc]
    exact h
  unfold blobAt
  rw [hu]
  simp only [ne_eq, not_true_eq_false, if_false]
  by_cases h1 : above m.length most = true
  · rw [if_pos h1, if_pos h1]
  · rw [if_neg h1, if_neg h1]
    have hlen : (pre ++ (blobE m ++ rest)).length = pre.length + ((uvarint m.length).length + m.length + rest.length) := by
      simp [blobE]; omega
    rw [if_neg (by rw [above_of_le (by omega) (by omega)]; simp)]
    have e : (pre ++ (blobE m ++ rest)).drop (pre.length + (uvarint m.length).length) = m ++ rest := by
      unfold blobE
      rw [List.append_assoc, ← List.append_assoc, ← List.length_append, List.drop_left]
    rw [e, List.take_left]
    unfold blobE
    rw [List.length_append, Nat.add_assoc]

/-- do all strings fit the limit? -/
def fitsAll (ls : List (List UInt8)) (most : Int) : Bool := ls.all fun m => !above m.length most

theorem blobsGo_enc (most : Int) : ∀ (ls : List (List UInt8)) (pre rest : List UInt8), (∀ m ∈ ls, m.length < 18446744073709551616) →
    blobsGo (pre ++ (blobsE ls ++ rest)) most ls.length pre.length = if fitsAll ls most = true then (ls, pre.length + (blobsE ls).length, 0) else ([], 0, 3)
  | [], pre, rest, _ => by simp [blobsGo, blobsE, fitsAll]
  | m :: r, pre, rest, hm => by
    have e1 : blobsE (m :: r) = blobE m ++ blobsE r := rfl
    have hb := blobAt_enc pre m (blobsE r ++ rest) pre.length most rfl (hm m (by simp))
    have ih := blobsGo_enc most r (pre ++ blobE m) rest (fun x hx => hm x (by simp [hx]))
    rw [List.length_append] at ih
    have e2 : pre ++ (blobsE (m :: r) ++ rest) = pre ++ (blobE m ++ (blobsE r ++ rest)) := by rw [e1, List.append_assoc]
    have e3 : pre ++ blobE m ++ (blobsE r ++ rest) = pre ++ (blobE m ++ (blobsE r ++ rest)) := by rw [List.append_assoc]
    rw [e3] at ih
    rw [e2, List.length_cons]
    unfold blobsGo
    rw [hb]
    by_cases h1 : above m.length most = true
    · have hf : fitsAll (m :: r) most = false := by simp [fitsAll, h1]
      rw [if_pos h1, hf]
      simp
    · rw [if_neg h1]
      have h1' : above m.length most = false := by simpa using h1
      have hf : fitsAll (m :: r) most = fitsAll r most := by simp [fitsAll, h1']
      rw [hf]
      simp only [ne_eq, not_true_eq_false, if_false]
      rw [ih]
      by_cases h2 : fitsAll r most = true
      · rw [if_pos h2, if_pos h2, e1, List.length_append]
        simp
        omega
      · rw [if_neg h2, if_neg h2]
        simp

theorem blobsAt_enc (pre rest : List UInt8) (ls : List (List UInt8)) (p many most : Int) (hp : p = (pre.length : Nat)) (hl : ls.length < 18446744073709551616) (hm : ∀ m ∈ ls, m.length < 18446744073709551616) :
    blobsAt (pre ++ (uvarint ls.length ++ (blobsE ls ++ rest))) p many most =
      if above ls.length many = true then ([], 0, 3) else if fitsAll ls most = true then (ls, pre.length + (uvarint ls.length).length + (blobsE ls).length, 0) else ([], 0, 3) := by
  have hu := uintAt_enc pre (blobsE ls ++ rest) ls.length p hp hl
  unfold blobsAt
  rw [hu]
  simp only [ne_eq, not_true_eq_false, if_false]
  by_cases h1 : above ls.length many = true
  · rw [if_pos h1, if_pos h1]
  · rw [if_neg h1, if_neg h1]
    have h := blobsGo_enc most ls (pre ++ uvarint ls.length) rest hm
    rw [List.length_append, List.append_assoc] at h
    exact h

/-- the longest of them -/
def longest (ls : List (List UInt8)) : Nat := ls.foldl (fun a m => max a m.length) 0
theorem longest_snoc (ls : List (List UInt8)) (m : List UInt8) : longest (ls ++ [m]) = max (longest ls) m.length := by
  simp [longest]
theorem foldl_max (ls : List (List UInt8)) : ∀ a b : Nat, ls.foldl (fun a m => max a m.length) (max a b) = max b (ls.foldl (fun a m => max a m.length) a) := by
  induction ls with
  | nil => intro a b; simp; omega
  | cons x r ih =>
    intro a b
    simp only [List.foldl_cons]
    rw [← ih, show max (max a b) x.length = max (max a x.length) b from by omega]
theorem longest_cons (m : List UInt8) (r : List (List UInt8)) : longest (m :: r) = max m.length (longest r) := by
  unfold longest
  rw [List.foldl_cons, foldl_max]
theorem longest_le {ls : List (List UInt8)} {m : List UInt8} (h : m ∈ ls) : m.length ≤ longest ls := by
  induction ls with
  | nil => cases h
  | cons x r ih =>
    rw [longest_cons]
    rcases List.mem_cons.1 h with e | e
    · subst e; omega
    · have := ih e; omega

theorem fitsAll_iff (ls : List (List UInt8)) (most : Int) (hne : ls ≠ []) : fitsAll ls most = true ↔ (longest ls : Int) ≤ most := by
  induction ls with
  | nil => exact absurd rfl hne
  | cons m r ih =>
    rw [longest_cons]
    have hf : fitsAll (m :: r) most = (!above m.length most && fitsAll r most) := by simp [fitsAll]
    rw [hf, Bool.and_eq_true, Bool.not_eq_true']
    by_cases hr : r = []
    · subst hr
      have : fitsAll [] most = true := rfl
      have h0 : longest [] = 0 := rfl
      rw [this, h0]
      constructor
      · intro h
        have := above_false h.1
        omega
      · intro h
        exact ⟨above_of_le (by omega) (by omega), rfl⟩
    · rw [ih hr]
      constructor
      · intro h
        have := above_false h.1
        omega
      · intro h
        exact ⟨above_of_le (by omega) (by omega), by omega⟩

theorem blobsGo_cut : ∀ (ls : List (List UInt8)) (pre : List UInt8) (k : Nat), (∀ m ∈ ls, m.length ≤ 80) → k < (blobsE ls).length →
    blobsGo (pre ++ (blobsE ls).take k) 80 ls.length pre.length = ([], 0, 11)
  | [], pre, k, _, hk => by simp [blobsE] at hk
  | m :: r, pre, k, hm, hk => by
    have e1 : blobsE (m :: r) = blobE m ++ blobsE r := rfl
    have hm80 := hm m (by simp)
    have hv : uvarint m.length = [m.length.toUInt8] := uvarint_small (by omega)
    have hbl : (blobE m).length = 1 + m.length := by simp [blobE, hv]; omega
    rw [List.length_cons]
    unfold blobsGo
    rw [e1, List.length_append] at hk
    rw [e1]
    rcases Nat.lt_or_ge k (blobE m).length with hlt | hge
    · have hbad : blobAt (pre ++ (blobE m ++ blobsE r).take k) pre.length 80 = ([], 0, 11) := by
        rw [List.take_append_of_le_length (by omega)]
        rcases Nat.eq_zero_or_pos k with h0 | h0
        · subst h0
          unfold blobAt
          rw [List.take_zero, List.append_nil, uintAt_end pre pre.length rfl]
          simp
        · have ht : (blobE m).take k = uvarint m.length ++ m.take (k - 1) := by
            obtain ⟨j, rfl⟩ : ∃ j, k = j + 1 := ⟨k - 1, by omega⟩
            simp [blobE, hv]
          have hu := uintAt_enc pre (m.take (k - 1)) m.length pre.length rfl (by omega)
          rw [ht]
          unfold blobAt
          rw [hu]
          simp only [ne_eq, not_true_eq_false, if_false]
          rw [if_neg (by rw [above_of_le (by omega) (by omega)]; simp)]
          have hlen : (pre ++ (uvarint m.length ++ m.take (k - 1))).length = pre.length + (1 + (k - 1)) := by
            simp [hv]; omega
          rw [if_pos (above_of_lt (by rw [hlen, hv]; simp; omega))]
      rw [hbad]
      simp
    · have ht : (blobE m ++ blobsE r).take k = blobE m ++ (blobsE r).take (k - (blobE m).length) := by
        rw [List.take_append, List.take_of_length_le hge]
      have hb := blobAt_enc pre m ((blobsE r).take (k - (blobE m).length)) pre.length 80 rfl (by omega)
      rw [if_neg (by rw [above_of_le (by omega) (by omega)]; simp)] at hb
      have ih := blobsGo_cut r (pre ++ blobE m) (k - (blobE m).length) (fun x hx => hm x (by simp [hx])) (by omega)
      rw [List.length_append, List.append_assoc] at ih
      rw [ht, hb]
      simp only [ne_eq, not_true_eq_false, if_false]
      rw [ih]
      simp

/-- a list of at most ten strings of at most eighty bytes, cut off anywhere -/
theorem blobsAt_cut (ls : List (List UInt8)) (k : Nat) (hl : ls.length ≤ 10) (hm : ∀ m ∈ ls, m.length ≤ 80) (hk : k < (uvarint ls.length ++ blobsE ls).length) : blobsAt ((uvarint ls.length ++ blobsE ls).take k) 0 10 80 = ([], 0, 11) := by
  have hv : uvarint ls.length = [ls.length.toUInt8] := uvarint_small (by omega)
  unfold blobsAt
  rcases Nat.eq_zero_or_pos k with h0 | h0
  · subst h0
    rw [List.take_zero, uintAt_end [] 0 rfl]
    simp
  · have ht : (uvarint ls.length ++ blobsE ls).take k = uvarint ls.length ++ (blobsE ls).take (k - 1) := by
      obtain ⟨j, rfl⟩ : ∃ j, k = j + 1 := ⟨k - 1, by omega⟩
      simp [hv]
    have hu := uintAt_enc [] ((blobsE ls).take (k - 1)) ls.length 0 rfl (by omega)
    rw [List.nil_append] at hu
    rw [ht, hu]
    simp only [ne_eq, not_true_eq_false, if_false]
    rw [if_neg (by rw [above_of_le (by omega) (by omega)]; simp)]
    have h := blobsGo_cut ls (uvarint ls.length) (k - 1) hm (by rw [List.length_append, hv] at hk; simp at hk; omega)
    simpa using h

theorem blobsAt_cutfew (ls : List (List UInt8)) (k : Nat) (hl : ls.length ≤ 10) (hk : 0 < k) (most : Int) : blobsAt ((uvarint ls.length ++ blobsE ls).take k) 0 ((ls.length : Int) - 1) most = ([], 0, 3) := by
  have hv : uvarint ls.length = [ls.length.toUInt8] := uvarint_small (by omega)
  have ht : (uvarint ls.length ++ blobsE ls).take k = uvarint ls.length ++ (blobsE ls).take (k - 1) := by
    obtain ⟨j, rfl⟩ : ∃ j, k = j + 1 := ⟨k - 1, by omega⟩
    simp [hv]
  have hu := uintAt_enc [] ((blobsE ls).take (k - 1)) ls.length 0 rfl (by omega)
  rw [List.nil_append] at hu
  unfold blobsAt
  rw [ht, hu]
  simp only [ne_eq, not_true_eq_false, if_false]
  rw [if_pos (above_of_lt (by omega))]

theorem blobsE_bound (B : Nat) : ∀ (ls : List (List UInt8)), (∀ m ∈ ls, m.length ≤ B) → B < 18446744073709551616 → (blobsE ls).length ≤ ls.length * (B + 10)
  | [], _, _ => by simp [blobsE]
  | m :: r, h, hB => by
    have ih := blobsE_bound B r (fun x hx => h x (by simp [hx])) hB
    have h1 := h m (by simp)
    have h2 := uvarint_length64 (x := m.length) (by omega)
    have e1 : blobsE (m :: r) = blobE m ++ blobsE r := rfl
    have e2 : (blobE m).length = (uvarint m.length).length + m.length := by simp [blobE]
    rw [e1, List.length_append, e2, List.length_cons, Nat.add_mul, Nat.one_mul]
    omega

theorem blobsAt_none (many most : Int) : blobsAt [] 0 many most = ([], 0, 11) := by
  unfold blobsAt
  rw [uintAt_end [] 0 rfl]
  simp
end Go.Proofs.Ytdhdfeiobjmdaaa
