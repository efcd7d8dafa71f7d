/-
  What is put into a key is read back: the mathematics. No condition but the values' own.
-/
import Derived.Test.YtdhdfeiobjmdaaaRUnk
import Derived.Test.YtdhdfeiobjmdaaaRJoinW
namespace Go.Proofs.Ytdhdfeiobjmdaaa
open Go.ChangeShapes Go.WideShapes Go.ChangeAt Go.RowKit
set_option linter.unusedVariables false

theorem xor_back (c t : UInt8) : (c ^^^ t) ^^^ t = c := by
  rw [UInt8.xor_assoc, UInt8.xor_self, UInt8.xor_zero]
theorem getS_ne {t c : UInt8} {l : List UInt8} {n : Nat} (hl : l ≠ []) (hn : n ≤ 65536) (h0 : (c ^^^ t).toNat ≠ 0) : getS t (c :: l) n = (getS t l (n + 1)).map (fun p => ((c ^^^ t) :: p.1, p.2)) := by
  cases l with
  | nil => exact absurd rfl hl
  | cons d l => rw [getS, if_neg (by omega), if_pos h0]
/-- a string is read back, and what is behind it -/
theorem getS_str (t : UInt8) (r : List UInt8) : ∀ (s : List UInt8) (n : Nat), n + s.length ≤ 65536 → getS t (turnL t (strN s) ++ r) n = some (s, r)
  | [], n, h => by
    have e : turnL t (strN []) ++ r = (0 ^^^ t) :: (0 ^^^ t) :: r := rfl
    rw [e, getS, if_neg (by simp at h; omega), xor_back]
    simp
  | c :: s, n, h => by
    have ih := getS_str t r s (n + 1) (by simp at h; omega)
    simp only [List.length_cons] at h
    by_cases h0 : c = 0
    · subst h0
      have e : turnL t (strN (0 :: s)) ++ r = (0 ^^^ t) :: (255 ^^^ t) :: (turnL t (strN s) ++ r) := by simp [strN, escL, esc, turnL]
      rw [e, getS, if_neg (by omega), xor_back, xor_back, if_neg (by simp), if_pos (by decide), ih]
      rfl
    · have e : turnL t (strN (c :: s)) ++ r = (c ^^^ t) :: (turnL t (strN s) ++ r) := by simp [strN, escL, esc, turnL, h0]
      rw [e, getS_ne (by simp [strN, turnL]) (by omega) (by rw [xor_back]; intro h; exact h0 (UInt8.toNat_inj.1 h)), ih, xor_back]
      rfl
theorem numN_be (t : UInt8) (m : Nat) (r : List UInt8) : ∀ k, ∀ a : Nat, ((turnL t (beN m k) ++ r).take k).foldl (fun n c => n * 256 + (c ^^^ t).toNat) a = a * 256 ^ k + m % 256 ^ k
  | 0, a => by simp [Nat.mod_one]
  | k + 1, a => by
    have e : turnL t (beN m (k + 1)) ++ r = ((m / 256 ^ k).toUInt8 ^^^ t) :: (turnL t (beN m k) ++ r) := rfl
    have hd : ((m / 256 ^ k).toUInt8).toNat = m / 256 ^ k % 256 := by simp [Nat.toUInt8]
    rw [e, List.take_succ_cons, List.foldl_cons, xor_back, hd, numN_be t m r k]
    have h1 : m % 256 ^ (k + 1) = m % 256 ^ k + 256 ^ k * (m / 256 ^ k % 256) := by rw [Nat.pow_succ, Nat.mod_mul]
    rw [h1, Nat.pow_succ, Nat.add_mul, Nat.mul_comm (256 ^ k) (m / 256 ^ k % 256)]
    have h2 : a * 256 * 256 ^ k = a * (256 ^ k * 256) := by rw [Nat.mul_assoc, Nat.mul_comm 256 (256 ^ k)]
    omega
theorem getP_part (k n : Int) (s : ByteArray) (t : UInt8) (r : List UInt8) (hr : Rt k n s) (hn : In64 n) : getP t (turnL t (partL k n s) ++ r) = some ((k, n, s), r) := by
  have hs : ∀ s : ByteArray, (⟨s.data.toList.toArray⟩ : ByteArray) = s := fun s => rfl
  have h00 : ∀ s : ByteArray, s.size = 0 → s = ⟨#[]⟩ := fun s h => by
    rcases s with ⟨⟨l⟩⟩
    cases l with
    | nil => rfl
    | cons c l => simp [ByteArray.size] at h
  rcases hr with ⟨rfl, rfl, h⟩ | ⟨rfl, h⟩ | ⟨hk, rfl, h⟩
  · have e : turnL t (partL 0 0 s) ++ r = (1 ^^^ t) :: r := rfl
    rw [e, getP, xor_back, if_pos (by decide), h00 s h]
  · have e : turnL t (partL 1 n s) ++ r = (2 ^^^ t) :: (turnL t (beN (intN n) 8) ++ r) := rfl
    have hl : (turnL t (beN (intN n) 8)).length = 8 := by rw [turnL_length, beN_length]
    have hi : intN n % 256 ^ 8 = intN n := by obtain ⟨a, b⟩ := hn; unfold intN; omega
    rw [e, getP, xor_back, if_neg (by decide), if_pos (by decide), if_neg (by rw [List.length_append, hl]; omega), h00 s h]
    have hv : numN t (turnL t (beN (intN n) 8) ++ r) 8 = intN n := by
      rw [numN, numN_be, hi]
      omega
    have hd : (turnL t (beN (intN n) 8) ++ r).drop 8 = r := by rw [List.drop_append_of_le_length (by omega), List.drop_eq_nil_of_le (by omega)]; rfl
    rw [hv, hd]
    have : ((intN n : Nat) : Int) - 9223372036854775808 = n := by obtain ⟨a, b⟩ := hn; unfold intN; omega
    rw [this]
  · have hl : s.data.toList.length = s.size := by rcases s with ⟨⟨l⟩⟩; rfl
    rcases hk with rfl | rfl
    · have e : turnL t (partL 2 0 s) ++ r = (3 ^^^ t) :: (turnL t (strN s.data.toList) ++ r) := rfl
      rw [e, getP, xor_back, if_neg (by decide), if_neg (by decide), if_pos (by decide), getS_str t r _ 0 (by omega)]
      rfl
    · have e : turnL t (partL 3 0 s) ++ r = (4 ^^^ t) :: (turnL t (strN s.data.toList) ++ r) := rfl
      rw [e, getP, xor_back, if_neg (by decide), if_neg (by decide), if_neg (by decide), if_pos (by decide), getS_str t r _ 0 (by omega)]
      rfl
/-- A KEY IS READ BACK -/
theorem getK_key : ∀ (vs : List Trip) (ds : List Bool) (r : List UInt8), (∀ v ∈ vs, Rt v.1 v.2.1 v.2.2 ∧ In64 v.2.1) → vs.length = ds.length → getK ds (keyL vs ds ++ r) = if r = [] then some vs else none
  | [], [], r, _, _ => rfl
  | (k, n, s) :: vs, d :: ds, r, h, hl => by
    have ih := getK_key vs ds r (fun v hv => h v (List.mem_cons_of_mem _ hv)) (by simpa using hl)
    obtain ⟨hr, hn⟩ := h (k, n, s) List.mem_cons_self
    rw [keyL, List.append_assoc, getK, getP_part k n s _ _ hr hn]
    show (getK ds (keyL vs ds ++ r)).map ((k, n, s) :: ·) = _
    rw [ih]
    by_cases h : r = []
    · rw [if_pos h, if_pos h]; rfl
    · rw [if_neg h, if_neg h]; rfl
  | [], _ :: _, _, _, h => by simp at h
  | _ :: _, [], _, _, h => by simp at h
theorem turn_eq {c t x : UInt8} (h : (c ^^^ t).toNat = x.toNat) : c = x ^^^ t := by
  have h2 : c ^^^ t = x := UInt8.toNat_inj.1 h
  rw [← h2, xor_back]
/-- what is read as a string is that string's bytes -/
theorem getS_inv (t : UInt8) : ∀ (m : Nat) (l : List UInt8), l.length ≤ m → ∀ (n : Nat) (x r : List UInt8), getS t l n = some (x, r) → l = turnL t (strN x) ++ r ∧ n + x.length ≤ 65536
  | m, [], _, n, x, r, h => by simp [getS] at h
  | m, [c], _, n, x, r, h => by simp [getS] at h
  | 0, c :: d :: l, hm, n, x, r, h => by simp at hm
  | m + 1, c :: d :: l, hm, n, x, r, h => by
    simp only [List.length_cons] at hm
    rw [getS] at h
    split at h
    · cases h
    · split at h
      · rename_i hn h0
        cases hg : getS t (d :: l) (n + 1) with
        | none => rw [hg] at h; cases h
        | some p =>
          obtain ⟨y, q⟩ := p
          rw [hg] at h
          obtain ⟨h1, h2⟩ := getS_inv t m (d :: l) (by simp; omega) (n + 1) y q hg
          injection h with h
          injection h with h3 h4
          subst h3 h4
          refine ⟨?_, by simp only [List.length_cons]; omega⟩
          have hne : c ^^^ t ≠ 0 := fun e => h0 (by rw [e]; rfl)
          rw [h1]
          simp [strN, escL, esc, turnL, hne, xor_back]
      · split at h
        · rename_i hn h0 h255
          cases hg : getS t l (n + 1) with
          | none => rw [hg] at h; cases h
          | some p =>
            obtain ⟨y, q⟩ := p
            rw [hg] at h
            obtain ⟨h1, h2⟩ := getS_inv t m l (by omega) (n + 1) y q hg
            injection h with h
            injection h with h3 h4
            subst h3 h4
            refine ⟨?_, by simp only [List.length_cons]; omega⟩
            have e1 : c = 0 ^^^ t := turn_eq (x := 0) (by have : (0 : UInt8).toNat = 0 := rfl; omega)
            have e2 : d = 255 ^^^ t := turn_eq h255
            rw [h1, e1, e2]
            simp [strN, escL, esc, turnL]
        · split at h
          · rename_i hn h0 h255 hd
            injection h with h
            injection h with h3 h4
            subst h3 h4
            have e1 : c = 0 ^^^ t := turn_eq (x := 0) (by have : (0 : UInt8).toNat = 0 := rfl; omega)
            have e2 : d = 0 ^^^ t := turn_eq hd
            refine ⟨?_, by simp; omega⟩
            rw [e1, e2]
            rfl
          · cases h
abbrev foldN (t : UInt8) (l : List UInt8) (a : Nat) : Nat := l.foldl (fun n c => n * 256 + (c ^^^ t).toNat) a
theorem foldN_eq (t : UInt8) : ∀ (l : List UInt8) (a : Nat), foldN t l a = a * 256 ^ l.length + foldN t l 0 ∧ foldN t l 0 < 256 ^ l.length
  | [], a => by simp [foldN]
  | c :: l, a => by
    obtain ⟨h1, h2⟩ := foldN_eq t l (a * 256 + (c ^^^ t).toNat)
    obtain ⟨h3, _⟩ := foldN_eq t l (0 * 256 + (c ^^^ t).toNat)
    have e1 : foldN t (c :: l) a = foldN t l (a * 256 + (c ^^^ t).toNat) := rfl
    have e2 : foldN t (c :: l) 0 = foldN t l (0 * 256 + (c ^^^ t).toNat) := rfl
    rw [e1, e2, h1, h3, List.length_cons, Nat.pow_succ]
    have hq := (c ^^^ t).toNat_lt
    generalize (c ^^^ t).toNat = q at *
    generalize 256 ^ l.length = P at *
    have e3 : (a * 256 + q) * P = a * (P * 256) + q * P := by rw [Nat.add_mul, Nat.mul_assoc, Nat.mul_comm 256 P]
    have e4 : (0 * 256 + q) * P = q * P := by simp
    rw [e3, e4]
    refine ⟨by omega, ?_⟩
    have : q * P ≤ 255 * P := Nat.mul_le_mul_right P (by omega)
    omega
theorem be_foldN (t : UInt8) : ∀ (l : List UInt8) (a : Nat), turnL t (beN (foldN t l a) l.length) = l
  | [], a => rfl
  | c :: l, a => by
    have ih := be_foldN t l (a * 256 + (c ^^^ t).toNat)
    obtain ⟨h1, h2⟩ := foldN_eq t l (a * 256 + (c ^^^ t).toNat)
    have e1 : foldN t (c :: l) a = foldN t l (a * 256 + (c ^^^ t).toNat) := rfl
    rw [e1, List.length_cons]
    have hd : (foldN t l (a * 256 + (c ^^^ t).toNat)) / 256 ^ l.length = a * 256 + (c ^^^ t).toNat := by
      rw [h1, Nat.mul_comm, Nat.mul_add_div (Nat.pow_pos (by omega)), Nat.div_eq_of_lt h2, Nat.add_zero]
    have hq : (a * 256 + (c ^^^ t).toNat).toUInt8 = c ^^^ t := by
      apply UInt8.toNat_inj.1
      have := (c ^^^ t).toNat_lt
      simp only [Nat.toUInt8, UInt8.toNat_ofNat']
      omega
    show turnL t ((foldN t l (a * 256 + (c ^^^ t).toNat) / 256 ^ l.length).toUInt8 :: beN (foldN t l (a * 256 + (c ^^^ t).toNat)) l.length) = c :: l
    rw [hd, hq]
    show ((c ^^^ t) ^^^ t) :: turnL t (beN (foldN t l (a * 256 + (c ^^^ t).toNat)) l.length) = c :: l
    rw [ih, xor_back]
theorem getP_inv {t : UInt8} {b r : List UInt8} {k n : Int} {s : ByteArray} (h : getP t b = some ((k, n, s), r)) : b = turnL t (partL k n s) ++ r ∧ Rt k n s ∧ In64 n := by
  have h64 : In64 0 := by unfold In64; omega
  cases b with
  | nil => cases h
  | cons c l =>
    rw [getP] at h
    split at h
    · rename_i h1
      injection h with h
      injection h with h2 h3
      injection h2 with h4 h5
      injection h5 with h6 h7
      subst h3 h4 h6 h7
      rw [turn_eq (x := 1) h1]
      exact ⟨rfl, .inl ⟨rfl, rfl, rfl⟩, h64⟩
    · split at h
      · rename_i h1
        split at h
        · cases h
        · rename_i hl
          injection h with h
          injection h with h2 h3
          injection h2 with h4 h5
          injection h5 with h6 h7
          subst h3 h4 h6 h7
          have hlt : (l.take 8).length = 8 := by rw [List.length_take]; omega
          have hb := be_foldN t (l.take 8) 0
          have hn : foldN t (l.take 8) 0 = numN t l 8 := rfl
          have hm := numN_lt t l 8
          rw [hlt, hn] at hb
          have hi : intN ((numN t l 8 : Int) - 9223372036854775808) = numN t l 8 := by unfold intN; omega
          rw [turn_eq (x := 2) h1]
          refine ⟨?_, .inr (.inl ⟨rfl, rfl⟩), by unfold In64; omega⟩
          show (2 ^^^ t) :: l = (2 ^^^ t) :: (turnL t (beN (intN ((numN t l 8 : Int) - 9223372036854775808)) 8) ++ l.drop 8)
          rw [hi, hb, List.take_append_drop]
      · split at h
        · rename_i h1
          cases hg : getS t l 0 with
          | none => rw [hg] at h; cases h
          | some p =>
            obtain ⟨y, q⟩ := p
            rw [hg] at h
            obtain ⟨g1, g2⟩ := getS_inv t l.length l (Nat.le_refl _) 0 y q hg
            injection h with h
            injection h with h2 h3
            injection h2 with h4 h5
            injection h5 with h6 h7
            subst h3 h4 h6 h7
            rw [turn_eq (x := 3) h1]
            refine ⟨?_, .inr (.inr ⟨.inl rfl, rfl, ?_⟩), h64⟩
            · show (3 ^^^ t) :: l = (3 ^^^ t) :: (turnL t (strN y) ++ q)
              rw [← g1]
            · show y.length ≤ 65536
              omega
        · split at h
          · rename_i h1
            cases hg : getS t l 0 with
            | none => rw [hg] at h; cases h
            | some p =>
              obtain ⟨y, q⟩ := p
              rw [hg] at h
              obtain ⟨g1, g2⟩ := getS_inv t l.length l (Nat.le_refl _) 0 y q hg
              injection h with h
              injection h with h2 h3
              injection h2 with h4 h5
              injection h5 with h6 h7
              subst h3 h4 h6 h7
              rw [turn_eq (x := 4) h1]
              refine ⟨?_, .inr (.inr ⟨.inr rfl, rfl, ?_⟩), h64⟩
              · show (4 ^^^ t) :: l = (4 ^^^ t) :: (turnL t (strN y) ++ q)
                rw [← g1]
              · show y.length ≤ 65536
                omega
          · cases h
/-- what is read as a row is its key -/
theorem getK_inv : ∀ (ds : List Bool) (b : List UInt8) (vs : List Trip), getK ds b = some vs → b = keyL vs ds ∧ (∀ v ∈ vs, Rt v.1 v.2.1 v.2.2 ∧ In64 v.2.1) ∧ vs.length = ds.length
  | [], b, vs, h => by
    rw [getK] at h
    split at h
    · rename_i hb
      injection h with h
      subst h hb
      exact ⟨rfl, (fun v hv => absurd hv (by simp)), rfl⟩
    · cases h
  | d :: ds, b, vs, h => by
    rw [getK] at h
    cases hp : getP (turnU d) b with
    | none => rw [hp] at h; cases h
    | some p =>
      obtain ⟨⟨k, n, s⟩, r⟩ := p
      rw [hp] at h
      obtain ⟨h1, h2, h3⟩ := getP_inv hp
      replace h : (getK ds r).map ((k, n, s) :: ·) = some vs := h
      cases hk : getK ds r with
      | none => rw [hk] at h; cases h
      | some ws =>
        rw [hk] at h
        injection h with h
        subst h
        obtain ⟨h4, h5, h6⟩ := getK_inv ds r ws hk
        refine ⟨by rw [h1, keyL, ← h4], fun v hv => ?_, by simp [h6]⟩
        rcases List.mem_cons.1 hv with rfl | hv
        · exact ⟨h2, h3⟩
        · exact h5 v hv
/-- NO KEY IS THE BEGIN OF ANOTHER ONE: cut, it is none -/
theorem getK_cut {vs : List Trip} {ds : List Bool} (h : ∀ v ∈ vs, Rt v.1 v.2.1 v.2.2 ∧ In64 v.2.1) (hl : vs.length = ds.length) {k : Nat} (hk : k < (keyL vs ds).length) : getK ds ((keyL vs ds).take k) = none := by
  cases hg : getK ds ((keyL vs ds).take k) with
  | none => rfl
  | some ws =>
    obtain ⟨h1, h2, h3⟩ := getK_inv ds _ ws hg
    have h4 := getK_key ws ds ((keyL vs ds).drop k) h2 h3
    rw [← h1, List.take_append_drop, if_neg (fun e => by have := congrArg List.length e; rw [List.length_drop] at this; simp at this; omega)] at h4
    have h5 := getK_key vs ds [] h hl
    rw [List.append_nil, h4] at h5
    cases h5
/-- with more behind it, it is none -/
theorem getK_more {vs : List Trip} {ds : List Bool} (h : ∀ v ∈ vs, Rt v.1 v.2.1 v.2.2 ∧ In64 v.2.1) (hl : vs.length = ds.length) {r : List UInt8} (hr : r ≠ []) : getK ds (keyL vs ds ++ r) = none := by
  rw [getK_key vs ds r h hl, if_neg hr]
end Go.Proofs.Ytdhdfeiobjmdaaa
