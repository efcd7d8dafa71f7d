/-
  Two keys compare as their rows do (layer 3; mathematics). Conditions: right values.
-/
import Derived.Test.YtbeaiaepbmldbaaRTurnW
namespace Go.Proofs.Ytbeaiaepbmldbaa
open Go.ChangeShapes Go.WideShapes Go.ChangeAt Go.RowKit
set_option linter.unusedVariables false

def cmp3 (a b : Int) : Int := if a < b then -1 else if b < a then 1 else 0
/-- how two values compare -/
def cmpV (k n : Int) (s : ByteArray) (k' n' : Int) (s' : ByteArray) : Int :=
  if k ≠ k' then cmp3 k k' else if k = 1 then cmp3 n n' else if k = 2 ∨ k = 3 then Lib.compareBytes s.data.toList s'.data.toList else 0
/-- how two rows compare -/
def rowsC : List Trip → List Trip → List Bool → Int
  | (k, n, s) :: a, (k', n', s') :: b, d :: ds => if cmpV k n s k' n' s' = 0 then rowsC a b ds else if d then -cmpV k n s k' n' s' else cmpV k n s k' n' s'
  | _, _, _ => 0

/-- where two lists part is decided which is below -/
def Dec (l m : List UInt8) (c : Int) : Prop := ∃ (p : List UInt8) (x y : UInt8) (r r' : List UInt8), l = p ++ x :: r ∧ m = p ++ y :: r' ∧ ((x < y ∧ c = -1) ∨ (y < x ∧ c = 1))
theorem cmp_prefix (p l m : List UInt8) : Lib.compareBytes (p ++ l) (p ++ m) = Lib.compareBytes l m := by
  induction p with
  | nil => rfl
  | cons a p ih =>
    show (if a < a then (-1 : Int) else if a < a then 1 else Lib.compareBytes (p ++ l) (p ++ m)) = _
    have : ¬ a < a := by simp
    rw [if_neg this, if_neg this, ih]
theorem Dec.cmp {l m : List UInt8} {c : Int} (h : Dec l m c) (r r' : List UInt8) : Lib.compareBytes (l ++ r) (m ++ r') = c := by
  obtain ⟨p, x, y, q, q', rfl, rfl, h⟩ := h
  rw [List.append_assoc, List.append_assoc, cmp_prefix]
  show Lib.compareBytes (x :: (q ++ r)) (y :: (q' ++ r')) = c
  unfold Lib.compareBytes
  rcases h with ⟨h, rfl⟩ | ⟨h, rfl⟩
  · rw [if_pos h]
  · have : ¬ x < y := by
      rw [UInt8.lt_iff_toNat_lt] at *
      omega
    rw [if_neg this, if_pos h]
theorem Dec.cons {l m : List UInt8} {c : Int} (h : Dec l m c) (b : UInt8) : Dec (b :: l) (b :: m) c := by
  obtain ⟨p, x, y, q, q', rfl, rfl, h⟩ := h
  exact ⟨b :: p, x, y, q, q', rfl, rfl, h⟩
theorem Dec.pre {l m : List UInt8} {c : Int} (h : Dec l m c) (b : List UInt8) : Dec (b ++ l) (b ++ m) c := by
  obtain ⟨p, x, y, q, q', rfl, rfl, h⟩ := h
  exact ⟨b ++ p, x, y, q, q', by simp, by simp, h⟩
theorem Dec.head {x y : UInt8} {r r' : List UInt8} (h : x.toNat < y.toNat) : Dec (x :: r) (y :: r') (-1) := ⟨[], x, y, r, r', rfl, rfl, .inl ⟨UInt8.lt_iff_toNat_lt.2 h, rfl⟩⟩
theorem Dec.head' {x y : UInt8} {r r' : List UInt8} (h : y.toNat < x.toNat) : Dec (x :: r) (y :: r') 1 := ⟨[], x, y, r, r', rfl, rfl, .inr ⟨UInt8.lt_iff_toNat_lt.2 h, rfl⟩⟩
theorem turn0 (l : List UInt8) : turnL (turnU false) l = l := by
  unfold turnL turnU
  rw [show (fun c : UInt8 => c ^^^ (if false = true then (255 : UInt8) else 0)) = id from funext fun c => by simp]
  simp
theorem turn_flip (x y : UInt8) (h : x < y) : (y ^^^ 255) < (x ^^^ 255) := by
  rw [UInt8.lt_iff_toNat_lt] at *
  have hx : x.toNat < 256 := x.toNat_lt
  have hy : y.toNat < 256 := y.toNat_lt
  rw [UInt8.toNat_xor, UInt8.toNat_xor]
  have h1 := xor_all ⟨x.toNat, hx⟩
  have h2 := xor_all ⟨y.toNat, hy⟩
  simp only at h1 h2
  show y.toNat ^^^ 255 < x.toNat ^^^ 255
  rw [Nat.xor_comm, h2, Nat.xor_comm, h1]
  omega
theorem Dec.turn {l m : List UInt8} {c : Int} (h : Dec l m c) (d : Bool) : Dec (turnL (turnU d) l) (turnL (turnU d) m) (if d then -c else c) := by
  cases d with
  | false => rw [turn0, turn0]; exact h
  | true =>
    obtain ⟨p, x, y, q, q', rfl, rfl, h⟩ := h
    refine ⟨turnL 255 p, x ^^^ 255, y ^^^ 255, turnL 255 q, turnL 255 q', by simp [turnL, turnU], by simp [turnL, turnU], ?_⟩
    rcases h with ⟨h, rfl⟩ | ⟨h, rfl⟩
    · exact .inr ⟨turn_flip x y h, rfl⟩
    · exact .inl ⟨turn_flip y x h, rfl⟩
theorem dec_be : ∀ (k n m : Nat), n % 256 ^ k ≠ m % 256 ^ k → Dec (beN n k) (beN m k) (if n % 256 ^ k < m % 256 ^ k then -1 else 1)
  | 0, n, m, h => by simp [Nat.mod_one] at h
  | k + 1, n, m, h => by
    have e1 : n % 256 ^ (k + 1) = n % 256 ^ k + 256 ^ k * (n / 256 ^ k % 256) := Nat.mod_pow_succ
    have e2 : m % 256 ^ (k + 1) = m % 256 ^ k + 256 ^ k * (m / 256 ^ k % 256) := Nat.mod_pow_succ
    have hp : 0 < 256 ^ k := Nat.pow_pos (by decide)
    have l1 := Nat.mod_lt n hp
    have l2 := Nat.mod_lt m hp
    have ba : ∀ z, ((z / 256 ^ k).toUInt8).toNat = z / 256 ^ k % 256 := fun z => by simp only [Nat.toUInt8, UInt8.toNat_ofNat']
    rw [e1, e2] at h ⊢
    have b1 := ba n
    have b2 := ba m
    show Dec ((n / 256 ^ k).toUInt8 :: beN n k) ((m / 256 ^ k).toUInt8 :: beN m k) _
    rcases Nat.lt_trichotomy (n / 256 ^ k % 256) (m / 256 ^ k % 256) with hlt | heq | hgt
    · have hmul := Nat.mul_le_mul_left (256 ^ k) (show n / 256 ^ k % 256 + 1 ≤ m / 256 ^ k % 256 from hlt)
      rw [Nat.mul_add, Nat.mul_one] at hmul
      rw [if_pos (by omega)]
      exact Dec.head (by rw [b1, b2]; exact hlt)
    · have eb : (n / 256 ^ k).toUInt8 = (m / 256 ^ k).toUInt8 := UInt8.toNat_inj.mp (by rw [b1, b2, heq])
      rw [heq] at h ⊢
      have hne : n % 256 ^ k ≠ m % 256 ^ k := fun e => h (by rw [e])
      have ih := dec_be k n m hne
      rw [eb]
      have hc : (if n % 256 ^ k + 256 ^ k * (m / 256 ^ k % 256) < m % 256 ^ k + 256 ^ k * (m / 256 ^ k % 256) then (-1 : Int) else 1) = if n % 256 ^ k < m % 256 ^ k then -1 else 1 := by
        by_cases hl : n % 256 ^ k < m % 256 ^ k
        · rw [if_pos hl, if_pos (by omega)]
        · rw [if_neg hl, if_neg (by omega)]
      rw [hc]
      exact ih.cons _
    · have hmul := Nat.mul_le_mul_left (256 ^ k) (show m / 256 ^ k % 256 + 1 ≤ n / 256 ^ k % 256 from hgt)
      rw [Nat.mul_add, Nat.mul_one] at hmul
      rw [if_neg (by omega)]
      exact Dec.head' (by rw [b1, b2]; exact hgt)
theorem esc_zero : esc 0 = [0, 255] := by decide
theorem esc_other {c : UInt8} (h : c ≠ 0) : esc c = [c] := by simp [esc, h]
theorem pos_of {c : UInt8} (h : c ≠ 0) : 0 < c.toNat := by
  rcases Nat.eq_zero_or_pos c.toNat with e | e
  · exact absurd (UInt8.toNat_inj.mp (by simpa using e)) h
  · exact e
theorem dec_lt {c c' : UInt8} (h : c < c') (r r' : List UInt8) : Dec (esc c ++ r) (esc c' ++ r') (-1) := by
  have hl := UInt8.lt_iff_toNat_lt.1 h
  have hc' : c' ≠ 0 := by
    rintro rfl
    simp at hl
  rw [esc_other hc']
  by_cases h0 : c = 0
  · subst h0
    rw [esc_zero]
    exact Dec.head (pos_of hc')
  · rw [esc_other h0]
    exact Dec.head hl
theorem dec_gt {c c' : UInt8} (h : c' < c) (r r' : List UInt8) : Dec (esc c ++ r) (esc c' ++ r') 1 := by
  have hl := UInt8.lt_iff_toNat_lt.1 h
  have hc : c ≠ 0 := by
    rintro rfl
    simp at hl
  rw [esc_other hc]
  by_cases h0 : c' = 0
  · subst h0
    rw [esc_zero]
    exact Dec.head' (pos_of hc)
  · rw [esc_other h0]
    exact Dec.head' hl
theorem dec_str : ∀ s t : List UInt8, s ≠ t → Dec (strN s) (strN t) (Lib.compareBytes s t)
  | [], [], h => absurd rfl h
  | [], c :: t, _ => by
    show Dec [0, 0] (esc c ++ escL t ++ [0, 0]) (-1)
    by_cases h0 : c = 0
    · subst h0
      rw [esc_zero]
      exact (Dec.head (by decide : (0 : UInt8).toNat < (255 : UInt8).toNat)).cons 0
    · rw [esc_other h0]
      exact Dec.head (pos_of h0)
  | c :: s, [], _ => by
    show Dec (esc c ++ escL s ++ [0, 0]) [0, 0] 1
    by_cases h0 : c = 0
    · subst h0
      rw [esc_zero]
      exact (Dec.head' (by decide : (0 : UInt8).toNat < (255 : UInt8).toNat)).cons 0
    · rw [esc_other h0]
      exact Dec.head' (pos_of h0)
  | c :: s, c' :: t, h => by
    show Dec (esc c ++ escL s ++ [0, 0]) (esc c' ++ escL t ++ [0, 0]) (Lib.compareBytes (c :: s) (c' :: t))
    rw [List.append_assoc, List.append_assoc]
    unfold Lib.compareBytes
    by_cases h1 : c < c'
    · rw [if_pos h1]
      exact dec_lt h1 _ _
    · rw [if_neg h1]
      by_cases h2 : c' < c
      · rw [if_pos h2]
        exact dec_gt h2 _ _
      · rw [if_neg h2]
        have e : c = c' := UInt8.toNat_inj.mp (by rw [UInt8.lt_iff_toNat_lt] at h1 h2; omega)
        subst e
        exact (dec_str s t (fun e => h (by rw [e]))).pre _
theorem cmp_same : ∀ s t : List UInt8, Lib.compareBytes s t = 0 → s = t
  | [], [], _ => rfl
  | [], _ :: _, h => by simp [Lib.compareBytes] at h
  | _ :: _, [], h => by simp [Lib.compareBytes] at h
  | c :: s, c' :: t, h => by
    unfold Lib.compareBytes at h
    by_cases h1 : c < c'
    · rw [if_pos h1] at h; cases h
    · rw [if_neg h1] at h
      by_cases h2 : c' < c
      · rw [if_pos h2] at h; cases h
      · rw [if_neg h2] at h
        have e : c = c' := UInt8.toNat_inj.mp (by rw [UInt8.lt_iff_toNat_lt] at h1 h2; omega)
        rw [e, cmp_same s t h]
theorem cmp_refl : ∀ s : List UInt8, Lib.compareBytes s s = 0
  | [] => rfl
  | c :: s => by
    unfold Lib.compareBytes
    have : ¬ c < c := by simp
    rw [if_neg this, if_neg this, cmp_refl s]

theorem cmp3_cases (a b : Int) : (a < b ∧ cmp3 a b = -1) ∨ (b < a ∧ cmp3 a b = 1) ∨ (a = b ∧ cmp3 a b = 0) := by
  unfold cmp3
  by_cases h1 : a < b
  · exact .inl ⟨h1, if_pos h1⟩
  · rw [if_neg h1]
    by_cases h2 : b < a
    · exact .inr (.inl ⟨h2, if_pos h2⟩)
    · exact .inr (.inr ⟨by omega, if_neg h2⟩)
/-- two values: their parts part, or are the same -/
theorem dec_part (k n : Int) (s : ByteArray) (k' n' : Int) (s' : ByteArray) (hr : Rt k n s) (hr' : Rt k' n' s') (hn : In64 n) (hn' : In64 n') :
    (cmpV k n s k' n' s' = 0 ∧ partL k n s = partL k' n' s') ∨ (cmpV k n s k' n' s' ≠ 0 ∧ Dec (partL k n s) (partL k' n' s') (cmpV k n s k' n' s')) := by
  have hd : ∀ k n s, Rt k n s → ∃ b r, partL k n s = b :: r ∧ (b.toNat : Int) = k + 1 ∧ 0 ≤ k := by
    intro k n s hr
    rcases hr with ⟨rfl, _, _⟩ | ⟨rfl, _⟩ | ⟨rfl | rfl, _, _⟩
    · exact ⟨1, [], by simp [partL], rfl, by decide⟩
    · exact ⟨2, _, by simp only [partL]; rfl, rfl, by decide⟩
    · exact ⟨3, _, by simp only [partL]; rfl, rfl, by decide⟩
    · exact ⟨4, _, by simp only [partL]; rfl, rfl, by decide⟩
  by_cases hk : k = k'
  · subst hk
    have e0 : cmpV k n s k n' s' = if k = 1 then cmp3 n n' else if k = 2 ∨ k = 3 then Lib.compareBytes s.data.toList s'.data.toList else 0 := by simp [cmpV]
    rw [e0]
    rcases hr with ⟨rfl, _, _⟩ | ⟨rfl, _⟩ | ⟨hk2, _, _⟩
    · exact .inl ⟨by simp, by simp [partL]⟩
    · rw [if_pos rfl]
      obtain ⟨a1, a2⟩ := hn
      obtain ⟨b1, b2⟩ := hn'
      have e256 : (256 : Nat) ^ 8 = 18446744073709551616 := by decide
      have p1 : partL 1 n s = 2 :: beN (intN n) 8 := by simp [partL]
      have p2 : partL 1 n' s' = 2 :: beN (intN n') 8 := by simp [partL]
      have i1 : (intN n : Int) = n + 9223372036854775808 := by unfold intN; omega
      have i2 : (intN n' : Int) = n' + 9223372036854775808 := by unfold intN; omega
      have m1 : intN n % 256 ^ 8 = intN n := Nat.mod_eq_of_lt (by rw [e256]; omega)
      have m2 : intN n' % 256 ^ 8 = intN n' := Nat.mod_eq_of_lt (by rw [e256]; omega)
      have hdb := dec_be 8 (intN n) (intN n')
      rw [m1, m2] at hdb
      rw [p1, p2]
      rcases cmp3_cases n n' with ⟨h, hc⟩ | ⟨h, hc⟩ | ⟨h, hc⟩
      · rw [hc]
        have := hdb (by omega)
        rw [if_pos (by omega)] at this
        exact .inr ⟨by decide, this.cons 2⟩
      · rw [hc]
        have := hdb (by omega)
        rw [if_neg (by omega)] at this
        exact .inr ⟨by decide, this.cons 2⟩
      · rw [hc, h]
        exact .inl ⟨rfl, rfl⟩
    · have hk1 : k ≠ 1 := by omega
      rw [if_neg hk1, if_pos hk2]
      by_cases hs : s.data.toList = s'.data.toList
      · refine .inl ⟨by rw [hs, cmp_refl], ?_⟩
        unfold partL
        rw [if_neg hk1, if_neg hk1, hs]
      · refine .inr ⟨fun e => hs (cmp_same _ _ e), ?_⟩
        have hdd := dec_str _ _ hs
        rcases hk2 with rfl | rfl
        · have p : ∀ n s, partL 2 n s = 3 :: strN s.data.toList := fun n s => by simp [partL]
          rw [p, p]
          exact hdd.cons 3
        · have p : ∀ n s, partL 3 n s = 4 :: strN s.data.toList := fun n s => by simp [partL]
          rw [p, p]
          exact hdd.cons 4
  · have e0 : cmpV k n s k' n' s' = cmp3 k k' := by simp [cmpV, hk]
    rw [e0]
    obtain ⟨b, r, p1, q1, _⟩ := hd k n s hr
    obtain ⟨b', r', p2, q2, _⟩ := hd k' n' s' hr'
    rw [p1, p2]
    rcases cmp3_cases k k' with ⟨h, hc⟩ | ⟨h, hc⟩ | ⟨h, hc⟩
    · rw [hc]
      exact .inr ⟨by decide, Dec.head (by omega)⟩
    · rw [hc]
      exact .inr ⟨by decide, Dec.head' (by omega)⟩
    · exact absurd h hk
/-- TWO KEYS COMPARE AS THEIR ROWS DO -/
theorem keys_order : ∀ (a b : List Trip) (ds : List Bool), GoodR a → GoodR b → a.length = b.length → ds.length = a.length → Lib.compareBytes (keyL a ds) (keyL b ds) = rowsC a b ds
  | [], [], [], _, _, _, _ => rfl
  | (k, n, s) :: a, (k', n', s') :: b, d :: ds, ha, hb, hl, hd => by
    have ih := keys_order a b ds (fun t ht => ha t (List.mem_cons_of_mem _ ht)) (fun t ht => hb t (List.mem_cons_of_mem _ ht)) (by simpa using hl) (by simpa using hd)
    obtain ⟨r1, _, z1⟩ := ha (k, n, s) List.mem_cons_self
    obtain ⟨r2, _, z2⟩ := hb (k', n', s') List.mem_cons_self
    simp only [keyL, rowsC]
    rcases dec_part k n s k' n' s' r1 r2 z1 z2 with ⟨h1, h2⟩ | ⟨h1, h2⟩
    · rw [if_pos h1, h2, cmp_prefix, ih]
    · rw [if_neg h1]
      exact (h2.turn d).cmp _ _
  | [], _ :: _, _, _, _, h, _ => by simp at h
  | _ :: _, [], _, _, _, h, _ => by simp at h
  | [], [], _ :: _, _, _, _, h => by simp at h
  | _ :: _, _ :: _, [], _, _, _, h => by simp at h
end Go.Proofs.Ytbeaiaepbmldbaa
