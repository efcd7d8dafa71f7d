/-
  A number's text is that number again; what is shown of a value is no other's: mathematics. Conditions: numbers of 64 bits.
-/
import Derived.Test.YtaidipdofomgoaaGreatDoorVOrdM
import Derived.Lib.SplitLaws
import Derived.Lib.Replace
namespace Go.Proofs.YtaidipdofomgoaaGreatDoor
open Go.ChangeShapes Go.WideShapes Go.ChangeAt Go.RowKit
set_option linter.unusedVariables false

theorem u8digit (d : Nat) (h : d < 10) : (UInt8.ofNat (48 + d)).toNat = 48 + d := by
  rw [UInt8.toNat_ofNat']
  omega
theorem digs_dec : ∀ (u : Nat) (m : List UInt8), u ≤ 9223372036854775808 → digsGo 0 (Lib.decDigits u ++ m) = digsGo u m := by
  intro u
  induction u using Nat.strongRecOn with
  | ind u ih =>
    intro m hu
    by_cases h : u < 10
    · rw [Lib.decDigits_one h]
      have e := u8digit u h
      have h1 : ¬ (48 + u < 48 ∨ 57 < 48 + u) := by omega
      have h2 : ¬ (922337203685477580 < 0) := by omega
      have h3 : min (0 * 10 + (48 + u - 48)) 9223372036854775808 = u := by omega
      simp only [List.cons_append, List.nil_append, digsGo, e, h1, h2, h3, if_false]
    · rw [Lib.decDigits, dif_neg h]
      have e := u8digit (u % 10) (by omega)
      rw [List.append_assoc, ih (u / 10) (by omega) _ (by omega)]
      have h1 : ¬ (48 + u % 10 < 48 ∨ 57 < 48 + u % 10) := by omega
      have h2 : ¬ (922337203685477580 < u / 10) := by omega
      have h3 : min (u / 10 * 10 + (48 + u % 10 - 48)) 9223372036854775808 = u := by omega
      simp only [List.cons_append, List.nil_append, digsGo, e, h1, h2, h3, if_false]
theorem digs_all (u : Nat) (h : u ≤ 9223372036854775808) : digsGo 0 (Lib.decDigits u) = u := by
  have := digs_dec u [] h
  rw [List.append_nil] at this
  exact this
theorem dec_head : ∀ u : Nat, ∃ c r, Lib.decDigits u = c :: r ∧ 48 ≤ c.toNat ∧ c.toNat ≤ 57 := by
  intro u
  induction u using Nat.strongRecOn with
  | ind u ih =>
    by_cases h : u < 10
    · have e := u8digit u h
      exact ⟨_, [], Lib.decDigits_one h, by omega, by omega⟩
    · obtain ⟨c, r, e, h1, h2⟩ := ih (u / 10) (by omega)
      refine ⟨c, r ++ [UInt8.ofNat (48 + u % 10)], ?_, h1, h2⟩
      rw [Lib.decDigits, dif_neg h, e]
      rfl
theorem not_blank {c : Nat} (h : 33 ≤ c) : blankB c = false := by
  unfold blankB
  have h1 : ¬ c = 32 := by omega
  have h2 : ¬ c ≤ 13 := by omega
  simp [h1, h2]
/-- A NUMBER's TEXT IS THAT NUMBER -/
theorem lead_itoa (n : Int) (h : In64 n) : leadInt (Lib.itoa n) = n := by
  unfold In64 at h
  by_cases hn : n < 0
  · have e := digs_all n.natAbs (by omega)
    have e45 : (45 : UInt8).toNat = 45 := rfl
    have hd : (45 :: Lib.decDigits n.natAbs).dropWhile (fun c => blankB c.toNat) = 45 :: Lib.decDigits n.natAbs := by
      rw [List.dropWhile_cons, e45, not_blank (by omega : 33 ≤ 45)]
      rfl
    unfold Lib.itoa
    rw [if_pos hn]
    unfold leadInt
    rw [hd]
    simp only [e45, if_true, e]
    omega
  · have e := digs_all n.toNat (by omega)
    obtain ⟨c, r, hc, h1, h2⟩ := dec_head n.toNat
    unfold Lib.itoa
    rw [if_neg hn]
    rw [hc] at e ⊢
    have hd : (c :: r).dropWhile (fun c => blankB c.toNat) = c :: r := by
      rw [List.dropWhile_cons, not_blank (by omega)]
      rfl
    unfold leadInt
    rw [hd]
    have h3 : ¬ c.toNat = 45 := by omega
    have h4 : ¬ c.toNat = 43 := by omega
    simp only [h3, h4, if_false, e]
    omega
theorem itoa_inj {m n : Int} (hm : In64 m) (hn : In64 n) (h : Lib.itoa m = Lib.itoa n) : m = n := by
  rw [← lead_itoa m hm, ← lead_itoa n hn, h]
theorem itoa_head (n : Int) : ∃ c r, Lib.itoa n = c :: r ∧ (c.toNat = 45 ∨ 48 ≤ c.toNat ∧ c.toNat ≤ 57) := by
  unfold Lib.itoa
  split
  · exact ⟨45, _, rfl, .inl rfl⟩
  · obtain ⟨c, r, e, h⟩ := dec_head n.toNat
    exact ⟨c, r, e, .inr h⟩

/-- each quote doubled -/
def dbl : List UInt8 → List UInt8
  | [] => []
  | c :: r => if c = 39 then 39 :: 39 :: dbl r else c :: dbl r
theorem index_hd (l : List UInt8) : Lib.index (39 :: l) [39] = 0 := by
  unfold Lib.index
  simp [List.isPrefixOf]
theorem index_tl (b : UInt8) (l : List UInt8) (i : Nat) (h : ¬ b = 39) (hi : Lib.index l [39] = i) : Lib.index (b :: l) [39] = ((i + 1 : Nat) : Int) := by
  have h' : ¬ (39 : UInt8) = b := fun e => h e.symm
  have hb : ((39 : UInt8) == b) = false := by simpa using h'
  unfold Lib.index
  have hm : ¬ ((i : Int) == -1) = true := fun e => by have := beq_iff_eq.1 e; omega
  rw [hi, if_neg hm]
  simp [List.isPrefixOf, hb]
theorem rep_dbl : ∀ s : List UInt8, Lib.replaceK [39] [39, 39] (s.count 39) s = dbl s := by
  intro s
  induction s with
  | nil => rfl
  | cons b l ih =>
    by_cases hb : b = 39
    · subst hb
      rw [List.count_cons_self, Lib.replaceK_hit [39] [39, 39] _ _ 0 (index_hd l)]
      have e : dbl (39 :: l) = 39 :: 39 :: dbl l := by simp [dbl]
      rw [e, ← ih]
      rfl
    · rw [List.count_cons_of_ne hb]
      have e : dbl (b :: l) = b :: dbl l := by simp [dbl, hb]
      rw [e]
      cases hk : l.count 39 with
      | zero =>
        rw [hk] at ih
        rw [← ih]
        rfl
      | succ j =>
        obtain ⟨i, hi⟩ := Lib.index_of_count (s := l) (old := [39]) (by rw [Lib.count_one]; omega)
        rw [hk, Lib.replaceK_hit [39] [39, 39] j l i hi] at ih
        rw [Lib.replaceK_hit [39] [39, 39] j (b :: l) (i + 1) (index_tl b l i hb hi), ← ih]
        simp
theorem repAll_dbl (s : List UInt8) : Lib.replaceAll s [39] [39, 39] = dbl s := by
  unfold Lib.replaceAll Lib.replace
  have h : (([39] : List UInt8) == [39, 39]) = false := by decide
  rw [h]
  have hn : Lib.replaceNum s [39] (-1) = s.count 39 := by
    unfold Lib.replaceNum
    rw [if_pos (.inl (by omega)), Lib.count_one]
  rw [hn]
  exact rep_dbl s
theorem dbl_inj : ∀ s t : List UInt8, dbl s = dbl t → s = t
  | [], [] => fun _ => rfl
  | [], d :: m => fun h => by unfold dbl at h; split at h <;> cases h
  | c :: l, [] => fun h => by unfold dbl at h; split at h <;> cases h
  | c :: l, d :: m => fun h => by
    unfold dbl at h
    by_cases hc : c = 39
    · by_cases hd : d = 39
      · simp only [hc, hd, if_true, List.cons.injEq, true_and] at h ⊢
        exact dbl_inj l m h
      · subst hc
        simp only [hd, if_true, if_false, List.cons.injEq] at h
        exact absurd h.1.symm hd
    · by_cases hd : d = 39
      · subst hd
        simp only [hc, if_true, if_false, List.cons.injEq, false_and] at h
      · simp only [hc, hd, if_false, List.cons.injEq] at h
        rw [h.1, dbl_inj l m h.2]
theorem hexD_inj : ∀ a b : Fin 16, hexD a.val = hexD b.val → a = b := by decide +kernel
theorem hexL_inj : ∀ s t : List UInt8, hexL s = hexL t → s = t
  | [], [] => fun _ => rfl
  | [], d :: m => fun h => by simp [hexL] at h
  | c :: l, [] => fun h => by simp [hexL] at h
  | c :: l, d :: m => fun h => by
    have e : ∀ (c : UInt8) (l : List UInt8), hexL (c :: l) = hexD (c.toNat / 16) :: hexD (c.toNat % 16) :: hexL l := fun c l => by simp [hexL]
    rw [e, e] at h
    simp only [List.cons.injEq] at h
    obtain ⟨h1, h2, h3⟩ := h
    have hc := c.toNat_lt
    have hd := d.toNat_lt
    have a1 := congrArg Fin.val (hexD_inj ⟨c.toNat / 16, by omega⟩ ⟨d.toNat / 16, by omega⟩ h1)
    have a2 := congrArg Fin.val (hexD_inj ⟨c.toNat % 16, by omega⟩ ⟨d.toNat % 16, by omega⟩ h2)
    simp only at a1 a2
    have : c = d := UInt8.toNat_inj.1 (by omega)
    rw [this, hexL_inj l m h3]
end Go.Proofs.YtaidipdofomgoaaGreatDoor
