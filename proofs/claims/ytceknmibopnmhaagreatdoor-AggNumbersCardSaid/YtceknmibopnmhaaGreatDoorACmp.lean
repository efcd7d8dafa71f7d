/-
  How values compare, as mathematics: an order. Conditions: right values.
-/
import Derived.Test.YtceknmibopnmhaaGreatDoorVVal
namespace Go.Proofs.YtceknmibopnmhaaGreatDoor
open Go.ChangeShapes Go.WideShapes Go.ChangeAt Go.RowKit
set_option linter.unusedVariables false

theorem cb_anti : ∀ (a b : List UInt8), Lib.compareBytes b a = -Lib.compareBytes a b
  | [], [] => by simp [Lib.compareBytes]
  | [], _ :: _ => by simp [Lib.compareBytes]
  | _ :: _, [] => by simp [Lib.compareBytes]
  | a :: ax, b :: bs => by
    have ih := cb_anti ax bs
    unfold Lib.compareBytes
    rcases Nat.lt_trichotomy a.toNat b.toNat with h | h | h
    · have h1 : a < b := UInt8.lt_iff_toNat_lt.2 h
      have h2 : ¬ b < a := fun h' => by have := UInt8.lt_iff_toNat_lt.1 h'; omega
      simp [h1, h2]
    · have h1 : ¬ a < b := fun h' => by have := UInt8.lt_iff_toNat_lt.1 h'; omega
      have h2 : ¬ b < a := fun h' => by have := UInt8.lt_iff_toNat_lt.1 h'; omega
      simp [h1, h2, ih]
    · have h1 : b < a := UInt8.lt_iff_toNat_lt.2 h
      have h2 : ¬ a < b := fun h' => by have := UInt8.lt_iff_toNat_lt.1 h'; omega
      simp [h1, h2]
theorem cb_zero : ∀ (a b : List UInt8), Lib.compareBytes a b = 0 ↔ a = b
  | [], [] => by simp [Lib.compareBytes]
  | [], _ :: _ => by simp [Lib.compareBytes]
  | _ :: _, [] => by simp [Lib.compareBytes]
  | a :: ax, b :: bs => by
    have ih := cb_zero ax bs
    unfold Lib.compareBytes
    rcases Nat.lt_trichotomy a.toNat b.toNat with h | h | h
    · have h1 : a < b := UInt8.lt_iff_toNat_lt.2 h
      have h3 : a ≠ b := fun e => by subst e; omega
      simp [h1, h3]
    · have h1 : ¬ a < b := fun h' => by have := UInt8.lt_iff_toNat_lt.1 h'; omega
      have h2 : ¬ b < a := fun h' => by have := UInt8.lt_iff_toNat_lt.1 h'; omega
      have h3 : a = b := UInt8.toNat_inj.1 h
      simp [h3, ih]
    · have h1 : b < a := UInt8.lt_iff_toNat_lt.2 h
      have h2 : ¬ a < b := fun h' => by have := UInt8.lt_iff_toNat_lt.1 h'; omega
      have h3 : a ≠ b := fun e => by subst e; omega
      simp [h1, h2, h3]
theorem cb_range : ∀ (a b : List UInt8), -1 ≤ Lib.compareBytes a b ∧ Lib.compareBytes a b ≤ 1
  | [], [] => by simp [Lib.compareBytes]
  | [], _ :: _ => by simp [Lib.compareBytes]
  | _ :: _, [] => by simp [Lib.compareBytes]
  | a :: ax, b :: bs => by
    have ih := cb_range ax bs
    unfold Lib.compareBytes
    split
    · simp
    · split
      · simp
      · exact ih
/-- below or the same, through one between -/
theorem cb_trans : ∀ (a b c : List UInt8), Lib.compareBytes a b ≤ 0 → Lib.compareBytes b c ≤ 0 → Lib.compareBytes a c ≤ 0 ∧ (Lib.compareBytes a b < 0 → Lib.compareBytes a c < 0)
  | [], [], c => by intro _ h; exact ⟨h, fun h' => by simp [Lib.compareBytes] at h'⟩
  | [], _ :: _, [] => by intro _ h; simp [Lib.compareBytes] at h
  | [], _ :: _, _ :: _ => by simp [Lib.compareBytes]
  | _ :: _, [], _ => by intro h; simp [Lib.compareBytes] at h
  | a :: ax, b :: bs, [] => by intro _ h; simp [Lib.compareBytes] at h
  | a :: ax, b :: bs, c :: cs => by
    have ih := cb_trans ax bs cs
    unfold Lib.compareBytes
    intro h1 h2
    rcases Nat.lt_trichotomy a.toNat b.toNat with h | h | h
    · have e1 : a < b := UInt8.lt_iff_toNat_lt.2 h
      have : a < c := by
        refine UInt8.lt_iff_toNat_lt.2 ?_
        rcases Nat.lt_trichotomy b.toNat c.toNat with h' | h' | h'
        · omega
        · omega
        · have e2 : c < b := UInt8.lt_iff_toNat_lt.2 h'
          have e3 : ¬ b < c := fun h'' => by have := UInt8.lt_iff_toNat_lt.1 h''; omega
          simp [e2, e3] at h2
      simp [this]
    · have e1 : ¬ a < b := fun h' => by have := UInt8.lt_iff_toNat_lt.1 h'; omega
      have e2 : ¬ b < a := fun h' => by have := UInt8.lt_iff_toNat_lt.1 h'; omega
      obtain rfl : a = b := UInt8.toNat_inj.1 h
      simp only [e1, if_false] at h1 ⊢
      rcases Nat.lt_trichotomy a.toNat c.toNat with h' | h' | h'
      · have e3 : a < c := UInt8.lt_iff_toNat_lt.2 h'
        simp [e3]
      · obtain rfl : a = c := UInt8.toNat_inj.1 h'
        simp only [e1, if_false] at h2 ⊢
        exact ih h1 h2
      · have e3 : c < a := UInt8.lt_iff_toNat_lt.2 h'
        have e4 : ¬ a < c := fun h'' => by have := UInt8.lt_iff_toNat_lt.1 h''; omega
        simp [e3, e4] at h2
    · have e1 : b < a := UInt8.lt_iff_toNat_lt.2 h
      have e2 : ¬ a < b := fun h' => by have := UInt8.lt_iff_toNat_lt.1 h'; omega
      simp [e1, e2] at h1

theorem cmp_anti (k n : Int) (s : ByteArray) (k' n' : Int) (s' : ByteArray) : cmpV k' n' s' k n s = -cmpV k n s k' n' s' := by
  unfold cmpV
  by_cases h : k = k'
  · subst h
    simp only [ne_eq, not_true_eq_false, if_false]
    by_cases h1 : k = 1
    · simp only [h1, if_true]; unfold cmp3; split <;> split <;> first | omega | (split <;> omega) | simp_all
    · simp only [h1, if_false]
      split
      · exact cb_anti _ _
      · rfl
  · have h' : ¬ k' = k := fun e => h e.symm
    simp only [ne_eq, h, h', not_false_eq_true, if_true]
    unfold cmp3; split <;> split <;> first | omega | (split <;> omega) | simp_all
theorem cmp_range (k n : Int) (s : ByteArray) (k' n' : Int) (s' : ByteArray) : -1 ≤ cmpV k n s k' n' s' ∧ cmpV k n s k' n' s' ≤ 1 := by
  have hb := cb_range s.data.toList s'.data.toList
  unfold cmpV cmp3
  split
  · split
    · omega
    · split <;> omega
  · split
    · split
      · omega
      · split <;> omega
    · split
      · exact hb
      · omega
theorem ba_ext {s s' : ByteArray} (h : s.data.toList = s'.data.toList) : s = s' := by
  rcases s with ⟨⟨l⟩⟩
  rcases s' with ⟨⟨m⟩⟩
  simp at h
  rw [h]
theorem ba_nil {s : ByteArray} (h : s.size = 0) : s = ⟨#[]⟩ := by
  rcases s with ⟨⟨l⟩⟩
  have : l.length = 0 := h
  rw [List.eq_nil_of_length_eq_zero this]
/-- the same are just the same -/
theorem cmp_zero (k n : Int) (s : ByteArray) (k' n' : Int) (s' : ByteArray) (hr : Rt k n s) (hr' : Rt k' n' s') : cmpV k n s k' n' s' = 0 ↔ (k = k' ∧ n = n' ∧ s = s') := by
  constructor
  · intro h
    unfold cmpV at h
    by_cases hk : k = k'
    · subst hk
      simp only [ne_eq, not_true_eq_false, if_false] at h
      rcases hr with ⟨rfl, rfl, h0⟩ | ⟨rfl, h0⟩ | ⟨h1, rfl, h0⟩
      · rcases hr' with ⟨_, rfl, h0'⟩ | ⟨h1', _⟩ | ⟨h1', _, _⟩
        · exact ⟨rfl, rfl, (ba_nil h0).trans (ba_nil h0').symm⟩
        · omega
        · omega
      · rcases hr' with ⟨h1', _, _⟩ | ⟨_, h0'⟩ | ⟨h1', _, _⟩
        · omega
        · refine ⟨rfl, ?_, (ba_nil h0).trans (ba_nil h0').symm⟩
          simp only [if_true] at h
          unfold cmp3 at h
          split at h
          · omega
          · split at h <;> omega
        · omega
      · rcases hr' with ⟨h1', _, _⟩ | ⟨h1', _⟩ | ⟨_, rfl, h0'⟩
        · omega
        · omega
        · have hk1 : ¬ k = 1 := by omega
          simp only [hk1, if_false, h1, if_true] at h
          exact ⟨rfl, rfl, ba_ext ((cb_zero _ _).1 h)⟩
    · simp only [ne_eq, hk, not_false_eq_true, if_true] at h
      unfold cmp3 at h
      split at h
      · omega
      · split at h <;> omega
  · rintro ⟨rfl, rfl, rfl⟩
    have := (cb_zero s.data.toList s.data.toList).2 rfl
    simp [cmpV, cmp3, this]
theorem cmp_trans (k n : Int) (s : ByteArray) (k' n' : Int) (s' : ByteArray) (k2 n2 : Int) (s2 : ByteArray) (h1 : cmpV k n s k' n' s' ≤ 0) (h2 : cmpV k' n' s' k2 n2 s2 ≤ 0) :
    cmpV k n s k2 n2 s2 ≤ 0 ∧ (cmpV k n s k' n' s' < 0 → cmpV k n s k2 n2 s2 < 0) := by
  have c3 : ∀ a b : Int, cmp3 a b ≤ 0 ↔ a ≤ b := by
    intro a b
    unfold cmp3
    split
    · omega
    · split <;> omega
  have c4 : ∀ a b : Int, cmp3 a b < 0 ↔ a < b := by
    intro a b
    unfold cmp3
    split
    · omega
    · split <;> omega
  have tb := cb_trans s.data.toList s'.data.toList s2.data.toList
  unfold cmpV at h1 h2 ⊢
  by_cases e1 : k = k'
  · subst e1
    by_cases e2 : k = k2
    · subst e2
      simp only [ne_eq, not_true_eq_false, if_false] at h1 h2 ⊢
      by_cases f1 : k = 1
      · simp only [f1, if_true, c3, c4] at h1 h2 ⊢
        omega
      · simp only [f1, if_false] at h1 h2 ⊢
        by_cases f2 : k = 2 ∨ k = 3
        · simp only [f2, if_true] at h1 h2 ⊢
          exact tb h1 h2
        · simp only [f2, if_false]
          omega
    · simp only [ne_eq, not_true_eq_false, if_false, e2, not_false_eq_true, if_true, c3, c4] at h1 h2 ⊢
      exact ⟨h2, fun _ => by omega⟩
  · by_cases e2 : k' = k2
    · subst e2
      simp only [ne_eq, not_true_eq_false, if_false, e1, not_false_eq_true, if_true, c3, c4] at h1 h2 ⊢
      omega
    · simp only [ne_eq, e1, e2, not_false_eq_true, if_true, c3, c4] at h1 h2 ⊢
      have e3 : ¬ k = k2 := by omega
      simp only [e3, not_false_eq_true, if_true, c3, c4]
      omega
end Go.Proofs.YtceknmibopnmhaaGreatDoor
