/-
  instr finds the first place (layer 2, value; mathematics). Conditions: texts of at most 300 bytes.
-/
import Derived.Test.YtgaeljiindpcmaaGreatDoorVCutN
import Derived.Lib.IndexMore
namespace Go.Proofs.YtgaeljiindpcmaaGreatDoor
open Go.ChangeShapes Go.WideShapes Go.ChangeAt Go.RowKit
set_option linter.unusedVariables false

theorem index_spec : ∀ (s t : List UInt8) (i : Nat), Lib.index s t = i → i ≤ s.length ∧ Lib.occAt s t i = true ∧ ∀ j, j < i → Lib.occAt s t j = false
  | [], t, i, h => by
    unfold Lib.index at h
    split at h
    · have : i = 0 := by omega
      subst this
      rename_i he
      refine ⟨by simp, ?_, by omega⟩
      cases t with
      | nil => rfl
      | cons a r => simp at he
    · omega
  | b :: l, t, i, h => by
    unfold Lib.index at h
    split at h
    · have : i = 0 := by omega
      subst this
      rename_i hp
      exact ⟨by simp, by simpa [Lib.occAt] using hp, by omega⟩
    · rename_i hp
      split at h
      · omega
      · rename_i hn
        have hge := Lib.index_ge l t
        have hne : Lib.index l t ≠ -1 := by simpa using hn
        obtain ⟨k, hk⟩ : ∃ k : Nat, Lib.index l t = k := ⟨(Lib.index l t).toNat, by omega⟩
        obtain ⟨h1, h2, h3⟩ := index_spec l t k hk
        have : i = k + 1 := by omega
        subst this
        refine ⟨by simp only [List.length_cons]; omega, by simpa [Lib.occAt] using h2, ?_⟩
        intro j hj
        cases j with
        | zero =>
          show t.isPrefixOf (b :: l) = false
          exact Bool.eq_false_iff.2 hp
        | succ j => simpa [Lib.occAt] using h3 j (by omega)

/-- what lies where instr says is the text that was asked for -/
theorem occ_extract (s t : ByteArray) (i : Nat) (hi : i ≤ s.size) (h : Lib.occAt s.data.toList t.data.toList i = true) : i + t.size ≤ s.size ∧ s.extract i (i + t.size) = t := by
  have hr : i + t.size ≤ s.size := by
    rcases Lib.occAt_room h with h' | h'
    · exact h'
    · have h2 : t.data.toList.length = 0 := by rw [h']; rfl
      have h3 : t.size = t.data.toList.length := rfl
      omega
  refine ⟨hr, ?_⟩
  have ht : t.size = t.data.toList.length := rfl
  rw [Lib.occAt_iff_take _ _ _ (by rw [← ht]; exact hr)] at h
  apply ba_ext
  have h2 : (s.data.toList.drop i).take t.data.toList.length = t.data.toList := eq_of_beq h
  rw [← h2]
  rcases s with ⟨⟨l⟩⟩
  rcases t with ⟨⟨m⟩⟩
  simp [ByteArray.data_extract, ByteArray.size]

/-- ahead of the last byte of what was found first there is none -/
theorem index_ahead (s t : ByteArray) (i : Nat) (h0 : 0 < i) (h : Lib.index s.data.toList t.data.toList = i) : i - 1 + t.size ≤ s.size ∧ Lib.index (s.extract 0 (i - 1 + t.size)).data.toList t.data.toList = -1 := by
  obtain ⟨h1, h2, h3⟩ := index_spec _ _ _ h
  obtain ⟨h4, h5⟩ := occ_extract s t i h1 h2
  refine ⟨by omega, ?_⟩
  apply Lib.index_none
  intro j hj
  have hlen : (s.extract 0 (i - 1 + t.size)).data.toList = s.data.toList.take (i - 1 + t.size) := by
    rcases s with ⟨⟨l⟩⟩
    simp [ByteArray.data_extract]
  rw [hlen] at hj ⊢
  cases hc : Lib.occAt (s.data.toList.take (i - 1 + t.size)) t.data.toList j with
  | false => rfl
  | true =>
    exfalso
    have hroom := Lib.occAt_room hc
    rcases hroom with hr | hr
    · have hji : j < i := by
        rw [List.length_take] at hr
        have : t.size = t.data.toList.length := rfl
        omega
      have hf := h3 j hji
      unfold Lib.occAt at hc hf
      have hp := List.isPrefixOf_iff_prefix.1 hc
      have : t.data.toList.isPrefixOf (s.data.toList.drop j) = true := by
        rw [List.isPrefixOf_iff_prefix]
        refine hp.trans ?_
        rw [List.drop_take]
        exact List.take_prefix _ _
      rw [this] at hf
      cases hf
    · have : Lib.occAt s.data.toList t.data.toList 0 = true := by
        rw [hr]; simp [Lib.occAt]
      rw [h3 0 h0] at this
      cases this
end Go.Proofs.YtgaeljiindpcmaaGreatDoor
