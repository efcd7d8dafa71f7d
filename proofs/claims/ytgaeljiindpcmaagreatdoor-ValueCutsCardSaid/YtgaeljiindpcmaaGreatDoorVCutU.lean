/-
  Mathematics of upper, lower and hex (layer 2, value): they undo one another but for letters; hex has two digits a byte, and they are great. No conditions.
-/
import Derived.Test.YtgaeljiindpcmaaGreatDoorVUpper
namespace Go.Proofs.YtgaeljiindpcmaaGreatDoor
set_option linter.unusedVariables false

theorem U8.ext {a b : UInt8} (h : a.toNat = b.toNat) : a = b := UInt8.toNat_inj.mp h
theorem largeU_small (c : UInt8) : largeU (smallU c) = largeU c := by
  apply U8.ext
  rw [largeU_n, largeU_n, smallU_n]
  unfold largeN smallN
  split <;> split <;> (try split) <;> omega
theorem smallU_large (c : UInt8) : smallU (largeU c) = smallU c := by
  apply U8.ext
  rw [smallU_n, smallU_n, largeU_n]
  unfold largeN smallN
  split <;> split <;> (try split) <;> omega
theorem largeU_large (c : UInt8) : largeU (largeU c) = largeU c := by
  apply U8.ext
  rw [largeU_n, largeU_n]
  unfold largeN
  split <;> (try split) <;> omega
theorem largeU_hexD : ∀ q : Fin 16, largeU (hexD q.val) = hexD q.val := by decide +kernel
theorem turnedS_turnedS (F G : UInt8 → UInt8) (s : ByteArray) : turnedS F (turnedS G s) = turnedS (F ∘ G) s := by
  simp [turnedS]
theorem upper_lower (s : ByteArray) : turnedS largeU (turnedS smallU s) = turnedS largeU s := by
  rw [turnedS_turnedS]
  congr 1
  funext c
  exact largeU_small c
theorem lower_upper (s : ByteArray) : turnedS smallU (turnedS largeU s) = turnedS smallU s := by
  rw [turnedS_turnedS]
  congr 1
  funext c
  exact smallU_large c
theorem upper_upper (s : ByteArray) : turnedS largeU (turnedS largeU s) = turnedS largeU s := by
  rw [turnedS_turnedS]
  congr 1
  funext c
  exact largeU_large c
theorem turnedS_size (F : UInt8 → UInt8) (s : ByteArray) : (turnedS F s).size = s.size := by
  rcases s with ⟨⟨l⟩⟩
  show (l.map F).toArray.size = _
  simp
  rfl
theorem hexL_large (l : List UInt8) : (hexL l).map largeU = hexL l := by
  induction l with
  | nil => rfl
  | cons c r ih =>
    have hc := c.toNat_lt
    have h1 := largeU_hexD ⟨c.toNat / 16, by omega⟩
    have h2 := largeU_hexD ⟨c.toNat % 16, by omega⟩
    simp only at h1 h2
    simp only [hexL, List.flatMap_cons, List.map_append, List.map_cons, List.map_nil, h1, h2] at ih ⊢
    rw [ih]
theorem upper_hex (s : ByteArray) : turnedS largeU ⟨(hexL s.data.toList).toArray⟩ = ⟨(hexL s.data.toList).toArray⟩ := by
  simp [turnedS, hexL_large]
theorem hex_size (s : ByteArray) : (⟨(hexL s.data.toList).toArray⟩ : ByteArray).size = 2 * s.size := by
  rcases s with ⟨⟨l⟩⟩
  show (hexL l).toArray.size = 2 * l.length
  simp [hexL_length]
end Go.Proofs.YtgaeljiindpcmaaGreatDoor
