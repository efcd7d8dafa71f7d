/-
  Three arguments that are values, boxed, and the list of them. No conditions.
-/
import Derived.Test.YtaidipdofomgoaaGreatDoorVSlot2
import Derived.Test.YtaidipdofomgoaaGreatDoorVOpen
namespace Go.Proofs.YtaidipdofomgoaaGreatDoor
open Go.ChangeShapes Go.WideShapes Go.ChangeAt Go.RowKit
set_option linter.unusedVariables false

/-- the three boxes that the arguments come to lie in, and the list of the three -/
abbrev v3 (w : World) (ka na : Int) (sa : ByteArray) (kb nb : Int) (sb : ByteArray) (kc nc : Int) (sc : ByteArray) : World := ((w.alloc (box ka na sa)).alloc (box kb nb sb)).alloc (box kc nc sc)
theorem v3_below (w : World) (ka na : Int) (sa : ByteArray) (kb nb : Int) (sb : ByteArray) (kc nc : Int) (sc : ByteArray) : Below w.heap.size w (v3 w ka na sa kb nb sb kc nc sc) :=
  (((Below.refl _ _).alloc (Nat.le_refl _) _).alloc (by simp) _).alloc (by simp; omega) _
theorem v3_boxes (w : World) (ka na : Int) (sa : ByteArray) (kb nb : Int) (sb : ByteArray) (kc nc : Int) (sc : ByteArray) (X : World) (h : Below (v3 w ka na sa kb nb sb kc nc sc).heap.size (v3 w ka na sa kb nb sb kc nc sc) X) :
    BoxAt w.heap.size ka na sa X ∧ BoxAt (w.heap.size + 1) kb nb sb X ∧ BoxAt (w.heap.size + 1 + 1) kc nc sc X := by
  obtain ⟨hc, hf⟩ := bcell h
  have hs : (v3 w ka na sa kb nb sb kc nc sc).heap.size = w.heap.size + 3 := by simp
  refine ⟨⟨?_, ?_, ?_⟩, ⟨?_, ?_, ?_⟩, ⟨?_, ?_, ?_⟩⟩ <;> (rw [hc _ _ (by rw [hs]; omega)]; simp [go_sem])

theorem v3_list (w : World) (ka na : Int) (sa : ByteArray) (kb nb : Int) (sb : ByteArray) (kc nc : Int) (sc : ByteArray) :
    RdV ((v3 w ka na sa kb nb sb kc nc sc).alloc (cells3 ka na sa kb nb sb kc nc sc)) (w.heap.size + 1 + 1 + 1) 0 [(ka, na, sa), (kb, nb, sb), (kc, nc, sc)] := by
  have h := rdv3 (v3 w ka na sa kb nb sb kc nc sc) ka na sa kb nb sb kc nc sc
  have hs : (v3 w ka na sa kb nb sb kc nc sc).heap.size = w.heap.size + 1 + 1 + 1 := by simp
  rw [hs] at h
  exact h
end Go.Proofs.YtaidipdofomgoaaGreatDoor
