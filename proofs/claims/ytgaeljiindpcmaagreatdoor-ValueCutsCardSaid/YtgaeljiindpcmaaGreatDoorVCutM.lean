/-
  substr cut in two, mathematics. Conditions: texts of at most 300 bytes.
-/
import Derived.Test.YtgaeljiindpcmaaGreatDoorVCallC
import Derived.Test.YtgaeljiindpcmaaGreatDoorVOrdM
namespace Go.Proofs.YtgaeljiindpcmaaGreatDoor
open Go.ChangeShapes Go.WideShapes Go.ChangeAt Go.RowKit
set_option linter.unusedVariables false

theorem from_pos (len : Nat) (f : Int) (h : 0 ≤ f) : fromP len f = f := by
  unfold fromP
  rw [if_neg (by omega)]
theorem from_neg (len : Nat) (f : Int) (h : f < 0) : fromP len f = len + 1 + f := by
  unfold fromP
  rw [if_pos h]
theorem addW_in (a b : Int) (h : In64 (a + b)) : addW a b = a + b := by
  unfold addW
  rw [if_pos h]
/-- the bytes from place i on, ahead of place j -/
theorem cutS_in (s : ByteArray) (i j : Nat) (hij : i ≤ j) (hj : j ≤ s.size) : cutS s (i + 1) (j + 1) = s.extract i j := by
  unfold cutS subF subB
  refine extract_eq ?_ ?_
  · first | omega | (unfold subF; omega)
  · first | omega | (unfold subF; omega)
theorem extract_join (s : ByteArray) (k : Nat) (hk : k ≤ s.size) : s.extract 0 k ++ s.extract k s.size = s := by
  apply ba_ext
  rcases s with ⟨⟨l⟩⟩
  have hk' : k ≤ l.length := hk
  simp [ByteArray.data_extract, ByteArray.size]
  rw [Nat.max_eq_right hk', List.take_length]
end Go.Proofs.YtgaeljiindpcmaaGreatDoor
