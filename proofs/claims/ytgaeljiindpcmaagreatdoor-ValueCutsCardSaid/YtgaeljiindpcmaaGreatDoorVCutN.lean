/-
  substr cut in two: what the law's four cuts are (layer 2, value). Conditions: texts of at most 300 bytes.
-/
import Derived.Test.YtgaeljiindpcmaaGreatDoorVCutM
import Derived.Test.YtgaeljiindpcmaaGreatDoorVCutR
namespace Go.Proofs.YtgaeljiindpcmaaGreatDoor
open Go.ChangeShapes Go.WideShapes Go.ChangeAt Go.RowKit
set_option linter.unusedVariables false

theorem cut_first (s : ByteArray) (k : Nat) (hk : k ≤ s.size) (hs : s.size ≤ 300) : cutS s (min (fromP s.size 1) (addW (fromP s.size 1) k)) (max (fromP s.size 1) (addW (fromP s.size 1) k)) = s.extract 0 k := by
  rw [from_pos _ _ (by omega), addW_in _ _ (by unfold In64; omega), show min (1 : Int) (1 + k) = ((0 : Nat) : Int) + 1 by omega, show max (1 : Int) (1 + k) = (k : Int) + 1 by omega]
  exact cutS_in s 0 k (Nat.zero_le _) hk
theorem cut_rest (s : ByteArray) (k : Nat) (hk : k ≤ s.size) (hs : s.size ≤ 300) : cutS s (fromP s.size ((k : Int) + 1)) (s.size + 1) = s.extract k s.size := by
  rw [from_pos _ _ (by omega)]
  exact cutS_in s k s.size hk (Nat.le_refl _)
theorem cut_neg (s : ByteArray) (k : Nat) (hk : k < s.size) (hs : s.size ≤ 300) : cutS s (fromP s.size ((k : Int) - sz s)) (s.size + 1) = s.extract k s.size := by
  rw [from_neg _ _ (by unfold sz; omega), show (s.size : Int) + 1 + ((k : Int) - sz s) = (k : Int) + 1 by unfold sz; omega]
  exact cutS_in s k s.size (by omega) (Nat.le_refl _)
theorem cut_back (s : ByteArray) (k : Nat) (hk : k ≤ s.size) (hs : s.size ≤ 300) : cutS s (min (fromP s.size ((k : Int) + 1)) (addW (fromP s.size ((k : Int) + 1)) (-k))) (max (fromP s.size ((k : Int) + 1)) (addW (fromP s.size ((k : Int) + 1)) (-k))) = s.extract 0 k := by
  rw [from_pos _ _ (by omega), addW_in _ _ (by unfold In64; omega), show min ((k : Int) + 1) ((k : Int) + 1 + -k) = ((0 : Nat) : Int) + 1 by omega, show max ((k : Int) + 1) ((k : Int) + 1 + -k) = (k : Int) + 1 by omega]
  exact cutS_in s 0 k (Nat.zero_le _) hk
/-- a place that instr told: what lies there, n bytes -/
theorem cut_at (s : ByteArray) (i n : Nat) (h : i + n ≤ s.size) (hs : s.size ≤ 300) : cutS s (min (fromP s.size ((i : Int) + 1)) (addW (fromP s.size ((i : Int) + 1)) n)) (max (fromP s.size ((i : Int) + 1)) (addW (fromP s.size ((i : Int) + 1)) n)) = s.extract i (i + n) := by
  rw [from_pos _ _ (by omega), addW_in _ _ (by unfold In64; omega), show min ((i : Int) + 1) ((i : Int) + 1 + n) = (i : Int) + 1 by omega, show max ((i : Int) + 1) ((i : Int) + 1 + n) = ((i + n : Nat) : Int) + 1 by omega]
  exact cutS_in s i (i + n) (by omega) h
end Go.Proofs.YtgaeljiindpcmaaGreatDoor
