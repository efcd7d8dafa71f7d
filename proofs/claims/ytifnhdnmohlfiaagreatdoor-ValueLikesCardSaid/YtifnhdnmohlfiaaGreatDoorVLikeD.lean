/-
  Each % twice, as strings.ReplaceAll writes it: mathematics; and how long that is. No conditions.
-/
import Derived.Test.YtifnhdnmohlfiaaGreatDoorVLikeM
import Derived.Lib.SplitLaws
import Derived.Lib.Replace
import Derived.Lib.Repeat
namespace Go.Proofs.YtifnhdnmohlfiaaGreatDoor
open Go.ChangeShapes Go.WideShapes Go.ChangeAt Go.RowKit
set_option linter.unusedVariables false

theorem index_hdP (l : List UInt8) : Lib.index (37 :: l) [37] = 0 := by
  unfold Lib.index
  simp [List.isPrefixOf]
theorem index_tlP (b : UInt8) (l : List UInt8) (i : Nat) (h : ¬ b = 37) (hi : Lib.index l [37] = i) : Lib.index (b :: l) [37] = ((i + 1 : Nat) : Int) := by
  have h' : ¬ (37 : UInt8) = b := fun e => h e.symm
  have hb : ((37 : UInt8) == b) = false := by simpa using h'
  unfold Lib.index
  have hm : ¬ ((i : Int) == -1) = true := fun e => by have := beq_iff_eq.1 e; omega
  rw [hi, if_neg hm]
  simp [List.isPrefixOf, hb]
theorem rep_dblP : ∀ s : List UInt8, Lib.replaceK [37] [37, 37] (s.count 37) s = dblL s := by
  intro s
  induction s with
  | nil => rfl
  | cons b l ih =>
    by_cases hb : b = 37
    · subst hb
      rw [List.count_cons_self, Lib.replaceK_hit [37] [37, 37] _ _ 0 (index_hdP l)]
      have e : dblL (37 :: l) = 37 :: 37 :: dblL l := by simp [dblL]
      rw [e, ← ih]
      rfl
    · rw [List.count_cons_of_ne hb]
      have e : dblL (b :: l) = b :: dblL l := by simp [dblL, hb]
      rw [e]
      cases hk : l.count 37 with
      | zero =>
        rw [hk] at ih
        rw [← ih]
        rfl
      | succ j =>
        obtain ⟨i, hi⟩ := Lib.index_of_count (s := l) (old := [37]) (by rw [Lib.count_one]; omega)
        rw [hk, Lib.replaceK_hit [37] [37, 37] j l i hi] at ih
        rw [Lib.replaceK_hit [37] [37, 37] j (b :: l) (i + 1) (index_tlP b l i hb hi), ← ih]
        simp
theorem repAll_dblP (s : List UInt8) : Lib.replaceAll s [37] [37, 37] = dblL s := by
  unfold Lib.replaceAll Lib.replace
  have h : (([37] : List UInt8) == [37, 37]) = false := by decide
  rw [h]
  have hn : Lib.replaceNum s [37] (-1) = s.count 37 := by
    unfold Lib.replaceNum
    rw [if_pos (.inl (by omega)), Lib.count_one]
  rw [hn]
  exact rep_dblP s
theorem dblL_len : ∀ s : List UInt8, (dblL s).length ≤ 2 * s.length
  | [] => by simp [dblL]
  | c :: r => by
    have ih := dblL_len r
    have e : dblL (c :: r) = (if c = 37 then [37, 37] else [c]) ++ dblL r := rfl
    rw [e, List.length_append, List.length_cons]
    split <;> simp <;> omega
theorem count_len (s : List UInt8) : s.count 37 ≤ s.length := List.count_le_length
theorem rep_unders : ∀ n : Nat, Lib.repeatL [95] n = List.replicate n 95
  | 0 => rfl
  | n + 1 => by
    show [95] ++ Lib.repeatL [95] n = _
    rw [rep_unders n]
    rfl
end Go.Proofs.YtifnhdnmohlfiaaGreatDoor
