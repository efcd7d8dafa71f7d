/-
  Layer 8: the chapter's examples, as values. No conditions.
-/
import Derived.Test.YtceknmibopnmhaaGreatDoorAOf
namespace Go.Proofs.YtceknmibopnmhaaGreatDoor
open Go.ChangeShapes Go.WideShapes Go.ChangeAt Go.RowKit Go.Maps Go.Sort Go.Shelf Go.ChangeMaps Go.Lib
set_option linter.unusedVariables false

abbrev nmT (n : Int) : Trip := (1, n, ⟨#[]⟩)
abbrev txT (s : ByteArray) : Trip := (2, 0, s)
abbrev nuT : Trip := (0, 0, ⟨#[]⟩)
theorem nm_good (n : Int) (h : In64 n) : GoodT (nmT n) := ⟨.inr (.inl ⟨rfl, rfl⟩), h⟩
theorem tx_good (s : ByteArray) (h : s.size ≤ 65536) : GoodT (txT s) := ⟨.inr (.inr ⟨.inl rfl, rfl, h⟩), by show In64 0; unfold In64; omega⟩
theorem nu_good : GoodT nuT := ⟨.inl ⟨rfl, rfl, rfl⟩, by show In64 0; unfold In64; omega⟩
theorem valsOf_eq (all : Bool) (vs : List Trip) : valsOf all vs = vs.filter fun t => all || decide (t.1 ≠ 0) := valsOf_filter all vs
theorem ex1 : finSum nuT (dsel false (valsOf false [nmT 9223372036854775807, nmT 1, nmT (-5)])) = (nmT 9223372036854775803, 0) := by
  rw [valsOf_eq, dsel_off]
  rfl
theorem ex2 : finSum nuT (dsel false (valsOf false [nmT 9223372036854775807, nmT 1])) = (nuT, 20) := by
  rw [valsOf_eq, dsel_off]
  rfl
theorem ex3 : finSum nuT (dsel false (valsOf false [])) = (nuT, 0) := rfl
theorem ex4 : finSum (nmT 0) (dsel false (valsOf false [])) = (nmT 0, 0) := rfl
theorem ex5 : finCnt (dsel false (valsOf false [nmT 1, nuT, nmT 1])) = (nmT 2, 0) := by
  rw [valsOf_eq, dsel_off]
  rfl
theorem ex6 : finCnt (dsel true (valsOf false [nmT 1, nuT, nmT 1])) = (nmT 1, 0) := by
  rw [valsOf_eq, dsel_on]
  rw [show ([nmT 1, nuT, nmT 1].filter fun t => false || decide (t.1 ≠ 0)) = [nmT 1, nmT 1] from rfl]
  simp [ded, finCnt]
theorem ex7 : finCnt (dsel false (valsOf true [nmT 1, nuT, nmT 1])) = (nmT 3, 0) := by
  rw [valsOf_eq, dsel_off]
  rfl
theorem ex8 : (bestMn (valsOf false [txT ⟨#[97]⟩, nmT 5, nuT]), (0 : Int)) = (nmT 5, 0) := by
  rw [valsOf_eq]
  rw [show ([txT ⟨#[97]⟩, nmT 5, nuT].filter fun t => false || decide (t.1 ≠ 0)) = [txT ⟨#[97]⟩, nmT 5] from rfl]
  simp [bestMn, utMn, cmpT, cmpV, cmp3]
theorem ex9 : (bestMx (valsOf false [txT ⟨#[97]⟩, nmT 5, nuT]), (0 : Int)) = (txT ⟨#[97]⟩, 0) := by
  rw [valsOf_eq]
  rw [show ([txT ⟨#[97]⟩, nmT 5, nuT].filter fun t => false || decide (t.1 ≠ 0)) = [txT ⟨#[97]⟩, nmT 5] from rfl]
  simp [bestMx, utMx, cmpT, cmpV, cmp3]
theorem itoa1 : Lib.itoa 1 = [49] := by
  unfold Lib.itoa
  rw [if_neg (by decide)]
  exact Lib.decDigits_one (by decide)
theorem ex10 : finJoin false (valsOf false [txT ⟨#[98]⟩, nuT, nmT 1]) = (txT ⟨#[49, 44, 98]⟩, 0) := by
  rw [valsOf_eq]
  rw [show ([txT ⟨#[98]⟩, nuT, nmT 1].filter fun t => false || decide (t.1 ≠ 0)) = [txT ⟨#[98]⟩, nmT 1] from rfl]
  have hj : jst false [txT ⟨#[98]⟩, nmT 1] = (3, [txT ⟨#[98]⟩, nmT 1]) := by
    simp [jst, jstep, textV, itoa1]
    rfl
  unfold finJoin
  rw [hj]
  dsimp only
  rw [if_neg (by decide)]
  have hs : sortT [txT ⟨#[98]⟩, nmT 1] = [nmT 1, txT ⟨#[98]⟩] := sortT_is (fun t ht => by
      simp only [List.mem_cons, List.mem_nil_iff, or_false] at ht
      rcases ht with rfl | rfl
      · exact tx_good _ (by decide)
      · exact nm_good _ (by unfold In64; omega)) (List.Perm.swap _ _ _) (by
      unfold OrdT
      simp [cmpT, cmpV, cmp3])
  rw [hs]
  unfold joinV
  rw [if_neg (by simp)]
  simp [textB, textV, itoa1, Lib.join, List.intercalate]
end Go.Proofs.YtceknmibopnmhaaGreatDoor
