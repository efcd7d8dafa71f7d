/-
  Layer 7, sorter: the chapter's examples, as orders of keys. No conditions.
-/
import Derived.Test.YtifnhdnmohlfiaaQOrd
namespace Go.Proofs.Ytifnhdnmohlfiaa
open Go.ChangeShapes Go.WideShapes Go.ChangeAt Go.RowKit
set_option linter.unusedVariables false

theorem srt4 {α : Type} (lt : α → α → Bool) (a b c d : α) : srt lt [a, b, c, d] = mrg lt (mrg lt [a] [b]) (mrg lt [c] [d]) := by
  have s2 : ∀ x y : α, srt lt [x, y] = mrg lt [x] [y] := fun x y => by
    rw [srt_long lt _ (by simp)]
    rw [show List.take ([x, y].length / 2) [x, y] = [x] by simp, show List.drop ([x, y].length / 2) [x, y] = [y] by simp, srt_short lt _ (by simp), srt_short lt _ (by simp)]
  rw [srt_long lt _ (by simp)]
  rw [show List.take ([a, b, c, d].length / 2) [a, b, c, d] = [a, b] by simp, show List.drop ([a, b, c, d].length / 2) [a, b, c, d] = [c, d] by simp, s2, s2]
theorem srt3 {α : Type} (lt : α → α → Bool) (a b c : α) : srt lt [a, b, c] = mrg lt [a] (mrg lt [b] [c]) := by
  rw [srt_long lt _ (by simp)]
  rw [show List.take ([a, b, c].length / 2) [a, b, c] = [a] by simp, show List.drop ([a, b, c].length / 2) [a, b, c] = [b, c] by simp, srt_short lt [a] (by simp), srt_long lt [b, c] (by simp), show List.take ([b, c].length / 2) [b, c] = [b] by simp, show List.drop ([b, c].length / 2) [b, c] = [c] by simp, srt_short lt [b] (by simp), srt_short lt [c] (by simp)]
def n2 : Trip := (1, 2, ⟨#[]⟩)
def n1 : Trip := (1, 1, ⟨#[]⟩)
def n0 : Trip := (0, 0, ⟨#[]⟩)
def ex4 : List Trip := [n2, n1, n2, n0]
theorem lt_f : (∀ r r' : List UInt8, ltK (keyL [n1] [false], r) (keyL [n2] [false], r') = true) ∧ (∀ r r', ltK (keyL [n2] [false], r) (keyL [n1] [false], r') = false) ∧ (∀ r r', ltK (keyL [n2] [false], r) (keyL [n2] [false], r') = false) ∧
    (∀ r r', ltK (keyL [n0] [false], r) (keyL [n2] [false], r') = true) ∧ (∀ r r', ltK (keyL [n0] [false], r) (keyL [n1] [false], r') = true) := by
  refine ⟨fun r r' => ?_, fun r r' => ?_, fun r r' => ?_, fun r r' => ?_, fun r r' => ?_⟩
  · show decide (Lib.compareBytes (keyL [n1] [false]) (keyL [n2] [false]) < 0) = true
    decide +kernel
  · show decide (Lib.compareBytes (keyL [n2] [false]) (keyL [n1] [false]) < 0) = false
    decide +kernel
  · show decide (Lib.compareBytes (keyL [n2] [false]) (keyL [n2] [false]) < 0) = false
    decide +kernel
  · show decide (Lib.compareBytes (keyL [n0] [false]) (keyL [n2] [false]) < 0) = true
    decide +kernel
  · show decide (Lib.compareBytes (keyL [n0] [false]) (keyL [n1] [false]) < 0) = true
    decide +kernel
theorem lt_t : (∀ r r' : List UInt8, ltK (keyL [n1] [true], r) (keyL [n2] [true], r') = false) ∧ (∀ r r', ltK (keyL [n2] [true], r) (keyL [n1] [true], r') = true) ∧ (∀ r r', ltK (keyL [n2] [true], r) (keyL [n2] [true], r') = false) ∧
    (∀ r r', ltK (keyL [n0] [true], r) (keyL [n2] [true], r') = false) ∧ (∀ r r', ltK (keyL [n0] [true], r) (keyL [n1] [true], r') = false) := by
  refine ⟨fun r r' => ?_, fun r r' => ?_, fun r r' => ?_, fun r r' => ?_, fun r r' => ?_⟩
  · show decide (Lib.compareBytes (keyL [n1] [true]) (keyL [n2] [true]) < 0) = false
    decide +kernel
  · show decide (Lib.compareBytes (keyL [n2] [true]) (keyL [n1] [true]) < 0) = true
    decide +kernel
  · show decide (Lib.compareBytes (keyL [n2] [true]) (keyL [n2] [true]) < 0) = false
    decide +kernel
  · show decide (Lib.compareBytes (keyL [n0] [true]) (keyL [n2] [true]) < 0) = false
    decide +kernel
  · show decide (Lib.compareBytes (keyL [n0] [true]) (keyL [n1] [true]) < 0) = false
    decide +kernel
theorem same_f : (∀ r r' : List UInt8, sameK (keyL [n2] [false], r) (keyL [n2] [false], r') = true) ∧ (∀ r r', sameK (keyL [n2] [false], r) (keyL [n1] [false], r') = false) ∧ (∀ r r', sameK (keyL [n1] [false], r) (keyL [n0] [false], r') = false) := by
  refine ⟨fun r r' => ?_, fun r r' => ?_, fun r r' => ?_⟩
  · show (keyL [n2] [false] == keyL [n2] [false]) = true
    decide +kernel
  · show (keyL [n2] [false] == keyL [n1] [false]) = false
    decide +kernel
  · show (keyL [n1] [false] == keyL [n0] [false]) = false
    decide +kernel
theorem srt_f : srt ltK (ordL [false] ex4 0) = [(keyL [n0] [false], putL (rowT 3)), (keyL [n1] [false], putL (rowT 1)), (keyL [n2] [false], putL (rowT 0)), (keyL [n2] [false], putL (rowT 2))] := by
  obtain ⟨h1, h2, h3, h4, h5⟩ := lt_f
  simp only [ex4, ordL]
  rw [srt4]
  simp only [mrg_cons, mrg_nil_left, mrg_nil_right, h1, h2, h3, h4, h5, if_true, if_false, Bool.false_eq_true]
theorem ex_f : (left false (ordL [false] ex4 0)).map Prod.snd = [3, 1, 0, 2].map fun i => putL (rowT i) := by
  rw [left, if_neg (by decide), srt_f]
  rfl
theorem ex_d : (left true (ordL [false] ex4 0)).map Prod.snd = [3, 1, 0].map fun i => putL (rowT i) := by
  obtain ⟨h1, h2, h3⟩ := same_f
  rw [left, if_pos rfl, srt_f]
  simp only [cmpct, cmpA, h1, h2, h3, if_true, if_false, Bool.false_eq_true]
  rfl
theorem ex_t : (left false (ordL [true] ex4 0)).map Prod.snd = [0, 2, 1, 3].map fun i => putL (rowT i) := by
  obtain ⟨h1, h2, h3, h4, h5⟩ := lt_t
  rw [left, if_neg (by decide)]
  simp only [ex4, ordL]
  rw [srt4]
  simp only [mrg_cons, mrg_nil_left, mrg_nil_right, h1, h2, h3, h4, h5, if_true, if_false, Bool.false_eq_true]
  rfl
/-- rows of no key -/
theorem lt_none (r r' : List UInt8) : ltK ([], r) ([], r') = false := by
  show decide (Lib.compareBytes [] [] < 0) = false
  decide +kernel
theorem ex_a (a b c : List UInt8) : (left false [(([] : List UInt8), a), ([], b), ([], c)]).map Prod.snd = [a, b, c] := by
  rw [left, if_neg (by decide), srt3]
  simp only [mrg_cons, mrg_nil_left, mrg_nil_right, lt_none, if_false, Bool.false_eq_true]
  rfl
theorem ex_b (a b c : List UInt8) : (left true [(([] : List UInt8), a), ([], b), ([], c)]).map Prod.snd = [a] := by
  rw [left, if_pos rfl, srt3]
  simp only [mrg_cons, mrg_nil_left, mrg_nil_right, lt_none, if_false, Bool.false_eq_true]
  rfl
theorem ex_text : catT ([3, 1, 0, 2].map letterT) = ⟨#[68, 66, 65, 67]⟩ ∧ catT ([3, 1, 0].map letterT) = ⟨#[68, 66, 65]⟩ ∧ catT ([0, 2, 1, 3].map letterT) = ⟨#[65, 67, 66, 68]⟩ := by
  refine ⟨?_, ?_, ?_⟩ <;> decide +kernel
end Go.Proofs.Ytifnhdnmohlfiaa
