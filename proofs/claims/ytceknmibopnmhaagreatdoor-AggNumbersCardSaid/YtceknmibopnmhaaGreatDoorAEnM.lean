/-
  Layer 8: the mathematics of AggNumbers: what its examples come to. No conditions.
-/
import Derived.Test.YtceknmibopnmhaaGreatDoorAUnk
import Derived.Test.YtceknmibopnmhaaGreatDoorAAgW
import Derived.Test.YtceknmibopnmhaaGreatDoorNShelf
import Derived.Lib.Repeat
namespace Go.Proofs.YtceknmibopnmhaaGreatDoor
open Go.ChangeShapes Go.WideShapes Go.ChangeAt Go.RowKit Go.Maps Go.Sort Go.Shelf Go.ChangeMaps Go.Lib
set_option linter.unusedVariables false
set_option linter.unusedSimpArgs false

/-- names that lie in memory -/
def NmsAt (w : World) (g : Nat) (ls : List ByteArray) : Prop := g < w.heap.size ∧ ∀ i nm, ls[i]? = some nm → w.cell? ⟨g, i, none⟩ = some (.string nm)
theorem NmsAt.on {w w' : World} {g : Nat} {ls : List ByteArray} (h : NmsAt w g ls) (hb : Below w.heap.size w w') : NmsAt w' g ls :=
  ⟨Nat.lt_of_lt_of_le h.1 hb.size, fun i nm hi => (hb.cell (p := ⟨g, i, none⟩) h.1).trans (h.2 i nm hi)⟩
theorem NmsAt.new (w : World) (ls : List ByteArray) : NmsAt (w.alloc (.cells (ls.map Value.string).toArray 9)) w.heap.size ls := by
  refine ⟨by simp, fun i nm h => ?_⟩
  have h2 := World.alloc_heap_new w (.cells (ls.map Value.string).toArray 9)
  simp only [World.cell?, h2]
  simp [h]
def names5 : List ByteArray := [⟨#[]⟩, ⟨#[67, 111, 117, 110, 116]⟩, ⟨#[97, 118, 103]⟩, ⟨#[99, 111, 117, 110, 116, 32, 42]⟩, ⟨#[99, 111, 110, 99, 97, 116]⟩]
theorem names5_out (j : Nat) (hj : j < 5) : ∃ x, names5[j]? = some x ∧ x ∉ namesL := by
  have h : ∀ x ∈ names5, x ∉ namesL := by
    intro x hx hm
    simp only [names5, namesL, List.mem_cons, List.mem_nil_iff, or_false] at hx hm
    rcases hx with rfl | rfl | rfl | rfl | rfl <;> simp at hm
  exact ⟨_, List.getElem?_eq_getElem hj, h _ (List.getElem_mem hj)⟩
def names4 : List ByteArray := [⟨#[115, 117, 109]⟩, ⟨#[109, 105, 110]⟩, ⟨#[109, 97, 120]⟩, ⟨#[103, 114, 111, 117, 112, 95, 99, 111, 110, 99, 97, 116]⟩]
theorem vals_nul2 : valsOf false [nuT, nuT] = [] := by rw [valsOf_eq]; rfl
theorem vals_nul1 : valsOf false [nuT] = [] := by rw [valsOf_eq]; rfl
theorem dsel_nil (d : Bool) : dsel d [] = [] := by cases d <;> simp [dsel, ded]
theorem join_nil (d : Bool) : finJoin d [] = (nuT, 0) := by
  have h : sortT ([] : List Trip) = [] := sortT_is (by simp) (List.Perm.refl _) List.Pairwise.nil
  have e : jst d [] = (-1, []) := rfl
  unfold finJoin
  rw [e]
  simp only [h]
  rw [if_neg (by decide)]
  simp [joinV]
theorem named_at4 (j : Nat) (hj : j < 4) : ∃ name fin, names4[j]? = some name ∧ Named name false fin ∧ fin false (valsOf false []) = (nuT, 0) ∧ fin true (valsOf false [nuT, nuT]) = (nuT, 0) := by
  rw [vals_nul2, show valsOf false [] = [] from rfl]
  match j, hj with
  | 0, _ => exact ⟨_, _, rfl, named_sum, by simp only [dsel_nil]; rfl, by simp only [dsel_nil]; rfl⟩
  | 1, _ => exact ⟨_, _, rfl, named_min, rfl, rfl⟩
  | 2, _ => exact ⟨_, _, rfl, named_max, rfl, rfl⟩
  | 3, _ => exact ⟨_, _, rfl, named_join, join_nil _, join_nil _⟩
theorem en1 : finCnt (dsel false (valsOf false [nuT])) = (nmT 0, 0) := by rw [vals_nul1, dsel_nil]; rfl
theorem en2 : finSum (nmT 0) (dsel true (valsOf false [nuT])) = (nmT 0, 0) := by rw [vals_nul1, dsel_nil]; rfl
theorem en3 : finCnt (dsel false (valsOf true [nuT, nuT])) = (nmT 2, 0) := by rw [valsOf_eq, dsel_off]; rfl
theorem en4 : finSum (nmT 0) (dsel false (valsOf false [nmT (-9223372036854775808), nmT (-1)])) = (nuT, 20) := by rw [valsOf_eq, dsel_off]; rfl
theorem en5 : finSum nuT (dsel false (valsOf false [nmT (-9223372036854775807), nmT (-1)])) = (nmT (-9223372036854775808), 0) := by rw [valsOf_eq, dsel_off]; rfl
theorem en6 : finSum nuT (dsel false (valsOf false [nmT 9223372036854775807, nmT (-9223372036854775808), nmT 9223372036854775807, nmT (-9223372036854775807)])) = (nmT (-1), 0) := by rw [valsOf_eq, dsel_off]; rfl
theorem en7 : finSum nuT (dsel false (valsOf false [nmT 9223372036854775807, nmT 9223372036854775807, nmT 9223372036854775807])) = (nuT, 20) := by rw [valsOf_eq, dsel_off]; rfl
theorem lead6x : leadInt [54, 120] = 6 := by
  simp [leadInt, List.dropWhile, blankB, digsGo]
  decide
theorem en8 : finSum nuT (dsel false [nmT 4]) = (nmT 4, 0) := by rw [dsel_off]; rfl
theorem en9 : finSum nuT (dsel false [nmT 4, txT ⟨#[54, 120]⟩]) = (nmT 10, 0) := by
  rw [dsel_off]
  unfold finSum
  simp [sumT, intV, lead6x, In64]
theorem en0 : finSum nuT (dsel false []) = (nuT, 0) := by rw [dsel_off]; rfl
/-- two texts: one is the other and an x ahead -/
theorem txt_tot (s u : ByteArray) : totS (dsel false [txT s, txT u]) = (s.size : Int) + u.size + 1 := by
  rw [dsel_off]
  simp [totS, textV]
  omega
theorem vals_tx (s u : ByteArray) : valsOf false [txT s, txT u] = [txT s, txT u] := by rw [valsOf_eq]; rfl
theorem en_full (s : ByteArray) (hs : s.size = 32768) : finJoin false (valsOf false [txT s, txT s]) = (nuT, 3) := by
  rw [vals_tx]
  unfold finJoin
  have ht := txt_tot s s
  rcases jst_tot false [txT s, txT s] with ⟨h1, _⟩ | ⟨h1, _⟩
  · rw [if_pos h1]
  · exfalso; omega
theorem cmp_rep : ∀ (l r : List UInt8), Lib.compareBytes l (l ++ r) ≤ 0
  | [], r => by cases r <;> simp [Lib.compareBytes]
  | a :: l, r => by simpa [Lib.compareBytes] using cmp_rep l r
theorem en_pair (s u : ByteArray) (r : List UInt8) (hs : s.size = 32768) (hu : u.size = 32767) (hp : s.data.toList = u.data.toList ++ r) :
    finJoin false (valsOf false [txT s, txT u]) = (txT ⟨(u.data.toList ++ 44 :: s.data.toList).toArray⟩, 0) := by
  rw [vals_tx]
  have ht := txt_tot s u
  have hq : sortT [txT s, txT u] = [txT u, txT s] := by
    refine sortT_is (good2 (tx_good s (by omega)) (tx_good u (by omega))) (List.Perm.swap _ _ _) ?_
    refine List.pairwise_pair.2 ?_
    show cmpV 2 0 u 2 0 s ≤ 0
    have := cmp_rep u.data.toList r
    rw [← hp] at this
    simpa [cmpV] using this
  unfold finJoin
  rcases jst_tot false [txT s, txT u] with ⟨_, h1⟩ | ⟨h1, h2⟩
  · exfalso; omega
  · rw [h2]
    simp only
    rw [if_neg (by omega), dsel_off, hq]
    simp [joinV, textB, textV, Lib.join]
theorem pair_ne (s u : ByteArray) (hs : ∀ (i : Nat) (x : UInt8), s.data.toList[i]? = some x → x = 120) (h1 : s.size = 32768) (h2 : u.size = 32767) :
    ¬ txT ⟨(u.data.toList ++ 44 :: s.data.toList).toArray⟩ = txT ⟨(s.data.toList ++ 44 :: u.data.toList).toArray⟩ := by
  intro h
  have h3 : u.data.toList ++ 44 :: s.data.toList = s.data.toList ++ 44 :: u.data.toList := by
    have := congrArg (fun t : Trip => t.2.2.data.toList) h
    simpa using this
  have e1 : u.data.toList.length = 32767 := by simpa using h2
  have e2 : s.data.toList.length = 32768 := by simpa using h1
  have h4 : (u.data.toList ++ 44 :: s.data.toList)[32767]? = (s.data.toList ++ 44 :: u.data.toList)[32767]? := by rw [h3]
  rw [List.getElem?_append_right (by omega), e1, List.getElem?_append_left (by omega)] at h4
  have h5 := hs 32767 44 (by rw [← h4]; rfl)
  exact absurd h5 (by decide)
end Go.Proofs.YtceknmibopnmhaaGreatDoor
