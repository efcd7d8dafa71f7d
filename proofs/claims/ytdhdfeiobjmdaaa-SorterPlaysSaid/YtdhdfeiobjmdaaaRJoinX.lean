/-
  RecordJoin returns true for every row: all ways. Conditions: sizes.
-/
import Derived.Test.YtdhdfeiobjmdaaaRClose
namespace Go.Proofs.Ytdhdfeiobjmdaaa
open Go.ChangeShapes Go.WideShapes Go.ChangeAt Go.RowKit
set_option linter.unusedVariables false

theorem keyL_good : ∀ (vs : List Trip) (ds : List Bool), GoodR vs → (keyL vs ds).length ≤ 210 * vs.length
  | (k, n, s) :: vs, d :: ds, h => by
    have ih := keyL_good vs ds fun t ht => h t (List.mem_cons_of_mem _ ht)
    have hs : s.size ≤ 100 := (h (k, n, s) List.mem_cons_self).2.1
    have h1 : s.data.toList.length = s.size := by rcases s with ⟨⟨l⟩⟩; rfl
    have h2 := escL_len s.data.toList
    have h0 : (partL k n s).length ≤ 210 := by
      unfold partL
      split
      · simp [beN_length]
      · split
        · simp only [List.length_cons, strN, List.length_append, List.length_nil]; omega
        · split
          · simp only [List.length_cons, strN, List.length_append, List.length_nil]; omega
          · simp
    simp only [keyL, List.length_append, turnL_length, List.length_cons]
    omega
  | [], _, _ => by simp [keyL]
  | _ :: _, [], _ => by simp [keyL]
theorem keyL_cut (vs : List Trip) (ds : List Bool) (k : Nat) (h : ds.length = vs.length) : keyL vs ds = keyL (vs.take k) (ds.take k) ++ keyL (vs.drop k) (ds.drop k) := by
  rw [← keyL_append _ _ _ _ (by rw [List.length_take, List.length_take, h]), List.take_append_drop, List.take_append_drop]
end Go.Proofs.Ytdhdfeiobjmdaaa
