/-
  Layer 8: the mathematics of AggOnce and AggParts: totals of values each once, and of two lists. Conditions: right values.
-/
import Derived.Test.YtceknmibopnmhaaGreatDoorANul
namespace Go.Proofs.YtceknmibopnmhaaGreatDoor
open Go.ChangeShapes Go.WideShapes Go.ChangeAt Go.RowKit Go.Maps Go.Sort Go.Shelf Go.ChangeMaps Go.Lib
set_option linter.unusedVariables false

theorem snoc_ind {α : Type} {P : List α → Prop} (h0 : P []) (h1 : ∀ M u, P M → P (M ++ [u])) (L : List α) : P L := by
  have h : ∀ (n : Nat) (L : List α), L.length = n → P L := by
    intro n
    induction n with
    | zero => intro L hL; obtain rfl := List.eq_nil_of_length_eq_zero hL; exact h0
    | succ n ih =>
      intro L hL
      obtain ⟨M, u, rfl⟩ : ∃ M u, L = M ++ [u] := ⟨L.dropLast, L.getLast (fun e => by rw [e] at hL; simp at hL), (List.dropLast_concat_getLast _).symm⟩
      exact h1 M u (ih M (by rw [List.length_append] at hL; simpa using hL))
  exact h _ L rfl
theorem ded_filter (p : Trip → Bool) (L : List Trip) : (ded L).filter p = ded (L.filter p) := by
  induction L using snoc_ind with
  | h0 => simp [ded]
  | h1 M u ih =>
    rw [ded_snoc, List.filter_append, List.filter_cons, List.filter_nil]
    cases hp : p u
    · simp only [Bool.false_eq_true, if_false, List.append_nil]
      split
      · exact ih
      · rw [List.filter_append, List.filter_cons, List.filter_nil, hp]
        simpa using ih
    · simp only [if_true]
      rw [ded_snoc, ← ih]
      by_cases hu : u ∈ ded M
      · rw [if_pos hu, if_pos (List.mem_filter.2 ⟨hu, hp⟩)]
      · rw [if_neg hu, if_neg (fun h => hu (List.mem_filter.1 h).1), List.filter_append, List.filter_cons, List.filter_nil, hp]
        simp
theorem vals_ded (vs : List Trip) : valsOf false (ded vs) = ded (valsOf false vs) := by
  rw [valsOf_filter, valsOf_filter]
  exact ded_filter _ vs
theorem ded_ded (L : List Trip) : ded (ded L) = ded L := by
  have h : ∀ L : List Trip, L.Nodup → ded L = L := by
    intro L
    induction L using snoc_ind with
    | h0 => intro _; simp [ded]
    | h1 M u ih =>
      intro hn
      obtain ⟨h1, h2, h3⟩ := List.nodup_append.1 hn
      rw [ded_snoc, ih h1, if_neg (fun hu => h3 u hu u (by simp) rfl)]
  exact h _ (ded_nodup L)
theorem utMn_self (u : Trip) : utMn u u = u := by unfold utMn; split <;> rfl
theorem utMx_self (u : Trip) : utMx u u = u := by unfold utMx; split <;> rfl
theorem perm_again {M : List Trip} {u : Trip} (hu : u ∈ M) : ∃ R, M.Perm (u :: R) ∧ (M ++ [u]).Perm (u :: u :: R) := by
  obtain ⟨A, B, rfl⟩ := List.append_of_mem hu
  refine ⟨A ++ B, List.perm_middle, ?_⟩
  exact (List.perm_append_comm.trans (List.Perm.refl _)).trans (List.Perm.cons _ List.perm_middle)
theorem bestMn_again {M : List Trip} {u : Trip} (hu : u ∈ M) (hg : ∀ t ∈ M, GoodT t ∧ t.1 ≠ 0) : bestMn (M ++ [u]) = bestMn M := by
  obtain ⟨R, h1, h2⟩ := perm_again hu
  rw [bestMn_perm h2 (fun t ht => by
    rcases List.mem_append.1 ht with ht | ht
    · exact hg t ht
    · rw [List.mem_singleton.1 ht]; exact hg u hu), bestMn_perm h1 hg]
  unfold bestMn
  simp only [List.foldl_cons]
  rw [show utMn (0, 0, ⟨#[]⟩) u = u from if_pos (.inl rfl), utMn_self]
theorem bestMx_again {M : List Trip} {u : Trip} (hu : u ∈ M) (hg : ∀ t ∈ M, GoodT t ∧ t.1 ≠ 0) : bestMx (M ++ [u]) = bestMx M := by
  obtain ⟨R, h1, h2⟩ := perm_again hu
  rw [bestMx_perm h2 (fun t ht => by
    rcases List.mem_append.1 ht with ht | ht
    · exact hg t ht
    · rw [List.mem_singleton.1 ht]; exact hg u hu), bestMx_perm h1 hg]
  unfold bestMx
  simp only [List.foldl_cons]
  rw [show utMx (0, 0, ⟨#[]⟩) u = u from if_pos (.inl rfl), utMx_self]
theorem bestMn_snoc (M : List Trip) (u : Trip) : bestMn (M ++ [u]) = utMn (bestMn M) u := by
  unfold bestMn
  rw [List.foldl_append]
  rfl
theorem bestMx_snoc (M : List Trip) (u : Trip) : bestMx (M ++ [u]) = utMx (bestMx M) u := by
  unfold bestMx
  rw [List.foldl_append]
  rfl
theorem bestMn_ded (L : List Trip) : (∀ t ∈ L, GoodT t ∧ t.1 ≠ 0) → bestMn (ded L) = bestMn L := by
  induction L using snoc_ind with
  | h0 => intro _; simp [ded]
  | h1 M u ih =>
    intro hg
    have hg' : ∀ t ∈ M, GoodT t ∧ t.1 ≠ 0 := fun t ht => hg t (List.mem_append_left _ ht)
    rw [ded_snoc]
    split
    · rename_i hu
      rw [ih hg', bestMn_again ((ded_mem M u).1 hu) hg']
    · rw [bestMn_snoc, bestMn_snoc, ih hg']
theorem bestMx_ded (L : List Trip) : (∀ t ∈ L, GoodT t ∧ t.1 ≠ 0) → bestMx (ded L) = bestMx L := by
  induction L using snoc_ind with
  | h0 => intro _; simp [ded]
  | h1 M u ih =>
    intro hg
    have hg' : ∀ t ∈ M, GoodT t ∧ t.1 ≠ 0 := fun t ht => hg t (List.mem_append_left _ ht)
    rw [ded_snoc]
    split
    · rename_i hu
      rw [ih hg', bestMx_again ((ded_mem M u).1 hu) hg']
    · rw [bestMx_snoc, bestMx_snoc, ih hg']
theorem finJoin_ded (L : List Trip) : finJoin true L = finJoin false (ded L) := by
  have e1 : dsel true L = ded L := rfl
  have e2 : dsel false (ded L) = ded L := rfl
  unfold finJoin
  rcases jst_tot true L with ⟨h1, h2⟩ | ⟨h1, h2⟩ <;> rcases jst_tot false (ded L) with ⟨h3, h4⟩ | ⟨h3, h4⟩
  · rw [if_pos h1, if_pos h3]
  · rw [e1] at h2; rw [e2] at h3; omega
  · rw [e1] at h1; rw [e2] at h4; omega
  · rw [h2, h4, e1, e2]
/-- of a distinct total each value counts once; the least and the greatest are the same -/
def OnceFin (ut : Bool) (fin : Bool → List Trip → Trip × Int) : Prop := ∀ L, (∀ t ∈ L, GoodT t ∧ t.1 ≠ 0) → fin true L = fin false (ded L) ∧ (ut = true → fin true L = fin false L ∧ (fin false L).2 = 0)
theorem once_at6 (i : Nat) (hi : i < 6) : ∃ name fin, names6[i]? = some name ∧ Named name false fin ∧ OnceFin (decide (i = 3 ∨ i = 4)) fin := by
  match i, hi with
  | 0, _ => exact ⟨_, _, rfl, named_count, fun L _ => ⟨rfl, fun h => by cases h⟩⟩
  | 1, _ => exact ⟨_, _, rfl, named_sum, fun L _ => ⟨rfl, fun h => by cases h⟩⟩
  | 2, _ => exact ⟨_, _, rfl, named_total, fun L _ => ⟨rfl, fun h => by cases h⟩⟩
  | 3, _ => exact ⟨_, _, rfl, named_min, fun L hg => ⟨by rw [bestMn_ded L hg], fun _ => ⟨rfl, rfl⟩⟩⟩
  | 4, _ => exact ⟨_, _, rfl, named_max, fun L hg => ⟨by rw [bestMx_ded L hg], fun _ => ⟨rfl, rfl⟩⟩⟩
  | 5, _ => exact ⟨_, _, rfl, named_join, fun L _ => ⟨finJoin_ded L, fun h => by cases h⟩⟩
/-! two lists -/
theorem sumT_append (L M : List Trip) : sumT (L ++ M) = sumT L + sumT M := by
  induction M using snoc_ind with
  | h0 => simp [sumT]
  | h1 M u ih => rw [← List.append_assoc, sumT_snoc, sumT_snoc, ih]; omega
theorem utMn_assoc (x b u : Trip) (hx : x.1 ≠ 0) (hb : b.1 ≠ 0) (hu : u.1 ≠ 0) : utMn (utMn x b) u = utMn x (utMn b u) := by
  have e1 := cmpT_anti x b
  have e2 := cmpT_anti b u
  have e3 := cmpT_anti x u
  have t1 := cmpT_trans (a := u) (b := b) (c := x)
  have t2 := cmpT_trans (a := x) (b := b) (c := u)
  unfold utMn
  simp only [hx, hb, false_or]
  by_cases h1 : cmpT b x < 0
  · rw [if_pos h1]
    simp only [hb, false_or]
    by_cases h2 : cmpT u b < 0
    · rw [if_pos h2, if_pos ((t1 (by omega) (by omega)).2 h2)]
    · rw [if_neg h2, if_pos h1]
  · rw [if_neg h1]
    simp only [hx, false_or]
    by_cases h2 : cmpT u b < 0
    · rw [if_pos h2]
    · rw [if_neg h2, if_neg h1, if_neg]
      have := (t2 (by omega) (by omega)).1
      omega
theorem utMx_assoc (x b u : Trip) (hx : x.1 ≠ 0) (hb : b.1 ≠ 0) (hu : u.1 ≠ 0) : utMx (utMx x b) u = utMx x (utMx b u) := by
  have e1 := cmpT_anti x b
  have e2 := cmpT_anti b u
  have e3 := cmpT_anti x u
  have t1 := cmpT_trans (a := x) (b := b) (c := u)
  have t2 := cmpT_trans (a := u) (b := b) (c := x)
  unfold utMx
  simp only [hx, hb, false_or]
  by_cases h1 : 0 < cmpT b x
  · rw [if_pos h1]
    simp only [hb, false_or]
    by_cases h2 : 0 < cmpT u b
    · rw [if_pos h2, if_pos]
      have := (t1 (by omega) (by omega)).2 (by omega)
      omega
    · rw [if_neg h2, if_pos h1]
  · rw [if_neg h1]
    simp only [hx, false_or]
    by_cases h2 : 0 < cmpT u b
    · rw [if_pos h2]
    · rw [if_neg h2, if_neg h1, if_neg]
      have := (t2 (by omega) (by omega)).1
      omega
theorem utMn_nn {x u : Trip} (hx : x.1 ≠ 0) (hu : u.1 ≠ 0) : (utMn x u).1 ≠ 0 := by unfold utMn; split <;> assumption
theorem utMx_nn {x u : Trip} (hx : x.1 ≠ 0) (hu : u.1 ≠ 0) : (utMx x u).1 ≠ 0 := by unfold utMx; split <;> assumption
theorem fold_ut (ut : Trip → Trip → Trip) (has : ∀ x b u : Trip, x.1 ≠ 0 → b.1 ≠ 0 → u.1 ≠ 0 → ut (ut x b) u = ut x (ut b u)) (hnn : ∀ {x u : Trip}, x.1 ≠ 0 → u.1 ≠ 0 → (ut x u).1 ≠ 0)
    (h0 : ∀ u, ut (0, 0, ⟨#[]⟩) u = u) (M : List Trip) : (∀ t ∈ M, t.1 ≠ 0) → M ≠ [] → (M.foldl ut (0, 0, ⟨#[]⟩)).1 ≠ 0 ∧ ∀ x : Trip, x.1 ≠ 0 → M.foldl ut x = ut x (M.foldl ut (0, 0, ⟨#[]⟩)) := by
  induction M using snoc_ind with
  | h0 => intro _ h; exact absurd rfl h
  | h1 M u ih =>
    intro hg _
    have hu := hg u (by simp)
    have hM : ∀ t ∈ M, t.1 ≠ 0 := fun t ht => hg t (List.mem_append_left _ ht)
    by_cases hm : M = []
    · subst hm
      simp only [List.nil_append, List.foldl_cons, List.foldl_nil, h0]
      exact ⟨hu, fun x _ => trivial⟩
    · obtain ⟨h2, h3⟩ := ih hM hm
      simp only [List.foldl_append, List.foldl_cons, List.foldl_nil]
      refine ⟨hnn h2 hu, fun x hx => ?_⟩
      rw [h3 x hx, has x _ u hx h2 hu]
theorem best_parts (ut : Trip → Trip → Trip) (has : ∀ x b u : Trip, x.1 ≠ 0 → b.1 ≠ 0 → u.1 ≠ 0 → ut (ut x b) u = ut x (ut b u)) (hnn : ∀ {x u : Trip}, x.1 ≠ 0 → u.1 ≠ 0 → (ut x u).1 ≠ 0)
    (h0 : ∀ u, ut (0, 0, ⟨#[]⟩) u = u) (L M : List Trip) (hL : ∀ t ∈ L, t.1 ≠ 0) (hM : ∀ t ∈ M, t.1 ≠ 0) :
    (valsOf false [L.foldl ut (0, 0, ⟨#[]⟩), M.foldl ut (0, 0, ⟨#[]⟩)]).foldl ut (0, 0, ⟨#[]⟩) = (L ++ M).foldl ut (0, 0, ⟨#[]⟩) := by
  rw [valsOf_filter, List.foldl_append]
  by_cases hl : L = []
  · subst hl
    by_cases hm : M = []
    · subst hm; rfl
    · have h1 := (fold_ut ut has hnn h0 M hM hm).1
      simp only [List.foldl_nil, List.filter_cons, List.filter_nil, Bool.false_or]
      simp [h1, h0]
  · have h1 := (fold_ut ut has hnn h0 L hL hl).1
    by_cases hm : M = []
    · subst hm
      simp only [List.foldl_nil, List.filter_cons, List.filter_nil, Bool.false_or]
      simp [h1, h0]
    · obtain ⟨h2, h3⟩ := fold_ut ut has hnn h0 M hM hm
      rw [h3 _ h1]
      simp only [List.filter_cons, List.filter_nil, Bool.false_or]
      simp [h1, h2, h0]
theorem vals_append (all : Bool) (L M : List Trip) : valsOf all (L ++ M) = valsOf all L ++ valsOf all M := by
  rw [valsOf_filter, valsOf_filter, valsOf_filter, List.filter_append]
theorem vals_nn (L : List Trip) : ∀ t ∈ valsOf false L, t.1 ≠ 0 := fun t ht => by
  rw [valsOf_filter, List.mem_filter] at ht
  simpa using ht.2
theorem utMn_null (u : Trip) : utMn (0, 0, ⟨#[]⟩) u = u := if_pos (.inl rfl)
theorem utMx_null (u : Trip) : utMx (0, 0, ⟨#[]⟩) u = u := if_pos (.inl rfl)
theorem mn_parts (l m : List Trip) : bestMn (valsOf false [bestMn (valsOf false l), bestMn (valsOf false m)]) = bestMn (valsOf false (l ++ m)) := by
  rw [vals_append]
  exact best_parts utMn utMn_assoc utMn_nn utMn_null _ _ (vals_nn l) (vals_nn m)
theorem mx_parts (l m : List Trip) : bestMx (valsOf false [bestMx (valsOf false l), bestMx (valsOf false m)]) = bestMx (valsOf false (l ++ m)) := by
  rw [vals_append]
  exact best_parts utMx utMx_assoc utMx_nn utMx_null _ _ (vals_nn l) (vals_nn m)
end Go.Proofs.YtceknmibopnmhaaGreatDoor
