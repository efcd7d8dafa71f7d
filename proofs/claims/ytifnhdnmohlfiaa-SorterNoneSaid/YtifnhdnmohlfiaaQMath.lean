/-
  Layer 7, sorter: the mathematics of Sort: a list that is halved, and made one of two, is in order, is the same list, and those of one key stay as they are. No conditions.
-/
import Derived.Test.YtifnhdnmohlfiaaRows
namespace Go.Proofs.Ytifnhdnmohlfiaa
set_option linter.unusedVariables false

/-- two lists made one: of two of which neither comes first, that of the first list is put ahead -/
def mrg {α : Type} (lt : α → α → Bool) : List α → List α → List α
  | [], b => b
  | a, [] => a
  | x :: a, y :: b => if lt y x then y :: mrg lt (x :: a) b else x :: mrg lt a (y :: b)
termination_by a b => a.length + b.length
theorem mrg_nil_left {α : Type} (lt : α → α → Bool) (b : List α) : mrg lt [] b = b := by unfold mrg; rfl
theorem mrg_nil_right {α : Type} (lt : α → α → Bool) (a : List α) : mrg lt a [] = a := by
  cases a <;> (unfold mrg; rfl)
theorem mrg_cons {α : Type} (lt : α → α → Bool) (x y : α) (a b : List α) : mrg lt (x :: a) (y :: b) = if lt y x then y :: mrg lt (x :: a) b else x :: mrg lt a (y :: b) := by
  rw [mrg]
/-- a list in order, as Sort makes it -/
def srt {α : Type} (lt : α → α → Bool) (l : List α) : List α :=
  if h : l.length < 2 then l else mrg lt (srt lt (l.take (l.length / 2))) (srt lt (l.drop (l.length / 2)))
termination_by l.length
decreasing_by
  · rw [List.length_take]; omega
  · rw [List.length_drop]; omega
theorem srt_short {α : Type} (lt : α → α → Bool) (l : List α) (h : l.length < 2) : srt lt l = l := by rw [srt, dif_pos h]
theorem srt_long {α : Type} (lt : α → α → Bool) (l : List α) (h : ¬ l.length < 2) : srt lt l = mrg lt (srt lt (l.take (l.length / 2))) (srt lt (l.drop (l.length / 2))) := by rw [srt, dif_neg h]
theorem mrg_perm {α : Type} (lt : α → α → Bool) : ∀ (n : Nat) (a b : List α), a.length + b.length ≤ n → (mrg lt a b).Perm (a ++ b)
  | n, [], b, _ => by rw [mrg_nil_left]; exact List.Perm.refl _
  | n, x :: a, [], _ => by rw [mrg_nil_right, List.append_nil]
  | 0, x :: a, y :: b, h => by simp at h
  | n + 1, x :: a, y :: b, h => by
    rw [mrg_cons]
    split
    · have ih := mrg_perm lt n (x :: a) b (by simp at h ⊢; omega)
      exact (ih.cons y).trans (List.perm_middle.symm)
    · have ih := mrg_perm lt n a (y :: b) (by simp at h ⊢; omega)
      exact ih.cons x
theorem mrg_length {α : Type} (lt : α → α → Bool) (a b : List α) : (mrg lt a b).length = a.length + b.length := by
  rw [(mrg_perm lt _ a b (Nat.le_refl _)).length_eq, List.length_append]
theorem srt_perm {α : Type} (lt : α → α → Bool) : ∀ (n : Nat) (l : List α), l.length ≤ n → (srt lt l).Perm l
  | n, l, h => by
    by_cases h2 : l.length < 2
    · rw [srt_short lt l h2]
    · rw [srt_long lt l h2]
      match n, h with
      | 0, h => omega
      | n + 1, h =>
        have i1 := srt_perm lt n (l.take (l.length / 2)) (by rw [List.length_take]; omega)
        have i2 := srt_perm lt n (l.drop (l.length / 2)) (by rw [List.length_drop]; omega)
        refine (mrg_perm lt _ _ _ (Nat.le_refl _)).trans ((i1.append i2).trans ?_)
        rw [List.take_append_drop]
theorem srt_length {α : Type} (lt : α → α → Bool) (l : List α) : (srt lt l).length = l.length := (srt_perm lt _ l (Nat.le_refl _)).length_eq
theorem mrg_map {α β : Type} (f : α → β) (lt : β → β → Bool) : ∀ (n : Nat) (a b : List α), a.length + b.length ≤ n → mrg lt (a.map f) (b.map f) = (mrg (fun x y => lt (f x) (f y)) a b).map f
  | n, [], b, _ => by rw [List.map_nil, mrg_nil_left, mrg_nil_left]
  | n, x :: a, [], _ => by rw [List.map_nil, mrg_nil_right, mrg_nil_right]
  | 0, x :: a, y :: b, h => by simp at h
  | n + 1, x :: a, y :: b, h => by
    rw [List.map_cons, List.map_cons, mrg_cons, mrg_cons]
    split
    · rw [List.map_cons, ← mrg_map f lt n (x :: a) b (by simp at h ⊢; omega), List.map_cons]
    · rw [List.map_cons, ← mrg_map f lt n a (y :: b) (by simp at h ⊢; omega), List.map_cons]
theorem srt_map {α β : Type} (f : α → β) (lt : β → β → Bool) : ∀ (n : Nat) (l : List α), l.length ≤ n → srt lt (l.map f) = (srt (fun x y => lt (f x) (f y)) l).map f
  | n, l, h => by
    by_cases h2 : l.length < 2
    · rw [srt_short lt _ (by rw [List.length_map]; exact h2), srt_short _ l h2]
    · rw [srt_long lt _ (by rw [List.length_map]; exact h2), srt_long _ l h2, List.length_map]
      match n, h with
      | 0, h => omega
      | n + 1, h =>
        rw [← List.map_take, ← List.map_drop, srt_map f lt n _ (by rw [List.length_take]; omega), srt_map f lt n _ (by rw [List.length_drop]; omega)]
        exact mrg_map f lt _ _ _ (Nat.le_refl _)
/-- what comes ahead by an order that tells any two apart -/
theorem mrg_in {α : Type} (lt : α → α → Bool) (R : α → α → Prop) (htr : ∀ x y z, R x y → R y z → R x z) : ∀ (n : Nat) (a b : List α), a.length + b.length ≤ n → a.Pairwise R → b.Pairwise R → (∀ x ∈ a, ∀ y ∈ b, lt y x = true → R y x) → (∀ x ∈ a, ∀ y ∈ b, lt y x = false → R x y) → (mrg lt a b).Pairwise R
  | n, [], b, _, _, hb, _, _ => by rw [mrg_nil_left]; exact hb
  | n, x :: a, [], _, ha, _, _, _ => by rw [mrg_nil_right]; exact ha
  | 0, x :: a, y :: b, h, _, _, _, _ => by simp at h
  | n + 1, x :: a, y :: b, h, ha, hb, h1, h2 => by
    rw [mrg_cons]
    have ha' := List.pairwise_cons.1 ha
    have hb' := List.pairwise_cons.1 hb
    split
    · rename_i hlt
      have ih := mrg_in lt R htr n (x :: a) b (by simp at h ⊢; omega) ha hb'.2 (fun u hu v hv => h1 u hu v (List.mem_cons_of_mem _ hv)) (fun u hu v hv => h2 u hu v (List.mem_cons_of_mem _ hv))
      refine List.pairwise_cons.2 ⟨fun z hz => ?_, ih⟩
      have hyx := h1 x List.mem_cons_self y List.mem_cons_self hlt
      rcases List.mem_append.1 ((mrg_perm lt _ _ _ (Nat.le_refl _)).mem_iff.1 hz) with hz | hz
      · rcases List.mem_cons.1 hz with rfl | hz
        · exact hyx
        · exact htr _ _ _ hyx (ha'.1 z hz)
      · exact hb'.1 z hz
    · rename_i hlt
      have hlt' : lt y x = false := by simpa using hlt
      have ih := mrg_in lt R htr n a (y :: b) (by simp at h ⊢; omega) ha'.2 hb (fun u hu v hv => h1 u (List.mem_cons_of_mem _ hu) v hv) (fun u hu v hv => h2 u (List.mem_cons_of_mem _ hu) v hv)
      refine List.pairwise_cons.2 ⟨fun z hz => ?_, ih⟩
      have hxy := h2 x List.mem_cons_self y List.mem_cons_self hlt'
      rcases List.mem_append.1 ((mrg_perm lt _ _ _ (Nat.le_refl _)).mem_iff.1 hz) with hz | hz
      · exact ha'.1 z hz
      · rcases List.mem_cons.1 hz with rfl | hz
        · exact hxy
        · exact htr _ _ _ hxy (hb'.1 z hz)
/-- R: a strict order; in the list each comes ahead of those behind it, where lt does not say otherwise -/
theorem srt_in {α : Type} (lt : α → α → Bool) (R : α → α → Prop) (htr : ∀ x y z, R x y → R y z → R x z) (h1 : ∀ x y, lt y x = true → R y x) : ∀ (n : Nat) (l : List α), l.length ≤ n → (l.Pairwise fun x y => lt y x = false → R x y) → (srt lt l).Pairwise R
  | n, l, h, hp => by
    by_cases h2 : l.length < 2
    · rw [srt_short lt l h2]
      match l, h2 with
      | [], _ => exact List.Pairwise.nil
      | [x], _ => exact List.pairwise_singleton _ _
    · rw [srt_long lt l h2]
      match n, h with
      | 0, h => omega
      | n + 1, h =>
        have e := List.take_append_drop (l.length / 2) l
        rw [← e] at hp
        obtain ⟨p1, p2, p3⟩ := List.pairwise_append.1 hp
        have i1 := srt_in lt R htr h1 n (l.take (l.length / 2)) (by rw [List.length_take]; omega) p1
        have i2 := srt_in lt R htr h1 n (l.drop (l.length / 2)) (by rw [List.length_drop]; omega) p2
        refine mrg_in lt R htr _ _ _ (Nat.le_refl _) i1 i2 (fun x hx y hy hl => h1 x y hl) (fun x hx y hy hl => ?_)
        exact p3 x ((srt_perm lt _ _ (Nat.le_refl _)).mem_iff.1 hx) y ((srt_perm lt _ _ (Nat.le_refl _)).mem_iff.1 hy) hl
end Go.Proofs.Ytifnhdnmohlfiaa
