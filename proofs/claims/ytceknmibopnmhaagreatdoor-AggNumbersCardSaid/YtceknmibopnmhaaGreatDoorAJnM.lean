/-
  Layer 8: joining. The mathematics of what is joined. No conditions.
-/
import Derived.Test.YtceknmibopnmhaaGreatDoorAJoi
namespace Go.Proofs.YtceknmibopnmhaaGreatDoor
open Go.ChangeShapes Go.WideShapes Go.ChangeAt Go.RowKit Go.Maps Go.Sort Go.Shelf Go.ChangeMaps Go.Lib
set_option linter.unusedVariables false

instance (priority := 100000) beqTrip : BEq Trip := ⟨fun a b => decide (a = b)⟩
instance lawTrip : LawfulBEq Trip where
  rfl := decide_eq_true rfl
  eq_of_beq := of_decide_eq_true
def textB (t : Trip) : ByteArray := textV t.1 t.2.1 t.2.2
/-- each value as often as it is there -/
def joinT (M vs : List Trip) : List Trip := vs.flatMap fun t => List.replicate (countT t M) t
theorem countT_count (t : Trip) (M : List Trip) : countT t M = M.count t := by
  unfold countT List.count
  rw [List.countP_eq_length_filter]
  rfl
theorem sum_one (a : Trip) (n : Trip → Nat) : ∀ vs : List Trip, vs.Nodup → (vs.map fun t => if t = a then n t else 0).sum = if a ∈ vs then n a else 0
  | [], _ => rfl
  | t :: r, h => by
    obtain ⟨h1, h2⟩ := List.nodup_cons.1 h
    rw [List.map_cons, List.sum_cons, sum_one a n r h2]
    by_cases e : t = a
    · subst e
      rw [if_pos rfl, if_neg h1, if_pos (List.mem_cons_self), Nat.add_zero]
    · rw [if_neg e, Nat.zero_add]
      simp [show ¬ a = t from fun h => e h.symm]
theorem joinT_count (M vs : List Trip) (h : vs.Nodup) (a : Trip) : (joinT M vs).count a = if a ∈ vs then M.count a else 0 := by
  unfold joinT
  rw [List.count_flatMap]
  have e : (List.count a ∘ fun t => List.replicate (countT t M) t) = fun t => if t = a then M.count t else 0 := by
    funext t
    rw [Function.comp, List.count_replicate, countT_count]
    by_cases e : t = a <;> simp [e]
  rw [e, sum_one a _ vs h]
theorem joinT_perm (M vs : List Trip) (h : vs.Nodup) : (joinT M vs).Perm (M.filter fun t => decide (t ∈ vs)) := by
  rw [List.perm_iff_count]
  intro a
  rw [joinT_count M vs h]
  by_cases e : a ∈ vs
  · rw [if_pos e, List.count_filter (by simpa using e)]
  · rw [if_neg e, eq_comm, List.count_eq_zero]
    intro h2
    have := (List.mem_filter.1 h2).2
    simp at this
    exact e this
theorem joinT_all (M vs : List Trip) (h : vs.Nodup) (hm : ∀ t, t ∈ M → t ∈ vs) : (joinT M vs).Perm M := by
  have h1 := joinT_perm M vs h
  rwa [List.filter_eq_self.2 fun t ht => decide_eq_true (hm t ht)] at h1
theorem joinT_take_len (M vs : List Trip) (h : vs.Nodup) (i : Nat) : (joinT M (vs.take i)).length ≤ M.length := by
  have h1 := joinT_perm M (vs.take i) (h.sublist (List.take_sublist _ _))
  rw [h1.length_eq]
  exact List.length_filter_le _ _
theorem joinT_snoc (M vs : List Trip) (i : Nat) (t : Trip) (h : vs[i]? = some t) : joinT M (vs.take (i + 1)) = joinT M (vs.take i) ++ List.replicate (countT t M) t := by
  unfold joinT
  rw [List.take_add_one, h, Option.toList_some, List.flatMap_append]
  simp
theorem sum_le (a : List Nat) (K : Nat) (h : ∀ x ∈ a, x ≤ K) : a.sum ≤ a.length * K := by
  induction a with
  | nil => simp
  | cons x r ih =>
    have h1 := h x List.mem_cons_self
    have h2 := ih fun y hy => h y (List.mem_cons_of_mem _ hy)
    rw [List.sum_cons, List.length_cons, Nat.add_mul]
    omega
theorem join_len (xs : List (List UInt8)) (sep : List UInt8) (K : Nat) (h : ∀ x ∈ xs, x.length ≤ K) : (Lib.join xs sep).length ≤ xs.length * (K + sep.length) := by
  cases xs with
  | nil => simp [Lib.join_nil]
  | cons x r =>
    rw [Lib.join_cons, List.length_append, Lib.joinTail, List.length_flatten]
    have h1 := h x List.mem_cons_self
    have h2 := sum_le ((r.map (sep ++ ·)).map List.length) (K + sep.length) (by
      intro y hy
      obtain ⟨z, hz, rfl⟩ := List.mem_map.1 hy
      obtain ⟨u, hu, rfl⟩ := List.mem_map.1 hz
      have := h u (List.mem_cons_of_mem _ hu)
      rw [List.length_append]
      omega)
    rw [List.length_map, List.length_map] at h2
    rw [List.length_cons, Nat.add_mul]
    omega
/-- what is told of values in that order -/
def joinV (ts : List Trip) : Trip := if ts = [] then (0, 0, ⟨#[]⟩) else (2, 0, ⟨(Lib.join (ts.map fun t => (textB t).data.toList) [44]).toArray⟩)
theorem sortR_perm (l : List RT) : (sortR l).Perm l := List.mergeSort_perm _ _
theorem sortR_pair (l : List RT) : (sortR l).Pairwise fun x y => cfR x y ≤ 0 := by
  have h := List.pairwise_mergeSort (le := fun x y => !ltOf cfR y x) (fun a b c h1 h2 => by
      have h1 := ltR_no.1 (by simpa using h1)
      have h2 := ltR_no.1 (by simpa using h2)
      have a1 := cfR_anti a b
      have a2 := cfR_anti b c
      have a3 := cfR_anti a c
      have h := (cfR_trans (x := a) (y := b) (z := c) (by omega) (by omega)).1
      have : ltOf cfR c a = false := ltR_no.2 (by omega)
      simp [this]) (fun a b => by
      cases h1 : ltOf cfR b a with
      | false => simp
      | true =>
        have h1 := ltR_iff.1 h1
        have a1 := cfR_anti a b
        have : ltOf cfR a b = false := ltR_no.2 (by omega)
        simp [this]) l
  refine h.imp fun {a b} h1 => ?_
  have h1 := ltR_no.1 (by simpa using h1)
  have a1 := cfR_anti a b
  omega
theorem sortR_unique {l l' : List RT} (h : l.Perm l') : sortR l = sortR l' := by
  refine List.Perm.eq_of_pairwise (le := fun x y => cfR x y ≤ 0) (fun a b _ _ h1 h2 => ?_) (sortR_pair l) (sortR_pair l') ((sortR_perm l).trans (h.trans (sortR_perm l').symm))
  have a1 := cfR_anti a b
  exact (cfR_zero a b).1 (by omega)
theorem map_val_inj : ∀ {l l' : List RT}, l.map Subtype.val = l'.map Subtype.val → l = l'
  | [], [], _ => rfl
  | [], _ :: _, h => by simp at h
  | _ :: _, [], h => by simp at h
  | a :: r, b :: r', h => by
    simp only [List.map_cons, List.cons.injEq] at h
    rw [Subtype.ext h.1, map_val_inj h.2]
/-- right values in order -/
def OrdT (ts : List Trip) : Prop := ts.Pairwise fun x y => cmpT x y ≤ 0
/-- right values in one order are one list -/
theorem ord_unique {ts ts' : List Trip} (hr : ∀ t ∈ ts, GoodT t) (hp : ts.Perm ts') (h1 : OrdT ts) (h2 : OrdT ts') : ts = ts' := by
  refine List.Perm.eq_of_pairwise (le := fun x y => cmpT x y ≤ 0) (fun a b ha hb h3 h4 => ?_) h1 h2 hp
  have h5 : cmpT b a = -cmpT a b := cmp_anti _ _ _ _ _ _
  obtain ⟨e1, e2, e3⟩ := (cmp_zero _ _ _ _ _ _ (hr a ha).1 (hr b (hp.mem_iff.2 hb)).1).1 (show cmpT a b = 0 by omega)
  exact Prod.ext e1 (Prod.ext e2 e3)
theorem sortR_ord (l : List RT) : OrdT ((sortR l).map Subtype.val) := List.pairwise_map.2 (sortR_pair l)
theorem cmpT_self (t : Trip) (h : GoodT t) : cmpT t t = 0 := (cmp_zero _ _ _ _ _ _ h.1 h.1).2 ⟨rfl, rfl, rfl⟩
theorem ord_join (M : List Trip) : ∀ vs : List Trip, OrdT vs → (∀ t ∈ vs, GoodT t) → OrdT (joinT M vs)
  | [], _, _ => List.Pairwise.nil
  | t :: r, h, hg => by
    obtain ⟨h1, h2⟩ := List.pairwise_cons.1 h
    unfold joinT OrdT
    rw [List.flatMap_cons, List.pairwise_append]
    refine ⟨List.pairwise_replicate.2 (.inr (by rw [cmpT_self t (hg t List.mem_cons_self)]; exact Int.le_refl _)), ord_join M r h2 fun u hu => hg u (List.mem_cons_of_mem _ hu), fun a ha b hb => ?_⟩
    obtain ⟨u, hu, hb⟩ := List.mem_flatMap.1 hb
    rw [List.eq_of_mem_replicate ha, List.eq_of_mem_replicate hb]
    exact h1 u hu
open Classical in
noncomputable def pick (p : List Trip → Prop) : List Trip := if h : ∃ ts : List Trip, p ts then h.choose else []
/-- the values in order -/
noncomputable def sortT (M : List Trip) : List Trip := pick fun ts => ts.Perm M ∧ OrdT ts
theorem sortT_is {M ts : List Trip} (hr : ∀ t ∈ M, GoodT t) (hp : ts.Perm M) (ho : OrdT ts) : sortT M = ts := by
  unfold sortT pick
  have h : ∃ ts : List Trip, ts.Perm M ∧ OrdT ts := ⟨ts, hp, ho⟩
  rw [dif_pos h]
  exact ord_unique (fun t ht => hr t (h.choose_spec.1.mem_iff.1 ht)) (h.choose_spec.1.trans hp.symm) h.choose_spec.2 ho
theorem sortT_perm {M M' : List Trip} (h : M.Perm M') : sortT M = sortT M' := congrArg pick (funext fun ts => propext ⟨fun ⟨a, b⟩ => ⟨a.trans h, b⟩, fun ⟨a, b⟩ => ⟨a.trans h.symm, b⟩⟩)
end Go.Proofs.YtceknmibopnmhaaGreatDoor
