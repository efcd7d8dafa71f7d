/-
  Layer 8: totals and the order of their values: the mathematics. Conditions: right values.
-/
import Derived.Test.YtceknmibopnmhaaGreatDoorAJFn
namespace Go.Proofs.YtceknmibopnmhaaGreatDoor
open Go.ChangeShapes Go.WideShapes Go.ChangeAt Go.RowKit Go.Maps Go.Sort Go.Shelf Go.ChangeMaps Go.Lib
set_option linter.unusedVariables false

theorem perm_foldl {α β : Type} (f : β → α → β) (P : α → Prop) (Q : β → Prop) (hQ : ∀ x a, Q x → P a → Q (f x a)) (hf : ∀ x a b, Q x → P a → P b → f (f x a) b = f (f x b) a) {l l' : List α} (h : l.Perm l') :
    (∀ a ∈ l, P a) → ∀ x, Q x → l.foldl f x = l'.foldl f x := by
  induction h with
  | nil => intro _ x _; rfl
  | cons a h ih =>
    intro hp x hx
    rw [List.foldl_cons, List.foldl_cons]
    exact ih (fun b hb => hp b (List.mem_cons_of_mem _ hb)) _ (hQ x a hx (hp a List.mem_cons_self))
  | swap a b l =>
    intro hp x hx
    rw [List.foldl_cons, List.foldl_cons, List.foldl_cons, List.foldl_cons, hf x b a hx (hp b (by simp)) (hp a (by simp))]
  | trans h1 h2 ih1 ih2 =>
    intro hp x hx
    exact (ih1 hp x hx).trans (ih2 (fun a ha => hp a (h1.mem_iff.2 ha)) x hx)
theorem sumT_perm {L L' : List Trip} (h : L.Perm L') : sumT L = sumT L' :=
  perm_foldl _ (fun _ => True) (fun _ => True) (fun _ _ _ _ => trivial) (fun x a b _ _ _ => by omega) h (fun _ _ => trivial) 0 trivial
theorem finCnt_perm {L L' : List Trip} (h : L.Perm L') : finCnt L = finCnt L' := by
  unfold finCnt
  rw [h.length_eq]
theorem finSum_perm (n : Trip) {L L' : List Trip} (h : L.Perm L') : finSum n L = finSum n L' := by
  unfold finSum
  rw [sumT_perm h, show L.isEmpty = L'.isEmpty by
    rw [Bool.eq_iff_iff, List.isEmpty_iff, List.isEmpty_iff]
    exact ⟨fun e => by subst e; exact h.nil_eq.symm, fun e => by subst e; exact h.eq_nil⟩]
theorem cmpT_anti (a b : Trip) : cmpT b a = -cmpT a b := cmp_anti _ _ _ _ _ _
theorem cmpT_zero {a b : Trip} (ha : GoodT a) (hb : GoodT b) : cmpT a b = 0 ↔ a = b := by
  refine ⟨fun h => ?_, fun h => by subst h; exact (cmp_zero _ _ _ _ _ _ ha.1 ha.1).2 ⟨rfl, rfl, rfl⟩⟩
  obtain ⟨e1, e2, e3⟩ := (cmp_zero _ _ _ _ _ _ ha.1 hb.1).1 h
  exact Prod.ext e1 (Prod.ext e2 e3)
theorem cmpT_trans {a b c : Trip} (h1 : cmpT a b ≤ 0) (h2 : cmpT b c ≤ 0) : cmpT a c ≤ 0 ∧ (cmpT a b < 0 → cmpT a c < 0) := cmp_trans _ _ _ _ _ _ _ _ _ h1 h2
theorem utMn_comm (x a b : Trip) (hx : GoodT x) (ha : GoodT a ∧ a.1 ≠ 0) (hb : GoodT b ∧ b.1 ≠ 0) : utMn (utMn x a) b = utMn (utMn x b) a := by
  have e1 := cmpT_anti a b
  have e2 := cmpT_anti x a
  have e3 := cmpT_anti x b
  have z1 := cmpT_zero ha.1 hb.1
  have z2 := cmpT_zero hx ha.1
  have z3 := cmpT_zero hx hb.1
  have t1 := cmpT_trans (a := a) (b := x) (c := b)
  have t2 := cmpT_trans (a := b) (b := x) (c := a)
  have t3 := cmpT_trans (a := a) (b := b) (c := x)
  have t4 := cmpT_trans (a := b) (b := a) (c := x)
  have n1 := ha.2
  have n2 := hb.2
  unfold utMn
  by_cases h0 : x.1 = 0
  · simp only [h0, true_or, if_true, n1, n2, false_or]
    by_cases h1 : cmpT b a < 0
    · rw [if_pos h1, if_neg (by omega)]
    · by_cases h2 : cmpT a b < 0
      · rw [if_neg h1, if_pos h2]
      · rw [if_neg h1, if_neg h2]
        exact z1.1 (by omega)
  · simp only [h0, false_or]
    by_cases h1 : cmpT a x < 0
    · rw [if_pos h1]
      by_cases h2 : cmpT b x < 0
      · rw [if_pos h2]
        simp only [n1, n2, false_or]
        by_cases h3 : cmpT b a < 0
        · rw [if_pos h3, if_neg (by omega)]
        · by_cases h4 : cmpT a b < 0
          · rw [if_neg h3, if_pos h4]
          · rw [if_neg h3, if_neg h4]
            exact z1.1 (by omega)
      · rw [if_neg h2]
        simp only [n1, h0, false_or]
        rw [if_pos h1, if_neg fun h3 => by
          have := t4 (by omega) (by omega)
          omega]
    · rw [if_neg h1]
      simp only [h0, false_or]
      by_cases h2 : cmpT b x < 0
      · rw [if_pos h2]
        simp only [n2, false_or]
        rw [if_neg fun h3 => by
          have := t3 (by omega) (by omega)
          omega]
      · rw [if_neg h2]
        simp only [h0, false_or]
        rw [if_neg h1]
theorem bestMn_perm {L L' : List Trip} (h : L.Perm L') (hg : ∀ t ∈ L, GoodT t ∧ t.1 ≠ 0) : bestMn L = bestMn L' :=
  perm_foldl _ (fun t => GoodT t ∧ t.1 ≠ 0) GoodT (fun x a hx ha => by
    unfold utMn
    split
    · exact ha.1
    · exact hx) (fun x a b hx ha hb => utMn_comm x a b hx ha hb) h hg _ ⟨.inl ⟨rfl, rfl, rfl⟩, by show In64 0; unfold In64; omega⟩
theorem utMx_comm (x a b : Trip) (hx : GoodT x) (ha : GoodT a ∧ a.1 ≠ 0) (hb : GoodT b ∧ b.1 ≠ 0) : utMx (utMx x a) b = utMx (utMx x b) a := by
  have e1 := cmpT_anti a b
  have e2 := cmpT_anti x a
  have e3 := cmpT_anti x b
  have z1 := cmpT_zero ha.1 hb.1
  have z2 := cmpT_zero hx ha.1
  have z3 := cmpT_zero hx hb.1
  have t1 := cmpT_trans (a := a) (b := x) (c := b)
  have t2 := cmpT_trans (a := b) (b := x) (c := a)
  have t3 := cmpT_trans (a := a) (b := b) (c := x)
  have t4 := cmpT_trans (a := b) (b := a) (c := x)
  have n1 := ha.2
  have n2 := hb.2
  unfold utMx
  by_cases h0 : x.1 = 0
  · simp only [h0, true_or, if_true, n1, n2, false_or]
    by_cases h1 : 0 < cmpT b a
    · rw [if_pos h1, if_neg (by omega)]
    · by_cases h2 : 0 < cmpT a b
      · rw [if_neg h1, if_pos h2]
      · rw [if_neg h1, if_neg h2]
        exact z1.1 (by omega)
  · simp only [h0, false_or]
    by_cases h1 : 0 < cmpT a x
    · rw [if_pos h1]
      by_cases h2 : 0 < cmpT b x
      · rw [if_pos h2]
        simp only [n1, n2, false_or]
        by_cases h3 : 0 < cmpT b a
        · rw [if_pos h3, if_neg (by omega)]
        · by_cases h4 : 0 < cmpT a b
          · rw [if_neg h3, if_pos h4]
          · rw [if_neg h3, if_neg h4]
            exact z1.1 (by omega)
      · rw [if_neg h2]
        simp only [n1, h0, false_or]
        rw [if_pos h1, if_neg fun h3 => by
          have := t4 (by omega) (by omega)
          omega]
    · rw [if_neg h1]
      simp only [h0, false_or]
      by_cases h2 : 0 < cmpT b x
      · rw [if_pos h2]
        simp only [n2, false_or]
        rw [if_neg fun h3 => by
          have := t3 (by omega) (by omega)
          omega]
      · rw [if_neg h2]
        simp only [h0, false_or]
        rw [if_neg h1]
theorem bestMx_perm {L L' : List Trip} (h : L.Perm L') (hg : ∀ t ∈ L, GoodT t ∧ t.1 ≠ 0) : bestMx L = bestMx L' :=
  perm_foldl _ (fun t => GoodT t ∧ t.1 ≠ 0) GoodT (fun x a hx ha => by
    unfold utMx
    split
    · exact ha.1
    · exact hx) (fun x a b hx ha hb => utMx_comm x a b hx ha hb) h hg _ ⟨.inl ⟨rfl, rfl, rfl⟩, by show In64 0; unfold In64; omega⟩
theorem ded_mem (L : List Trip) (t : Trip) : t ∈ ded L ↔ t ∈ L := by
  have h : ∀ (n : Nat) (L : List Trip), L.length = n → (t ∈ ded L ↔ t ∈ L) := by
    intro n
    induction n with
    | zero => intro L hL; obtain rfl := List.eq_nil_of_length_eq_zero hL; simp [ded]
    | succ n ih =>
      intro L hL
      obtain ⟨M, u, rfl⟩ : ∃ M u, L = M ++ [u] := ⟨L.dropLast, L.getLast (fun e => by rw [e] at hL; simp at hL), (List.dropLast_concat_getLast _).symm⟩
      have h1 := ih M (by rw [List.length_append] at hL; simpa using hL)
      rw [ded_snoc]
      split
      · rename_i hu
        rw [h1, List.mem_append, List.mem_singleton]
        refine ⟨.inl, fun h => h.elim id fun e => ?_⟩
        rw [e] at h1 ⊢
        exact h1.1 hu
      · rw [List.mem_append, List.mem_append, h1]
  exact h _ L rfl
theorem ded_nodup (L : List Trip) : (ded L).Nodup := by
  have h : ∀ (n : Nat) (L : List Trip), L.length = n → (ded L).Nodup := by
    intro n
    induction n with
    | zero => intro L hL; obtain rfl := List.eq_nil_of_length_eq_zero hL; simp [ded]
    | succ n ih =>
      intro L hL
      obtain ⟨M, u, rfl⟩ : ∃ M u, L = M ++ [u] := ⟨L.dropLast, L.getLast (fun e => by rw [e] at hL; simp at hL), (List.dropLast_concat_getLast _).symm⟩
      have h1 := ih M (by rw [List.length_append] at hL; simpa using hL)
      rw [ded_snoc]
      split
      · exact h1
      · rename_i hu
        refine List.nodup_append.2 ⟨h1, by simp, fun a ha b hb e => ?_⟩
        rw [List.mem_singleton.1 hb] at e
        exact hu (e ▸ ha)
  exact h _ L rfl
theorem nodup_perm {l m : List Trip} (h1 : l.Nodup) (h2 : m.Nodup) (h : ∀ t, t ∈ l ↔ t ∈ m) : l.Perm m := by
  rw [List.perm_iff_count]
  intro a
  rw [h1.count, h2.count]
  simp only [h a]
theorem ded_perm {L L' : List Trip} (h : L.Perm L') : (ded L).Perm (ded L') :=
  nodup_perm (ded_nodup L) (ded_nodup L') fun t => by rw [ded_mem, ded_mem, h.mem_iff]
/-- the length of what is told -/
def totS (L : List Trip) : Int := L.foldl (fun x t => x + (1 + ((textV t.1 t.2.1 t.2.2).size : Int))) (-1)
theorem totS_snoc (L : List Trip) (t : Trip) : totS (L ++ [t]) = totS L + (1 + ((textV t.1 t.2.1 t.2.2).size : Int)) := by
  unfold totS
  rw [List.foldl_append]
  rfl
theorem totS_perm {L L' : List Trip} (h : L.Perm L') : totS L = totS L' :=
  perm_foldl _ (fun _ => True) (fun _ => True) (fun _ _ _ _ => trivial) (fun x a b _ _ _ => by omega) h (fun _ _ => trivial) (-1) trivial
theorem jst_tot (d : Bool) (L : List Trip) : (65536 < (jst d L).1 ∧ 65536 < totS (dsel d L)) ∨ (totS (dsel d L) ≤ 65536 ∧ jst d L = (totS (dsel d L), dsel d L)) := by
  have h : ∀ (n : Nat) (L : List Trip), L.length = n → ((65536 < (jst d L).1 ∧ 65536 < totS (dsel d L)) ∨ (totS (dsel d L) ≤ 65536 ∧ jst d L = (totS (dsel d L), dsel d L))) := by
    intro n
    induction n with
    | zero =>
      intro L hL
      obtain rfl := List.eq_nil_of_length_eq_zero hL
      refine .inr ?_
      have e : dsel d [] = [] := by cases d <;> simp [dsel, ded]
      rw [e]
      exact ⟨by decide, rfl⟩
    | succ n ih =>
      intro L hL
      obtain ⟨M, u, rfl⟩ : ∃ M u, L = M ++ [u] := ⟨L.dropLast, L.getLast (fun e => by rw [e] at hL; simp at hL), (List.dropLast_concat_getLast _).symm⟩
      have h1 := ih M (by rw [List.length_append] at hL; simpa using hL)
      have hds : dsel d (M ++ [u]) = if d = true ∧ u ∈ dsel d M then dsel d M else dsel d M ++ [u] := by
        cases d with
        | false => simp [dsel]
        | true =>
          simp only [dsel, if_true, true_and]
          rw [ded_snoc]
          by_cases hu : u ∈ ded M
          · rw [if_pos hu, if_pos hu]
          · rw [if_neg hu, if_neg hu]
      rw [jst_snoc, hds]
      have hsz : (0 : Int) ≤ ((textV u.1 u.2.1 u.2.2).size : Int) := by omega
      rcases h1 with ⟨h2, h3⟩ | ⟨h2, h3⟩
      · left
        unfold jstep
        rw [if_pos (.inl h2)]
        refine ⟨h2, ?_⟩
        split
        · exact h3
        · rw [totS_snoc]; omega
      · rw [h3]
        unfold jstep
        dsimp only
        by_cases h4 : d = true ∧ u ∈ dsel d M
        · rw [if_pos (.inr h4), if_pos h4]
          exact .inr ⟨h2, rfl⟩
        · rw [if_neg (fun h => h.elim (fun h => by omega) (fun h => h4 h)), if_neg h4]
          rw [totS_snoc]
          dsimp only
          by_cases h5 : totS (dsel d M) + (1 + ((textV u.1 u.2.1 u.2.2).size : Int)) ≤ 65536
          · exact .inr ⟨h5, rfl⟩
          · exact .inl ⟨by omega, by omega⟩
  exact h _ L rfl
theorem dsel_perm (d : Bool) {L L' : List Trip} (h : L.Perm L') : (dsel d L).Perm (dsel d L') := by
  cases d with
  | false => exact h
  | true => exact ded_perm h
theorem finJoin_perm (d : Bool) {L L' : List Trip} (h : L.Perm L') : finJoin d L = finJoin d L' := by
  have hd := dsel_perm d h
  have ht := totS_perm hd
  unfold finJoin
  rcases jst_tot d L with ⟨h1, h2⟩ | ⟨h1, h2⟩
  · rcases jst_tot d L' with ⟨h3, h4⟩ | ⟨h3, h4⟩
    · rw [if_pos h1, if_pos h3]
    · omega
  · rcases jst_tot d L' with ⟨h3, h4⟩ | ⟨h3, h4⟩
    · omega
    · rw [h2, h4]
      dsimp only
      rw [if_neg (by omega), if_neg (by omega), sortT_perm hd]
end Go.Proofs.YtceknmibopnmhaaGreatDoor
