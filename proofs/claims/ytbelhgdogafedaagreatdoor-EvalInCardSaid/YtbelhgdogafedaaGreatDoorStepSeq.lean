/-
  A region whose operations come in their order, operation by operation; and either kind of region by one theorem. No conditions.
-/
import Derived.Test.YtbelhgdogafedaaGreatDoorSlot
namespace Go.Proofs.YtbelhgdogafedaaGreatDoor
open Go.RowKit
set_option linter.unusedVariables false

/-- the same of a region whose operations come in their order -/
theorem wp_region_phi_seq {P : Program} {id : Nat} {ops : Array Oper} {Q : Exit → Act → World → Prop} {a0 : Act} {w0 : World} 
    (F : Nat → Value → World → Prop) (C : World → Prop) (keep : List Tmp)
    (hmono : ∀ i v w w', F i v w → Below w.heap.size w w' → F i v w') (hCmono : ∀ w w', C w → Below w.heap.size w w' → C w') (hC0 : C w0)
    (hkeep : ∀ (i : Nat) (o : Oper), ops[i]? = some o → ∀ t ∈ keep, o.dst ≠ some t)
    (hdist : ∀ (i j : Nat) (o o' : Oper) (d : Tmp), ops[i]? = some o → ops[j]? = some o' → o.dst = some d → o'.dst = some d → i = j)
    (hsize : ∀ (i : Nat) (o : Oper) (d : Tmp), ops[i]? = some o → o.dst = some d → d < a0.tmps.size)
    (hback : ∀ (i : Nat) (o : Oper), ops[i]? = some o → ∀ e ∈ o.after, Region.binds .any e = true → e.on < i)
    (hstep : ∀ (i : Nat) (o : Oper), ops[i]? = some o → ∀ (a : Act) (w : World), C w → a.defers = a0.defers → (∀ t ∈ keep, a.tmps.getD t undef = a0.tmps.getD t undef) →
      (∀ (j : Nat) (oj : Oper) (d : Tmp), (∃ e ∈ o.after, e.on = j ∧ Region.binds .any e = true) → ops[j]? = some oj → oj.dst = some d → F j (a.tmps.getD d undef) w) →
      wpOp P ops Q i (fun a' w' => ∃ v, a' = a.put o.dst v ∧ F i v w' ∧ Below w.heap.size w w') a w)
    (hend : ∀ (a : Act) (w : World), C w → a.defers = a0.defers → a.tmps.size = a0.tmps.size → (∀ t ∈ keep, a.tmps.getD t undef = a0.tmps.getD t undef) →
      (∀ (j : Nat) (oj : Oper) (d : Tmp), ops[j]? = some oj → oj.dst = some d → F j (a.tmps.getD d undef) w) → Q .normal a w) :
    (Code.region id ops false).wp P Q a0 w0 := by
  have run : ∀ (m k : Nat), k + m = ops.size → ∀ (a : Act) (w : World), (C w ∧ a.defers = a0.defers ∧ a.tmps.size = a0.tmps.size ∧ (∀ t ∈ keep, a.tmps.getD t undef = a0.tmps.getD t undef) ∧
      ∀ (j : Nat) (oj : Oper) (d : Tmp), j < k → ops[j]? = some oj → oj.dst = some d → F j (a.tmps.getD d undef) w) → wpOps P ops Q (List.range' k m) a w := by
    intro m
    induction m with
    | zero =>
      rintro k hk a w ⟨hC, hd, hsz, hkp, hF⟩
      exact hend a w hC hd hsz hkp fun j oj d hoj hdj => hF j oj d (by have := (Array.getElem?_eq_some_iff.1 hoj).1; omega) hoj hdj
    | succ m ih =>
      rintro i hk a w ⟨hC, hd, hsz, hkp, hF⟩
      rw [List.range'_succ, wpOps_cons]
      have ho : ops[i]? = some ops[i] := by simp
      generalize ops[i] = o at ho
      refine wpOp_mono ?_ (hstep i o ho a w hC hd hkp fun j oj d ⟨e, he, hej, hbd⟩ hj hdj => hF j oj d (by rw [← hej]; exact hback i o ho e he hbd) hj hdj)
      rintro a' w' ⟨v, rfl, hv, hb⟩
      refine ih (i + 1) (by omega) _ _ ⟨hCmono w w' hC hb, ?_, by rw [size_put]; exact hsz, fun t ht => ?_, fun j oj d hj hoj hdj => ?_⟩
      · cases hdst : o.dst <;> simpa [Act.put] using hd
      · cases hdst : o.dst with
        | none => exact hkp t ht
        | some d =>
          have hne : t ≠ d := fun e => hkeep i o ho t ht (by rw [hdst, e])
          rw [getD_put_other hne]
          exact hkp t ht
      · by_cases hij : j = i
        · subst hij
          obtain rfl : oj = o := Option.some.inj (hoj.symm.trans ho)
          rw [hdj, getD_put_same (by rw [hsz]; exact hsize j oj d hoj hdj)]
          exact hv
        · have hold := hmono j _ w w' (hF j oj d (by omega) hoj hdj) hb
          cases hdst : o.dst with
          | none => exact hold
          | some d' =>
            have hne : d ≠ d' := fun e => hij (hdist j i oj o d hoj ho hdj (by rw [hdst, e]))
            rw [getD_put_other hne]
            exact hold
  refine wp_region ?_
  rw [List.range_eq_range']
  exact run ops.size 0 (by omega) a0 w0 ⟨hC0, rfl, rfl, fun _ _ => rfl, fun j oj d hj _ _ => absurd hj (Nat.not_lt_zero j)⟩

theorem wp_region_steps_seq {P : Program} {id : Nat} {ops : Array Oper} {Q : Exit → Act → World → Prop} {a0 : Act} {w0 : World} (F : Nat → Value → World → Prop)
    (hmono : ∀ i v w w', F i v w → Below w.heap.size w w' → F i v w')
    (hok : okReg ops a0.tmps.size = true)
    (hstep : ∀ i, i < ops.size → OpStep P ops Q F w0 a0.tmps.size (fun t => a0.tmps.getD t undef) i)
    (hend : ∀ (V : Nat → Value) (w : World), Below w0.heap.size w0 w → (∀ j, j < ops.size → (dstO ops j).isSome = true → F j (V j) w) → Q .normal ⟨fillT ops a0.tmps V, a0.defers⟩ w) :
    (Code.region id ops false).wp P Q a0 w0 := by
  simp only [okReg, Bool.and_eq_true, decide_eq_true_eq, List.all_eq_true] at hok
  obtain ⟨hn, hsz, hbk⟩ := hok
  have hdist : ∀ (i j : Nat) (o o' : Oper) (d : Tmp), ops[i]? = some o → ops[j]? = some o' → o.dst = some d → o'.dst = some d → i = j := fun i j o o' d hi hj ho ho' =>
    nodup_filterMap (·.dst) ops.toList hn i j o o' d (by simpa using hi) (by simpa using hj) ho ho'
  have hfree : ∀ t, freeT ops t = true → ∀ (i : Nat) (o : Oper), ops[i]? = some o → o.dst ≠ some t := by
    intro t ht i o ho he
    have := List.all_eq_true.1 ht o (by simpa using Array.mem_of_getElem? ho)
    rw [he] at this
    simp at this
  refine wp_region_phi_seq F (fun w => Below w0.heap.size w0 w) ((List.range a0.tmps.size).filter (freeT ops)) hmono (fun w w' h hb => h.trans (hb.mono h.size)) (Below.refl _ _) ?_ hdist ?_ ?_ ?_ ?_
  · intro i o ho t ht
    exact hfree t (List.mem_filter.1 ht).2 i o ho
  · intro i o d ho hd
    have := hsz o (by simpa using Array.mem_of_getElem? ho)
    rw [hd] at this
    simpa using this
  · intro i o ho e he hbe
    have := hbk (o, i) (by rw [List.mem_zipIdx_iff_getElem?]; simpa using ho) e (by simpa using he)
    simpa [hbe] using this
  · intro i o ho a w hC hd hk hF
    have hlt : i < ops.size := (Array.getElem?_eq_some_iff.1 ho).1
    have e : dstO ops i = o.dst := by simp [dstO, ho]
    rw [← e]
    refine hstep i hlt a w hC (fun t hts ht => hk t (List.mem_filter.2 ⟨by simpa using hts, ht⟩)) (fun j hj d hjd => ?_)
    have hj' : ∃ e ∈ o.after, e.on = j ∧ Region.binds .any e = true := by
      simp only [depsO, ho, Option.map_some, Option.getD_some, List.mem_map, List.mem_filter] at hj
      obtain ⟨e, ⟨he, hb⟩, rfl⟩ := hj
      exact ⟨e, by simpa using he, rfl, hb⟩
    cases hoj : ops[j]? with
    | none => simp [dstO, hoj] at hjd
    | some oj => exact hF j oj d hj' hoj (by simpa [dstO, hoj] using hjd)
  · intro a w hC hd hs hk hF
    have hV : ∀ (j : Nat) (d : Tmp), dstO ops j = some d → a.tmps.getD d undef = (fun j => a.tmps.getD ((dstO ops j).getD 0) undef) j := fun j d hj => by simp [hj]
    have hfr := fill_eq hs (fun j => a.tmps.getD ((dstO ops j).getD 0) undef) (fun k hk' => ?_) hV
    · have := hend (fun j => a.tmps.getD ((dstO ops j).getD 0) undef) w hC (fun j hj hd' => ?_)
      · rw [← hfr, ← hd] at this
        exact this
      · cases hoj : ops[j]? with
        | none => simp [dstO, hoj] at hd'
        | some oj =>
          obtain ⟨d, hdj⟩ := Option.isSome_iff_exists.1 hd'
          have h1 : oj.dst = some d := by simpa [dstO, hoj] using hdj
          have := hF j oj d hoj h1
          simpa [hdj] using this
    · by_cases hts : k < a0.tmps.size
      · exact hk k (List.mem_filter.2 ⟨by simpa using hts, hk'⟩)
      · have h1 : a0.tmps.size ≤ k := Nat.le_of_not_lt hts
        have h2 : a.tmps.size ≤ k := by rw [hs]; exact h1
        rw [Array.getD_eq_getD_getElem?, Array.getD_eq_getD_getElem?, Array.getElem?_eq_none h1, Array.getElem?_eq_none h2]


/-- either kind of region -/
theorem wp_region_both {P : Program} {id : Nat} {ops : Array Oper} {b : Bool} {Q : Exit → Act → World → Prop} {a0 : Act} {w0 : World} (hm : P.follows .mixedOrders = true) (F : Nat → Value → World → Prop)
    (hmono : ∀ i v w w', F i v w → Below w.heap.size w w' → F i v w')
    (hok : okReg ops a0.tmps.size = true)
    (hstep : ∀ i, i < ops.size → OpStep P ops Q F w0 a0.tmps.size (fun t => a0.tmps.getD t undef) i)
    (hend : ∀ (V : Nat → Value) (w : World), Below w0.heap.size w0 w → (∀ j, j < ops.size → (dstO ops j).isSome = true → F j (V j) w) → Q .normal ⟨fillT ops a0.tmps V, a0.defers⟩ w) :
    (Code.region id ops b).wp P Q a0 w0 := by
  cases b
  · exact wp_region_steps_seq F hmono hok hstep hend
  · exact wp_region_steps hm F hmono hok hstep hend
end Go.Proofs.YtbelhgdogafedaaGreatDoor
