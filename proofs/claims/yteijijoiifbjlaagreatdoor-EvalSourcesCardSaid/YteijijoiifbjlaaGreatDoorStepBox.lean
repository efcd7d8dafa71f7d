/-
  A region whose operations come in their order, operation by operation; and either kind of region by one theorem. No conditions.
  A region that draws its order and in which one block is made and filled. No conditions.
-/
import Derived.Test.YteijijoiifbjlaaGreatDoorSlot
namespace Go.Proofs.YteijijoiifbjlaaGreatDoor
open Go.RowKit
set_option linter.unusedVariables false

/-- the same of a region whose operations come in their order -/
theorem wp_region_phi_seq {P : Program} {id : Nat} {ops : Array Oper} {Q : Exit → Act → World → Prop} {a0 : Act} {w0 : World} 
    (F : Nat → Value → World → Prop) (C : World → Prop) (keep : List Tmp)
    (hmono : ∀ i v w w', F i v w → Below w.heap.size w w' → F i v w') (hCmono : ∀ w w', C w → Below w.heap.size w w' → C w') (hC0 : C w0)
    (hkeep : ∀ (i : Nat) (o : Oper), ops[i]? = some o → ∀ t ∈ keep, o.dst ≠ some t)
    (hdist : ∀ (i j : Nat) (o o' : Oper) (d : Tmp), ops[i]? = some o → ops[j]? = some o' → o.dst = some d → o'.dst = some d → i = j)
    (hsize : ∀ (i : Nat) (o : Oper) (d : Tmp), ops[i]? = some o → o.dst = some d → d < a0.tmps.size)
    (hback : ∀ (i : Nat) (o : Oper), ops[i]? = some o → ∀ e ∈ o.after, Region.binds .any e = true → e.on < i)
    (hstep : ∀ (i : Nat) (o : Oper), ops[i]? = some o → ∀ (a : Act) (w : World), C w → a.defers = a0.defers → (∀ t ∈ keep, a.tmps.getD t undef = a0.tmps.getD t undef) →
      (∀ (j : Nat) (oj : Oper) (d : Tmp), (∃ e ∈ o.after, e.on = j ∧ Region.binds .any e = true) → ops[j]? = some oj → oj.dst = some d → F j (a.tmps.getD d undef) w) →
      wpOp P ops Q i (fun a' w' => ∃ v, a' = a.put o.dst v ∧ F i v w' ∧ Below w.heap.size w w') a w)
    (hend : ∀ (a : Act) (w : World), C w → a.defers = a0.defers → a.tmps.size = a0.tmps.size → (∀ t ∈ keep, a.tmps.getD t undef = a0.tmps.getD t undef) →
      (∀ (j : Nat) (oj : Oper) (d : Tmp), ops[j]? = some oj → oj.dst = some d → F j (a.tmps.getD d undef) w) → Q .normal a w) :
    (Code.region id ops false).wp P Q a0 w0 := by
  have run : ∀ (m k : Nat), k + m = ops.size → ∀ (a : Act) (w : World), (C w ∧ a.defers = a0.defers ∧ a.tmps.size = a0.tmps.size ∧ (∀ t ∈ keep, a.tmps.getD t undef = a0.tmps.getD t undef) ∧
      ∀ (j : Nat) (oj : Oper) (d : Tmp), j < k → ops[j]? = some oj → oj.dst = some d → F j (a.tmps.getD d undef) w) → wpOps P ops Q (List.range' k m) a w := by
    intro m
    induction m with
    | zero =>
      rintro k hk a w ⟨hC, hd, hsz, hkp, hF⟩
      exact hend a w hC hd hsz hkp fun j oj d hoj hdj => hF j oj d (by have := (Array.getElem?_eq_some_iff.1 hoj).1; omega) hoj hdj
    | succ m ih =>
      rintro i hk a w ⟨hC, hd, hsz, hkp, hF⟩
      rw [List.range'_succ, wpOps_cons]
      have ho : ops[i]? = some ops[i] := by simp
      generalize ops[i] = o at ho
      refine wpOp_mono ?_ (hstep i o ho a w hC hd hkp fun j oj d ⟨e, he, hej, hbd⟩ hj hdj => hF j oj d (by rw [← hej]; exact hback i o ho e he hbd) hj hdj)
      rintro a' w' ⟨v, rfl, hv, hb⟩
      refine ih (i + 1) (by omega) _ _ ⟨hCmono w w' hC hb, ?_, by rw [size_put]; exact hsz, fun t ht => ?_, fun j oj d hj hoj hdj => ?_⟩
      · cases hdst : o.dst <;> simpa [Act.put] using hd
      · cases hdst : o.dst with
        | none => exact hkp t ht
        | some d =>
          have hne : t ≠ d := fun e => hkeep i o ho t ht (by rw [hdst, e])
          rw [getD_put_other hne]
          exact hkp t ht
      · by_cases hij : j = i
        · subst hij
          obtain rfl : oj = o := Option.some.inj (hoj.symm.trans ho)
          rw [hdj, getD_put_same (by rw [hsz]; exact hsize j oj d hoj hdj)]
          exact hv
        · have hold := hmono j _ w w' (hF j oj d (by omega) hoj hdj) hb
          cases hdst : o.dst with
          | none => exact hold
          | some d' =>
            have hne : d ≠ d' := fun e => hij (hdist j i oj o d hoj ho hdj (by rw [hdst, e]))
            rw [getD_put_other hne]
            exact hold
  refine wp_region ?_
  rw [List.range_eq_range']
  exact run ops.size 0 (by omega) a0 w0 ⟨hC0, rfl, rfl, fun _ _ => rfl, fun j oj d hj _ _ => absurd hj (Nat.not_lt_zero j)⟩

theorem wp_region_steps_seq {P : Program} {id : Nat} {ops : Array Oper} {Q : Exit → Act → World → Prop} {a0 : Act} {w0 : World} (F : Nat → Value → World → Prop)
    (hmono : ∀ i v w w', F i v w → Below w.heap.size w w' → F i v w')
    (hok : okReg ops a0.tmps.size = true)
    (hstep : ∀ i, i < ops.size → OpStep P ops Q F w0 a0.tmps.size (fun t => a0.tmps.getD t undef) i)
    (hend : ∀ (V : Nat → Value) (w : World), Below w0.heap.size w0 w → (∀ j, j < ops.size → (dstO ops j).isSome = true → F j (V j) w) → Q .normal ⟨fillT ops a0.tmps V, a0.defers⟩ w) :
    (Code.region id ops false).wp P Q a0 w0 := by
  simp only [okReg, Bool.and_eq_true, decide_eq_true_eq, List.all_eq_true] at hok
  obtain ⟨hn, hsz, hbk⟩ := hok
  have hdist : ∀ (i j : Nat) (o o' : Oper) (d : Tmp), ops[i]? = some o → ops[j]? = some o' → o.dst = some d → o'.dst = some d → i = j := fun i j o o' d hi hj ho ho' =>
    nodup_filterMap (·.dst) ops.toList hn i j o o' d (by simpa using hi) (by simpa using hj) ho ho'
  have hfree : ∀ t, freeT ops t = true → ∀ (i : Nat) (o : Oper), ops[i]? = some o → o.dst ≠ some t := by
    intro t ht i o ho he
    have := List.all_eq_true.1 ht o (by simpa using Array.mem_of_getElem? ho)
    rw [he] at this
    simp at this
  refine wp_region_phi_seq F (fun w => Below w0.heap.size w0 w) ((List.range a0.tmps.size).filter (freeT ops)) hmono (fun w w' h hb => h.trans (hb.mono h.size)) (Below.refl _ _) ?_ hdist ?_ ?_ ?_ ?_
  · intro i o ho t ht
    exact hfree t (List.mem_filter.1 ht).2 i o ho
  · intro i o d ho hd
    have := hsz o (by simpa using Array.mem_of_getElem? ho)
    rw [hd] at this
    simpa using this
  · intro i o ho e he hbe
    have := hbk (o, i) (by rw [List.mem_zipIdx_iff_getElem?]; simpa using ho) e (by simpa using he)
    simpa [hbe] using this
  · intro i o ho a w hC hd hk hF
    have hlt : i < ops.size := (Array.getElem?_eq_some_iff.1 ho).1
    have e : dstO ops i = o.dst := by simp [dstO, ho]
    rw [← e]
    refine hstep i hlt a w hC (fun t hts ht => hk t (List.mem_filter.2 ⟨by simpa using hts, ht⟩)) (fun j hj d hjd => ?_)
    have hj' : ∃ e ∈ o.after, e.on = j ∧ Region.binds .any e = true := by
      simp only [depsO, ho, Option.map_some, Option.getD_some, List.mem_map, List.mem_filter] at hj
      obtain ⟨e, ⟨he, hb⟩, rfl⟩ := hj
      exact ⟨e, by simpa using he, rfl, hb⟩
    cases hoj : ops[j]? with
    | none => simp [dstO, hoj] at hjd
    | some oj => exact hF j oj d hj' hoj (by simpa [dstO, hoj] using hjd)
  · intro a w hC hd hs hk hF
    have hV : ∀ (j : Nat) (d : Tmp), dstO ops j = some d → a.tmps.getD d undef = (fun j => a.tmps.getD ((dstO ops j).getD 0) undef) j := fun j d hj => by simp [hj]
    have hfr := fill_eq hs (fun j => a.tmps.getD ((dstO ops j).getD 0) undef) (fun k hk' => ?_) hV
    · have := hend (fun j => a.tmps.getD ((dstO ops j).getD 0) undef) w hC (fun j hj hd' => ?_)
      · rw [← hfr, ← hd] at this
        exact this
      · cases hoj : ops[j]? with
        | none => simp [dstO, hoj] at hd'
        | some oj =>
          obtain ⟨d, hdj⟩ := Option.isSome_iff_exists.1 hd'
          have h1 : oj.dst = some d := by simpa [dstO, hoj] using hdj
          have := hF j oj d hoj h1
          simpa [hdj] using this
    · by_cases hts : k < a0.tmps.size
      · exact hk k (List.mem_filter.2 ⟨by simpa using hts, hk'⟩)
      · have h1 : a0.tmps.size ≤ k := Nat.le_of_not_lt hts
        have h2 : a.tmps.size ≤ k := by rw [hs]; exact h1
        rw [Array.getD_eq_getD_getElem?, Array.getD_eq_getD_getElem?, Array.getElem?_eq_none h1, Array.getElem?_eq_none h2]


/-- either kind of region -/
theorem wp_region_both {P : Program} {id : Nat} {ops : Array Oper} {b : Bool} {Q : Exit → Act → World → Prop} {a0 : Act} {w0 : World} (hm : P.follows .mixedOrders = true) (F : Nat → Value → World → Prop)
    (hmono : ∀ i v w w', F i v w → Below w.heap.size w w' → F i v w')
    (hok : okReg ops a0.tmps.size = true)
    (hstep : ∀ i, i < ops.size → OpStep P ops Q F w0 a0.tmps.size (fun t => a0.tmps.getD t undef) i)
    (hend : ∀ (V : Nat → Value) (w : World), Below w0.heap.size w0 w → (∀ j, j < ops.size → (dstO ops j).isSome = true → F j (V j) w) → Q .normal ⟨fillT ops a0.tmps V, a0.defers⟩ w) :
    (Code.region id ops b).wp P Q a0 w0 := by
  cases b
  · exact wp_region_steps_seq F hmono hok hstep hend
  · exact wp_region_steps hm F hmono hok hstep hend
end Go.Proofs.YteijijoiifbjlaaGreatDoor

namespace Go.Proofs.YteijijoiifbjlaaGreatDoor
open Go.RowKit
set_option linter.unusedVariables false

def gotB (listed : Array Bool) (j : Nat) : Bool := listed.getD j false
theorem got_set {listed : Array Bool} {i j : Nat} (h : j ≠ i) : gotB (listed.setIfInBounds i true) j = gotB listed j := by
  simp only [gotB, Array.getD_eq_getD_getElem?]
  rw [Array.getElem?_setIfInBounds_ne (Ne.symm h)]

theorem wp_region_box {P : Program} {id : Nat} {ops : Array Oper} {Q : Exit → Act → World → Prop} {a0 : Act} {w0 : World} (hm : P.follows .mixedOrders = true) (F : Nat → Value → World → Prop)
    (ia ib : Nat) (da : Tmp) (P0 P1 : Nat → World → Prop)
    (hF : ∀ i v w w', F i v w → F i v w') (hia : dstO ops ia = some da) (hib : dstO ops ib = none) (hlt : ib < ops.size) (hab : ia ∈ depsO ops ib) (hne : ia ≠ ib)
    (hm0 : ∀ p w w', P0 p w → p < w.heap.size → Below w.heap.size w w' → P0 p w') (hm1 : ∀ p w w', P1 p w → p < w.heap.size → Below w.heap.size w w' → P1 p w')
    (hok : okReg ops a0.tmps.size = true)
    (hstep : ∀ i, i < ops.size → i ≠ ia → i ≠ ib → OpStep P ops Q F w0 a0.tmps.size (fun t => a0.tmps.getD t undef) i)
    (halloc : ∀ (a : Act) (w : World), Below w0.heap.size w0 w → wpOp P ops Q ia (fun a' w' => ∃ p, a' = a.put (some da) (.pointer (some ⟨p, 0, none⟩)) ∧ F ia (.pointer (some ⟨p, 0, none⟩)) w' ∧ w.heap.size ≤ p ∧ p < w'.heap.size ∧ P0 p w' ∧ Below w.heap.size w w') a w)
    (hstore : ∀ (a : Act) (w : World) (p : Nat), Below w0.heap.size w0 w → w0.heap.size ≤ p → p < w.heap.size → a.eval (.tmp da) = .pointer (some ⟨p, 0, none⟩) → P0 p w → (∀ j ∈ depsO ops ib, ∀ d, dstO ops j = some d → F j (a.eval (.tmp d)) w) →
      wpOp P ops Q ib (fun a' w' => a' = a ∧ P1 p w' ∧ Below w0.heap.size w0 w' ∧ w'.heap.size = w.heap.size) a w)
    (hend : ∀ (V : Nat → Value) (p : Nat) (w : World), Below w0.heap.size w0 w → V ia = .pointer (some ⟨p, 0, none⟩) → w0.heap.size ≤ p → p < w.heap.size → P1 p w → (∀ j, j < ops.size → (dstO ops j).isSome = true → F j (V j) w) → Q .normal ⟨fillT ops a0.tmps V, a0.defers⟩ w) :
    (Code.region id ops true).wp P Q a0 w0 := by
  simp only [okReg, Bool.and_eq_true, decide_eq_true_eq, List.all_eq_true] at hok
  obtain ⟨hn, hsz, hbk⟩ := hok
  have hdist : ∀ (i j : Nat) (o o' : Oper) (d : Tmp), ops[i]? = some o → ops[j]? = some o' → o.dst = some d → o'.dst = some d → i = j := fun i j o o' d hi hj ho ho' =>
    nodup_filterMap (·.dst) ops.toList hn i j o o' d (by simpa using hi) (by simpa using hj) ho ho'
  have hfree : ∀ t, freeT ops t = true → ∀ (i : Nat) (o : Oper), ops[i]? = some o → o.dst ≠ some t := by
    intro t ht i o ho he
    have := List.all_eq_true.1 ht o (by simpa using Array.mem_of_getElem? ho)
    rw [he] at this
    simp at this
  have hsize : ∀ (i : Nat) (o : Oper) (d : Tmp), ops[i]? = some o → o.dst = some d → d < a0.tmps.size := by
    intro i o d ho hd
    have := hsz o (by simpa using Array.mem_of_getElem? ho)
    rw [hd] at this
    simpa using this
  have hback : ∀ (i : Nat) (o : Oper), ops[i]? = some o → ∀ e ∈ o.after, Region.binds .any e = true → e.on < i := by
    intro i o ho e he hbe
    have := hbk (o, i) (by rw [List.mem_zipIdx_iff_getElem?]; simpa using ho) e (by simpa using he)
    simpa [hbe] using this
  have hdst : ∀ (i : Nat) (o : Oper), ops[i]? = some o → dstO ops i = o.dst := fun i o ho => by simp [dstO, ho]
  have hdep : ∀ (i : Nat) (o : Oper) (j : Nat), ops[i]? = some o → j ∈ depsO ops i → ∃ e ∈ o.after, e.on = j ∧ Region.binds .any e = true := by
    intro i o j ho hj
    simp only [depsO, ho, Option.map_some, Option.getD_some, List.mem_map, List.mem_filter] at hj
    obtain ⟨e, ⟨he, hb⟩, rfl⟩ := hj
    exact ⟨e, by simpa using he, rfl, hb⟩
  refine wp_region_inv hm (fun listed a w => Below w0.heap.size w0 w ∧ a.defers = a0.defers ∧ a.tmps.size = a0.tmps.size ∧ (∀ t, freeT ops t = true → a.tmps.getD t undef = a0.tmps.getD t undef) ∧
      (∀ (j : Nat) (oj : Oper) (d : Tmp), gotB listed j = true → ops[j]? = some oj → oj.dst = some d → F j (a.tmps.getD d undef) w) ∧
      (gotB listed ia = true → ∃ p, a.tmps.getD da undef = .pointer (some ⟨p, 0, none⟩) ∧ w0.heap.size ≤ p ∧ p < w.heap.size ∧ (if gotB listed ib then P1 p w else P0 p w)) ∧ (gotB listed ib = true → gotB listed ia = true)) ?_ ?_ ?_
  · have none : ∀ j, gotB (Array.replicate ops.size false) j = false := by
      intro j
      by_cases h : j < ops.size <;> simp [gotB, Array.getD, h]
    refine ⟨(Below.refl _ _).drew, rfl, rfl, fun _ _ => rfl, fun j oj d hj _ _ => ?_, fun h => ?_, fun h => ?_⟩
    · rw [none] at hj; cases hj
    · rw [none] at h; cases h
    · rw [none] at h; cases h
  · rintro listed a w i hs ⟨hC, hd, hsz', hk, hFj, hA, hBA⟩ hi
    obtain ⟨hun, o, ho, haft⟩ := mem_ready.1 hi
    have hilt : i < ops.size := (Array.getElem?_eq_some_iff.1 ho).1
    have hunl : gotB listed i = false := by
      have hlt' : i < listed.size := by omega
      simp [gotB, Array.getD, hlt'] at hun ⊢
      exact hun
    have hset : gotB (listed.setIfInBounds i true) i = true := by
      have hlt' : i < listed.size := by omega
      simp [gotB, Array.getD, hlt']
    have hdeps : ∀ j ∈ depsO ops i, ∀ d, dstO ops j = some d → F j (a.eval (.tmp d)) w := by
      intro j hj d hjd
      obtain ⟨e, he, rfl, hb⟩ := hdep i o j ho hj
      cases hoj : ops[e.on]? with
      | none => simp [dstO, hoj] at hjd
      | some oj => exact hFj e.on oj d (haft e he hb) hoj (by simpa [dstO, hoj] using hjd)
    -- what a put keeps of the frame
    have hput : ∀ (v : Value) (w' : World) (hv : ∀ d, o.dst = some d → F i v w'), 
        (∀ t, freeT ops t = true → (a.put o.dst v).tmps.getD t undef = a0.tmps.getD t undef) ∧
        (∀ (j : Nat) (oj : Oper) (d : Tmp), gotB (listed.setIfInBounds i true) j = true → ops[j]? = some oj → oj.dst = some d → F j ((a.put o.dst v).tmps.getD d undef) w') := by
      intro v w' hv
      refine ⟨fun t ht => ?_, fun j oj d hj hoj hdj => ?_⟩
      · cases hdst' : o.dst with
        | none => exact hk t ht
        | some d =>
          have hne' : t ≠ d := fun e => hfree t ht i o ho (by rw [hdst', e])
          rw [getD_put_other hne']
          exact hk t ht
      · by_cases hij : j = i
        · subst hij
          obtain rfl : oj = o := Option.some.inj (hoj.symm.trans ho)
          rw [hdj, getD_put_same (by rw [hsz']; exact hsize j oj d hoj hdj)]
          exact hv d hdj
        · rw [got_set hij] at hj
          have hold := hF j _ w w' (hFj j oj d hj hoj hdj)
          cases hdst' : o.dst with
          | none => exact hold
          | some d' =>
            have hne' : d ≠ d' := fun e => hij (hdist j i oj o d hoj ho hdj (by rw [hdst', e]))
            rw [getD_put_other hne']
            exact hold
    have hdef : ∀ v, (a.put o.dst v).defers = a0.defers := by
      intro v
      cases o.dst <;> simpa [Act.put] using hd
    by_cases hia' : i = ia
    · subst hia'
      have hda : o.dst = some da := by rw [← hdst i o ho]; exact hia
      refine wpOp_mono ?_ (halloc a w hC)
      rintro a' w' ⟨p, rfl, hFp, hp0, hp1, hP, hb⟩
      rw [← hda]
      obtain ⟨h1, h2⟩ := hput (.pointer (some ⟨p, 0, none⟩)) w' (fun _ _ => hFp)
      refine ⟨hC.trans (hb.mono hC.size), hdef _, by rw [size_put]; exact hsz', h1, h2, fun _ => ⟨p, ?_, Nat.le_trans hC.size hp0, hp1, ?_⟩, fun _ => hset⟩
      · rw [hda, getD_put_same (by rw [hsz']; exact hsize i o da ho hda)]
      · rw [got_set (Ne.symm hne)]
        have : gotB listed ib = false := by
          cases h : gotB listed ib with
          | false => rfl
          | true => rw [hBA h] at hunl; cases hunl
        rw [this]
        exact hP
    · by_cases hib' : i = ib
      · subst hib'
        have hdn : o.dst = none := by rw [← hdst i o ho]; exact hib
        have hgia : gotB listed ia = true := by
          obtain ⟨e, he, rfl, hb⟩ := hdep i o ia ho hab
          exact haft e he hb
        obtain ⟨p, hp, hp0, hp1, hP⟩ := hA hgia
        rw [hunl] at hP
        refine wpOp_mono ?_ (hstore a w p hC hp0 hp1 hp hP hdeps)
        rintro a' w' ⟨rfl, hP1, hC', hsz2⟩
        have hpt := hput undef w' (fun d h => by rw [hdn] at h; cases h)
        rw [hdn] at hpt
        obtain ⟨h1, h2⟩ := hpt
        refine ⟨hC', hd, hsz', h1, h2, fun _ => ⟨p, hp, hp0, by rw [hsz2]; exact hp1, ?_⟩, fun _ => by rw [got_set hne]; exact hgia⟩
        rw [hset]
        exact hP1
      · refine wpOp_mono ?_ (hstep i hilt hia' hib' a w hC (fun t _ ht => hk t ht) hdeps)
        rintro a' w' ⟨v, rfl, hv, hb⟩
        rw [hdst i o ho]
        obtain ⟨h1, h2⟩ := hput v w' (fun _ _ => hv)
        refine ⟨hC.trans (hb.mono hC.size), hdef v, by rw [size_put]; exact hsz', h1, h2, fun h => ?_, fun h => ?_⟩
        · rw [got_set (Ne.symm hia')] at h
          obtain ⟨p, hp, hp0, hp1, hP⟩ := hA h
          refine ⟨p, ?_, hp0, Nat.lt_of_lt_of_le hp1 hb.size, ?_⟩
          · cases hdst' : o.dst with
            | none => exact hp
            | some d' =>
              have hoa : ∃ oa, ops[ia]? = some oa := by
                cases hoa : ops[ia]? with
                | none => simp [dstO, hoa] at hia
                | some oa => exact ⟨oa, rfl⟩
              obtain ⟨oa, hoa⟩ := hoa
              have hne' : da ≠ d' := fun e => hia' (hdist i ia o oa d' ho hoa hdst' (by rw [← hdst ia oa hoa, hia, e]))
              rw [getD_put_other hne']
              exact hp
          · rw [got_set (Ne.symm hib')]
            split
            · rename_i hgb; rw [if_pos hgb] at hP; exact hm1 p w w' hP hp1 hb
            · rename_i hgb; rw [if_neg hgb] at hP; exact hm0 p w w' hP hp1 hb
        · rw [got_set (Ne.symm hib')] at h
          rw [got_set (Ne.symm hia')]
          exact hBA h
  · rintro listed a w hs ⟨hC, hd, hsz', hk, hFj, hA, hBA⟩ hr
    have hall := ready_all hs hback hr
    have hgb : gotB listed ib = true := hall ib hlt
    obtain ⟨p, hp, hp0, hp1, hP⟩ := hA (hBA hgb)
    rw [hgb] at hP
    have hV : ∀ (j : Nat) (d : Tmp), dstO ops j = some d → a.tmps.getD d undef = (fun j => a.tmps.getD ((dstO ops j).getD 0) undef) j := fun j d hj => by simp [hj]
    have hfr := fill_eq hsz' (fun j => a.tmps.getD ((dstO ops j).getD 0) undef) (fun k hk' => hk k hk') hV
    have := hend (fun j => a.tmps.getD ((dstO ops j).getD 0) undef) p w hC (by simpa [hia] using hp) hp0 hp1 hP (fun j hj hd' => ?_)
    · rw [← hfr, ← hd] at this
      exact this
    · cases hoj : ops[j]? with
      | none => simp [dstO, hoj] at hd'
      | some oj =>
        obtain ⟨d, hdj⟩ := Option.isSome_iff_exists.1 hd'
        have h1 : oj.dst = some d := by simpa [dstO, hoj] using hdj
        have := hFj j oj d (hall j hj) hoj h1
        simpa [hdj] using this
end Go.Proofs.YteijijoiifbjlaaGreatDoor
