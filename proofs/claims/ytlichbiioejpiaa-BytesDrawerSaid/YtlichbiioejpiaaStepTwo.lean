/-
  A region that draws its order and in which one block is made and a row is grown by it (append), and laid into a variable. No conditions.
-/
import Derived.Test.YtlichbiioejpiaaStepBox
namespace Go.Proofs.Ytlichbiioejpiaa
open Go.RowKit
set_option linter.unusedVariables false

theorem wp_region_two {P : Program} {id : Nat} {ops : Array Oper} {Q : Exit → Act → World → Prop} {a0 : Act} {w0 : World} (hm : P.follows .mixedOrders = true) (F : Nat → Value → Prop)
    (ia ib ic : Nat) (da db dc : Tmp) (vp : Value) (W1 : World) (G : World → Prop) (Post : Value → World → Prop)
    (hia : dstO ops ia = some da) (hib : dstO ops ib = some db) (hic : dstO ops ic = some dc) (hab : ia ∈ depsO ops ib) (hbc : ib ∈ depsO ops ic) (hne1 : ia ≠ ib) (hne2 : ib ≠ ic) (hne3 : ia ≠ ic)
    (i0 : Nat) (h0b : i0 ∈ depsO ops ib) (hok : okReg ops a0.tmps.size = true) (hG0 : G { w0 with drawn := w0.drawn + 1 }) (hG1 : G W1) (hGP : ∀ v w, Post v w → G w)
    (hstep : ∀ i, i < ops.size → i ≠ ia → i ≠ ib → i ≠ ic → ∀ (a : Act) (w : World), G w → (∀ t, freeT ops t = true → a.eval (.tmp t) = a0.tmps.getD t undef) → (i = i0 → a.eval (.tmp dc) = a0.tmps.getD dc undef) → (∀ j ∈ depsO ops i, j ≠ ia → j ≠ ib → j ≠ ic → ∀ d, dstO ops j = some d → F j (a.eval (.tmp d))) →
      wpOp P ops Q i (fun a' w' => ∃ v, a' = a.put (dstO ops i) v ∧ (F i v ∧ w' = w)) a w)
    (halloc : ∀ a : Act, (∀ j ∈ depsO ops ia, j ≠ ia → j ≠ ib → j ≠ ic → ∀ d, dstO ops j = some d → F j (a.eval (.tmp d))) → wpOp P ops Q ia (fun a' w' => ∃ v, a' = a.put (dstO ops ia) v ∧ (v = vp ∧ w' = W1)) a { w0 with drawn := w0.drawn + 1 })
    (happ : ∀ a : Act, (∀ j ∈ depsO ops ib, j ≠ ia → j ≠ ib → j ≠ ic → ∀ d, dstO ops j = some d → F j (a.eval (.tmp d))) → a.eval (.tmp da) = vp → wpOp P ops Q ib (fun a' w' => ∃ v, a' = a.put (dstO ops ib) v ∧ Post v w') a W1)
    (hasg : ∀ (a : Act) (w : World), wpOp P ops Q ic (fun a' w' => ∃ v, a' = a.put (dstO ops ic) v ∧ (v = a.eval (.tmp db) ∧ w' = w)) a w)
    (hend : ∀ (V : Nat → Value) (w : World), Post (V ib) w → V ic = V ib → V ia = vp → (∀ j, j < ops.size → j ≠ ia → j ≠ ib → j ≠ ic → (dstO ops j).isSome = true → F j (V j)) → Q .normal ⟨fillT ops a0.tmps V, a0.defers⟩ w) :
    (Code.region id ops true).wp P Q a0 w0 := by
  simp only [okReg, Bool.and_eq_true, decide_eq_true_eq, List.all_eq_true] at hok
  obtain ⟨hn, hsz, hbk⟩ := hok
  have hdist : ∀ (i j : Nat) (o o' : Oper) (d : Tmp), ops[i]? = some o → ops[j]? = some o' → o.dst = some d → o'.dst = some d → i = j := fun i j o o' d hi hj ho ho' =>
    nodup_filterMap (·.dst) ops.toList hn i j o o' d (by simpa using hi) (by simpa using hj) ho ho'
  have hfree : ∀ t, freeT ops t = true → ∀ (i : Nat) (o : Oper), ops[i]? = some o → o.dst ≠ some t := by
    intro t ht i o ho he
    have := List.all_eq_true.1 ht o (by simpa using Array.mem_of_getElem? ho)
    rw [he] at this
    simp at this
  have hsize : ∀ (i : Nat) (o : Oper) (d : Tmp), ops[i]? = some o → o.dst = some d → d < a0.tmps.size := by
    intro i o d ho hd
    have := hsz o (by simpa using Array.mem_of_getElem? ho)
    rw [hd] at this
    simpa using this
  have hback : ∀ (i : Nat) (o : Oper), ops[i]? = some o → ∀ e ∈ o.after, Region.binds .any e = true → e.on < i := by
    intro i o ho e he hbe
    have := hbk (o, i) (by rw [List.mem_zipIdx_iff_getElem?]; simpa using ho) e (by simpa using he)
    simpa [hbe] using this
  have hdst : ∀ (i : Nat) (o : Oper), ops[i]? = some o → dstO ops i = o.dst := fun i o ho => by simp [dstO, ho]
  have hdep : ∀ (i : Nat) (o : Oper) (j : Nat), ops[i]? = some o → j ∈ depsO ops i → ∃ e ∈ o.after, e.on = j ∧ Region.binds .any e = true := by
    intro i o j ho hj
    simp only [depsO, ho, Option.map_some, Option.getD_some, List.mem_map, List.mem_filter] at hj
    obtain ⟨e, ⟨he, hb⟩, rfl⟩ := hj
    exact ⟨e, by simpa using he, rfl, hb⟩
  have hthe : ∀ (k : Nat) (d : Tmp), dstO ops k = some d → ∃ o, ops[k]? = some o ∧ o.dst = some d := by
    intro k d hk
    cases ho : ops[k]? with
    | none => simp [dstO, ho] at hk
    | some o => exact ⟨o, rfl, by simpa [dstO, ho] using hk⟩
  obtain ⟨oa, hoa, hda⟩ := hthe ia da hia
  obtain ⟨ob, hob, hdb⟩ := hthe ib db hib
  obtain ⟨oc, hoc, hdc⟩ := hthe ic dc hic
  refine wp_region_inv hm (fun listed a w => G w ∧ a.defers = a0.defers ∧ a.tmps.size = a0.tmps.size ∧ (∀ t, freeT ops t = true → a.tmps.getD t undef = a0.tmps.getD t undef) ∧
      (∀ (j : Nat) (oj : Oper) (d : Tmp), gotB listed j = true → ops[j]? = some oj → oj.dst = some d → j ≠ ia → j ≠ ib → j ≠ ic → F j (a.tmps.getD d undef)) ∧
      (gotB listed ia = false → w = { w0 with drawn := w0.drawn + 1 }) ∧ (gotB listed ia = true → a.tmps.getD da undef = vp ∧ (gotB listed ib = false → w = W1)) ∧
      (gotB listed ib = true → Post (a.tmps.getD db undef) w ∧ gotB listed ia = true) ∧ (gotB listed ic = true → a.tmps.getD dc undef = a.tmps.getD db undef ∧ gotB listed ib = true) ∧
      (gotB listed ic = false → a.tmps.getD dc undef = a0.tmps.getD dc undef) ∧ (gotB listed ib = true → gotB listed i0 = true)) ?_ ?_ ?_
  · have none : ∀ j, gotB (Array.replicate ops.size false) j = false := by
      intro j
      by_cases h : j < ops.size <;> simp [gotB, Array.getD, h]
    refine ⟨hG0, rfl, rfl, fun _ _ => rfl, fun j oj d hj => ?_, fun _ => rfl, fun h => ?_, fun h => ?_, fun h => ?_, fun _ => rfl, fun h => ?_⟩
    · rw [none] at hj; cases hj
    · rw [none] at h; cases h
    · rw [none] at h; cases h
    · rw [none] at h; cases h
    · rw [none] at h; cases h
  · rintro listed a w i hs ⟨hC, hd, hsz', hk, hFj, hN, hA, hB, hc, hZ, hY⟩ hi
    obtain ⟨hun, o, ho, haft⟩ := mem_ready.1 hi
    have hilt : i < ops.size := (Array.getElem?_eq_some_iff.1 ho).1
    have hunl : gotB listed i = false := by
      have hlt' : i < listed.size := by omega
      simp [gotB, Array.getD, hlt'] at hun ⊢
      exact hun
    have hset : gotB (listed.setIfInBounds i true) i = true := by
      have hlt' : i < listed.size := by omega
      simp [gotB, Array.getD, hlt']
    have hdeps : ∀ j ∈ depsO ops i, j ≠ ia → j ≠ ib → j ≠ ic → ∀ d, dstO ops j = some d → F j (a.eval (.tmp d)) := by
      intro j hj n1 n2 n3 d hjd
      obtain ⟨e, he, rfl, hb⟩ := hdep i o j ho hj
      obtain ⟨oj, hoj, hdj⟩ := hthe _ _ hjd
      exact hFj e.on oj d (haft e he hb) hoj hdj n1 n2 n3
    have hdef : ∀ v, (a.put o.dst v).defers = a0.defers := by
      intro v
      cases o.dst <;> simpa [Act.put] using hd
    -- another slot stays
    have hoth : ∀ (v : Value) (k : Nat) (ok : Oper) (d : Tmp), ops[k]? = some ok → ok.dst = some d → k ≠ i → (a.put o.dst v).tmps.getD d undef = a.tmps.getD d undef := by
      intro v k ok d hok' hdk hki
      cases hdst' : o.dst with
      | none => rfl
      | some d' =>
        have hne' : d ≠ d' := fun e => hki (hdist k i ok o d hok' ho hdk (by rw [hdst', e]))
        rw [getD_put_other hne']
    have hown : ∀ (v : Value) (d : Tmp), o.dst = some d → (a.put o.dst v).tmps.getD d undef = v := by
      intro v d h
      rw [h, getD_put_same (by rw [hsz']; exact hsize i o d ho h)]
    have hput1 : ∀ v t, freeT ops t = true → (a.put o.dst v).tmps.getD t undef = a0.tmps.getD t undef := by
      intro v t ht
      cases hdst' : o.dst with
      | none => exact hk t ht
      | some d =>
        have hne' : t ≠ d := fun e => hfree t ht i o ho (by rw [hdst', e])
        rw [getD_put_other hne']
        exact hk t ht
    have hput2 : ∀ v, (i ≠ ia → i ≠ ib → i ≠ ic → F i v) → ∀ (j : Nat) (oj : Oper) (d : Tmp), gotB (listed.setIfInBounds i true) j = true → ops[j]? = some oj → oj.dst = some d → j ≠ ia → j ≠ ib → j ≠ ic → F j ((a.put o.dst v).tmps.getD d undef) := by
      intro v hv j oj d hj hoj hdj n1 n2 n3
      by_cases hij : j = i
      · subst hij
        obtain rfl : oj = o := Option.some.inj (hoj.symm.trans ho)
        rw [hown v d hdj]
        exact hv n1 n2 n3
      · rw [got_set hij] at hj
        rw [hoth v j oj d hoj hdj hij]
        exact hFj j oj d hj hoj hdj n1 n2 n3
    have hz' : ∀ v, i ≠ ic → gotB (listed.setIfInBounds i true) ic = false → (a.put o.dst v).tmps.getD dc undef = a0.tmps.getD dc undef := by
      intro v hne h
      rw [got_set (Ne.symm hne)] at h
      rw [hoth v ic oc dc hoc hdc (Ne.symm hne)]
      exact hZ h
    have hy' : i ≠ ib → gotB (listed.setIfInBounds i true) ib = true → gotB (listed.setIfInBounds i true) i0 = true := by
      intro hne h
      rw [got_set (Ne.symm hne)] at h
      by_cases e : i0 = i
      · rw [e]; exact hset
      · rw [got_set e]; exact hY h
    by_cases hia' : i = ia
    · subst hia'
      have hda' : o.dst = some da := by rw [← hdst i o ho]; exact hia
      have hnb : gotB listed ib = false := by
        cases h : gotB listed ib with
        | false => rfl
        | true => rw [(hB h).2] at hunl; cases hunl
      have hnc : gotB listed ic = false := by
        cases h : gotB listed ic with
        | false => rfl
        | true => rw [(hc h).2] at hnb; cases hnb
      obtain rfl := hN hunl
      refine wpOp_mono ?_ (halloc a hdeps)
      rintro a' w' ⟨v, rfl, rfl, rfl⟩
      rw [hdst i o ho]
      refine ⟨hG1, hdef _, by rw [size_put]; exact hsz', hput1 _, hput2 _ (fun n _ _ => absurd rfl n), fun h => ?_, fun _ => ⟨hown _ _ hda', fun _ => rfl⟩, fun h => ?_, fun h => ?_, hz' _ hne3, hy' hne1⟩
      · rw [hset] at h; cases h
      · rw [got_set (Ne.symm hne1), hnb] at h; cases h
      · rw [got_set (Ne.symm hne3), hnc] at h; cases h
    · by_cases hib' : i = ib
      · subst hib'
        have hdb' : o.dst = some db := by rw [← hdst i o ho]; exact hib
        have hga : gotB listed ia = true := by
          obtain ⟨e, he, rfl, hb⟩ := hdep i o ia ho hab
          exact haft e he hb
        have hnc : gotB listed ic = false := by
          cases h : gotB listed ic with
          | false => rfl
          | true => rw [(hc h).2] at hunl; cases hunl
        obtain ⟨hvp, hw⟩ := hA hga
        obtain rfl := hw hunl
        refine wpOp_mono ?_ (happ a hdeps hvp)
        rintro a' w' ⟨v, rfl, hP⟩
        rw [hdst i o ho]
        refine ⟨hGP _ _ hP, hdef _, by rw [size_put]; exact hsz', hput1 _, hput2 _ (fun _ n _ => absurd rfl n), fun h => ?_, fun _ => ⟨by rw [hoth v ia oa da hoa hda (Ne.symm hia')]; exact hvp, fun h => ?_⟩, fun _ => ⟨by rw [hown v db hdb']; exact hP, by rw [got_set (Ne.symm hia')]; exact hga⟩, fun h => ?_, hz' _ hne2, fun _ => ?_⟩
        · rw [got_set (Ne.symm hia'), hga] at h; cases h
        · rw [hset] at h; cases h
        · rw [got_set (Ne.symm hne2), hnc] at h; cases h
        · by_cases e : i0 = i
          · rw [e]; exact hset
          · rw [got_set e]
            obtain ⟨e', he, rfl, hb⟩ := hdep i o i0 ho h0b
            exact haft e' he hb
      · by_cases hic' : i = ic
        · subst hic'
          have hdc' : o.dst = some dc := by rw [← hdst i o ho]; exact hic
          have hgb : gotB listed ib = true := by
            obtain ⟨e, he, rfl, hb⟩ := hdep i o ib ho hbc
            exact haft e he hb
          obtain ⟨hP, hga⟩ := hB hgb
          refine wpOp_mono ?_ (hasg a w)
          rintro a' w' ⟨v, rfl, rfl, rfl⟩
          rw [hdst i o ho]
          refine ⟨hC, hdef _, by rw [size_put]; exact hsz', hput1 _, hput2 _ (fun _ _ n => absurd rfl n), fun h => ?_, fun _ => ⟨by rw [hoth _ ia oa da hoa hda (Ne.symm hia')]; exact (hA hga).1, fun h => ?_⟩, fun _ => ⟨by rw [hoth _ ib ob db hob hdb (Ne.symm hib')]; exact hP, by rw [got_set (Ne.symm hia')]; exact hga⟩, fun _ => ⟨by rw [hown _ dc hdc', hoth _ ib ob db hob hdb (Ne.symm hib')]; rfl, by rw [got_set (Ne.symm hib')]; exact hgb⟩, fun h => ?_, hy' hib'⟩
          · rw [got_set (Ne.symm hia'), hga] at h; cases h
          · rw [got_set (Ne.symm hib'), hgb] at h; cases h
          · rw [hset] at h; cases h
        · refine wpOp_mono ?_ (hstep i hilt hia' hib' hic' a w hC hk (fun e => hZ (by
            cases h : gotB listed ic with
            | false => rfl
            | true => rw [e] at hunl; rw [hY (hc h).2] at hunl; cases hunl)) hdeps)
          rintro a' w' ⟨v, rfl, hv, rfl⟩
          rw [hdst i o ho]
          refine ⟨hC, hdef v, by rw [size_put]; exact hsz', hput1 v, hput2 v (fun _ _ _ => hv), fun h => ?_, fun h => ?_, fun h => ?_, fun h => ?_, hz' v hic', hy' hib'⟩
          · rw [got_set (Ne.symm hia')] at h; exact hN h
          · rw [got_set (Ne.symm hia')] at h
            rw [hoth v ia oa da hoa hda (Ne.symm hia'), got_set (Ne.symm hib')]
            exact hA h
          · rw [got_set (Ne.symm hib')] at h
            rw [hoth v ib ob db hob hdb (Ne.symm hib'), got_set (Ne.symm hia')]
            exact hB h
          · rw [got_set (Ne.symm hic')] at h
            rw [hoth v ic oc dc hoc hdc (Ne.symm hic'), hoth v ib ob db hob hdb (Ne.symm hib'), got_set (Ne.symm hib')]
            exact hc h
  · rintro listed a w hs ⟨hC, hd, hsz', hk, hFj, hN, hA, hB, hc, _, _⟩ hr
    have hall := ready_all hs hback hr
    have hgb : gotB listed ib = true := hall ib (Array.getElem?_eq_some_iff.1 hob).1
    have hgc : gotB listed ic = true := hall ic (Array.getElem?_eq_some_iff.1 hoc).1
    obtain ⟨hP, hga⟩ := hB hgb
    have hV : ∀ (j : Nat) (d : Tmp), dstO ops j = some d → a.tmps.getD d undef = (fun j => a.tmps.getD ((dstO ops j).getD 0) undef) j := fun j d hj => by simp [hj]
    have hfr := fill_eq hsz' (fun j => a.tmps.getD ((dstO ops j).getD 0) undef) (fun k hk' => hk k hk') hV
    have := hend (fun j => a.tmps.getD ((dstO ops j).getD 0) undef) w (by simpa [hib] using hP) (by simpa [hib, hic] using (hc hgc).1) (by simpa [hia] using (hA hga).1) (fun j hj n1 n2 n3 hd' => ?_)
    · rw [← hfr, ← hd] at this
      exact this
    · obtain ⟨d, hjd⟩ := Option.isSome_iff_exists.1 hd'
      obtain ⟨oj, hoj, hdj⟩ := hthe j d hjd
      have := hFj j oj d (hall j hj) hoj hdj n1 n2 n3
      simpa [hjd] using this
end Go.Proofs.Ytlichbiioejpiaa
