/-
  A region that draws its order, makes two blocks wherever it likes, and ends with two stores, one behind the other. No conditions.
-/
import Derived.Test.YtceknmibopnmhaaGreatDoorStepBox
namespace Go.Proofs.YtceknmibopnmhaaGreatDoor
open Go.RowKit
set_option linter.unusedVariables false

theorem wp_region_two {P : Program} {id : Nat} {ops : Array Oper} {Q : Exit → Act → World → Prop} {a0 : Act} {w0 : World} (hm : P.follows .mixedOrders = true) (F : Nat → Value → World → Prop)
    (n i1 i2 : Nat) (d1 d2 : Tmp)
    (hF : ∀ i v w w', F i v w → Below w.heap.size w w' → F i v w') (hn : ops.size = n + 2) (hi1 : i1 < n) (hi2 : i2 < n) (hne : i1 ≠ i2) (hd1 : dstO ops i1 = some d1) (hd2 : dstO ops i2 = some d2)
    (hok : okReg ops a0.tmps.size = true)
    (hcl : ∀ g : Nat → Bool, (∀ i, g i = true → ∀ j ∈ depsO ops i, g j = true) → ((∀ j ∈ depsO ops n, g j = true) → ∀ j, j < n → g j = true) ∧ ((∀ j ∈ depsO ops (n + 1), g j = true) → ∀ j, j < n + 1 → g j = true))
    (hstep : ∀ i, i < n → i ≠ i1 → i ≠ i2 → OpStep P ops Q F w0 a0.tmps.size (fun t => a0.tmps.getD t undef) i)
    (ha1 : ∀ (a : Act) (w : World), Below w0.heap.size w0 w → wpOp P ops Q i1 (fun a' w' => ∃ p, a' = a.put (some d1) (.pointer (some ⟨p, 0, none⟩)) ∧ F i1 (.pointer (some ⟨p, 0, none⟩)) w' ∧ w.heap.size ≤ p ∧ p < w'.heap.size ∧ Below w.heap.size w w') a w)
    (ha2 : ∀ (a : Act) (w : World), Below w0.heap.size w0 w → wpOp P ops Q i2 (fun a' w' => ∃ p, a' = a.put (some d2) (.pointer (some ⟨p, 0, none⟩)) ∧ F i2 (.pointer (some ⟨p, 0, none⟩)) w' ∧ w.heap.size ≤ p ∧ p < w'.heap.size ∧ Below w.heap.size w w') a w)
    (hend : ∀ (V : Nat → Value) (p q : Nat) (w : World), Below w0.heap.size w0 w → V i1 = .pointer (some ⟨p, 0, none⟩) → V i2 = .pointer (some ⟨q, 0, none⟩) → p ≠ q → w0.heap.size ≤ p → w0.heap.size ≤ q → (∀ j, j < n → (dstO ops j).isSome = true → F j (V j) w) →
      wpOp P ops Q n (fun a1 w1 => wpOp P ops Q (n + 1) (fun a2 w2 => Q .normal a2 w2) a1 w1) ⟨fillT ops a0.tmps V, a0.defers⟩ w)
    (hdn : dstO ops n = none) (hdn1 : dstO ops (n + 1) = none) :
    (Code.region id ops true).wp P Q a0 w0 := by
  simp only [okReg, Bool.and_eq_true, decide_eq_true_eq, List.all_eq_true] at hok
  obtain ⟨hnd, hsz, hbk⟩ := hok
  have hdist : ∀ (i j : Nat) (o o' : Oper) (d : Tmp), ops[i]? = some o → ops[j]? = some o' → o.dst = some d → o'.dst = some d → i = j := fun i j o o' d hi hj ho ho' =>
    nodup_filterMap (·.dst) ops.toList hnd i j o o' d (by simpa using hi) (by simpa using hj) ho ho'
  have hfree : ∀ t, freeT ops t = true → ∀ (i : Nat) (o : Oper), ops[i]? = some o → o.dst ≠ some t := by
    intro t ht i o ho he
    have := List.all_eq_true.1 ht o (by simpa using Array.mem_of_getElem? ho)
    rw [he] at this
    simp at this
  have hsize : ∀ (i : Nat) (o : Oper) (d : Tmp), ops[i]? = some o → o.dst = some d → d < a0.tmps.size := by
    intro i o d ho hd
    have := hsz o (by simpa using Array.mem_of_getElem? ho)
    rw [hd] at this
    simpa using this
  have hback : ∀ (i : Nat) (o : Oper), ops[i]? = some o → ∀ e ∈ o.after, Region.binds .any e = true → e.on < i := by
    intro i o ho e he hbe
    have := hbk (o, i) (by rw [List.mem_zipIdx_iff_getElem?]; simpa using ho) e (by simpa using he)
    simpa [hbe] using this
  have hdst : ∀ (i : Nat) (o : Oper), ops[i]? = some o → dstO ops i = o.dst := fun i o ho => by simp [dstO, ho]
  have hdep : ∀ (i : Nat) (o : Oper) (j : Nat), ops[i]? = some o → j ∈ depsO ops i → ∃ e ∈ o.after, e.on = j ∧ Region.binds .any e = true := by
    intro i o j ho hj
    simp only [depsO, ho, Option.map_some, Option.getD_some, List.mem_map, List.mem_filter] at hj
    obtain ⟨e, ⟨he, hb⟩, rfl⟩ := hj
    exact ⟨e, by simpa using he, rfl, hb⟩
  refine wp_region_inv hm (fun listed a w => (∀ i, gotB listed i = true → ∀ j ∈ depsO ops i, gotB listed j = true) ∧
      ((gotB listed n = false ∧ gotB listed (n + 1) = false ∧ Below w0.heap.size w0 w ∧ a.defers = a0.defers ∧ a.tmps.size = a0.tmps.size ∧ (∀ t, freeT ops t = true → a.tmps.getD t undef = a0.tmps.getD t undef) ∧
        (∀ (j : Nat) (oj : Oper) (d : Tmp), gotB listed j = true → ops[j]? = some oj → oj.dst = some d → F j (a.tmps.getD d undef) w) ∧
        (gotB listed i1 = true → ∃ p, a.tmps.getD d1 undef = .pointer (some ⟨p, 0, none⟩) ∧ w0.heap.size ≤ p ∧ p < w.heap.size) ∧
        (gotB listed i2 = true → ∃ p, a.tmps.getD d2 undef = .pointer (some ⟨p, 0, none⟩) ∧ w0.heap.size ≤ p ∧ p < w.heap.size) ∧
        (gotB listed i1 = true → gotB listed i2 = true → a.tmps.getD d1 undef ≠ a.tmps.getD d2 undef)) ∨
       (gotB listed n = true ∧ gotB listed (n + 1) = false ∧ (∀ j, j < n → gotB listed j = true) ∧ wpOp P ops Q (n + 1) (fun a2 w2 => Q .normal a2 w2) a w) ∨
       (gotB listed n = true ∧ gotB listed (n + 1) = true ∧ (∀ j, j < n → gotB listed j = true) ∧ Q .normal a w))) ?_ ?_ ?_
  · have none : ∀ j, gotB (Array.replicate ops.size false) j = false := by
      intro j
      by_cases h : j < ops.size <;> simp [gotB, Array.getD, h]
    refine ⟨fun i h => ?_, .inl ⟨none _, none _, (Below.refl _ _).drew, rfl, rfl, fun _ _ => rfl, fun j oj d hj _ _ => ?_, fun h => ?_, fun h => ?_, fun h => ?_⟩⟩
    · rw [none] at h; cases h
    · rw [none] at hj; cases hj
    · rw [none] at h; cases h
    · rw [none] at h; cases h
    · rw [none] at h; cases h
  · rintro listed a w i hs ⟨hclosed, hI⟩ hi
    obtain ⟨hun, o, ho, haft⟩ := mem_ready.1 hi
    have hilt : i < ops.size := (Array.getElem?_eq_some_iff.1 ho).1
    have hunl : gotB listed i = false := by
      have hlt' : i < listed.size := by omega
      simp [gotB, Array.getD, hlt'] at hun ⊢
      exact hun
    have hset : gotB (listed.setIfInBounds i true) i = true := by
      have hlt' : i < listed.size := by omega
      simp [gotB, Array.getD, hlt']
    have hdl : ∀ j ∈ depsO ops i, gotB listed j = true := by
      intro j hj
      obtain ⟨e, he, rfl, hb⟩ := hdep i o j ho hj
      exact haft e he hb
    have hclosed' : ∀ k, gotB (listed.setIfInBounds i true) k = true → ∀ j ∈ depsO ops k, gotB (listed.setIfInBounds i true) j = true := by
      intro k hk j hj
      have up : gotB listed j = true → gotB (listed.setIfInBounds i true) j = true := fun h => by
        by_cases hji : j = i
        · rw [hji]; exact hset
        · rw [got_set hji]; exact h
      by_cases hki : k = i
      · subst hki; exact up (hdl j hj)
      · rw [got_set hki] at hk
        exact up (hclosed k hk j hj)
    rcases hI with ⟨hn0, hn1, hC, hd, hsz', hk, hFj, hA1, hA2, hA3⟩ | ⟨hn0, hn1, hall, hw⟩ | ⟨hn0, hn1, hall, hQ⟩
    · by_cases hin1 : i = n + 1
      · subst hin1
        have := ((hcl (gotB listed) hclosed).2 hdl) n (by omega)
        rw [hn0] at this
        cases this
      by_cases hin : i = n
      · subst hin
        have hall := (hcl (gotB listed) hclosed).1 hdl
        have hV : ∀ (j : Nat) (d : Tmp), dstO ops j = some d → a.tmps.getD d undef = (fun j => a.tmps.getD ((dstO ops j).getD 0) undef) j := fun j d hj => by simp [hj]
        have hfr := fill_eq hsz' (fun j => a.tmps.getD ((dstO ops j).getD 0) undef) (fun k hk' => hk k hk') hV
        obtain ⟨p, hp, hp0, _⟩ := hA1 (hall _ hi1)
        obtain ⟨q, hq, hq0, _⟩ := hA2 (hall _ hi2)
        have hpq : p ≠ q := fun e => hA3 (hall _ hi1) (hall _ hi2) (by rw [hp, hq, e])
        have := hend (fun j => a.tmps.getD ((dstO ops j).getD 0) undef) p q w hC (by simpa [hd1] using hp) (by simpa [hd2] using hq) hpq hp0 hq0 (fun j hj hd' => ?_)
        · rw [← hfr, ← hd] at this
          refine wpOp_mono ?_ this
          intro a' w' h
          refine ⟨hclosed', .inr (.inl ⟨hset, by rw [got_set (by omega)]; exact hn1, fun j hj => by rw [got_set (by omega)]; exact hall j hj, h⟩)⟩
        · cases hoj : ops[j]? with
          | none => simp [dstO, hoj] at hd'
          | some oj =>
            obtain ⟨d, hdj⟩ := Option.isSome_iff_exists.1 hd'
            have h1 : oj.dst = some d := by simpa [dstO, hoj] using hdj
            have := hFj j oj d (hall j hj) hoj h1
            simpa [hdj] using this
      have hiln : i < n := by omega
      have hdeps : ∀ j ∈ depsO ops i, ∀ d, dstO ops j = some d → F j (a.eval (.tmp d)) w := by
        intro j hj d hjd
        obtain ⟨e, he, rfl, hb⟩ := hdep i o j ho hj
        cases hoj : ops[e.on]? with
        | none => simp [dstO, hoj] at hjd
        | some oj => exact hFj e.on oj d (haft e he hb) hoj (by simpa [dstO, hoj] using hjd)
      have hput : ∀ (v : Value) (w' : World), Below w.heap.size w w' → F i v w' →
          (∀ t, freeT ops t = true → (a.put o.dst v).tmps.getD t undef = a0.tmps.getD t undef) ∧
          (∀ (j : Nat) (oj : Oper) (d : Tmp), gotB (listed.setIfInBounds i true) j = true → ops[j]? = some oj → oj.dst = some d → F j ((a.put o.dst v).tmps.getD d undef) w') := by
        intro v w' hb hv
        refine ⟨fun t ht => ?_, fun j oj d hj hoj hdj => ?_⟩
        · cases hdst' : o.dst with
          | none => exact hk t ht
          | some d =>
            have hne' : t ≠ d := fun e => hfree t ht i o ho (by rw [hdst', e])
            rw [getD_put_other hne']
            exact hk t ht
        · by_cases hij : j = i
          · subst hij
            obtain rfl : oj = o := Option.some.inj (hoj.symm.trans ho)
            rw [hdj, getD_put_same (by rw [hsz']; exact hsize j oj d hoj hdj)]
            exact hv
          · rw [got_set hij] at hj
            have hold := hF j _ w w' (hFj j oj d hj hoj hdj) hb
            cases hdst' : o.dst with
            | none => exact hold
            | some d' =>
              have hne' : d ≠ d' := fun e => hij (hdist j i oj o d hoj ho hdj (by rw [hdst', e]))
              rw [getD_put_other hne']
              exact hold
      have hdef : ∀ v, (a.put o.dst v).defers = a0.defers := by
        intro v
        cases o.dst <;> simpa [Act.put] using hd
      have hkeepP : ∀ (ik : Nat) (dk : Tmp) (v : Value) (w' : World), dstO ops ik = some dk → i ≠ ik → (a.put o.dst v).tmps.getD dk undef = a.tmps.getD dk undef := by
        intro ik dk v w' hdk hik
        cases hdst' : o.dst with
        | none => rfl
        | some d' =>
          have hoa : ∃ oa, ops[ik]? = some oa := by
            cases hoa : ops[ik]? with
            | none => simp [dstO, hoa] at hdk
            | some oa => exact ⟨oa, rfl⟩
          obtain ⟨oa, hoa⟩ := hoa
          have hne' : dk ≠ d' := fun e => hik (hdist i ik o oa d' ho hoa hdst' (by rw [← hdst ik oa hoa, hdk, e]))
          rw [getD_put_other hne']
      have gn0 : gotB (listed.setIfInBounds i true) n = false := by rw [got_set (by omega)]; exact hn0
      have gn1 : gotB (listed.setIfInBounds i true) (n + 1) = false := by rw [got_set (by omega)]; exact hn1
      by_cases hia1 : i = i1
      · subst hia1
        have hda : o.dst = some d1 := by rw [← hdst i o ho]; exact hd1
        refine wpOp_mono ?_ (ha1 a w hC)
        rintro a' w' ⟨p, rfl, hFp, hp0, hp1, hb⟩
        rw [← hda]
        obtain ⟨h1, h2⟩ := hput (.pointer (some ⟨p, 0, none⟩)) w' hb hFp
        have hnew : (a.put o.dst (.pointer (some ⟨p, 0, none⟩))).tmps.getD d1 undef = .pointer (some ⟨p, 0, none⟩) := by
          rw [hda, getD_put_same (by rw [hsz']; exact hsize i o d1 ho hda)]
        refine ⟨hclosed', .inl ⟨gn0, gn1, hC.trans (hb.mono hC.size), hdef _, by rw [size_put]; exact hsz', h1, h2, fun _ => ⟨p, hnew, Nat.le_trans hC.size hp0, hp1⟩, fun h => ?_, fun _ h => ?_⟩⟩
        · rw [got_set (Ne.symm hne)] at h
          obtain ⟨q, hq, hq0, hq1⟩ := hA2 h
          exact ⟨q, by rw [hkeepP i2 d2 _ w' hd2 hne]; exact hq, hq0, Nat.lt_of_lt_of_le hq1 hb.size⟩
        · rw [got_set (Ne.symm hne)] at h
          obtain ⟨q, hq, hq0, hq1⟩ := hA2 h
          rw [hnew, hkeepP i2 d2 _ w' hd2 hne, hq]
          intro e
          injection e with e
          injection e with e
          injection e with e
          omega
      · by_cases hia2 : i = i2
        · subst hia2
          have hda : o.dst = some d2 := by rw [← hdst i o ho]; exact hd2
          refine wpOp_mono ?_ (ha2 a w hC)
          rintro a' w' ⟨p, rfl, hFp, hp0, hp1, hb⟩
          rw [← hda]
          obtain ⟨h1, h2⟩ := hput (.pointer (some ⟨p, 0, none⟩)) w' hb hFp
          have hnew : (a.put o.dst (.pointer (some ⟨p, 0, none⟩))).tmps.getD d2 undef = .pointer (some ⟨p, 0, none⟩) := by
            rw [hda, getD_put_same (by rw [hsz']; exact hsize i o d2 ho hda)]
          refine ⟨hclosed', .inl ⟨gn0, gn1, hC.trans (hb.mono hC.size), hdef _, by rw [size_put]; exact hsz', h1, h2, fun h => ?_, fun _ => ⟨p, hnew, Nat.le_trans hC.size hp0, hp1⟩, fun h _ => ?_⟩⟩
          · rw [got_set hne] at h
            obtain ⟨q, hq, hq0, hq1⟩ := hA1 h
            exact ⟨q, by rw [hkeepP i1 d1 _ w' hd1 hia1]; exact hq, hq0, Nat.lt_of_lt_of_le hq1 hb.size⟩
          · rw [got_set hne] at h
            obtain ⟨q, hq, hq0, hq1⟩ := hA1 h
            rw [hnew, hkeepP i1 d1 _ w' hd1 hia1, hq]
            intro e
            injection e with e
            injection e with e
            injection e with e
            omega
        · refine wpOp_mono ?_ (hstep i hiln hia1 hia2 a w hC (fun t _ ht => hk t ht) hdeps)
          rintro a' w' ⟨v, rfl, hv, hb⟩
          rw [hdst i o ho]
          obtain ⟨h1, h2⟩ := hput v w' hb hv
          refine ⟨hclosed', .inl ⟨gn0, gn1, hC.trans (hb.mono hC.size), hdef v, by rw [size_put]; exact hsz', h1, h2, fun h => ?_, fun h => ?_, fun h h' => ?_⟩⟩
          · rw [got_set (Ne.symm hia1)] at h
            obtain ⟨q, hq, hq0, hq1⟩ := hA1 h
            exact ⟨q, by rw [hkeepP i1 d1 _ w' hd1 hia1]; exact hq, hq0, Nat.lt_of_lt_of_le hq1 hb.size⟩
          · rw [got_set (Ne.symm hia2)] at h
            obtain ⟨q, hq, hq0, hq1⟩ := hA2 h
            exact ⟨q, by rw [hkeepP i2 d2 _ w' hd2 hia2]; exact hq, hq0, Nat.lt_of_lt_of_le hq1 hb.size⟩
          · rw [got_set (Ne.symm hia1)] at h
            rw [got_set (Ne.symm hia2)] at h'
            rw [hkeepP i1 d1 _ w' hd1 hia1, hkeepP i2 d2 _ w' hd2 hia2]
            exact hA3 h h'
    · have hin : i = n + 1 := by
        rcases Nat.lt_trichotomy i n with h | h | h
        · rw [hall i h] at hunl; cases hunl
        · subst h; rw [hn0] at hunl; cases hunl
        · omega
      subst hin
      refine wpOp_mono ?_ hw
      intro a' w' h
      exact ⟨hclosed', .inr (.inr ⟨by rw [got_set (by omega)]; exact hn0, hset, fun j hj => by rw [got_set (by omega)]; exact hall j hj, h⟩)⟩
    · exfalso
      rcases Nat.lt_trichotomy i n with h | h | h
      · rw [hall i h] at hunl; cases hunl
      · subst h; rw [hn0] at hunl; cases hunl
      · have : i = n + 1 := by omega
        subst this
        rw [hn1] at hunl; cases hunl
  · rintro listed a w hs ⟨hclosed, hI⟩ hr
    have hall := ready_all hs hback hr
    have h0 : gotB listed n = true := hall n (by omega)
    have h1 : gotB listed (n + 1) = true := hall (n + 1) (by omega)
    rcases hI with ⟨hn0, _⟩ | ⟨_, hn1, _⟩ | ⟨_, _, _, hQ⟩
    · rw [h0] at hn0; cases hn0
    · rw [h1] at hn1; cases hn1
    · exact hQ
end Go.Proofs.YtceknmibopnmhaaGreatDoor
