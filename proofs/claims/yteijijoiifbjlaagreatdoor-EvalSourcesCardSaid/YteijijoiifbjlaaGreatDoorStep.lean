/-
  A region that draws its order, by a fact that every order keeps: each operation is walked once, whatever came up ahead of it. No conditions.
  A region that draws its order, operation by operation, with the tests that its shape has to pass as one Bool. No conditions.
-/
import Derived.Test.YteijijoiifbjlaaGreatDoorRows
import Derived.WalkKit
import Derived.Orders
import Derived.Deep.Quiet
import Derived.Below
namespace Go.Proofs.YteijijoiifbjlaaGreatDoor
open Go.RowKit
set_option linter.unusedVariables false

theorem count_set_lt (l : List Bool) (i : Nat) (h : l[i]? = some false) : (l.set i true).count false < l.count false := by
  induction l generalizing i with
  | nil => simp at h
  | cons b r ih =>
    match i, h with
    | 0, h =>
      obtain rfl : b = false := by simpa using h
      simp
    | i + 1, h =>
      have := ih i (by simpa using h)
      simp only [List.set_cons_succ, List.count_cons]
      omega

theorem wpAny_inv {P : Program} {md : Region.Mode} {ops : Array Oper} {Q : Exit → Act → World → Prop} (I : Array Bool → Act → World → Prop)
    (hstep : ∀ listed a w i, listed.size = ops.size → I listed a w → i ∈ Region.ready md ops listed → wpOp P ops Q i (I (listed.setIfInBounds i true)) a w)
    (hend : ∀ listed a w, listed.size = ops.size → I listed a w → Region.ready md ops listed = [] → Q .normal a w) :
    ∀ (fuel : Nat) (listed : Array Bool) (a : Act) (w : World), listed.size = ops.size → listed.toList.count false ≤ fuel → I listed a w → wpAny P md ops Q fuel listed a w := by
  have none : ∀ (listed : Array Bool) (i : Nat), i ∈ Region.ready md ops listed → listed.toList[i]? = some false := by
    intro listed i hi
    have h := (mem_ready.1 hi).1
    rcases Nat.lt_or_ge i listed.size with hlt | hge
    · have e : listed.getD i true = listed[i] := by simp [Array.getD, hlt]
      rw [e] at h
      simp [hlt, h]
    · have e : listed.getD i true = true := by simp [Array.getD, Nat.not_lt.2 hge]
      rw [e] at h
      cases h
  intro fuel
  induction fuel with
  | zero =>
    intro listed a w hs hc hI
    have hr : Region.ready md ops listed = [] := by
      cases hr : Region.ready md ops listed with
      | nil => rfl
      | cons i r =>
        have h := none listed i (by rw [hr]; simp)
        have : 0 < listed.toList.count false := List.count_pos_iff.2 (List.mem_of_getElem? h)
        omega
    exact ⟨hr, hend listed a w hs hI hr⟩
  | succ fuel ih =>
    intro listed a w hs hc hI
    refine ⟨fun hr => hend listed a w hs hI hr, fun i hi => ?_⟩
    refine wpOp_mono (fun a' w' h => ih _ a' w' (by simpa using hs) ?_ h) (hstep listed a w i hs hI hi)
    have h := count_set_lt listed.toList i (none listed i hi)
    rw [Array.toList_setIfInBounds]
    omega

theorem wp_region_inv {P : Program} {id : Nat} {ops : Array Oper} {Q : Exit → Act → World → Prop} {a : Act} {w : World} (hm : P.follows .mixedOrders = true) (I : Array Bool → Act → World → Prop)
    (h0 : I (Array.replicate ops.size false) a { w with drawn := w.drawn + 1 })
    (hstep : ∀ listed a w i, listed.size = ops.size → I listed a w → i ∈ Region.ready .any ops listed → wpOp P ops Q i (I (listed.setIfInBounds i true)) a w)
    (hend : ∀ listed a w, listed.size = ops.size → I listed a w → Region.ready .any ops listed = [] → Q .normal a w) : (Code.region id ops true).wp P Q a w :=
  wp_region_any hm (wpAny_inv I hstep hend _ _ _ _ (by simp) (by simp) h0)

/-- where no operation may come up any more, all have -/
theorem ready_all {md : Region.Mode} {ops : Array Oper} {listed : Array Bool} (hs : listed.size = ops.size) (hback : ∀ (i : Nat) (o : Oper), ops[i]? = some o → ∀ e ∈ o.after, Region.binds md e = true → e.on < i) (hr : Region.ready md ops listed = []) :
    ∀ i, i < ops.size → listed.getD i false = true := by
  intro i
  induction i using Nat.strongRecOn with
  | ind i ih =>
    intro hi
    cases hl : listed.getD i false with
    | true => rfl
    | false =>
      exfalso
      have hmem : i ∈ Region.ready md ops listed := by
        refine mem_ready.2 ⟨?_, ops[i], by simp [hi], fun e he hbe => ih e.on (hback i _ (by simp [hi]) e he hbe) (Nat.lt_trans (hback i _ (by simp [hi]) e he hbe) hi)⟩
        have hlt : i < listed.size := by omega
        simp [Array.getD, hlt] at hl ⊢
        exact hl
      rw [hr] at hmem
      cases hmem

theorem getD_put_same {a : Act} {d : Tmp} {v : Value} (h : d < a.tmps.size) : (a.put (some d) v).tmps.getD d undef = v := by
  simp [Act.put, Array.getD, h]
theorem getD_put_other {a : Act} {d t : Tmp} {v : Value} (h : t ≠ d) : (a.put (some d) v).tmps.getD t undef = a.tmps.getD t undef := by
  simp only [Act.put, Array.getD_eq_getD_getElem?]
  rw [Array.getElem?_setIfInBounds_ne (Ne.symm h)]
theorem size_put {a : Act} {d : Option Tmp} {v : Value} : (a.put d v).tmps.size = a.tmps.size := by
  cases d <;> simp [Act.put]

/-- A REGION, OPERATION BY OPERATION: what each leaves in its slot is said once (F), and stays true while memory grows. -/
theorem wp_region_phi {P : Program} {id : Nat} {ops : Array Oper} {Q : Exit → Act → World → Prop} {a0 : Act} {w0 : World} (hm : P.follows .mixedOrders = true)
    (F : Nat → Value → World → Prop) (C : World → Prop) (keep : List Tmp)
    (hmono : ∀ i v w w', F i v w → Below w.heap.size w w' → F i v w') (hCmono : ∀ w w', C w → Below w.heap.size w w' → C w') (hC0 : C { w0 with drawn := w0.drawn + 1 })
    (hkeep : ∀ (i : Nat) (o : Oper), ops[i]? = some o → ∀ t ∈ keep, o.dst ≠ some t)
    (hdist : ∀ (i j : Nat) (o o' : Oper) (d : Tmp), ops[i]? = some o → ops[j]? = some o' → o.dst = some d → o'.dst = some d → i = j)
    (hsize : ∀ (i : Nat) (o : Oper) (d : Tmp), ops[i]? = some o → o.dst = some d → d < a0.tmps.size)
    (hback : ∀ (i : Nat) (o : Oper), ops[i]? = some o → ∀ e ∈ o.after, Region.binds .any e = true → e.on < i)
    (hstep : ∀ (i : Nat) (o : Oper), ops[i]? = some o → ∀ (a : Act) (w : World), C w → a.defers = a0.defers → (∀ t ∈ keep, a.tmps.getD t undef = a0.tmps.getD t undef) →
      (∀ (j : Nat) (oj : Oper) (d : Tmp), (∃ e ∈ o.after, e.on = j ∧ Region.binds .any e = true) → ops[j]? = some oj → oj.dst = some d → F j (a.tmps.getD d undef) w) →
      wpOp P ops Q i (fun a' w' => ∃ v, a' = a.put o.dst v ∧ F i v w' ∧ Below w.heap.size w w') a w)
    (hend : ∀ (a : Act) (w : World), C w → a.defers = a0.defers → a.tmps.size = a0.tmps.size → (∀ t ∈ keep, a.tmps.getD t undef = a0.tmps.getD t undef) →
      (∀ (j : Nat) (oj : Oper) (d : Tmp), ops[j]? = some oj → oj.dst = some d → F j (a.tmps.getD d undef) w) → Q .normal a w) :
    (Code.region id ops true).wp P Q a0 w0 := by
  refine wp_region_inv hm (fun listed a w => C w ∧ a.defers = a0.defers ∧ a.tmps.size = a0.tmps.size ∧ (∀ t ∈ keep, a.tmps.getD t undef = a0.tmps.getD t undef) ∧
      ∀ (j : Nat) (oj : Oper) (d : Tmp), listed.getD j false = true → ops[j]? = some oj → oj.dst = some d → F j (a.tmps.getD d undef) w) ?_ ?_ ?_
  · refine ⟨hC0, rfl, rfl, fun _ _ => rfl, fun j oj d hj _ _ => ?_⟩
    exfalso
    by_cases h : j < ops.size <;> simp [Array.getD, h] at hj
  · rintro listed a w i hs ⟨hC, hd, hsz, hk, hF⟩ hi
    obtain ⟨hun, o, ho, haft⟩ := mem_ready.1 hi
    refine wpOp_mono ?_ (hstep i o ho a w hC hd hk fun j oj d ⟨e, he, hej, hbd⟩ hj hdj => hF j oj d (by rw [← hej]; exact haft e he hbd) hj hdj)
    rintro a' w' ⟨v, rfl, hv, hb⟩
    refine ⟨hCmono w w' hC hb, ?_, by rw [size_put]; exact hsz, fun t ht => ?_, fun j oj d hj hoj hdj => ?_⟩
    · cases hdst : o.dst <;> simpa [Act.put] using hd
    · cases hdst : o.dst with
      | none => exact hk t ht
      | some d =>
        have hne : t ≠ d := fun e => hkeep i o ho t ht (by rw [hdst, e])
        rw [getD_put_other hne]
        exact hk t ht
    · by_cases hij : j = i
      · subst hij
        obtain rfl : oj = o := Option.some.inj (hoj.symm.trans ho)
        rw [hdj, getD_put_same (by rw [hsz]; exact hsize j oj d hoj hdj)]
        exact hv
      · have hjl : listed.getD j false = true := by
          simp only [Array.getD_eq_getD_getElem?] at hj ⊢
          rw [Array.getElem?_setIfInBounds_ne (Ne.symm hij)] at hj
          exact hj
        have hold := hmono j _ w w' (hF j oj d hjl hoj hdj) hb
        cases hdst : o.dst with
        | none => exact hold
        | some d' =>
          have hne : d ≠ d' := fun e => hij (hdist j i oj o d hoj ho hdj (by rw [hdst, e]))
          rw [getD_put_other hne]
          exact hold
  · rintro listed a w hs ⟨hC, hd, hsz, hk, hF⟩ hr
    exact hend a w hC hd hsz hk fun j oj d hoj hdj => hF j oj d (ready_all hs hback hr j (Array.getElem?_eq_some_iff.1 hoj).1) hoj hdj

/-- a call of a named function, where it comes up -/
theorem op_call {P : Program} {ops : Array Oper} {Q : Exit → Act → World → Prop} {i : Nat} {K : Act → World → Prop} {a : Act} {w : World} {o : Oper} {f : FuncId} {xs : Array Operand} {ts : Array TypeId} {vs : Array Value}
    (ho : ops[i]? = some o) (hw : Region.wanted o (yielded ops a.tmps) = true) (hop : o.op = .call { callee := .value (.func f), args := xs, argTypes := ts }) (hv : xs.map a.eval = vs)
    (hE : ∀ (args : Array Value) (W : World), (callFunc f args).run P W = .ok (.enter f args) W)
    (h : Calls P f vs w fun e w' => ∃ v, e = .returned v ∧ K (a.put o.dst v) w') : wpOp P ops Q i K a w := by
  unfold wpOp
  rw [ho]
  simp only
  rw [if_pos hw]
  left
  unfold Oper.wp
  have hrun : (execOp a.eval o).run P w = .ok (.enter f vs) w := by
    subst hv
    have e : a.eval (.func f) = .func (.func f) #[] #[] := rfl
    simp [execOp, hop, resolve, invoke, hE, e, Deferred.ofValue]
  rw [hrun]
  simp only [Oper.upon]
  exact h.mono fun e w' ⟨v, he, hk⟩ => by subst he; exact hk
end Go.Proofs.YteijijoiifbjlaaGreatDoor

namespace Go.Proofs.YteijijoiifbjlaaGreatDoor
open Go.RowKit
set_option linter.unusedVariables false

def dstO (ops : Array Oper) (j : Nat) : Option Tmp := (ops[j]?).bind (·.dst)
def opO (ops : Array Oper) (j : Nat) : Option Op := (ops[j]?).map (·.op)
def guardO (ops : Array Oper) (j : Nat) : Option (Nat × Bool) := (ops[j]?).bind (·.guard)
def depsO (ops : Array Oper) (i : Nat) : List Nat := ((ops[i]?).map fun o => (o.after.toList.filter (Region.binds .any)).map (·.on)).getD []
def freeT (ops : Array Oper) (t : Tmp) : Bool := ops.toList.all fun o => o.dst != some t
def callOf : Op → Option (FuncId × Array Operand)
  | .call c => match c.callee with
    | .value (.func f) => some (f, c.args)
    | _ => none
  | _ => none
def okReg (ops : Array Oper) (n : Nat) : Bool :=
  decide ((ops.toList.filterMap (·.dst)).Nodup) && (ops.toList.all (fun o => match o.dst with | some d => decide (d < n) | none => true) && ops.toList.zipIdx.all fun p => p.1.after.toList.all fun e => !Region.binds .any e || decide (e.on < p.2))

theorem nodup_filterMap {α β : Type} (f : α → Option β) : ∀ (l : List α), (l.filterMap f).Nodup → ∀ (i j : Nat) (a b : α) (d : β), l[i]? = some a → l[j]? = some b → f a = some d → f b = some d → i = j := by
  intro l
  induction l with
  | nil => intro _ i j a b d hi; simp at hi
  | cons x r ih =>
    intro hn i j a b d hi hj ha hb
    have mem : ∀ (k : Nat) (c : α), r[k]? = some c → f c = some d → d ∈ r.filterMap f := fun k c hk hc => List.mem_filterMap.2 ⟨c, List.mem_of_getElem? hk, hc⟩
    match i, j with
    | 0, 0 => rfl
    | 0, j + 1 =>
      obtain rfl : x = a := by simpa using hi
      rw [List.filterMap_cons_some ha] at hn
      exact absurd (mem j b (by simpa using hj) hb) (List.nodup_cons.1 hn).1
    | i + 1, 0 =>
      obtain rfl : x = b := by simpa using hj
      rw [List.filterMap_cons_some hb] at hn
      exact absurd (mem i a (by simpa using hi) ha) (List.nodup_cons.1 hn).1
    | i + 1, j + 1 =>
      have hr : (r.filterMap f).Nodup := by
        cases hx : f x with
        | none => rw [List.filterMap_cons_none hx] at hn; exact hn
        | some y => rw [List.filterMap_cons_some hx] at hn; exact (List.nodup_cons.1 hn).2
      rw [ih hr i j a b d (by simpa using hi) (by simpa using hj) ha hb]

/-- ONE OPERATION: whatever came up ahead of it -/
def OpStep (P : Program) (ops : Array Oper) (Q : Exit → Act → World → Prop) (F : Nat → Value → World → Prop) (w0 : World) (n : Nat) (x : Nat → Value) (i : Nat) : Prop :=
  ∀ (a : Act) (w : World), Below w0.heap.size w0 w → (∀ t, t < n → freeT ops t = true → a.eval (.tmp t) = x t) → (∀ j ∈ depsO ops i, ∀ d, dstO ops j = some d → F j (a.eval (.tmp d)) w) →
    wpOp P ops Q i (fun a' w' => ∃ v, a' = a.put (dstO ops i) v ∧ F i v w' ∧ Below w.heap.size w w') a w

/-- the frame behind the region -/
def fillT (ops : Array Oper) (t : Array Value) (V : Nat → Value) : Array Value :=
  (Array.range t.size).map fun k => match ops.findIdx? (fun o => o.dst == some k) with
    | some j => V j
    | none => t.getD k undef

theorem fill_eq {ops : Array Oper} {t0 t : Array Value} (hs : t.size = t0.size) (V : Nat → Value) (hk : ∀ k, freeT ops k = true → t.getD k undef = t0.getD k undef) (hV : ∀ (j : Nat) (d : Tmp), dstO ops j = some d → t.getD d undef = V j) :
    t = fillT ops t0 V := by
  refine Array.ext (by simp [fillT, hs]) fun i h1 h2 => ?_
  have e : t[i] = t.getD i undef := by simp [Array.getD, h1]
  rw [e]
  simp only [fillT, Array.getElem_map, Array.getElem_range]
  cases hf : ops.findIdx? (fun o => o.dst == some i) with
  | none =>
    refine hk i ?_
    rw [Array.findIdx?_eq_none_iff] at hf
    unfold freeT
    rw [List.all_eq_true]
    intro o ho
    have := hf o (by simpa using ho)
    simpa using this
  | some j =>
    obtain ⟨hj, hp, _⟩ := Array.findIdx?_eq_some_iff_getElem.1 hf
    exact hV j i (by simp [dstO, hj]; simpa using hp)

theorem wp_region_steps {P : Program} {id : Nat} {ops : Array Oper} {Q : Exit → Act → World → Prop} {a0 : Act} {w0 : World} (hm : P.follows .mixedOrders = true) (F : Nat → Value → World → Prop)
    (hmono : ∀ i v w w', F i v w → Below w.heap.size w w' → F i v w')
    (hok : okReg ops a0.tmps.size = true)
    (hstep : ∀ i, i < ops.size → OpStep P ops Q F w0 a0.tmps.size (fun t => a0.tmps.getD t undef) i)
    (hend : ∀ (V : Nat → Value) (w : World), Below w0.heap.size w0 w → (∀ j, j < ops.size → (dstO ops j).isSome = true → F j (V j) w) → Q .normal ⟨fillT ops a0.tmps V, a0.defers⟩ w) :
    (Code.region id ops true).wp P Q a0 w0 := by
  simp only [okReg, Bool.and_eq_true, decide_eq_true_eq, List.all_eq_true] at hok
  obtain ⟨hn, hsz, hbk⟩ := hok
  have hdist : ∀ (i j : Nat) (o o' : Oper) (d : Tmp), ops[i]? = some o → ops[j]? = some o' → o.dst = some d → o'.dst = some d → i = j := fun i j o o' d hi hj ho ho' =>
    nodup_filterMap (·.dst) ops.toList hn i j o o' d (by simpa using hi) (by simpa using hj) ho ho'
  have hfree : ∀ t, freeT ops t = true → ∀ (i : Nat) (o : Oper), ops[i]? = some o → o.dst ≠ some t := by
    intro t ht i o ho he
    have := List.all_eq_true.1 ht o (by simpa using Array.mem_of_getElem? ho)
    rw [he] at this
    simp at this
  refine wp_region_phi hm F (fun w => Below w0.heap.size w0 w) ((List.range a0.tmps.size).filter (freeT ops)) hmono (fun w w' h hb => h.trans (hb.mono h.size)) ((Below.refl _ _).drew) ?_ hdist ?_ ?_ ?_ ?_
  · intro i o ho t ht
    exact hfree t (List.mem_filter.1 ht).2 i o ho
  · intro i o d ho hd
    have := hsz o (by simpa using Array.mem_of_getElem? ho)
    rw [hd] at this
    simpa using this
  · intro i o ho e he hbe
    have := hbk (o, i) (by rw [List.mem_zipIdx_iff_getElem?]; simpa using ho) e (by simpa using he)
    simpa [hbe] using this
  · intro i o ho a w hC hd hk hF
    have hlt : i < ops.size := (Array.getElem?_eq_some_iff.1 ho).1
    have e : dstO ops i = o.dst := by simp [dstO, ho]
    rw [← e]
    refine hstep i hlt a w hC (fun t hts ht => hk t (List.mem_filter.2 ⟨by simpa using hts, ht⟩)) (fun j hj d hjd => ?_)
    have hj' : ∃ e ∈ o.after, e.on = j ∧ Region.binds .any e = true := by
      simp only [depsO, ho, Option.map_some, Option.getD_some, List.mem_map, List.mem_filter] at hj
      obtain ⟨e, ⟨he, hb⟩, rfl⟩ := hj
      exact ⟨e, by simpa using he, rfl, hb⟩
    cases hoj : ops[j]? with
    | none => simp [dstO, hoj] at hjd
    | some oj => exact hF j oj d hj' hoj (by simpa [dstO, hoj] using hjd)
  · intro a w hC hd hs hk hF
    have hV : ∀ (j : Nat) (d : Tmp), dstO ops j = some d → a.tmps.getD d undef = (fun j => a.tmps.getD ((dstO ops j).getD 0) undef) j := fun j d hj => by simp [hj]
    have hfr := fill_eq hs (fun j => a.tmps.getD ((dstO ops j).getD 0) undef) (fun k hk' => ?_) hV
    · have := hend (fun j => a.tmps.getD ((dstO ops j).getD 0) undef) w hC (fun j hj hd' => ?_)
      · rw [← hfr, ← hd] at this
        exact this
      · cases hoj : ops[j]? with
        | none => simp [dstO, hoj] at hd'
        | some oj =>
          obtain ⟨d, hdj⟩ := Option.isSome_iff_exists.1 hd'
          have h1 : oj.dst = some d := by simpa [dstO, hoj] using hdj
          have := hF j oj d hoj h1
          simpa [hdj] using this
    · by_cases hts : k < a0.tmps.size
      · exact hk k (List.mem_filter.2 ⟨by simpa using hts, hk'⟩)
      · have h1 : a0.tmps.size ≤ k := Nat.le_of_not_lt hts
        have h2 : a.tmps.size ≤ k := by rw [hs]; exact h1
        rw [Array.getD_eq_getD_getElem?, Array.getD_eq_getD_getElem?, Array.getElem?_eq_none h1, Array.getElem?_eq_none h2]

theorem wanted_none {ops : Array Oper} {i : Nat} {o : Oper} {t : Array Value} (ho : ops[i]? = some o) (hg : guardO ops i = none) : Region.wanted o (yielded ops t) = true := by
  have : o.guard = none := by simpa [guardO, ho] using hg
  simp [Region.wanted, this]
theorem yielded_eval {ops : Array Oper} {j : Nat} {d : Tmp} {a : Act} {b : Bool} (hd : dstO ops j = some d) (hv : a.eval (.tmp d) = .bool b) : yielded ops a.tmps j = some b := by
  have e : (ops[j]?).bind (·.dst) = some d := hd
  have hv' : a.tmps.getD d undef = .bool b := hv
  simp only [yielded, e, Option.bind_some]
  rw [Array.getD_eq_getD_getElem?] at hv'
  cases h : a.tmps[d]? with
  | none => rw [h] at hv'; cases hv'
  | some y =>
    rw [h] at hv'
    obtain rfl : y = .bool b := by simpa using hv'
    rfl
theorem wanted_some {ops : Array Oper} {i j : Nat} {b : Bool} {o : Oper} {d : Tmp} {a : Act} (ho : ops[i]? = some o) (hg : guardO ops i = some (j, b)) (hd : dstO ops j = some d) (hv : a.eval (.tmp d) = .bool b) : Region.wanted o (yielded ops a.tmps) = true := by
  have : o.guard = some (j, b) := by simpa [guardO, ho] using hg
  simp [Region.wanted, this, yielded_eval hd hv]
theorem wanted_not {ops : Array Oper} {i j : Nat} {b : Bool} {o : Oper} {d : Tmp} {a : Act} (ho : ops[i]? = some o) (hg : guardO ops i = some (j, b)) (hd : dstO ops j = some d) (hv : a.eval (.tmp d) = .bool (!b)) : Region.wanted o (yielded ops a.tmps) = false := by
  have : o.guard = some (j, b) := by simpa [guardO, ho] using hg
  simp [Region.wanted, this, yielded_eval hd hv]
theorem wanted_undef {ops : Array Oper} {i j : Nat} {b : Bool} {o : Oper} {d : Tmp} {a : Act} (ho : ops[i]? = some o) (hg : guardO ops i = some (j, b)) (hd : dstO ops j = some d) (hv : a.eval (.tmp d) = undef) : Region.wanted o (yielded ops a.tmps) = false := by
  have : o.guard = some (j, b) := by simpa [guardO, ho] using hg
  have hy : yielded ops a.tmps j = none := by
    have e : (ops[j]?).bind (·.dst) = some d := hd
    have hv' : a.tmps.getD d undef = undef := hv
    simp only [yielded, e, Option.bind_some]
    rw [Array.getD_eq_getD_getElem?] at hv'
    cases h : a.tmps[d]? with
    | none => rfl
    | some y =>
      rw [h] at hv'
      obtain rfl : y = undef := by simpa using hv'
      rfl
  simp [Region.wanted, this, hy]

/-- what an operation wants ahead of it -/
inductive Wanted (ops : Array Oper) (i : Nat) (a : Act) : Prop
  | free (h : guardO ops i = none)
  | told (j : Nat) (b : Bool) (d : Tmp) (hg : guardO ops i = some (j, b)) (hd : dstO ops j = some d) (hv : a.eval (.tmp d) = .bool b)
theorem Wanted.is {ops : Array Oper} {i : Nat} {a : Act} {o : Oper} (h : Wanted ops i a) (ho : ops[i]? = some o) : Region.wanted o (yielded ops a.tmps) = true := by
  cases h with
  | free h => exact wanted_none ho h
  | told j b d hg hd hv => exact wanted_some ho hg hd hv
inductive Unwanted (ops : Array Oper) (i : Nat) (a : Act) : Prop
  | told (j : Nat) (b : Bool) (d : Tmp) (hg : guardO ops i = some (j, b)) (hd : dstO ops j = some d) (hv : a.eval (.tmp d) = .bool (!b))
  | off (j : Nat) (b : Bool) (d : Tmp) (hg : guardO ops i = some (j, b)) (hd : dstO ops j = some d) (hv : a.eval (.tmp d) = undef)
theorem Unwanted.is {ops : Array Oper} {i : Nat} {a : Act} {o : Oper} (h : Unwanted ops i a) (ho : ops[i]? = some o) : Region.wanted o (yielded ops a.tmps) = false := by
  cases h with
  | told j b d hg hd hv => exact wanted_not ho hg hd hv
  | off j b d hg hd hv => exact wanted_undef ho hg hd hv

theorem step_call {P : Program} {ops : Array Oper} {Q : Exit → Act → World → Prop} {i : Nat} {a : Act} {w : World} {R : Value → World → Prop} {f : FuncId} {xs : Array Operand} {vs : Array Value}
    (hop : (opO ops i).bind callOf = some (f, xs)) (hw : Wanted ops i a) (hv : xs.map a.eval = vs) (hE : ∀ (args : Array Value) (W : World), (callFunc f args).run P W = .ok (.enter f args) W)
    (h : Calls P f vs w fun e w' => ∃ v, e = .returned v ∧ R v w') : wpOp P ops Q i (fun a' w' => ∃ v, a' = a.put (dstO ops i) v ∧ R v w') a w := by
  cases ho : ops[i]? with
  | none => simp [opO, ho] at hop
  | some o =>
    have e : dstO ops i = o.dst := by simp [dstO, ho]
    have hc : callOf o.op = some (f, xs) := by simpa [opO, ho] using hop
    have hoc : ∃ ts, o.op = .call { callee := .value (.func f), args := xs, argTypes := ts } := by
      unfold callOf at hc
      split at hc
      · rename_i c hoo
        split at hc
        · rename_i g hg
          obtain ⟨rfl, rfl⟩ := Prod.mk.inj (Option.some.inj hc)
          exact ⟨c.argTypes, by rw [hoo, ← hg]⟩
        · cases hc
      · cases hc
    obtain ⟨ts, hoc⟩ := hoc
    refine op_call ho (hw.is ho) hoc hv hE (h.mono fun e' w' ⟨v, he, hr⟩ => ⟨v, he, v, by rw [e], hr⟩)
theorem step_run {P : Program} {ops : Array Oper} {Q : Exit → Act → World → Prop} {i : Nat} {a : Act} {w : World} {R : Value → World → Prop} {op : Op} {v : Value} {w' : World}
    (hop : opO ops i = some op) (hw : Wanted ops i a) (hrun : ∀ o : Oper, o.op = op → (execOp a.eval o).run P w = .ok (.value v) w') (hR : R v w') : wpOp P ops Q i (fun a' w' => ∃ v, a' = a.put (dstO ops i) v ∧ R v w') a w := by
  cases ho : ops[i]? with
  | none => simp [opO, ho] at hop
  | some o =>
    have e : dstO ops i = o.dst := by simp [dstO, ho]
    have hoo : o.op = op := by simpa [opO, ho] using hop
    unfold wpOp
    rw [ho]
    simp only
    rw [if_pos (hw.is ho)]
    left
    unfold Oper.wp
    rw [hrun o hoo]
    exact ⟨v, by rw [e], hR⟩
theorem step_off {P : Program} {ops : Array Oper} {Q : Exit → Act → World → Prop} {i : Nat} {a : Act} {w : World} {R : Value → World → Prop}
    (hi : i < ops.size) (hw : Unwanted ops i a) (hR : R undef w) : wpOp P ops Q i (fun a' w' => ∃ v, a' = a.put (dstO ops i) v ∧ R v w') a w := by
  have ho : ops[i]? = some ops[i] := by simp [hi]
  have e : dstO ops i = ops[i].dst := by simp [dstO, ho]
  unfold wpOp
  rw [ho]
  simp only
  rw [if_neg (by rw [hw.is ho]; simp)]
  exact ⟨undef, by rw [e], hR⟩

/-- the first region of that number -/
def findReg (id : Nat) : Code → Option (Array Oper)
  | .region i ops _ => if i == id then some ops else none
  | .loop c => findReg id c
  | .seq a b => match findReg id a with
    | some c => some c
    | none => findReg id b
  | .block _ c => findReg id c
  | .scope c => findReg id c
  | .cond _ a b => match findReg id a with
    | some c => some c
    | none => findReg id b
  | _ => none
/-- the operations of that region of a function -/
def regOf (f : Func) (id : Nat) : Array Oper := match f.body with
  | some c => match findReg id c with
    | some o => o
    | none => #[]
  | none => #[]
end Go.Proofs.YteijijoiifbjlaaGreatDoor
