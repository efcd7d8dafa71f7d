/-
  A region that draws its order, by a fact that every order keeps: each operation is walked once, whatever came up ahead of it. No conditions.
-/
import Derived.Test.YtbelhgdogafedaaGreatDoorRows
import Derived.WalkKit
import Derived.Orders
import Derived.Deep.Quiet
import Derived.Below
namespace Go.Proofs.YtbelhgdogafedaaGreatDoor
open Go.RowKit
set_option linter.unusedVariables false

theorem count_set_lt (l : List Bool) (i : Nat) (h : l[i]? = some false) : (l.set i true).count false < l.count false := by
  induction l generalizing i with
  | nil => simp at h
  | cons b r ih =>
    match i, h with
    | 0, h =>
      obtain rfl : b = false := by simpa using h
      simp
    | i + 1, h =>
      have := ih i (by simpa using h)
      simp only [List.set_cons_succ, List.count_cons]
      omega

theorem wpAny_inv {P : Program} {md : Region.Mode} {ops : Array Oper} {Q : Exit → Act → World → Prop} (I : Array Bool → Act → World → Prop)
    (hstep : ∀ listed a w i, listed.size = ops.size → I listed a w → i ∈ Region.ready md ops listed → wpOp P ops Q i (I (listed.setIfInBounds i true)) a w)
    (hend : ∀ listed a w, listed.size = ops.size → I listed a w → Region.ready md ops listed = [] → Q .normal a w) :
    ∀ (fuel : Nat) (listed : Array Bool) (a : Act) (w : World), listed.size = ops.size → listed.toList.count false ≤ fuel → I listed a w → wpAny P md ops Q fuel listed a w := by
  have none : ∀ (listed : Array Bool) (i : Nat), i ∈ Region.ready md ops listed → listed.toList[i]? = some false := by
    intro listed i hi
    have h := (mem_ready.1 hi).1
    rcases Nat.lt_or_ge i listed.size with hlt | hge
    · have e : listed.getD i true = listed[i] := by simp [Array.getD, hlt]
      rw [e] at h
      simp [hlt, h]
    · have e : listed.getD i true = true := by simp [Array.getD, Nat.not_lt.2 hge]
      rw [e] at h
      cases h
  intro fuel
  induction fuel with
  | zero =>
    intro listed a w hs hc hI
    have hr : Region.ready md ops listed = [] := by
      cases hr : Region.ready md ops listed with
      | nil => rfl
      | cons i r =>
        have h := none listed i (by rw [hr]; simp)
        have : 0 < listed.toList.count false := List.count_pos_iff.2 (List.mem_of_getElem? h)
        omega
    exact ⟨hr, hend listed a w hs hI hr⟩
  | succ fuel ih =>
    intro listed a w hs hc hI
    refine ⟨fun hr => hend listed a w hs hI hr, fun i hi => ?_⟩
    refine wpOp_mono (fun a' w' h => ih _ a' w' (by simpa using hs) ?_ h) (hstep listed a w i hs hI hi)
    have h := count_set_lt listed.toList i (none listed i hi)
    rw [Array.toList_setIfInBounds]
    omega

theorem wp_region_inv {P : Program} {id : Nat} {ops : Array Oper} {Q : Exit → Act → World → Prop} {a : Act} {w : World} (hm : P.follows .mixedOrders = true) (I : Array Bool → Act → World → Prop)
    (h0 : I (Array.replicate ops.size false) a { w with drawn := w.drawn + 1 })
    (hstep : ∀ listed a w i, listed.size = ops.size → I listed a w → i ∈ Region.ready .any ops listed → wpOp P ops Q i (I (listed.setIfInBounds i true)) a w)
    (hend : ∀ listed a w, listed.size = ops.size → I listed a w → Region.ready .any ops listed = [] → Q .normal a w) : (Code.region id ops true).wp P Q a w :=
  wp_region_any hm (wpAny_inv I hstep hend _ _ _ _ (by simp) (by simp) h0)

/-- where no operation may come up any more, all have -/
theorem ready_all {md : Region.Mode} {ops : Array Oper} {listed : Array Bool} (hs : listed.size = ops.size) (hback : ∀ (i : Nat) (o : Oper), ops[i]? = some o → ∀ e ∈ o.after, Region.binds md e = true → e.on < i) (hr : Region.ready md ops listed = []) :
    ∀ i, i < ops.size → listed.getD i false = true := by
  intro i
  induction i using Nat.strongRecOn with
  | ind i ih =>
    intro hi
    cases hl : listed.getD i false with
    | true => rfl
    | false =>
      exfalso
      have hmem : i ∈ Region.ready md ops listed := by
        refine mem_ready.2 ⟨?_, ops[i], by simp [hi], fun e he hbe => ih e.on (hback i _ (by simp [hi]) e he hbe) (Nat.lt_trans (hback i _ (by simp [hi]) e he hbe) hi)⟩
        have hlt : i < listed.size := by omega
        simp [Array.getD, hlt] at hl ⊢
        exact hl
      rw [hr] at hmem
      cases hmem

theorem getD_put_same {a : Act} {d : Tmp} {v : Value} (h : d < a.tmps.size) : (a.put (some d) v).tmps.getD d undef = v := by
  simp [Act.put, Array.getD, h]
theorem getD_put_other {a : Act} {d t : Tmp} {v : Value} (h : t ≠ d) : (a.put (some d) v).tmps.getD t undef = a.tmps.getD t undef := by
  simp only [Act.put, Array.getD_eq_getD_getElem?]
  rw [Array.getElem?_setIfInBounds_ne (Ne.symm h)]
theorem size_put {a : Act} {d : Option Tmp} {v : Value} : (a.put d v).tmps.size = a.tmps.size := by
  cases d <;> simp [Act.put]

/-- A REGION, OPERATION BY OPERATION: what each leaves in its slot is said once (F), and stays true while memory grows. -/
theorem wp_region_phi {P : Program} {id : Nat} {ops : Array Oper} {Q : Exit → Act → World → Prop} {a0 : Act} {w0 : World} (hm : P.follows .mixedOrders = true)
    (F : Nat → Value → World → Prop) (C : World → Prop) (keep : List Tmp)
    (hmono : ∀ i v w w', F i v w → Below w.heap.size w w' → F i v w') (hCmono : ∀ w w', C w → Below w.heap.size w w' → C w') (hC0 : C { w0 with drawn := w0.drawn + 1 })
    (hkeep : ∀ (i : Nat) (o : Oper), ops[i]? = some o → ∀ t ∈ keep, o.dst ≠ some t)
    (hdist : ∀ (i j : Nat) (o o' : Oper) (d : Tmp), ops[i]? = some o → ops[j]? = some o' → o.dst = some d → o'.dst = some d → i = j)
    (hsize : ∀ (i : Nat) (o : Oper) (d : Tmp), ops[i]? = some o → o.dst = some d → d < a0.tmps.size)
    (hback : ∀ (i : Nat) (o : Oper), ops[i]? = some o → ∀ e ∈ o.after, Region.binds .any e = true → e.on < i)
    (hstep : ∀ (i : Nat) (o : Oper), ops[i]? = some o → ∀ (a : Act) (w : World), C w → a.defers = a0.defers → (∀ t ∈ keep, a.tmps.getD t undef = a0.tmps.getD t undef) →
      (∀ (j : Nat) (oj : Oper) (d : Tmp), (∃ e ∈ o.after, e.on = j ∧ Region.binds .any e = true) → ops[j]? = some oj → oj.dst = some d → F j (a.tmps.getD d undef) w) →
      wpOp P ops Q i (fun a' w' => ∃ v, a' = a.put o.dst v ∧ F i v w' ∧ Below w.heap.size w w') a w)
    (hend : ∀ (a : Act) (w : World), C w → a.defers = a0.defers → a.tmps.size = a0.tmps.size → (∀ t ∈ keep, a.tmps.getD t undef = a0.tmps.getD t undef) →
      (∀ (j : Nat) (oj : Oper) (d : Tmp), ops[j]? = some oj → oj.dst = some d → F j (a.tmps.getD d undef) w) → Q .normal a w) :
    (Code.region id ops true).wp P Q a0 w0 := by
  refine wp_region_inv hm (fun listed a w => C w ∧ a.defers = a0.defers ∧ a.tmps.size = a0.tmps.size ∧ (∀ t ∈ keep, a.tmps.getD t undef = a0.tmps.getD t undef) ∧
      ∀ (j : Nat) (oj : Oper) (d : Tmp), listed.getD j false = true → ops[j]? = some oj → oj.dst = some d → F j (a.tmps.getD d undef) w) ?_ ?_ ?_
  · refine ⟨hC0, rfl, rfl, fun _ _ => rfl, fun j oj d hj _ _ => ?_⟩
    exfalso
    by_cases h : j < ops.size <;> simp [Array.getD, h] at hj
  · rintro listed a w i hs ⟨hC, hd, hsz, hk, hF⟩ hi
    obtain ⟨hun, o, ho, haft⟩ := mem_ready.1 hi
    refine wpOp_mono ?_ (hstep i o ho a w hC hd hk fun j oj d ⟨e, he, hej, hbd⟩ hj hdj => hF j oj d (by rw [← hej]; exact haft e he hbd) hj hdj)
    rintro a' w' ⟨v, rfl, hv, hb⟩
    refine ⟨hCmono w w' hC hb, ?_, by rw [size_put]; exact hsz, fun t ht => ?_, fun j oj d hj hoj hdj => ?_⟩
    · cases hdst : o.dst <;> simpa [Act.put] using hd
    · cases hdst : o.dst with
      | none => exact hk t ht
      | some d =>
        have hne : t ≠ d := fun e => hkeep i o ho t ht (by rw [hdst, e])
        rw [getD_put_other hne]
        exact hk t ht
    · by_cases hij : j = i
      · subst hij
        obtain rfl : oj = o := Option.some.inj (hoj.symm.trans ho)
        rw [hdj, getD_put_same (by rw [hsz]; exact hsize j oj d hoj hdj)]
        exact hv
      · have hjl : listed.getD j false = true := by
          simp only [Array.getD_eq_getD_getElem?] at hj ⊢
          rw [Array.getElem?_setIfInBounds_ne (Ne.symm hij)] at hj
          exact hj
        have hold := hmono j _ w w' (hF j oj d hjl hoj hdj) hb
        cases hdst : o.dst with
        | none => exact hold
        | some d' =>
          have hne : d ≠ d' := fun e => hij (hdist j i oj o d hoj ho hdj (by rw [hdst, e]))
          rw [getD_put_other hne]
          exact hold
  · rintro listed a w hs ⟨hC, hd, hsz, hk, hF⟩ hr
    exact hend a w hC hd hsz hk fun j oj d hoj hdj => hF j oj d (ready_all hs hback hr j (Array.getElem?_eq_some_iff.1 hoj).1) hoj hdj

/-- a call of a named function, where it comes up -/
theorem op_call {P : Program} {ops : Array Oper} {Q : Exit → Act → World → Prop} {i : Nat} {K : Act → World → Prop} {a : Act} {w : World} {o : Oper} {f : FuncId} {xs : Array Operand} {ts : Array TypeId} {vs : Array Value}
    (ho : ops[i]? = some o) (hw : Region.wanted o (yielded ops a.tmps) = true) (hop : o.op = .call { callee := .value (.func f), args := xs, argTypes := ts }) (hv : xs.map a.eval = vs)
    (hE : ∀ (args : Array Value) (W : World), (callFunc f args).run P W = .ok (.enter f args) W)
    (h : Calls P f vs w fun e w' => ∃ v, e = .returned v ∧ K (a.put o.dst v) w') : wpOp P ops Q i K a w := by
  unfold wpOp
  rw [ho]
  simp only
  rw [if_pos hw]
  left
  unfold Oper.wp
  have hrun : (execOp a.eval o).run P w = .ok (.enter f vs) w := by
    subst hv
    have e : a.eval (.func f) = .func (.func f) #[] #[] := rfl
    simp [execOp, hop, resolve, invoke, hE, e, Deferred.ofValue]
  rw [hrun]
  simp only [Oper.upon]
  exact h.mono fun e w' ⟨v, he, hk⟩ => by subst he; exact hk
end Go.Proofs.YtbelhgdogafedaaGreatDoor
