/-
  A region that draws its order, operation by operation, with the tests that its shape has to pass as one Bool. No conditions.
-/
import Derived.Test.YtbelhgdogafedaaGreatDoorRegion
namespace Go.Proofs.YtbelhgdogafedaaGreatDoor
open Go.RowKit
set_option linter.unusedVariables false

def dstO (ops : Array Oper) (j : Nat) : Option Tmp := (ops[j]?).bind (·.dst)
def opO (ops : Array Oper) (j : Nat) : Option Op := (ops[j]?).map (·.op)
def guardO (ops : Array Oper) (j : Nat) : Option (Nat × Bool) := (ops[j]?).bind (·.guard)
def depsO (ops : Array Oper) (i : Nat) : List Nat := ((ops[i]?).map fun o => (o.after.toList.filter (Region.binds .any)).map (·.on)).getD []
def freeT (ops : Array Oper) (t : Tmp) : Bool := ops.toList.all fun o => o.dst != some t
def callOf : Op → Option (FuncId × Array Operand)
  | .call c => match c.callee with
    | .value (.func f) => some (f, c.args)
    | _ => none
  | _ => none
def okReg (ops : Array Oper) (n : Nat) : Bool :=
  decide ((ops.toList.filterMap (·.dst)).Nodup) && (ops.toList.all (fun o => match o.dst with | some d => decide (d < n) | none => true) && ops.toList.zipIdx.all fun p => p.1.after.toList.all fun e => !Region.binds .any e || decide (e.on < p.2))

theorem nodup_filterMap {α β : Type} (f : α → Option β) : ∀ (l : List α), (l.filterMap f).Nodup → ∀ (i j : Nat) (a b : α) (d : β), l[i]? = some a → l[j]? = some b → f a = some d → f b = some d → i = j := by
  intro l
  induction l with
  | nil => intro _ i j a b d hi; simp at hi
  | cons x r ih =>
    intro hn i j a b d hi hj ha hb
    have mem : ∀ (k : Nat) (c : α), r[k]? = some c → f c = some d → d ∈ r.filterMap f := fun k c hk hc => List.mem_filterMap.2 ⟨c, List.mem_of_getElem? hk, hc⟩
    match i, j with
    | 0, 0 => rfl
    | 0, j + 1 =>
      obtain rfl : x = a := by simpa using hi
      rw [List.filterMap_cons_some ha] at hn
      exact absurd (mem j b (by simpa using hj) hb) (List.nodup_cons.1 hn).1
    | i + 1, 0 =>
      obtain rfl : x = b := by simpa using hj
      rw [List.filterMap_cons_some hb] at hn
      exact absurd (mem i a (by simpa using hi) ha) (List.nodup_cons.1 hn).1
    | i + 1, j + 1 =>
      have hr : (r.filterMap f).Nodup := by
        cases hx : f x with
        | none => rw [List.filterMap_cons_none hx] at hn; exact hn
        | some y => rw [List.filterMap_cons_some hx] at hn; exact (List.nodup_cons.1 hn).2
      rw [ih hr i j a b d (by simpa using hi) (by simpa using hj) ha hb]

/-- ONE OPERATION: whatever came up ahead of it -/
def OpStep (P : Program) (ops : Array Oper) (Q : Exit → Act → World → Prop) (F : Nat → Value → World → Prop) (w0 : World) (n : Nat) (x : Nat → Value) (i : Nat) : Prop :=
  ∀ (a : Act) (w : World), Below w0.heap.size w0 w → (∀ t, t < n → freeT ops t = true → a.eval (.tmp t) = x t) → (∀ j ∈ depsO ops i, ∀ d, dstO ops j = some d → F j (a.eval (.tmp d)) w) →
    wpOp P ops Q i (fun a' w' => ∃ v, a' = a.put (dstO ops i) v ∧ F i v w' ∧ Below w.heap.size w w') a w

/-- the frame behind the region -/
def fillT (ops : Array Oper) (t : Array Value) (V : Nat → Value) : Array Value :=
  (Array.range t.size).map fun k => match ops.findIdx? (fun o => o.dst == some k) with
    | some j => V j
    | none => t.getD k undef

theorem fill_eq {ops : Array Oper} {t0 t : Array Value} (hs : t.size = t0.size) (V : Nat → Value) (hk : ∀ k, freeT ops k = true → t.getD k undef = t0.getD k undef) (hV : ∀ (j : Nat) (d : Tmp), dstO ops j = some d → t.getD d undef = V j) :
    t = fillT ops t0 V := by
  refine Array.ext (by simp [fillT, hs]) fun i h1 h2 => ?_
  have e : t[i] = t.getD i undef := by simp [Array.getD, h1]
  rw [e]
  simp only [fillT, Array.getElem_map, Array.getElem_range]
  cases hf : ops.findIdx? (fun o => o.dst == some i) with
  | none =>
    refine hk i ?_
    rw [Array.findIdx?_eq_none_iff] at hf
    unfold freeT
    rw [List.all_eq_true]
    intro o ho
    have := hf o (by simpa using ho)
    simpa using this
  | some j =>
    obtain ⟨hj, hp, _⟩ := Array.findIdx?_eq_some_iff_getElem.1 hf
    exact hV j i (by simp [dstO, hj]; simpa using hp)

theorem wp_region_steps {P : Program} {id : Nat} {ops : Array Oper} {Q : Exit → Act → World → Prop} {a0 : Act} {w0 : World} (hm : P.follows .mixedOrders = true) (F : Nat → Value → World → Prop)
    (hmono : ∀ i v w w', F i v w → Below w.heap.size w w' → F i v w')
    (hok : okReg ops a0.tmps.size = true)
    (hstep : ∀ i, i < ops.size → OpStep P ops Q F w0 a0.tmps.size (fun t => a0.tmps.getD t undef) i)
    (hend : ∀ (V : Nat → Value) (w : World), Below w0.heap.size w0 w → (∀ j, j < ops.size → (dstO ops j).isSome = true → F j (V j) w) → Q .normal ⟨fillT ops a0.tmps V, a0.defers⟩ w) :
    (Code.region id ops true).wp P Q a0 w0 := by
  simp only [okReg, Bool.and_eq_true, decide_eq_true_eq, List.all_eq_true] at hok
  obtain ⟨hn, hsz, hbk⟩ := hok
  have hdist : ∀ (i j : Nat) (o o' : Oper) (d : Tmp), ops[i]? = some o → ops[j]? = some o' → o.dst = some d → o'.dst = some d → i = j := fun i j o o' d hi hj ho ho' =>
    nodup_filterMap (·.dst) ops.toList hn i j o o' d (by simpa using hi) (by simpa using hj) ho ho'
  have hfree : ∀ t, freeT ops t = true → ∀ (i : Nat) (o : Oper), ops[i]? = some o → o.dst ≠ some t := by
    intro t ht i o ho he
    have := List.all_eq_true.1 ht o (by simpa using Array.mem_of_getElem? ho)
    rw [he] at this
    simp at this
  refine wp_region_phi hm F (fun w => Below w0.heap.size w0 w) ((List.range a0.tmps.size).filter (freeT ops)) hmono (fun w w' h hb => h.trans (hb.mono h.size)) ((Below.refl _ _).drew) ?_ hdist ?_ ?_ ?_ ?_
  · intro i o ho t ht
    exact hfree t (List.mem_filter.1 ht).2 i o ho
  · intro i o d ho hd
    have := hsz o (by simpa using Array.mem_of_getElem? ho)
    rw [hd] at this
    simpa using this
  · intro i o ho e he hbe
    have := hbk (o, i) (by rw [List.mem_zipIdx_iff_getElem?]; simpa using ho) e (by simpa using he)
    simpa [hbe] using this
  · intro i o ho a w hC hd hk hF
    have hlt : i < ops.size := (Array.getElem?_eq_some_iff.1 ho).1
    have e : dstO ops i = o.dst := by simp [dstO, ho]
    rw [← e]
    refine hstep i hlt a w hC (fun t hts ht => hk t (List.mem_filter.2 ⟨by simpa using hts, ht⟩)) (fun j hj d hjd => ?_)
    have hj' : ∃ e ∈ o.after, e.on = j ∧ Region.binds .any e = true := by
      simp only [depsO, ho, Option.map_some, Option.getD_some, List.mem_map, List.mem_filter] at hj
      obtain ⟨e, ⟨he, hb⟩, rfl⟩ := hj
      exact ⟨e, by simpa using he, rfl, hb⟩
    cases hoj : ops[j]? with
    | none => simp [dstO, hoj] at hjd
    | some oj => exact hF j oj d hj' hoj (by simpa [dstO, hoj] using hjd)
  · intro a w hC hd hs hk hF
    have hV : ∀ (j : Nat) (d : Tmp), dstO ops j = some d → a.tmps.getD d undef = (fun j => a.tmps.getD ((dstO ops j).getD 0) undef) j := fun j d hj => by simp [hj]
    have hfr := fill_eq hs (fun j => a.tmps.getD ((dstO ops j).getD 0) undef) (fun k hk' => ?_) hV
    · have := hend (fun j => a.tmps.getD ((dstO ops j).getD 0) undef) w hC (fun j hj hd' => ?_)
      · rw [← hfr, ← hd] at this
        exact this
      · cases hoj : ops[j]? with
        | none => simp [dstO, hoj] at hd'
        | some oj =>
          obtain ⟨d, hdj⟩ := Option.isSome_iff_exists.1 hd'
          have h1 : oj.dst = some d := by simpa [dstO, hoj] using hdj
          have := hF j oj d hoj h1
          simpa [hdj] using this
    · by_cases hts : k < a0.tmps.size
      · exact hk k (List.mem_filter.2 ⟨by simpa using hts, hk'⟩)
      · have h1 : a0.tmps.size ≤ k := Nat.le_of_not_lt hts
        have h2 : a.tmps.size ≤ k := by rw [hs]; exact h1
        rw [Array.getD_eq_getD_getElem?, Array.getD_eq_getD_getElem?, Array.getElem?_eq_none h1, Array.getElem?_eq_none h2]

theorem wanted_none {ops : Array Oper} {i : Nat} {o : Oper} {t : Array Value} (ho : ops[i]? = some o) (hg : guardO ops i = none) : Region.wanted o (yielded ops t) = true := by
  have : o.guard = none := by simpa [guardO, ho] using hg
  simp [Region.wanted, this]
theorem yielded_eval {ops : Array Oper} {j : Nat} {d : Tmp} {a : Act} {b : Bool} (hd : dstO ops j = some d) (hv : a.eval (.tmp d) = .bool b) : yielded ops a.tmps j = some b := by
  have e : (ops[j]?).bind (·.dst) = some d := hd
  have hv' : a.tmps.getD d undef = .bool b := hv
  simp only [yielded, e, Option.bind_some]
  rw [Array.getD_eq_getD_getElem?] at hv'
  cases h : a.tmps[d]? with
  | none => rw [h] at hv'; cases hv'
  | some y =>
    rw [h] at hv'
    obtain rfl : y = .bool b := by simpa using hv'
    rfl
theorem wanted_some {ops : Array Oper} {i j : Nat} {b : Bool} {o : Oper} {d : Tmp} {a : Act} (ho : ops[i]? = some o) (hg : guardO ops i = some (j, b)) (hd : dstO ops j = some d) (hv : a.eval (.tmp d) = .bool b) : Region.wanted o (yielded ops a.tmps) = true := by
  have : o.guard = some (j, b) := by simpa [guardO, ho] using hg
  simp [Region.wanted, this, yielded_eval hd hv]
theorem wanted_not {ops : Array Oper} {i j : Nat} {b : Bool} {o : Oper} {d : Tmp} {a : Act} (ho : ops[i]? = some o) (hg : guardO ops i = some (j, b)) (hd : dstO ops j = some d) (hv : a.eval (.tmp d) = .bool (!b)) : Region.wanted o (yielded ops a.tmps) = false := by
  have : o.guard = some (j, b) := by simpa [guardO, ho] using hg
  simp [Region.wanted, this, yielded_eval hd hv]
theorem wanted_undef {ops : Array Oper} {i j : Nat} {b : Bool} {o : Oper} {d : Tmp} {a : Act} (ho : ops[i]? = some o) (hg : guardO ops i = some (j, b)) (hd : dstO ops j = some d) (hv : a.eval (.tmp d) = undef) : Region.wanted o (yielded ops a.tmps) = false := by
  have : o.guard = some (j, b) := by simpa [guardO, ho] using hg
  have hy : yielded ops a.tmps j = none := by
    have e : (ops[j]?).bind (·.dst) = some d := hd
    have hv' : a.tmps.getD d undef = undef := hv
    simp only [yielded, e, Option.bind_some]
    rw [Array.getD_eq_getD_getElem?] at hv'
    cases h : a.tmps[d]? with
    | none => rfl
    | some y =>
      rw [h] at hv'
      obtain rfl : y = undef := by simpa using hv'
      rfl
  simp [Region.wanted, this, hy]

/-- what an operation wants ahead of it -/
inductive Wanted (ops : Array Oper) (i : Nat) (a : Act) : Prop
  | free (h : guardO ops i = none)
  | told (j : Nat) (b : Bool) (d : Tmp) (hg : guardO ops i = some (j, b)) (hd : dstO ops j = some d) (hv : a.eval (.tmp d) = .bool b)
theorem Wanted.is {ops : Array Oper} {i : Nat} {a : Act} {o : Oper} (h : Wanted ops i a) (ho : ops[i]? = some o) : Region.wanted o (yielded ops a.tmps) = true := by
  cases h with
  | free h => exact wanted_none ho h
  | told j b d hg hd hv => exact wanted_some ho hg hd hv
inductive Unwanted (ops : Array Oper) (i : Nat) (a : Act) : Prop
  | told (j : Nat) (b : Bool) (d : Tmp) (hg : guardO ops i = some (j, b)) (hd : dstO ops j = some d) (hv : a.eval (.tmp d) = .bool (!b))
  | off (j : Nat) (b : Bool) (d : Tmp) (hg : guardO ops i = some (j, b)) (hd : dstO ops j = some d) (hv : a.eval (.tmp d) = undef)
theorem Unwanted.is {ops : Array Oper} {i : Nat} {a : Act} {o : Oper} (h : Unwanted ops i a) (ho : ops[i]? = some o) : Region.wanted o (yielded ops a.tmps) = false := by
  cases h with
  | told j b d hg hd hv => exact wanted_not ho hg hd hv
  | off j b d hg hd hv => exact wanted_undef ho hg hd hv

theorem step_call {P : Program} {ops : Array Oper} {Q : Exit → Act → World → Prop} {i : Nat} {a : Act} {w : World} {R : Value → World → Prop} {f : FuncId} {xs : Array Operand} {vs : Array Value}
    (hop : (opO ops i).bind callOf = some (f, xs)) (hw : Wanted ops i a) (hv : xs.map a.eval = vs) (hE : ∀ (args : Array Value) (W : World), (callFunc f args).run P W = .ok (.enter f args) W)
    (h : Calls P f vs w fun e w' => ∃ v, e = .returned v ∧ R v w') : wpOp P ops Q i (fun a' w' => ∃ v, a' = a.put (dstO ops i) v ∧ R v w') a w := by
  cases ho : ops[i]? with
  | none => simp [opO, ho] at hop
  | some o =>
    have e : dstO ops i = o.dst := by simp [dstO, ho]
    have hc : callOf o.op = some (f, xs) := by simpa [opO, ho] using hop
    have hoc : ∃ ts, o.op = .call { callee := .value (.func f), args := xs, argTypes := ts } := by
      unfold callOf at hc
      split at hc
      · rename_i c hoo
        split at hc
        · rename_i g hg
          obtain ⟨rfl, rfl⟩ := Prod.mk.inj (Option.some.inj hc)
          exact ⟨c.argTypes, by rw [hoo, ← hg]⟩
        · cases hc
      · cases hc
    obtain ⟨ts, hoc⟩ := hoc
    refine op_call ho (hw.is ho) hoc hv hE (h.mono fun e' w' ⟨v, he, hr⟩ => ⟨v, he, v, by rw [e], hr⟩)
theorem step_run {P : Program} {ops : Array Oper} {Q : Exit → Act → World → Prop} {i : Nat} {a : Act} {w : World} {R : Value → World → Prop} {op : Op} {v : Value} {w' : World}
    (hop : opO ops i = some op) (hw : Wanted ops i a) (hrun : ∀ o : Oper, o.op = op → (execOp a.eval o).run P w = .ok (.value v) w') (hR : R v w') : wpOp P ops Q i (fun a' w' => ∃ v, a' = a.put (dstO ops i) v ∧ R v w') a w := by
  cases ho : ops[i]? with
  | none => simp [opO, ho] at hop
  | some o =>
    have e : dstO ops i = o.dst := by simp [dstO, ho]
    have hoo : o.op = op := by simpa [opO, ho] using hop
    unfold wpOp
    rw [ho]
    simp only
    rw [if_pos (hw.is ho)]
    left
    unfold Oper.wp
    rw [hrun o hoo]
    exact ⟨v, by rw [e], hR⟩
theorem step_off {P : Program} {ops : Array Oper} {Q : Exit → Act → World → Prop} {i : Nat} {a : Act} {w : World} {R : Value → World → Prop}
    (hi : i < ops.size) (hw : Unwanted ops i a) (hR : R undef w) : wpOp P ops Q i (fun a' w' => ∃ v, a' = a.put (dstO ops i) v ∧ R v w') a w := by
  have ho : ops[i]? = some ops[i] := by simp [hi]
  have e : dstO ops i = ops[i].dst := by simp [dstO, ho]
  unfold wpOp
  rw [ho]
  simp only
  rw [if_neg (by rw [hw.is ho]; simp)]
  exact ⟨undef, by rw [e], hR⟩

/-- the first region of that number -/
def findReg (id : Nat) : Code → Option (Array Oper)
  | .region i ops _ => if i == id then some ops else none
  | .loop c => findReg id c
  | .seq a b => match findReg id a with
    | some c => some c
    | none => findReg id b
  | .block _ c => findReg id c
  | .scope c => findReg id c
  | .cond _ a b => match findReg id a with
    | some c => some c
    | none => findReg id b
  | _ => none
/-- the operations of that region of a function -/
def regOf (f : Func) (id : Nat) : Array Oper := match f.body with
  | some c => match findReg id c with
    | some o => o
    | none => #[]
  | none => #[]
end Go.Proofs.YtbelhgdogafedaaGreatDoor
