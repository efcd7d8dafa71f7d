/-
  A region's call through a function value that lies in a slot: no closure, nothing captured. No conditions.
-/
import Derived.Test.YtgaeljiindpcmaaGreatDoorVSlot4
namespace Go.Proofs.YtgaeljiindpcmaaGreatDoor
open Go.RowKit
set_option linter.unusedVariables false

/-- what is called through a slot: the slot and the arguments -/
def callFnOf : Op → Option (Tmp × Array Operand)
  | .call c => match c.callee with
    | .value (.tmp t) => some (t, c.args)
    | _ => none
  | _ => none

theorem step_callF {P : Program} {ops : Array Oper} {Q : Exit → Act → World → Prop} {i : Nat} {a : Act} {w : World} {R : Value → World → Prop} {t : Tmp} {f : FuncId} {xs : Array Operand} {vs : Array Value}
    (hop : (opO ops i).bind callFnOf = some (t, xs)) (hw : Wanted ops i a) (hf : a.eval (.tmp t) = .func (.func f) #[] #[]) (hv : xs.map a.eval = vs) (hE : ∀ (args : Array Value) (W : World), (callFunc f args).run P W = .ok (.enter f args) W)
    (h : Calls P f vs w fun e w' => ∃ v, e = .returned v ∧ R v w') : wpOp P ops Q i (fun a' w' => ∃ v, a' = a.put (dstO ops i) v ∧ R v w') a w := by
  cases ho : ops[i]? with
  | none => simp [opO, ho] at hop
  | some o =>
    have e : dstO ops i = o.dst := by simp [dstO, ho]
    have hc : callFnOf o.op = some (t, xs) := by simpa [opO, ho] using hop
    have hoc : ∃ ts, o.op = .call { callee := .value (.tmp t), args := xs, argTypes := ts } := by
      unfold callFnOf at hc
      split at hc
      · rename_i c hoo
        split at hc
        · rename_i g hg
          obtain ⟨rfl, rfl⟩ := Prod.mk.inj (Option.some.inj hc)
          exact ⟨c.argTypes, by rw [hoo, ← hg]⟩
        · cases hc
      · cases hc
    obtain ⟨ts, hoc⟩ := hoc
    have hrun : (execOp a.eval o).run P w = .ok (.enter f vs) w := by
      subst hv
      simp [execOp, hoc, resolve, invoke, hE, hf, Deferred.ofValue]
    unfold wpOp
    rw [ho]
    simp only
    rw [if_pos (hw.is ho)]
    left
    unfold Oper.wp
    rw [hrun]
    simp only [Oper.upon]
    exact h.mono fun e' w' ⟨v, he, hr⟩ => by subst he; exact ⟨v, by rw [e], hr⟩

section
variable {P : Program} {ops : Array Oper} {Q : Exit → Act → World → Prop} {i : Nat} {a : Act} {w : World} {R : Value → World → Prop}
theorem step_mulI {x y : Operand} {t t' : TypeId} {k : IntKind} {m n r : Int} (hop : opO ops i = some (.binOp .mul t x y t')) (hw : Wanted ops i a) (hx : a.eval x = .int k m) (hy : a.eval y = .int k n) (hb : k.wrap (m * n) = r) (hR : R (.int k r) w) : wpOp P ops Q i (fun a' w' => ∃ v, a' = a.put (dstO ops i) v ∧ R v w') a w :=
  step_run hop hw (fun o ho => by subst hb; simp [execOp, ho, hx, hy, eqGuard, binOp, Op.intArith]) hR
theorem step_len {x : Operand} {s : ByteArray} {n : Int} (hop : opO ops i = some (.call { callee := .builtin .len, args := #[x], argTypes := #[9] })) (hw : Wanted ops i a) (hx : a.eval x = .string s) (hb : (s.size : Int) = n) (hR : R (.int .i64 n) w) : wpOp Tryz.prog ops Q i (fun a' w' => ∃ v, a' = a.put (dstO ops i) v ∧ R v w') a w :=
  step_run hop hw (fun o ho => by subst hb; simp only [execOp, ho, resolve, List.map_toArray, List.map_cons, List.map_nil, hx]; simp [invoke, builtin, Builtin.len_, go_sem]) hR
theorem step_sliceTo {x y : Operand} {s : ByteArray} {n : Int} {r : ByteArray} (hop : opO ops i = some (.slice 9 x none (some y) none)) (hw : Wanted ops i a) (hx : a.eval x = .string s) (hy : a.eval y = .int .i64 n) (h0 : 0 ≤ n) (h1 : n ≤ s.size) (hb : s.extract 0 n.toNat = r) (hR : R (.string r) w) : wpOp Tryz.prog ops Q i (fun a' w' => ∃ v, a' = a.put (dstO ops i) v ∧ R v w') a w :=
  step_run hop hw (fun o ho => by subst hb; simp only [execOp, ho, hx, Option.map, hy]; simp [Instr.sliceAt, go_sem, h0, h1]) hR
theorem step_fieldS {x : Operand} {p : Nat} (hop : opO ops i = some (.fieldAddr 24 x 2)) (hw : Wanted ops i a) (hx : a.eval x = .pointer (some ⟨p, 0, none⟩)) (hR : R (.pointer (some ⟨p, 2, none⟩)) w) : wpOp Tryz.prog ops Q i (fun a' w' => ∃ v, a' = a.put (dstO ops i) v ∧ R v w') a w := by
  refine step_run hop hw (fun o ho => ?_) hR
  simp only [execOp, ho, hx]
  simp [go_sem]
theorem step_loadS {x : Operand} {p : Nat} {k n : Int} {s : ByteArray} (hop : opO ops i = some (.load 9 x)) (hw : Wanted ops i a) (hx : a.eval x = .pointer (some ⟨p, 2, none⟩)) (hn : BoxAt p k n s w) (hR : R (.string s) w) : wpOp Tryz.prog ops Q i (fun a' w' => ∃ v, a' = a.put (dstO ops i) v ∧ R v w') a w := by
  obtain ⟨h0, h1, h2⟩ := hn
  refine step_run hop hw (fun o ho => ?_) hR
  simp only [execOp, ho, hx]
  simp [go_sem, h2]
end
end Go.Proofs.YtgaeljiindpcmaaGreatDoor
