/-
  What ValueNull's walk wants: the signs of NULL, lists of values that a region lays. Conditions: right values.
-/
import Derived.Test.YtgaeljiindpcmaaGreatDoorVCallM
import Derived.Test.YtgaeljiindpcmaaGreatDoorVSlot4
import Derived.Test.YtgaeljiindpcmaaGreatDoorVOrdM
import Derived.Laws.MakeOwn
import Derived.OwnWalk
namespace Go.Proofs.YtgaeljiindpcmaaGreatDoor
open Go.ChangeShapes Go.WideShapes Go.ChangeAt Go.RowKit
set_option linter.unusedVariables false
set_option maxRecDepth 100000

abbrev cells2 (k n : Int) (s : ByteArray) (k' n' : Int) (s' : ByteArray) : Obj := .cells #[.int .u8 k, .int .i64 n, .string s, .int .u8 k', .int .i64 n', .string s'] 24
theorem rdv2 (X : World) (k n : Int) (s : ByteArray) (k' n' : Int) (s' : ByteArray) : RdV (X.alloc (cells2 k n s k' n' s')) X.heap.size 0 [(k, n, s), (k', n', s')] := by
  refine ⟨by simp, fun j a b c hj => ?_⟩
  match j, hj with
  | 0, hj => obtain ⟨rfl, rfl, rfl⟩ : k = a ∧ n = b ∧ s = c := by simpa using hj
             refine ⟨?_, ?_, ?_⟩ <;> simp [go_sem]
  | 1, hj => obtain ⟨rfl, rfl, rfl⟩ : k' = a ∧ n' = b ∧ s' = c := by simpa using hj
             refine ⟨?_, ?_, ?_⟩ <;> simp [go_sem]
  | j + 2, hj => simp at hj
theorem Tryz.info_V : (Tryz.prog.info? 24).map (fun i => (i.zero, i.size, i.bytes)) = some (some (vv 0 0 ⟨#[]⟩), 3, 32) := by kernel_rfl
theorem run_make1 (w : World) : (Instr.makeSlice 27 (.int .i64 1) (.int .i64 1)).run Tryz.prog w = .ok (.slice (some ⟨w.heap.size, 0, none⟩) 1 1) (w.alloc (box 0 0 ⟨#[]⟩)) := by
  obtain ⟨i, hi, hz0, hz1, hz2⟩ := info_parts Tryz.info_V
  have h := run_makeSlice w 27 24 i _ Tryz.underlying27 hi hz0 .i64 .i64 1 1 (by decide) (by decide) (by rw [hz1]; decide) (by rw [hz2]; decide) (by decide)
  rw [hz1] at h
  have e : madeCells (vv 0 0 ⟨#[]⟩ : Value).cells (Int.toNat 1 * 3) = #[.int .u8 0, .int .i64 0, .string ⟨#[]⟩] := by kernel_rfl
  rw [e] at h
  exact h
section
variable {ops : Array Oper} {Q : Exit → Act → World → Prop} {i : Nat} {a : Act} {w : World} {R : Value → World → Prop}
theorem step_build2 {x y : Operand} {k n : Int} {s : ByteArray} {k' n' : Int} {s' : ByteArray} (hop : opO ops i = some (.buildSlice 27 2 #[(0, x), (1, y)])) (hw : Wanted ops i a) (hx : a.eval x = vv k n s) (hy : a.eval y = vv k' n' s')
    (hR : ∀ b, RdV (w.alloc (cells2 k n s k' n' s')) b 0 [(k, n, s), (k', n', s')] → Below w.heap.size w (w.alloc (cells2 k n s k' n' s')) → R (.slice (some ⟨b, 0, none⟩) 2 2) (w.alloc (cells2 k n s k' n' s'))) : wpOp Tryz.prog ops Q i (fun a' w' => ∃ v, a' = a.put (dstO ops i) v ∧ R v w') a w := by
  refine step_run (v := .slice (some ⟨w.heap.size, 0, none⟩) 2 2) (w' := w.alloc (cells2 k n s k' n' s')) hop hw (fun o ho => ?_) (hR _ (rdv2 w k n s k' n' s') ((Below.refl _ _).alloc (Nat.le_refl _) _))
  simp only [execOp, ho, List.map_toArray, List.map_cons, List.map_nil, hx, hy]
  simp [go_sem]
theorem step_make1 (hop : opO ops i = some (.makeSlice 27 (.const (.int .i64 1)) (.const (.int .i64 1)))) (hw : Wanted ops i a)
    (hR : ∀ b, RdV (w.alloc (box 0 0 ⟨#[]⟩)) b 0 [(0, 0, ⟨#[]⟩)] → Below w.heap.size w (w.alloc (box 0 0 ⟨#[]⟩)) → R (.slice (some ⟨b, 0, none⟩) 1 1) (w.alloc (box 0 0 ⟨#[]⟩))) : wpOp Tryz.prog ops Q i (fun a' w' => ∃ v, a' = a.put (dstO ops i) v ∧ R v w') a w := by
  refine step_run (v := .slice (some ⟨w.heap.size, 0, none⟩) 1 1) (w' := w.alloc (box 0 0 ⟨#[]⟩)) hop hw (fun o ho => ?_) (hR _ (rdv1 w 0 0 ⟨#[]⟩) ((Below.refl _ _).alloc (Nat.le_refl _) _))
  have e : ∀ v, a.eval (.const v) = v := fun _ => rfl
  simp only [execOp, ho, e]
  rw [Sem.run_bind, run_make1 w]
  rfl
end
/-- the sign g tells NULL of NULL -/
def OpNul (g : ByteArray) : Prop := ∀ (k n : Int) (s : ByteArray) (k' n' : Int) (s' : ByteArray), Rt k n s → Rt k' n' s' → (k = 0 ∨ k' = 0) → ∀ W, Calls Tryz.prog 8 #[.string g, vv k n s, vv k' n' s'] W (RetV nul 0 W)
theorem opn_add : OpNul ⟨#[43]⟩ := fun k n s k' n' s' h h' e W => Op_add_null k n s k' n' s' W h h' e
theorem opn_sub : OpNul ⟨#[45]⟩ := fun k n s k' n' s' h h' e W => Op_sub_null k n s k' n' s' W h h' e
theorem opn_mul : OpNul ⟨#[42]⟩ := fun k n s k' n' s' h h' e W => Op_mul_null k n s k' n' s' W h h' e
theorem opn_quo : OpNul ⟨#[47]⟩ := fun k n s k' n' s' h h' e W => Op_quo_null k n s k' n' s' W h h' e
theorem opn_rem : OpNul ⟨#[37]⟩ := fun k n s k' n' s' h h' e W => Op_rem_null k n s k' n' s' W h h' e
theorem opn_cat : OpNul ⟨#[124, 124]⟩ := fun k n s k' n' s' h h' e W => Op_cat_null k n s k' n' s' W h h' e
theorem opn_eq : OpNul ⟨#[61]⟩ := fun k n s k' n' s' h h' e W => Op_eq_null k n s k' n' s' W h h' e
theorem opn_ne : OpNul ⟨#[60, 62]⟩ := fun k n s k' n' s' h h' e W => Op_ne_null k n s k' n' s' W h h' e
theorem opn_lt : OpNul ⟨#[60]⟩ := fun k n s k' n' s' h h' e W => Op_lt_null k n s k' n' s' W h h' e
theorem opn_le : OpNul ⟨#[60, 61]⟩ := fun k n s k' n' s' h h' e W => Op_le_null k n s k' n' s' W h h' e
theorem opn_gt : OpNul ⟨#[62]⟩ := fun k n s k' n' s' h h' e W => Op_gt_null k n s k' n' s' W h h' e
theorem opn_ge : OpNul ⟨#[62, 61]⟩ := fun k n s k' n' s' h h' e W => Op_ge_null k n s k' n' s' W h h' e
theorem opn_like : OpNul ⟨#[108, 105, 107, 101]⟩ := fun k n s k' n' s' h h' e W => Op_like_null k n s k' n' s' W h h' e
theorem op_nul {g : ByteArray} (h : OpNul g) {k n : Int} {s : ByteArray} {k' n' : Int} {s' : ByteArray} (hr : Rt k n s) (hr' : Rt k' n' s') (e : k = 0 ∨ k' = 0) (w : World) :
    Calls Tryz.prog 52 #[.string g, vv k n s, vv k' n' s', vv 0 0 ⟨#[]⟩] w fun e w' => e = .returned (.bool true) ∧ Below w.heap.size w w' :=
  op_yes g k n s k' n' s' 0 0 ⟨#[]⟩ w fun W _ => h k n s k' n' s' hr hr' e W
/-- the function of that name tells NULL of NULL -/
def FnNul (g : ByteArray) : Prop := ∀ (b : Nat) (X : World), RdV X b 0 [(0, 0, ⟨#[]⟩)] → Calls Tryz.prog 18 #[vv 0 0 ⟨#[]⟩, .string g, .slice (some ⟨b, 0, none⟩) 1 1] X fun e w' => e = .returned (.bool true) ∧ Below X.heap.size X w'
theorem all1 : AllR [(0, 0, ⟨#[]⟩)] := by intro t ht; simp only [List.mem_cons, List.mem_nil_iff, or_false] at ht; subst ht; exact Rt_nul
theorem fnn_length : FnNul ⟨#[108, 101, 110, 103, 116, 104]⟩ := fun b X hR => calls_null named_length b [(0, 0, ⟨#[]⟩)] X all1 (by simp) hR (by simp) (by simp) rfl
theorem fnn_upper : FnNul ⟨#[117, 112, 112, 101, 114]⟩ := fun b X hR => calls_null named_upper b [(0, 0, ⟨#[]⟩)] X all1 (by simp) hR (by simp) (by simp) rfl
theorem fnn_lower : FnNul ⟨#[108, 111, 119, 101, 114]⟩ := fun b X hR => calls_null named_lower b [(0, 0, ⟨#[]⟩)] X all1 (by simp) hR (by simp) (by simp) rfl
theorem fnn_abs : FnNul ⟨#[97, 98, 115]⟩ := fun b X hR => calls_null named_abs b [(0, 0, ⟨#[]⟩)] X all1 (by simp) hR (by simp) (by simp) rfl
theorem all2 {k n : Int} {s : ByteArray} {k' n' : Int} {s' : ByteArray} (h : Rt k n s) (h' : Rt k' n' s') : AllR [(k, n, s), (k', n', s')] := by
  intro t ht
  simp only [List.mem_cons, List.mem_nil_iff, or_false] at ht
  rcases ht with rfl | rfl
  · exact h
  · exact h'
theorem all3 {k n : Int} {s : ByteArray} {k' n' : Int} {s' : ByteArray} {k2 n2 : Int} {s2 : ByteArray} (h : Rt k n s) (h' : Rt k' n' s') (h2 : Rt k2 n2 s2) : AllR [(k, n, s), (k', n', s'), (k2, n2, s2)] := by
  intro t ht
  simp only [List.mem_cons, List.mem_nil_iff, or_false] at ht
  rcases ht with rfl | rfl | rfl
  · exact h
  · exact h'
  · exact h2
/-- of NULL and a, and of a and NULL, the first one that is not NULL is a -/
theorem first_na (k n : Int) (s : ByteArray) (h : Rt k n s) : firstV [(0, 0, ⟨#[]⟩), (k, n, s)] = (k, n, s) ∧ firstV [(k, n, s), (0, 0, ⟨#[]⟩)] = (k, n, s) := by
  by_cases hk : k = 0
  · rcases h with ⟨rfl, rfl, h0⟩ | ⟨rfl, _⟩ | ⟨h1, _, _⟩
    · rw [ba_nil h0]
      exact ⟨rfl, rfl⟩
    · omega
    · omega
  · have hp : pNul (k, n, s) = false := by simpa [pNul] using hk
    constructor
    · simp [firstV, hp, (show pNul (0, 0, ⟨#[]⟩) = true from rfl)]
    · simp [firstV, hp]
end Go.Proofs.YtgaeljiindpcmaaGreatDoor
