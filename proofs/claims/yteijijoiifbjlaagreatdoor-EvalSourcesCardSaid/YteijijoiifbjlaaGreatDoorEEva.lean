/-
  Layer 13, eval: evaluator, Eval. Conditions: sizes; calls come to something; the library's variables are as its text lays them.
-/
import Derived.Test.YteijijoiifbjlaaGreatDoorEEv
namespace Go.Proofs.YteijijoiifbjlaaGreatDoor
open Go.ChangeShapes Go.WideShapes Go.ChangeAt Go.RowKit
set_option linter.unusedVariables false
set_option linter.unusedSimpArgs false
set_option maxRecDepth 100000

/-- the slot holds a closure that evaluates -/
def IsC (x : EnvM) : Value → World → Prop := fun v w => ∃ p1 p2, v = .func (.func 32) #[] #[.pointer (some ⟨p1, 0, none⟩), .pointer (some ⟨p2, 0, none⟩)] ∧ KE x w p1 p2
theorem mono_isC (x : EnvM) : MonoF (IsC x) := fun _ _ _ ⟨p1, p2, h1, h2⟩ hb => ⟨p1, p2, h1, h2.on hb⟩
def CloRet (x : EnvM) (w : World) (e : Ending) (w' : World) : Prop := ∃ v, e = .returned v ∧ IsC x v w' ∧ Below w.heap.size w w'
set_option maxHeartbeats 1000000 in
theorem evaluator_any (x : EnvM) (xv : Value) (w : World) (hX : EnvV w x xv) : Calls Tryz.prog 21 #[xv] w (CloRet x w) := by
  have hX0 := hX
  obtain ⟨Ar, cr, Ak, ck, At, ct, Ab, cb, rfl, -⟩ := hX0
  obtain ⟨w1, hw1⟩ : ∃ X, w.alloc (.cells #[.slice Ar x.rows.length cr, .slice Ak x.keys.length ck, .slice At x.totals.length ct, .slice Ab x.binds.length cb] 29) = X := ⟨_, rfl⟩
  have hal : Below w.heap.size w w1 := by rw [← hw1]; exact (Below.refl _ _).alloc (Nat.le_refl _) _
  have hc : w1.cell? ⟨w.heap.size, 0, none⟩ = some (.slice Ar x.rows.length cr) ∧ w1.cell? ⟨w.heap.size, 1, none⟩ = some (.slice Ak x.keys.length ck) ∧ w1.cell? ⟨w.heap.size, 2, none⟩ = some (.slice At x.totals.length ct) ∧ w1.cell? ⟨w.heap.size, 3, none⟩ = some (.slice Ab x.binds.length cb) := by
    rw [← hw1]
    refine ⟨?_, ?_, ?_, ?_⟩ <;> simp [go_sem]
  obtain ⟨x0, x1, x2, x3⟩ := hc
  have HT := Lib.hid (tellers_any x _ w1 (hX.on hal))
  have HAL := Lib.hid hal
  clear hX hal
  go_enter Tryz.func21, Tryz.ntmps21
  go_upto_region 2 with (go_at_call 31; refine HT.out.mono ?_; rintro e wa ⟨M, rfl, hT, ba⟩; have HTB := Lib.hid hT; have HBA := Lib.hid (HAL.out.trans (ba.mono HAL.out.size)); clear hT ba)
  obtain ⟨w2, hw2⟩ : ∃ X, wa.alloc (.cells #[.map (some M)] 72) = X := ⟨_, rfl⟩
  have hal2 : Below wa.heap.size wa w2 := by rw [← hw2]; exact (Below.refl _ _).alloc (Nat.le_refl _) _
  have hm2 : w2.cell? ⟨wa.heap.size, 0, none⟩ = some (.map (some M)) := by rw [← hw2]; simp [go_sem]
  rw [hw2]
  have HB2 := Lib.hid (HBA.out.trans (hal2.mono HBA.out.size))
  have HT2 := Lib.hid (HTB.out.on hal2)
  clear hw2 hw1 hal2 HBA HTB
  go_wp2_with fail
  go_ret
  have hal3 : ∀ v, Below w2.heap.size w2 (w2.alloc (.cells #[v] 64)) := fun v => (Below.refl _ _).alloc (Nat.le_refl _) _
  refine ⟨_, rfl, ⟨w2.heap.size, wa.heap.size, rfl, ?_, M, ?_, HT2.out.on (hal3 _)⟩, HB2.out.trans ((hal3 _).mono HB2.out.size)⟩
  · simp [go_sem]
  · exact ((hal3 _).cell (p := ⟨wa.heap.size, 0, none⟩) (block_lt_of_cell hm2)).trans hm2
section
variable {ops : Array Oper} {Q : Exit → Act → World → Prop} {i : Nat} {a : Act} {w : World} {R : Value → World → Prop}
/-- a call of a closure of one argument that a slot holds -/
theorem step_callC {x y : Operand} {fn : Nat} {cap : Array Value} {ts : Array TypeId} {v : Value} (hop : opO ops i = some (.call { callee := .value x, args := #[y], argTypes := ts })) (hw : Wanted ops i a) (hx : a.eval x = .func (.func fn) #[] cap) (hy : a.eval y = v) (hE : ∀ (args : Array Value) (W : World), (callFunc fn args).run Tryz.prog W = .ok (.enter fn args) W)
    (h : Calls Tryz.prog fn (#[v] ++ cap) w fun e w' => ∃ v, e = .returned v ∧ R v w') : wpOp Tryz.prog ops Q i (fun a' w' => ∃ v, a' = a.put (dstO ops i) v ∧ R v w') a w := by
  cases ho : ops[i]? with
  | none => simp [opO, ho] at hop
  | some o =>
    have e : dstO ops i = o.dst := by simp [dstO, ho]
    have hoo : o.op = .call { callee := .value x, args := #[y], argTypes := ts } := by simpa [opO, ho] using hop
    unfold wpOp
    rw [ho]
    simp only
    rw [if_pos (hw.is ho)]
    left
    unfold Oper.wp
    have hrun : (execOp a.eval o).run Tryz.prog w = .ok (.enter fn (#[v] ++ cap)) w := by
      simp [execOp, hoo, resolve, invoke, hE, hx, hy, Deferred.ofValue]
    rw [hrun]
    simp only [Oper.upon]
    exact h.mono fun e' w' ⟨v, he, hr⟩ => by subst he; exact ⟨v, by rw [e], hr⟩
end
theorem Clone_e (s : ByteArray) (w : World) (hs : s.size ≤ 65536) : Calls Tryz.prog 22 #[.string s] w fun e w' => e = .returned (.string s) ∧ Below w.heap.size w w' := by
  go_enter Tryz.func22, Tryz.ntmps22
  go_wp2_with fail
  refine (Tryz.stringslite_Clone s _ (by omega)).mono ?_
  rintro e w1 ⟨rfl, hb⟩
  go_wp2_with fail
  go_ret
  exact ⟨rfl, hb⟩
def X4 (w : World) (p : Nat) (v0 v1 v2 v3 : Value) : Prop := w.cell? ⟨p, 0, none⟩ = some v0 ∧ w.cell? ⟨p, 1, none⟩ = some v1 ∧ w.cell? ⟨p, 2, none⟩ = some v2 ∧ w.cell? ⟨p, 3, none⟩ = some v3
theorem X4.on {w w' : World} {p : Nat} {v0 v1 v2 v3 : Value} (h : X4 w p v0 v1 v2 v3) (hb : Below w.heap.size w w') : X4 w' p v0 v1 v2 v3 := by
  obtain ⟨h0, h1, h2, h3⟩ := h
  have hlt : p < w.heap.size := block_lt_of_cell h0
  exact ⟨(hb.cell (p := ⟨p, 0, none⟩) hlt).trans h0, (hb.cell (p := ⟨p, 1, none⟩) hlt).trans h1, (hb.cell (p := ⟨p, 2, none⟩) hlt).trans h2, (hb.cell (p := ⟨p, 3, none⟩) hlt).trans h3⟩
noncomputable def ev1Ops : Array Oper := regOf Tryz.f10 1
theorem ev1_fill {v0 v1 v2 v3 v4 v5 v6 v7 v8 v9 v10 v11 v12 v13 v14 v15 v16 v17 v18 v19 v20 : Value} (V : Nat → Value) : fillT ev1Ops #[v0, v1, v2, v3, v4, v5, v6, v7, v8, v9, v10, v11, v12, v13, v14, v15, v16, v17, v18, v19, v20] V = #[v0, v1, v2, v3, v4, v5, V 7, V 9, V 4, V 0, V 1, V 2, V 3, V 5, V 6, v15, v16, v17, v18, v19, v20] := by
  kernel_rfl
def ev1L (p2 p3 : Nat) (x : EnvM) (e : Ee) (r : Rv) (k n a : Int) (s t : ByteArray) (A : Option Addr) (len cap : Nat) (v0 v1 v2 v3 : Value) : List (Value → World → Prop) := [IsX x, IsC x, IsE e, IsV (.tuple #[vT r.1, .int .i64 r.2]), IsV (.tuple #[vT r.1, .int .i64 r.2]), IsV (vT r.1), IsV (.int .i64 r.2), AnyF, AnyF, IsV (.int .i64 r.2)]
def ev1F (p2 p3 : Nat) (x : EnvM) (e : Ee) (r : Rv) (k n a : Int) (s t : ByteArray) (A : Option Addr) (len cap : Nat) (v0 v1 v2 v3 : Value) (i : Nat) : Value → World → Prop := (ev1L p2 p3 x e r k n a s t A len cap v0 v1 v2 v3).getD i AnyF
theorem ev1F_mono (p2 p3 : Nat) (x : EnvM) (e : Ee) (r : Rv) (k n a : Int) (s t : ByteArray) (A : Option Addr) (len cap : Nat) (v0 v1 v2 v3 : Value) (i : Nat) (v : Value) (w w' : World) (hp : (ev1F p2 p3 x e r k n a s t A len cap v0 v1 v2 v3) i v w) (hb : Below w.heap.size w w') : (ev1F p2 p3 x e r k n a s t A len cap v0 v1 v2 v3) i v w' := by
  refine monoL ?_ i v w w' hp hb
  unfold ev1L
  simp only [List.forall_mem_cons]
  exact ⟨mono_isX _, mono_isC _, mono_isE _, mono_isV _, mono_isV _, mono_isV _, mono_isV _, mono_any, mono_any, mono_isV _, fun _ h => by cases h⟩
def ev1Fl (i : Nat) : Bool := ([false, false, false, true, true, true, true, true, true, true] : List Bool).getD i false
theorem ev1F_flat (p2 p3 : Nat) (x : EnvM) (e : Ee) (r : Rv) (k n a : Int) (s t : ByteArray) (A : Option Addr) (len cap : Nat) (v0 v1 v2 v3 : Value) (i : Nat) (hi : ev1Fl i = true) (v : Value) (w w' : World) (hp : (ev1F p2 p3 x e r k n a s t A len cap v0 v1 v2 v3) i v w) : (ev1F p2 p3 x e r k n a s t A len cap v0 v1 v2 v3) i v w' := by
  unfold ev1Fl at hi
  unfold ev1F ev1L at hp ⊢
  match i, hi with
  | 0, h => exact absurd h (by decide)
  | 1, h => exact absurd h (by decide)
  | 2, h => exact absurd h (by decide)
  | 3, _ => exact hp
  | 4, _ => exact hp
  | 5, _ => exact hp
  | 6, _ => exact hp
  | 7, _ => exact hp
  | 8, _ => exact hp
  | 9, _ => exact hp
  | i + 10, h => simp at h
theorem ev1_s0 {Q : Exit → Act → World → Prop} {w0 : World} {xs : Nat → Value} (p2 p3 : Nat) (x : EnvM) (e : Ee) (r : Rv) (k n a : Int) (s t : ByteArray) (A : Option Addr) (len cap : Nat) (v0 v1 v2 v3 : Value) (c2 : ECell w0 p2 0 k s t n a A len cap) (e2 : ExV w0 e (exprV k s t n a A len cap)) (c3 : X4 w0 p3 v0 v1 v2 v3) (e3 : EnvV w0 x (.agg #[v0, v1, v2, v3])) (hr : evX x e = r) (hev : EvIs x e) (hW : Wd w0) (hx2 : xs 2 = .pointer (some ⟨p2, 0, none⟩)) (hx3 : xs 3 = .pointer (some ⟨p3, 0, none⟩)) : OpStep Tryz.prog ev1Ops Q (ev1F p2 p3 x e r k n a s t A len cap v0 v1 v2 v3) w0 21 xs 0 := by
  intro act w hb hk hF
  have g3 : act.eval (.tmp 3) = .pointer (some ⟨p3, 0, none⟩) := (hk 3 (by decide) (by kernel_rfl)).trans hx3
  exact step_loadX (show opO ev1Ops 0 = some (.load 29 (.tmp 3)) by kernel_rfl) (.free (by kernel_rfl)) g3 (c3.on hb) ⟨e3.on hb, Below.refl _ _⟩
theorem ev1_s1 {Q : Exit → Act → World → Prop} {w0 : World} {xs : Nat → Value} (p2 p3 : Nat) (x : EnvM) (e : Ee) (r : Rv) (k n a : Int) (s t : ByteArray) (A : Option Addr) (len cap : Nat) (v0 v1 v2 v3 : Value) (c2 : ECell w0 p2 0 k s t n a A len cap) (e2 : ExV w0 e (exprV k s t n a A len cap)) (c3 : X4 w0 p3 v0 v1 v2 v3) (e3 : EnvV w0 x (.agg #[v0, v1, v2, v3])) (hr : evX x e = r) (hev : EvIs x e) (hW : Wd w0) (hx2 : xs 2 = .pointer (some ⟨p2, 0, none⟩)) (hx3 : xs 3 = .pointer (some ⟨p3, 0, none⟩)) : OpStep Tryz.prog ev1Ops Q (ev1F p2 p3 x e r k n a s t A len cap v0 v1 v2 v3) w0 21 xs 1 := by
  intro act w hb hk hF
  have g9 : IsX x (act.eval (.tmp 9)) w := hF 0 (of_decide_eq_true (by kernel_rfl)) 9 (by kernel_rfl)
  exact step_call (f := 21) (xs := #[.tmp 9]) (by kernel_rfl) (.free (by kernel_rfl)) (map1 rfl) (enters_of Tryz.func21 (by kernel_rfl) rfl) ((evaluator_any x _ w g9).mono fun e w' ⟨v, h1, h2, h3⟩ => ⟨v, h1, h2, h3⟩)
theorem ev1_s2 {Q : Exit → Act → World → Prop} {w0 : World} {xs : Nat → Value} (p2 p3 : Nat) (x : EnvM) (e : Ee) (r : Rv) (k n a : Int) (s t : ByteArray) (A : Option Addr) (len cap : Nat) (v0 v1 v2 v3 : Value) (c2 : ECell w0 p2 0 k s t n a A len cap) (e2 : ExV w0 e (exprV k s t n a A len cap)) (c3 : X4 w0 p3 v0 v1 v2 v3) (e3 : EnvV w0 x (.agg #[v0, v1, v2, v3])) (hr : evX x e = r) (hev : EvIs x e) (hW : Wd w0) (hx2 : xs 2 = .pointer (some ⟨p2, 0, none⟩)) (hx3 : xs 3 = .pointer (some ⟨p3, 0, none⟩)) : OpStep Tryz.prog ev1Ops Q (ev1F p2 p3 x e r k n a s t A len cap v0 v1 v2 v3) w0 21 xs 2 := by
  intro act w hb hk hF
  have g2 : act.eval (.tmp 2) = .pointer (some ⟨p2, 0, none⟩) := (hk 2 (by decide) (by kernel_rfl)).trans hx2
  exact step_loadE (show opO ev1Ops 2 = some (.load 25 (.tmp 2)) by kernel_rfl) (.free (by kernel_rfl)) g2 (c2.on hb) ⟨e2.on hb, Below.refl _ _⟩
theorem ev1_s3 {Q : Exit → Act → World → Prop} {w0 : World} {xs : Nat → Value} (p2 p3 : Nat) (x : EnvM) (e : Ee) (r : Rv) (k n a : Int) (s t : ByteArray) (A : Option Addr) (len cap : Nat) (v0 v1 v2 v3 : Value) (c2 : ECell w0 p2 0 k s t n a A len cap) (e2 : ExV w0 e (exprV k s t n a A len cap)) (c3 : X4 w0 p3 v0 v1 v2 v3) (e3 : EnvV w0 x (.agg #[v0, v1, v2, v3])) (hr : evX x e = r) (hev : EvIs x e) (hW : Wd w0) (hx2 : xs 2 = .pointer (some ⟨p2, 0, none⟩)) (hx3 : xs 3 = .pointer (some ⟨p3, 0, none⟩)) : OpStep Tryz.prog ev1Ops Q (ev1F p2 p3 x e r k n a s t A len cap v0 v1 v2 v3) w0 21 xs 3 := by
  intro act w hb hk hF
  have g10 : IsC x (act.eval (.tmp 10)) w := hF 1 (of_decide_eq_true (by kernel_rfl)) 10 (by kernel_rfl)
  have g11 : IsE e (act.eval (.tmp 11)) w := hF 2 (of_decide_eq_true (by kernel_rfl)) 11 (by kernel_rfl)
  obtain ⟨q1, q2, hcl, hke⟩ := g10
  have _ := g11
  exact step_callC (show opO ev1Ops 3 = some (.call { callee := .value (.tmp 10), args := #[.tmp 11], argTypes := #[25] }) by kernel_rfl) (.free (by kernel_rfl)) hcl rfl enters_ev ((by rw [← hr]; exact hev w q1 q2 _ (hW.on hb) hke g11 : Calls _ _ _ w (RetV (vT r.1) r.2 w)).mono fun e w' h => ⟨_, h.1, rfl, h.2⟩)
theorem ev1_s4 {Q : Exit → Act → World → Prop} {w0 : World} {xs : Nat → Value} (p2 p3 : Nat) (x : EnvM) (e : Ee) (r : Rv) (k n a : Int) (s t : ByteArray) (A : Option Addr) (len cap : Nat) (v0 v1 v2 v3 : Value) (c2 : ECell w0 p2 0 k s t n a A len cap) (e2 : ExV w0 e (exprV k s t n a A len cap)) (c3 : X4 w0 p3 v0 v1 v2 v3) (e3 : EnvV w0 x (.agg #[v0, v1, v2, v3])) (hr : evX x e = r) (hev : EvIs x e) (hW : Wd w0) (hx2 : xs 2 = .pointer (some ⟨p2, 0, none⟩)) (hx3 : xs 3 = .pointer (some ⟨p3, 0, none⟩)) : OpStep Tryz.prog ev1Ops Q (ev1F p2 p3 x e r k n a s t A len cap v0 v1 v2 v3) w0 21 xs 4 := by
  intro act w hb hk hF
  have g12 : act.eval (.tmp 12) = .tuple #[vT r.1, .int .i64 r.2] := hF 3 (of_decide_eq_true (by kernel_rfl)) 12 (by kernel_rfl)
  exact step_move (show opO ev1Ops 4 = some (.move (.tmp 12)) by kernel_rfl) (.free (by kernel_rfl)) g12 ⟨rfl, Below.refl _ _⟩
theorem ev1_s5 {Q : Exit → Act → World → Prop} {w0 : World} {xs : Nat → Value} (p2 p3 : Nat) (x : EnvM) (e : Ee) (r : Rv) (k n a : Int) (s t : ByteArray) (A : Option Addr) (len cap : Nat) (v0 v1 v2 v3 : Value) (c2 : ECell w0 p2 0 k s t n a A len cap) (e2 : ExV w0 e (exprV k s t n a A len cap)) (c3 : X4 w0 p3 v0 v1 v2 v3) (e3 : EnvV w0 x (.agg #[v0, v1, v2, v3])) (hr : evX x e = r) (hev : EvIs x e) (hW : Wd w0) (hx2 : xs 2 = .pointer (some ⟨p2, 0, none⟩)) (hx3 : xs 3 = .pointer (some ⟨p3, 0, none⟩)) : OpStep Tryz.prog ev1Ops Q (ev1F p2 p3 x e r k n a s t A len cap v0 v1 v2 v3) w0 21 xs 5 := by
  intro act w hb hk hF
  have g8 : act.eval (.tmp 8) = .tuple #[vT r.1, .int .i64 r.2] := hF 4 (of_decide_eq_true (by kernel_rfl)) 8 (by kernel_rfl)
  exact step_extract (show opO ev1Ops 5 = some (.extract (.tmp 8) 0) by kernel_rfl) (.free (by kernel_rfl)) g8 rfl ⟨rfl, Below.refl _ _⟩
theorem ev1_s6 {Q : Exit → Act → World → Prop} {w0 : World} {xs : Nat → Value} (p2 p3 : Nat) (x : EnvM) (e : Ee) (r : Rv) (k n a : Int) (s t : ByteArray) (A : Option Addr) (len cap : Nat) (v0 v1 v2 v3 : Value) (c2 : ECell w0 p2 0 k s t n a A len cap) (e2 : ExV w0 e (exprV k s t n a A len cap)) (c3 : X4 w0 p3 v0 v1 v2 v3) (e3 : EnvV w0 x (.agg #[v0, v1, v2, v3])) (hr : evX x e = r) (hev : EvIs x e) (hW : Wd w0) (hx2 : xs 2 = .pointer (some ⟨p2, 0, none⟩)) (hx3 : xs 3 = .pointer (some ⟨p3, 0, none⟩)) : OpStep Tryz.prog ev1Ops Q (fun j v w => ev1Fl j = true → (ev1F p2 p3 x e r k n a s t A len cap v0 v1 v2 v3) j v w) w0 21 xs 6 := by
  intro act w hb hk hF
  have g8 : act.eval (.tmp 8) = .tuple #[vT r.1, .int .i64 r.2] := (show ev1Fl 4 = true → _ from hF 4 (of_decide_eq_true (by kernel_rfl)) 8 (by kernel_rfl)) (by kernel_rfl)
  exact step_extract (show opO ev1Ops 6 = some (.extract (.tmp 8) 1) by kernel_rfl) (.free (by kernel_rfl)) g8 rfl ⟨fun _ => rfl, Below.refl _ _⟩
theorem ev1_s9 {Q : Exit → Act → World → Prop} {w0 : World} {xs : Nat → Value} (p2 p3 : Nat) (x : EnvM) (e : Ee) (r : Rv) (k n a : Int) (s t : ByteArray) (A : Option Addr) (len cap : Nat) (v0 v1 v2 v3 : Value) (c2 : ECell w0 p2 0 k s t n a A len cap) (e2 : ExV w0 e (exprV k s t n a A len cap)) (c3 : X4 w0 p3 v0 v1 v2 v3) (e3 : EnvV w0 x (.agg #[v0, v1, v2, v3])) (hr : evX x e = r) (hev : EvIs x e) (hW : Wd w0) (hx2 : xs 2 = .pointer (some ⟨p2, 0, none⟩)) (hx3 : xs 3 = .pointer (some ⟨p3, 0, none⟩)) : OpStep Tryz.prog ev1Ops Q (fun j v w => ev1Fl j = true → (ev1F p2 p3 x e r k n a s t A len cap v0 v1 v2 v3) j v w) w0 21 xs 9 := by
  intro act w hb hk hF
  have g14 : act.eval (.tmp 14) = .int .i64 r.2 := (show ev1Fl 6 = true → _ from hF 6 (of_decide_eq_true (by kernel_rfl)) 14 (by kernel_rfl)) (by kernel_rfl)
  exact step_assign (show opO ev1Ops 9 = some (.assign (.tmp 14)) by kernel_rfl) (.free (by kernel_rfl)) g14 ⟨fun _ => rfl, Below.refl _ _⟩
theorem ev1 {Q : Exit → Act → World → Prop} {a0 : Act} {w0 : World} (p2 p3 : Nat) (x : EnvM) (e : Ee) (r : Rv) (k n a : Int) (s t : ByteArray) (A : Option Addr) (len cap : Nat) (v0 v1 v2 v3 : Value) (c2 : ECell w0 p2 0 k s t n a A len cap) (e2 : ExV w0 e (exprV k s t n a A len cap)) (c3 : X4 w0 p3 v0 v1 v2 v3) (e3 : EnvV w0 x (.agg #[v0, v1, v2, v3])) (hr : evX x e = r) (hev : EvIs x e) (hW : Wd w0) (hx2 : a0.tmps.getD 2 undef = .pointer (some ⟨p2, 0, none⟩)) (hx3 : a0.tmps.getD 3 undef = .pointer (some ⟨p3, 0, none⟩)) (hs : a0.tmps.size = 21)
    (hend : ∀ (V : Nat → Value) (p : Nat) (X : World), Below w0.heap.size w0 X → V 7 = .pointer (some ⟨p, 0, none⟩) → w0.heap.size ≤ p → p < X.heap.size → BoxF p r.1 X → V 9 = .int .i64 r.2 → Q .normal ⟨fillT ev1Ops a0.tmps V, a0.defers⟩ X) : (Code.region 1 ev1Ops true).wp Tryz.prog Q a0 w0 := by
  refine wp_region_boxM (by kernel_rfl) (ev1F p2 p3 x e r k n a s t A len cap v0 v1 v2 v3) 7 8 6 NewAt (fun p w => BoxF p r.1 w) ev1Fl (ev1F_mono p2 p3 x e r k n a s t A len cap v0 v1 v2 v3) (ev1F_flat p2 p3 x e r k n a s t A len cap v0 v1 v2 v3) (by kernel_rfl) (by kernel_rfl) (of_decide_eq_true (by kernel_rfl)) (of_decide_eq_true (by kernel_rfl)) (by decide) ?_ new_keep boxF_keep (by rw [hs]; kernel_rfl) ?_ ?_ ?_ ?_ ?_
  · have size_is : ev1Ops.size = 10 := by kernel_rfl
    rw [size_is]
    intro i hi h1 h2
    have hq : ((List.range 10).all fun i => decide (i ∈ depsO ev1Ops 8) || decide (i = 8) || ev1Fl i) = true := by kernel_rfl
    have := List.all_eq_true.1 hq i (List.mem_range.2 hi)
    simp only [Bool.or_eq_true, decide_eq_true_eq] at this
    rcases this with (h | h) | h
    · exact absurd h h1
    · exact absurd h h2
    · exact h
  · rw [hs]
    have size_is : ev1Ops.size = 10 := by kernel_rfl
    rw [size_is]
    intro i hi hne1 hne2 hdp
    have hall : ∀ j, j < 10 → j = i → OpStep Tryz.prog ev1Ops Q (ev1F p2 p3 x e r k n a s t A len cap v0 v1 v2 v3) w0 21 (fun t => a0.tmps.getD t undef) j := by
      intro j hj hji
      match j, hj with
      | 0, _ => exact ev1_s0 p2 p3 x e r k n a s t A len cap v0 v1 v2 v3 c2 e2 c3 e3 hr hev hW hx2 hx3
      | 1, _ => exact ev1_s1 p2 p3 x e r k n a s t A len cap v0 v1 v2 v3 c2 e2 c3 e3 hr hev hW hx2 hx3
      | 2, _ => exact ev1_s2 p2 p3 x e r k n a s t A len cap v0 v1 v2 v3 c2 e2 c3 e3 hr hev hW hx2 hx3
      | 3, _ => exact ev1_s3 p2 p3 x e r k n a s t A len cap v0 v1 v2 v3 c2 e2 c3 e3 hr hev hW hx2 hx3
      | 4, _ => exact ev1_s4 p2 p3 x e r k n a s t A len cap v0 v1 v2 v3 c2 e2 c3 e3 hr hev hW hx2 hx3
      | 5, _ => exact ev1_s5 p2 p3 x e r k n a s t A len cap v0 v1 v2 v3 c2 e2 c3 e3 hr hev hW hx2 hx3
      | 6, _ => exact absurd hdp (by rw [← hji]; decide)
      | 7, _ => exact absurd hji.symm hne1
      | 8, _ => exact absurd hji.symm hne2
      | 9, _ => exact absurd hdp (by rw [← hji]; decide)
      | q + 10, hj => exact absurd hj (by omega)
    exact hall i hi rfl
  · rw [hs]
    have size_is : ev1Ops.size = 10 := by kernel_rfl
    rw [size_is]
    intro i hi hne1 hne2 hdp
    have hall : ∀ j, j < 10 → j = i → OpStep Tryz.prog ev1Ops Q (fun j v w => ev1Fl j = true → (ev1F p2 p3 x e r k n a s t A len cap v0 v1 v2 v3) j v w) w0 21 (fun t => a0.tmps.getD t undef) j := by
      intro j hj hji
      match j, hj with
      | 0, _ => exact absurd hdp (by rw [← hji]; exact fun h => h (by decide))
      | 1, _ => exact absurd hdp (by rw [← hji]; exact fun h => h (by decide))
      | 2, _ => exact absurd hdp (by rw [← hji]; exact fun h => h (by decide))
      | 3, _ => exact absurd hdp (by rw [← hji]; exact fun h => h (by decide))
      | 4, _ => exact absurd hdp (by rw [← hji]; exact fun h => h (by decide))
      | 5, _ => exact absurd hdp (by rw [← hji]; exact fun h => h (by decide))
      | 6, _ => exact ev1_s6 p2 p3 x e r k n a s t A len cap v0 v1 v2 v3 c2 e2 c3 e3 hr hev hW hx2 hx3
      | 7, _ => exact absurd hji.symm hne1
      | 8, _ => exact absurd hji.symm hne2
      | 9, _ => exact ev1_s9 p2 p3 x e r k n a s t A len cap v0 v1 v2 v3 c2 e2 c3 e3 hr hev hW hx2 hx3
      | q + 10, hj => exact absurd hj (by omega)
    exact hall i hi rfl
  · intro a w hb
    exact step_allocV (by kernel_rfl) (.free (by kernel_rfl)) (by kernel_rfl) (fun _ _ => trivial)
  · intro act w p hb hp0 hp1 hp hn hF
    have gy : act.eval (.tmp 13) = vT r.1 := hF 5 (of_decide_eq_true (by kernel_rfl)) 13 (by kernel_rfl)
    exact step_storeF (show opO ev1Ops 8 = some (.store 38 (.tmp 6) (.tmp 13)) by kernel_rfl) (.free (by kernel_rfl)) (by kernel_rfl) hp gy hb hp0 hp1 hn
  · intro V p X hb hp hp0 hp1 hB hV
    exact hend V p X hb hp hp0 hp1 hB (hV 9 (of_decide_eq_true (by kernel_rfl)) (by kernel_rfl) (by kernel_rfl))
set_option maxHeartbeats 2000000 in
/-- Eval tells the value -/
theorem Eval_of (x : EnvM) (e : Ee) (hev : EvIs x e) (hok : OkT (evX x e).1) (v xv : Value) (w : World) (hW : Wd w) (hv : ExV w e v) (hx : EnvV w x xv) :
    Calls Tryz.prog 10 #[v, xv] w (RetV (vT (evX x e).1) (evX x e).2 w) := by
  obtain ⟨k, s, t, n, a, kids⟩ := e
  have hv0 := hv
  simp only [ExV] at hv0
  obtain ⟨A, cap, rfl, hcap, -⟩ := hv0
  have hx0 := hx
  obtain ⟨Ar, cr, Ak, ck, At, ct, Ab, cb, rfl, -⟩ := hx0
  obtain ⟨⟨⟨rk, rn, rs⟩, er⟩, hr⟩ : ∃ r, evX x (.mk k s t n a kids) = r := ⟨_, rfl⟩
  rw [hr] at hok ⊢
  obtain ⟨w1, hw1⟩ : ∃ X, ((w.alloc (.cells #[.int .u8 k, .string s, .string t, .int .i64 n, .int .i64 a, .slice A kids.length cap] 25)).alloc (.cells #[.slice Ar x.rows.length cr, .slice Ak x.keys.length ck, .slice At x.totals.length ct, .slice Ab x.binds.length cb] 29)).alloc (.cells #[.int .u8 0, .int .i64 0, .string ⟨#[]⟩] 38) = X := ⟨_, rfl⟩
  have hal : Below w.heap.size w w1 := by rw [← hw1]; exact (((Below.refl _ _).alloc (Nat.le_refl _) _).alloc (by simp) _).alloc (by simp; omega) _
  have hc2 : ECell w1 w.heap.size 0 k s t n a A kids.length cap := by
    rw [← hw1]
    refine ⟨?_, ?_, ?_, ?_, ?_, ?_⟩ <;> simp [go_sem]
  have hc3 : X4 w1 (w.heap.size + 1) (.slice Ar x.rows.length cr) (.slice Ak x.keys.length ck) (.slice At x.totals.length ct) (.slice Ab x.binds.length cb) := by
    rw [← hw1]
    refine ⟨?_, ?_, ?_, ?_⟩ <;> simp [go_sem]
  have hb4 : BoxF (w.heap.size + 2) nulT w1 := by
    rw [← hw1]
    refine ⟨⟨?_, ?_, ?_⟩, ?_, ?_, ?_⟩ <;> simp [go_sem]
  have HAL := Lib.hid hal
  have HV := Lib.hid (hv.on hal)
  have HX := Lib.hid (hx.on hal)
  have HW := Lib.hid (hW.on hal)
  have HB4 := Lib.hid hb4
  have HOK := Lib.hid hok
  clear hv hx hW hb4 hok
  go_enter Tryz.func10, Tryz.ntmps10
  go_upto_region 1 with (fail)
  refine region_asE (ops' := ev1Ops) (by kernel_rfl) ?_
  refine ev1 w.heap.size (w.heap.size + 1) x (.mk k s t n a kids) ((rk, rn, rs), er) k n a s t A kids.length cap _ _ _ _ hc2 HV.out hc3 HX.out hr hev HW.out rfl rfl rfl ?_
  intro V p X hbX hVp hp0 hp1 hbx6 hV7
  rw [ev1_fill V, hVp, hV7]
  have hO : BoxF (w.heap.size + 2) nulT X := HB4.out.on hbX
  have HB := Lib.hid (HAL.out.trans (hbX.mono HAL.out.size))
  have HP := Lib.hid hp0
  have hs3 : w1.heap.size = w.heap.size + 3 := by rw [← hw1]; simp
  have hp2 : w.heap.size + 2 < p := by omega
  obtain ⟨⟨x0, x1, x2⟩, g0, g1, g2⟩ := hbx6
  obtain ⟨⟨z0, z1, z2⟩, f0, f1, f2⟩ := hO
  have hsz : rs.size ≤ 65536 := HOK.out.2
  have HCL := Lib.hid (fun W => Clone_e rs W hsz)
  clear hc2 hc3 hal hw1 hbX HW HV HX HAL
  go_wp2_with (go_at_call 22; refine (HCL.out _).mono ?_; rintro e wb ⟨rfl, bb⟩; have HB2 := Lib.hid (HB.out.trans (bb.mono HB.out.size)); obtain ⟨⟨x0, x1, x2⟩, g0, g1, g2⟩ := (show BoxF p (rk, rn, rs) wb from BoxF.on ⟨⟨x0, x1, x2⟩, g0, g1, g2⟩ bb); obtain ⟨⟨z0, z1, z2⟩, f0, f1, f2⟩ := (show BoxF (w.heap.size + 2) nulT wb from BoxF.on ⟨⟨z0, z1, z2⟩, f0, f1, f2⟩ bb); clear bb)
  exact bodyPost_ret (v := .tuple #[vv rk rn rs, .int .i64 er]) (by simp [results, Tryz.results10, go_sem, z0, z1, z2]) rfl ⟨rfl, (((HB2.out.setCell (by show w.heap.size ≤ p; omega) _).setCell (by show w.heap.size ≤ w.heap.size + 1 + 1; omega) _).setCell (by show w.heap.size ≤ w.heap.size + 1 + 1; omega) _).setCell (by show w.heap.size ≤ w.heap.size + 1 + 1; omega) _⟩
theorem Eval_any (x : EnvM) (e : Ee) (hxo : EnvOk x) (hxt : EnvT x) (hf : Fit e) (v xv : Value) (w : World) (hW : Wd w) (hv : ExV w e v) (hx : EnvV w x xv) :
    Calls Tryz.prog 10 #[v, xv] w (RetV (vT (evX x e).1) (evX x e).2 w) := Eval_of x e (ev_all x hxo hxt _ e (Nat.le_refl _) hf) (evX_ok hxt hf) v xv w hW hv hx
end Go.Proofs.YteijijoiifbjlaaGreatDoor
