/-
  Layer 8: AggNulls: the region that makes a number's and a text's box, operation by operation. Conditions: what is called tells what it tells.
-/
import Derived.Test.YtceknmibopnmhaaGreatDoorANul
import Derived.Test.YtceknmibopnmhaaGreatDoorStepTwo2
import Derived.Test.YtceknmibopnmhaaGreatDoorSlot
namespace Go.Proofs.YtceknmibopnmhaaGreatDoor
open Go.ChangeShapes Go.WideShapes Go.ChangeAt Go.RowKit
set_option linter.unusedVariables false
set_option maxRecDepth 100000

noncomputable def an15Ops : Array Oper := regOf Tryz.f8 15
def ZeroF : Value → World → Prop := fun v w => ∃ p, v = .pointer (some ⟨p, 0, none⟩) ∧ BoxT w p (0, 0, ⟨#[]⟩)
theorem mono_zero : MonoF ZeroF := fun v w w' ⟨p, h1, h2⟩ hb => ⟨p, h1, h2.on hb⟩
def an15L (b off c : Nat) (k0 z0 : Int) (s0 : ByteArray) : List (Value → World → Prop) :=
  [IsV (.slice (some ⟨b, off, none⟩) 1 c), IsV (.pointer (some ⟨b, off, none⟩)), IsV (vv k0 z0 s0), IsV (.int .i64 (intV k0 z0 s0)), IsV (vv 1 (intV k0 z0 s0) ⟨#[]⟩), IsV (.slice (some ⟨b, off, none⟩) 1 c), IsV (.pointer (some ⟨b, off, none⟩)), IsV (vv k0 z0 s0), IsV (.string (textV k0 z0 s0)), IsV (vv 2 0 (textV k0 z0 s0)), ZeroF, ZeroF]
def an15F (b off c : Nat) (k0 z0 : Int) (s0 : ByteArray) (i : Nat) : Value → World → Prop := (an15L b off c k0 z0 s0).getD i AnyF
theorem an15F_mono (b off c : Nat) (k0 z0 : Int) (s0 : ByteArray) (i : Nat) (v : Value) (w w' : World) (hp : an15F b off c k0 z0 s0 i v w) (hb : Below w.heap.size w w') : an15F b off c k0 z0 s0 i v w' := by
  refine monoL ?_ i v w w' hp hb
  unfold an15L
  simp only [List.forall_mem_cons]
  exact ⟨mono_isV _, mono_isV _, mono_isV _, mono_isV _, mono_isV _, mono_isV _, mono_isV _, mono_isV _, mono_isV _, mono_isV _, mono_zero, mono_zero, fun _ h => by cases h⟩
section
variable {ops : Array Oper} {Q : Exit → Act → World → Prop} {i : Nat} {a : Act} {w : World} {R : Value → World → Prop}
theorem step_ixT {x : Operand} {b off c : Nat} (hop : opO ops i = some (.indexAddr 27 x (.const (.int .i64 0)))) (hw : Wanted ops i a) (hx : a.eval x = .slice (some ⟨b, off, none⟩) 1 c) (hR : R (.pointer (some ⟨b, off, none⟩)) w) : wpOp Tryz.prog ops Q i (fun a' w' => ∃ v, a' = a.put (dstO ops i) v ∧ R v w') a w := by
  refine step_run hop hw (fun o ho => ?_) hR
  simp only [execOp, ho, hx]
  simp [go_sem]
theorem step_loadT {x : Operand} {b off : Nat} {k n : Int} {s : ByteArray} (hop : opO ops i = some (.load 24 x)) (hw : Wanted ops i a) (hx : a.eval x = .pointer (some ⟨b, off, none⟩)) (h0 : w.cell? ⟨b, off, none⟩ = some (.int .u8 k)) (h1 : w.cell? ⟨b, off + 1, none⟩ = some (.int .i64 n)) (h2 : w.cell? ⟨b, off + 2, none⟩ = some (.string s)) (hR : R (vv k n s) w) : wpOp Tryz.prog ops Q i (fun a' w' => ∃ v, a' = a.put (dstO ops i) v ∧ R v w') a w := by
  refine step_run (v := vv k n s) hop hw (fun o ho => ?_) hR
  simp only [execOp, ho, hx]
  simp [go_sem, h0, h1, h2]
theorem step_allocT {F : Nat → Value → World → Prop} {da : Tmp} (hop : opO ops i = some (.alloc 24)) (hw : Wanted ops i a) (hd : dstO ops i = some da) (hF : ∀ v w, ZeroF v w → F i v w) :
    wpOp Tryz.prog ops Q i (fun a' w' => ∃ p, a' = a.put (some da) (.pointer (some ⟨p, 0, none⟩)) ∧ F i (.pointer (some ⟨p, 0, none⟩)) w' ∧ w.heap.size ≤ p ∧ p < w'.heap.size ∧ Below w.heap.size w w') a w := by
  have h := step_run (P := Tryz.prog) (ops := ops) (i := i) (a := a) (w := w) (Q := Q) (R := fun v w' => v = .pointer (some ⟨w.heap.size, 0, none⟩) ∧ w' = w.alloc (.cells #[.int .u8 0, .int .i64 0, .string ⟨#[]⟩] 24)) (v := .pointer (some ⟨w.heap.size, 0, none⟩)) (w' := w.alloc (.cells #[.int .u8 0, .int .i64 0, .string ⟨#[]⟩] 24)) hop hw (fun o ho => by simp only [execOp, ho]; simp [go_sem]) ⟨rfl, rfl⟩
  rw [hd] at h
  refine wpOp_mono ?_ h
  rintro a' w' ⟨v, rfl, rfl, rfl⟩
  exact ⟨w.heap.size, rfl, hF _ _ ⟨_, rfl, BoxT.new w (0, 0, ⟨#[]⟩)⟩, Nat.le_refl _, by simp, (Below.refl _ _).alloc (Nat.le_refl _) _⟩
theorem step_storeT {x y : Operand} {p : Nat} {k n : Int} {s : ByteArray} {K : Act → World → Prop} (hop : opO ops i = some (.store 24 x y)) (hw : Wanted ops i a) (hd : dstO ops i = none) (hx : a.eval x = .pointer (some ⟨p, 0, none⟩)) (hy : a.eval y = vv k n s) (hn : BoxT w p (0, 0, ⟨#[]⟩))
    (hK : K a (((w.setCell ⟨p, 0, none⟩ (.int .u8 k)).setCell ⟨p, 1, none⟩ (.int .i64 n)).setCell ⟨p, 2, none⟩ (.string s))) : wpOp Tryz.prog ops Q i K a w := by
  obtain ⟨h0, h1, h2⟩ := hn.cells
  obtain ⟨f0, f1, f2⟩ := hn.frz
  cases ho : ops[i]? with
  | none => simp [opO, ho] at hop
  | some o =>
    have hoo : o.op = .store 24 x y := by simpa [opO, ho] using hop
    have hdn : o.dst = none := by simpa [dstO, ho] using hd
    have hrun : (execOp a.eval o).run Tryz.prog w = .ok .skip (((w.setCell ⟨p, 0, none⟩ (.int .u8 k)).setCell ⟨p, 1, none⟩ (.int .i64 n)).setCell ⟨p, 2, none⟩ (.string s)) := by
      simp only [execOp, hoo, hx, hy]
      simp [go_sem, h0, h1, h2, f0, f1, f2]
    unfold wpOp
    rw [ho]
    simp only
    rw [if_pos (hw.is ho)]
    left
    unfold Oper.wp
    rw [hrun]
    have e : a.put o.dst undef = a := by simp [hdn, Act.put]
    show K (a.put o.dst undef) _
    rw [e]
    exact hK
end
theorem an15_run {Q : Exit → Act → World → Prop} {w0 : World} {a0 : Act} (b off c : Nat) (k0 z0 : Int) (s0 : ByteArray) (hs0 : s0.size ≤ 4611686018427387904) (hn0 : In64 z0) (hW : Wd w0)
    (hsize : a0.tmps.size = 132) (hx2 : a0.tmps.getD 2 undef = .slice (some ⟨b, off, none⟩) 1 c)
    (hcel : ∀ X : World, Below w0.heap.size w0 X → X.cell? ⟨b, off, none⟩ = some (.int .u8 k0) ∧ X.cell? ⟨b, off + 1, none⟩ = some (.int .i64 z0) ∧ X.cell? ⟨b, off + 2, none⟩ = some (.string s0))
    (hend : ∀ (V : Nat → Value) (p q : Nat) (X : World), Below w0.heap.size w0 X → V 10 = .pointer (some ⟨p, 0, none⟩) → V 11 = .pointer (some ⟨q, 0, none⟩) → BoxT X p (1, intV k0 z0 s0, ⟨#[]⟩) → BoxT X q (2, 0, textV k0 z0 s0) → Q .normal ⟨fillT an15Ops a0.tmps V, a0.defers⟩ X) :
    (Code.region 15 an15Ops true).wp Tryz.prog Q a0 w0 := by
  have e2 : ∀ (a : Act), (∀ t, t < a0.tmps.size → freeT an15Ops t = true → a.eval (.tmp t) = a0.tmps.getD t undef) → a.eval (.tmp 2) = .slice (some ⟨b, off, none⟩) 1 c := fun a h => (h 2 (by omega) (by kernel_rfl)).trans hx2
  refine wp_region_two (by kernel_rfl) (an15F b off c k0 z0 s0) 12 10 11 14 15 (an15F_mono b off c k0 z0 s0) (by kernel_rfl) (by omega) (by omega) (by omega) (by kernel_rfl) (by kernel_rfl) (by rw [hsize]; kernel_rfl) ?_ ?_ ?_ ?_ ?_ (by kernel_rfl) (by kernel_rfl)
  · intro g hg
    have d12 : depsO an15Ops 12 = [10, 4, 9, 0, 1, 2, 3, 4, 10, 11] := by kernel_rfl
    have d13 : depsO an15Ops 13 = [11, 9, 12, 0, 1, 2, 3, 4, 5, 6, 7, 8, 9, 10, 11, 12] := by kernel_rfl
    have d9 : 8 ∈ depsO an15Ops 9 := of_decide_eq_true (by kernel_rfl)
    have d8 : 7 ∈ depsO an15Ops 8 := of_decide_eq_true (by kernel_rfl)
    have d7 : 6 ∈ depsO an15Ops 7 := of_decide_eq_true (by kernel_rfl)
    have d6 : 5 ∈ depsO an15Ops 6 := of_decide_eq_true (by kernel_rfl)
    refine ⟨fun h j hj => ?_, fun h j hj => ?_⟩
    · rw [d12] at h
      have g9 := h 9 (by simp)
      have g8 := hg 9 g9 8 d9
      have g7 := hg 8 g8 7 d8
      have g6 := hg 7 g7 6 d7
      have g5 := hg 6 g6 5 d6
      match j, hj with
      | 0, _ => exact h 0 (by simp)
      | 1, _ => exact h 1 (by simp)
      | 2, _ => exact h 2 (by simp)
      | 3, _ => exact h 3 (by simp)
      | 4, _ => exact h 4 (by simp)
      | 5, _ => exact g5
      | 6, _ => exact g6
      | 7, _ => exact g7
      | 8, _ => exact g8
      | 9, _ => exact g9
      | 10, _ => exact h 10 (by simp)
      | 11, _ => exact h 11 (by simp)
    · rw [d13] at h
      exact h j (by
        match j, hj with
        | 0, _ => simp
        | 1, _ => simp
        | 2, _ => simp
        | 3, _ => simp
        | 4, _ => simp
        | 5, _ => simp
        | 6, _ => simp
        | 7, _ => simp
        | 8, _ => simp
        | 9, _ => simp
        | 10, _ => simp
        | 11, _ => simp
        | 12, _ => simp)
  · intro i hi h1 h2
    match i, hi with
    | 0, _ =>
      intro act w hb hk hF
      exact step_move (show opO an15Ops 0 = some (.move (.tmp 2)) by kernel_rfl) (.free (by kernel_rfl)) (e2 act hk) ⟨rfl, Below.refl _ _⟩
    | 1, _ =>
      intro act w hb hk hF
      have g81 : act.eval (.tmp 81) = .slice (some ⟨b, off, none⟩) 1 c := hF 0 (of_decide_eq_true (by kernel_rfl)) 81 (by kernel_rfl)
      exact step_ixT (show opO an15Ops 1 = some (.indexAddr 27 (.tmp 81) (.const (.int .i64 0))) by kernel_rfl) (.free (by kernel_rfl)) g81 ⟨rfl, Below.refl _ _⟩
    | 2, _ =>
      intro act w hb hk hF
      have g82 : act.eval (.tmp 82) = .pointer (some ⟨b, off, none⟩) := hF 1 (of_decide_eq_true (by kernel_rfl)) 82 (by kernel_rfl)
      obtain ⟨c0, c1, c2⟩ := hcel w hb
      exact step_loadT (show opO an15Ops 2 = some (.load 24 (.tmp 82)) by kernel_rfl) (.free (by kernel_rfl)) g82 c0 c1 c2 ⟨rfl, Below.refl _ _⟩
    | 3, _ =>
      intro act w hb hk hF
      have g83 : act.eval (.tmp 83) = vv k0 z0 s0 := hF 2 (of_decide_eq_true (by kernel_rfl)) 83 (by kernel_rfl)
      exact step_call (f := 41) (xs := #[.tmp 83]) (by kernel_rfl) (.free (by kernel_rfl)) (map1 g83) (enters_of Tryz.func41 (by kernel_rfl) rfl) ((Int_any k0 z0 s0 w hs0).mono fun e w' h => ⟨_, h.1, rfl, h.2⟩)
    | 4, _ =>
      intro act w hb hk hF
      have g84 : act.eval (.tmp 84) = .int .i64 (intV k0 z0 s0) := hF 3 (of_decide_eq_true (by kernel_rfl)) 84 (by kernel_rfl)
      exact step_call (f := 28) (xs := #[.tmp 84]) (by kernel_rfl) (.free (by kernel_rfl)) (map1 g84) (enters_of Tryz.func28 (by kernel_rfl) rfl) ((numA _ w).mono fun e w' h => ⟨_, h.1, rfl, h.2⟩)
    | 5, _ =>
      intro act w hb hk hF
      exact step_move (show opO an15Ops 5 = some (.move (.tmp 2)) by kernel_rfl) (.free (by kernel_rfl)) (e2 act hk) ⟨rfl, Below.refl _ _⟩
    | 6, _ =>
      intro act w hb hk hF
      have g81 : act.eval (.tmp 86) = .slice (some ⟨b, off, none⟩) 1 c := hF 5 (of_decide_eq_true (by kernel_rfl)) 86 (by kernel_rfl)
      exact step_ixT (show opO an15Ops 6 = some (.indexAddr 27 (.tmp 86) (.const (.int .i64 0))) by kernel_rfl) (.free (by kernel_rfl)) g81 ⟨rfl, Below.refl _ _⟩
    | 7, _ =>
      intro act w hb hk hF
      have g82 : act.eval (.tmp 87) = .pointer (some ⟨b, off, none⟩) := hF 6 (of_decide_eq_true (by kernel_rfl)) 87 (by kernel_rfl)
      obtain ⟨c0, c1, c2⟩ := hcel w hb
      exact step_loadT (show opO an15Ops 7 = some (.load 24 (.tmp 87)) by kernel_rfl) (.free (by kernel_rfl)) g82 c0 c1 c2 ⟨rfl, Below.refl _ _⟩
    | 8, _ =>
      intro act w hb hk hF
      have g83 : act.eval (.tmp 88) = vv k0 z0 s0 := hF 7 (of_decide_eq_true (by kernel_rfl)) 88 (by kernel_rfl)
      exact step_call (f := 42) (xs := #[.tmp 88]) (by kernel_rfl) (.free (by kernel_rfl)) (map1 g83) (enters_of Tryz.func42 (by kernel_rfl) rfl) ((Text_any k0 z0 s0 w hn0 (hW.on hb)).mono fun e w' h => ⟨_, h.1, rfl, h.2⟩)
    | 9, _ =>
      intro act w hb hk hF
      have g84 : act.eval (.tmp 89) = .string (textV k0 z0 s0) := hF 8 (of_decide_eq_true (by kernel_rfl)) 89 (by kernel_rfl)
      exact step_call (f := 31) (xs := #[.tmp 89]) (by kernel_rfl) (.free (by kernel_rfl)) (map1 g84) (enters_of Tryz.func31 (by kernel_rfl) rfl) ((textA _ w).mono fun e w' h => ⟨_, h.1, rfl, h.2⟩)
    | 10, _ => exact absurd rfl h1
    | 11, _ => exact absurd rfl h2
  · intro a w hC
    exact step_allocT (show opO an15Ops 10 = some (.alloc 24) by kernel_rfl) (.free (by kernel_rfl)) (by kernel_rfl) (fun v w h => h)
  · intro a w hC
    exact step_allocT (show opO an15Ops 11 = some (.alloc 24) by kernel_rfl) (.free (by kernel_rfl)) (by kernel_rfl) (fun v w h => h)
  · intro V p q w hC hp hq hpq hp0 hq0 hF
    have hk4 : V 4 = vv 1 (intV k0 z0 s0) ⟨#[]⟩ := hF 4 (by omega) (by kernel_rfl)
    have hk9 : V 9 = vv 2 0 (textV k0 z0 s0) := hF 9 (by omega) (by kernel_rfl)
    obtain ⟨p', hp', bp⟩ : ZeroF (V 10) w := hF 10 (by omega) (by kernel_rfl)
    obtain ⟨q', hq', bq⟩ : ZeroF (V 11) w := hF 11 (by omega) (by kernel_rfl)
    obtain rfl : p = p' := by
      rw [hp] at hp'
      injection hp' with h; injection h with h; injection h
    obtain rfl : q = q' := by
      rw [hq] at hq'
      injection hq' with h; injection h with h; injection h
    have ev : ∀ (t j : Nat), t < 132 → an15Ops.findIdx? (fun o => o.dst == some t) = some j → (⟨fillT an15Ops a0.tmps V, a0.defers⟩ : Act).eval (.tmp t) = V j := by
      intro t j ht hf
      show (fillT an15Ops a0.tmps V).getD t undef = V j
      have : t < a0.tmps.size := by omega
      simp [fillT, Array.getD, this, hf]
    refine step_storeT (show opO an15Ops 12 = some (.store 24 (.tmp 14) (.tmp 85)) by kernel_rfl) (.free (by kernel_rfl)) (by kernel_rfl) ((ev 14 10 (by omega) (by kernel_rfl)).trans hp) ((ev 85 4 (by omega) (by kernel_rfl)).trans hk4) bp ?_
    have bq2 : BoxT (((w.setCell ⟨p, 0, none⟩ (.int .u8 1)).setCell ⟨p, 1, none⟩ (.int .i64 (intV k0 z0 s0))).setCell ⟨p, 2, none⟩ (.string ⟨#[]⟩)) q (0, 0, ⟨#[]⟩) := (heap_set3 w p _ _ _ (Ne.symm hpq)).trans bq
    refine step_storeT (show opO an15Ops 13 = some (.store 24 (.tmp 15) (.tmp 90)) by kernel_rfl) (.free (by kernel_rfl)) (by kernel_rfl) ((ev 15 11 (by omega) (by kernel_rfl)).trans hq) ((ev 90 9 (by omega) (by kernel_rfl)).trans hk9) bq2 ?_
    refine hend V p q _ ?_ hp hq ((heap_set3 _ q _ _ _ hpq).trans (bp.set3 _ _ _)) (bq2.set3 _ _ _)
    exact (((((hC.setCell hp0 _).setCell hp0 _).setCell hp0 _).setCell hq0 _).setCell hq0 _).setCell hq0 _
end Go.Proofs.YtceknmibopnmhaaGreatDoor
