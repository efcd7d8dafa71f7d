/-
  Layer 13, eval: among's drawn region. Conditions: what is called tells what it tells.
  Layer 13, eval: among. Conditions: sizes; the library's variables are as its text lays them.
-/
import Derived.Test.YteijijoiifbjlaaGreatDoorEStep
import Derived.LoopTactic
import Derived.Deep.CutRange
namespace Go.Proofs.YteijijoiifbjlaaGreatDoor
open Go.ChangeShapes Go.WideShapes Go.ChangeAt Go.RowKit
set_option linter.unusedVariables false
set_option linter.unusedSimpArgs false
set_option maxRecDepth 100000

theorem region_asE {ops ops' : Array Oper} {P : Program} {Q : Exit → Act → World → Prop} {a : Act} {w : World} {id : Nat} {b : Bool} (h : ops = ops') (g : (Code.region id ops' b).wp P Q a w) : (Code.region id ops b).wp P Q a w := by
  subst h
  exact g
/-- a value stands there, from now on -/
def AtOn (w0 : World) (b o : Nat) (t : Trip) : Prop := ∀ w, Below w0.heap.size w0 w → w.cell? ⟨b, o, none⟩ = some (.int .u8 t.1) ∧ w.cell? ⟨b, o + 1, none⟩ = some (.int .i64 t.2.1) ∧ w.cell? ⟨b, o + 2, none⟩ = some (.string t.2.2)
/-- what Op tells of two, from now on -/
def OpOn (w0 : World) (g : ByteArray) (a b : Trip) (r : Rv) : Prop := ∀ w, Below w0.heap.size w0 w → Calls Tryz.prog 77 #[.string g, vT a, vT b] w (RetV (vT r.1) r.2 w)
noncomputable def am5Ops : Array Oper := regOf Tryz.f57 5
theorem am5_fill {v0 v1 v2 v3 v4 v5 v6 v7 v8 v9 v10 v11 v12 v13 v14 v15 v16 v17 v18 v19 v20 v21 v22 v23 v24 v25 v26 v27 v28 v29 v30 v31 v32 v33 v34 v35 v36 v37 v38 v39 v40 v41 v42 v43 v44 v45 : Value} (V : Nat → Value) : fillT am5Ops #[v0, v1, v2, v3, v4, v5, v6, v7, v8, v9, v10, v11, v12, v13, v14, v15, v16, v17, v18, v19, v20, v21, v22, v23, v24, v25, v26, v27, v28, v29, v30, v31, v32, v33, v34, v35, v36, v37, v38, v39, v40, v41, v42, v43, v44, v45] V = #[v0, v1, v2, v3, v4, v5, v6, v7, v8, V 8, V 10, v11, v12, v13, v14, v15, v16, v17, v18, V 5, V 0, V 1, V 2, V 3, V 4, V 6, V 7, v27, v28, v29, v30, v31, v32, v33, v34, v35, v36, v37, v38, v39, v40, v41, v42, v43, v44, v45] := by
  kernel_rfl
def am5L (b o len c p8 : Nat) (t0 t1 : Trip) (r : Rv) : List (Value → World → Prop) := [IsV (.slice (some ⟨b, o, none⟩) len c), IsV (.pointer (some ⟨b, o + 0 * 3, none⟩)), IsV (vT t0), IsV (vT t1), IsV (.tuple #[vT r.1, .int .i64 r.2]), IsV (.tuple #[vT r.1, .int .i64 r.2]), IsV (vT r.1), IsV (.int .i64 r.2), AnyF, AnyF, IsV (.int .i64 r.2)]
def am5F (b o len c p8 : Nat) (t0 t1 : Trip) (r : Rv) (i : Nat) : Value → World → Prop := (am5L b o len c p8 t0 t1 r).getD i AnyF
theorem am5F_mono (b o len c p8 : Nat) (t0 t1 : Trip) (r : Rv) (i : Nat) (v : Value) (w w' : World) (hp : (am5F b o len c p8 t0 t1 r) i v w) (hb : Below w.heap.size w w') : (am5F b o len c p8 t0 t1 r) i v w' := by
  refine monoL ?_ i v w w' hp hb
  unfold am5L
  simp only [List.forall_mem_cons]
  exact ⟨mono_isV _, mono_isV _, mono_isV _, mono_isV _, mono_isV _, mono_isV _, mono_isV _, mono_isV _, mono_any, mono_any, mono_isV _, fun _ h => by cases h⟩
def am5Fl (i : Nat) : Bool := ([true, true, true, true, true, true, true, true, true, true, true] : List Bool).getD i false
theorem am5F_flat (b o len c p8 : Nat) (t0 t1 : Trip) (r : Rv) (i : Nat) (hi : am5Fl i = true) (v : Value) (w w' : World) (hp : (am5F b o len c p8 t0 t1 r) i v w) : (am5F b o len c p8 t0 t1 r) i v w' := by
  unfold am5Fl at hi
  unfold am5F am5L at hp ⊢
  match i, hi with
  | 0, _ => exact hp
  | 1, _ => exact hp
  | 2, _ => exact hp
  | 3, _ => exact hp
  | 4, _ => exact hp
  | 5, _ => exact hp
  | 6, _ => exact hp
  | 7, _ => exact hp
  | 8, _ => exact hp
  | 9, _ => exact hp
  | 10, _ => exact hp
  | i + 11, h => simp at h
theorem am5_s0 {Q : Exit → Act → World → Prop} {w0 : World} {xs : Nat → Value} (b o len c p8 : Nat) (t0 t1 : Trip) (r : Rv) (hlen : 0 < len) (h0 : AtOn w0 b o t0) (h1 : AtOn w0 p8 0 t1) (hc : OpOn w0 sEq t0 t1 r) (hx1 : xs 1 = .slice (some ⟨b, o, none⟩) len c) (hx8 : xs 8 = .pointer (some ⟨p8, 0, none⟩)) : OpStep Tryz.prog am5Ops Q (am5F b o len c p8 t0 t1 r) w0 46 xs 0 := by
  intro act w hb hk hF
  have g1 : act.eval (.tmp 1) = .slice (some ⟨b, o, none⟩) len c := (hk 1 (by decide) (by kernel_rfl)).trans hx1
  exact step_move (show opO am5Ops 0 = some (.move (.tmp 1)) by kernel_rfl) (.free (by kernel_rfl)) g1 ⟨rfl, Below.refl _ _⟩
theorem am5_s1 {Q : Exit → Act → World → Prop} {w0 : World} {xs : Nat → Value} (b o len c p8 : Nat) (t0 t1 : Trip) (r : Rv) (hlen : 0 < len) (h0 : AtOn w0 b o t0) (h1 : AtOn w0 p8 0 t1) (hc : OpOn w0 sEq t0 t1 r) (hx1 : xs 1 = .slice (some ⟨b, o, none⟩) len c) (hx8 : xs 8 = .pointer (some ⟨p8, 0, none⟩)) : OpStep Tryz.prog am5Ops Q (am5F b o len c p8 t0 t1 r) w0 46 xs 1 := by
  intro act w hb hk hF
  have g20 : act.eval (.tmp 20) = .slice (some ⟨b, o, none⟩) len c := hF 0 (of_decide_eq_true (by kernel_rfl)) 20 (by kernel_rfl)
  exact step_ixT (show opO am5Ops 1 = some (.indexAddr 27 (.tmp 20) (.const (.int .i64 0))) by kernel_rfl) (.free (by kernel_rfl)) g20 (show _ = Value.int .i64 ((0 : Nat) : Int) from rfl) hlen ⟨rfl, Below.refl _ _⟩
theorem am5_s2 {Q : Exit → Act → World → Prop} {w0 : World} {xs : Nat → Value} (b o len c p8 : Nat) (t0 t1 : Trip) (r : Rv) (hlen : 0 < len) (h0 : AtOn w0 b o t0) (h1 : AtOn w0 p8 0 t1) (hc : OpOn w0 sEq t0 t1 r) (hx1 : xs 1 = .slice (some ⟨b, o, none⟩) len c) (hx8 : xs 8 = .pointer (some ⟨p8, 0, none⟩)) : OpStep Tryz.prog am5Ops Q (am5F b o len c p8 t0 t1 r) w0 46 xs 2 := by
  intro act w hb hk hF
  have g21 : act.eval (.tmp 21) = .pointer (some ⟨b, o + 0 * 3, none⟩) := hF 1 (of_decide_eq_true (by kernel_rfl)) 21 (by kernel_rfl)
  exact step_loadT (show opO am5Ops 2 = some (.load 38 (.tmp 21)) by kernel_rfl) (.free (by kernel_rfl)) (by rw [g21]; rfl) (h0 w hb) ⟨rfl, Below.refl _ _⟩
theorem am5_s3 {Q : Exit → Act → World → Prop} {w0 : World} {xs : Nat → Value} (b o len c p8 : Nat) (t0 t1 : Trip) (r : Rv) (hlen : 0 < len) (h0 : AtOn w0 b o t0) (h1 : AtOn w0 p8 0 t1) (hc : OpOn w0 sEq t0 t1 r) (hx1 : xs 1 = .slice (some ⟨b, o, none⟩) len c) (hx8 : xs 8 = .pointer (some ⟨p8, 0, none⟩)) : OpStep Tryz.prog am5Ops Q (am5F b o len c p8 t0 t1 r) w0 46 xs 3 := by
  intro act w hb hk hF
  have g8 : act.eval (.tmp 8) = .pointer (some ⟨p8, 0, none⟩) := (hk 8 (by decide) (by kernel_rfl)).trans hx8
  exact step_loadT (show opO am5Ops 3 = some (.load 38 (.tmp 8)) by kernel_rfl) (.free (by kernel_rfl)) g8 (h1 w hb) ⟨rfl, Below.refl _ _⟩
theorem am5_s4 {Q : Exit → Act → World → Prop} {w0 : World} {xs : Nat → Value} (b o len c p8 : Nat) (t0 t1 : Trip) (r : Rv) (hlen : 0 < len) (h0 : AtOn w0 b o t0) (h1 : AtOn w0 p8 0 t1) (hc : OpOn w0 sEq t0 t1 r) (hx1 : xs 1 = .slice (some ⟨b, o, none⟩) len c) (hx8 : xs 8 = .pointer (some ⟨p8, 0, none⟩)) : OpStep Tryz.prog am5Ops Q (am5F b o len c p8 t0 t1 r) w0 46 xs 4 := by
  intro act w hb hk hF
  have g22 : act.eval (.tmp 22) = vT t0 := hF 2 (of_decide_eq_true (by kernel_rfl)) 22 (by kernel_rfl)
  have g23 : act.eval (.tmp 23) = vT t1 := hF 3 (of_decide_eq_true (by kernel_rfl)) 23 (by kernel_rfl)
  exact step_call (f := 77) (xs := #[.const (.string ⟨#[61]⟩), .tmp 22, .tmp 23]) (by kernel_rfl) (.free (by kernel_rfl)) (map3 rfl g22 g23) (enters_of Tryz.func77 (by kernel_rfl) rfl) ((hc w hb).mono fun e w' h => ⟨_, h.1, rfl, h.2⟩)
theorem am5_s5 {Q : Exit → Act → World → Prop} {w0 : World} {xs : Nat → Value} (b o len c p8 : Nat) (t0 t1 : Trip) (r : Rv) (hlen : 0 < len) (h0 : AtOn w0 b o t0) (h1 : AtOn w0 p8 0 t1) (hc : OpOn w0 sEq t0 t1 r) (hx1 : xs 1 = .slice (some ⟨b, o, none⟩) len c) (hx8 : xs 8 = .pointer (some ⟨p8, 0, none⟩)) : OpStep Tryz.prog am5Ops Q (am5F b o len c p8 t0 t1 r) w0 46 xs 5 := by
  intro act w hb hk hF
  have g24 : act.eval (.tmp 24) = .tuple #[vT r.1, .int .i64 r.2] := hF 4 (of_decide_eq_true (by kernel_rfl)) 24 (by kernel_rfl)
  exact step_move (show opO am5Ops 5 = some (.move (.tmp 24)) by kernel_rfl) (.free (by kernel_rfl)) g24 ⟨rfl, Below.refl _ _⟩
theorem am5_s6 {Q : Exit → Act → World → Prop} {w0 : World} {xs : Nat → Value} (b o len c p8 : Nat) (t0 t1 : Trip) (r : Rv) (hlen : 0 < len) (h0 : AtOn w0 b o t0) (h1 : AtOn w0 p8 0 t1) (hc : OpOn w0 sEq t0 t1 r) (hx1 : xs 1 = .slice (some ⟨b, o, none⟩) len c) (hx8 : xs 8 = .pointer (some ⟨p8, 0, none⟩)) : OpStep Tryz.prog am5Ops Q (am5F b o len c p8 t0 t1 r) w0 46 xs 6 := by
  intro act w hb hk hF
  have g19 : act.eval (.tmp 19) = .tuple #[vT r.1, .int .i64 r.2] := hF 5 (of_decide_eq_true (by kernel_rfl)) 19 (by kernel_rfl)
  exact step_extract (show opO am5Ops 6 = some (.extract (.tmp 19) 0) by kernel_rfl) (.free (by kernel_rfl)) g19 rfl ⟨rfl, Below.refl _ _⟩
theorem am5_s7 {Q : Exit → Act → World → Prop} {w0 : World} {xs : Nat → Value} (b o len c p8 : Nat) (t0 t1 : Trip) (r : Rv) (hlen : 0 < len) (h0 : AtOn w0 b o t0) (h1 : AtOn w0 p8 0 t1) (hc : OpOn w0 sEq t0 t1 r) (hx1 : xs 1 = .slice (some ⟨b, o, none⟩) len c) (hx8 : xs 8 = .pointer (some ⟨p8, 0, none⟩)) : OpStep Tryz.prog am5Ops Q (fun j v w => am5Fl j = true → (am5F b o len c p8 t0 t1 r) j v w) w0 46 xs 7 := by
  intro act w hb hk hF
  have g19 : act.eval (.tmp 19) = .tuple #[vT r.1, .int .i64 r.2] := (show am5Fl 5 = true → _ from hF 5 (of_decide_eq_true (by kernel_rfl)) 19 (by kernel_rfl)) (by kernel_rfl)
  exact step_extract (show opO am5Ops 7 = some (.extract (.tmp 19) 1) by kernel_rfl) (.free (by kernel_rfl)) g19 rfl ⟨fun _ => rfl, Below.refl _ _⟩
theorem am5_s10 {Q : Exit → Act → World → Prop} {w0 : World} {xs : Nat → Value} (b o len c p8 : Nat) (t0 t1 : Trip) (r : Rv) (hlen : 0 < len) (h0 : AtOn w0 b o t0) (h1 : AtOn w0 p8 0 t1) (hc : OpOn w0 sEq t0 t1 r) (hx1 : xs 1 = .slice (some ⟨b, o, none⟩) len c) (hx8 : xs 8 = .pointer (some ⟨p8, 0, none⟩)) : OpStep Tryz.prog am5Ops Q (fun j v w => am5Fl j = true → (am5F b o len c p8 t0 t1 r) j v w) w0 46 xs 10 := by
  intro act w hb hk hF
  have g26 : act.eval (.tmp 26) = .int .i64 r.2 := (show am5Fl 7 = true → _ from hF 7 (of_decide_eq_true (by kernel_rfl)) 26 (by kernel_rfl)) (by kernel_rfl)
  exact step_assign (show opO am5Ops 10 = some (.assign (.tmp 26)) by kernel_rfl) (.free (by kernel_rfl)) g26 ⟨fun _ => rfl, Below.refl _ _⟩
theorem am5 {Q : Exit → Act → World → Prop} {a0 : Act} {w0 : World} (b o len c p8 : Nat) (t0 t1 : Trip) (r : Rv) (hlen : 0 < len) (h0 : AtOn w0 b o t0) (h1 : AtOn w0 p8 0 t1) (hc : OpOn w0 sEq t0 t1 r) (hx1 : a0.tmps.getD 1 undef = .slice (some ⟨b, o, none⟩) len c) (hx8 : a0.tmps.getD 8 undef = .pointer (some ⟨p8, 0, none⟩)) (hs : a0.tmps.size = 46)
    (hend : ∀ (V : Nat → Value) (p : Nat) (X : World), Below w0.heap.size w0 X → V 8 = .pointer (some ⟨p, 0, none⟩) → w0.heap.size ≤ p → p < X.heap.size → BoxF p r.1 X → V 10 = .int .i64 r.2 → Q .normal ⟨fillT am5Ops a0.tmps V, a0.defers⟩ X) : (Code.region 5 am5Ops true).wp Tryz.prog Q a0 w0 := by
  refine wp_region_boxM (by kernel_rfl) (am5F b o len c p8 t0 t1 r) 8 9 9 NewAt (fun p w => BoxF p r.1 w) am5Fl (am5F_mono b o len c p8 t0 t1 r) (am5F_flat b o len c p8 t0 t1 r) (by kernel_rfl) (by kernel_rfl) (of_decide_eq_true (by kernel_rfl)) (of_decide_eq_true (by kernel_rfl)) (by decide) ?_ new_keep boxF_keep (by rw [hs]; kernel_rfl) ?_ ?_ ?_ ?_ ?_
  · have size_is : am5Ops.size = 11 := by kernel_rfl
    rw [size_is]
    intro i hi h1 h2
    have hq : ((List.range 11).all fun i => decide (i ∈ depsO am5Ops 9) || decide (i = 9) || am5Fl i) = true := by kernel_rfl
    have := List.all_eq_true.1 hq i (List.mem_range.2 hi)
    simp only [Bool.or_eq_true, decide_eq_true_eq] at this
    rcases this with (h | h) | h
    · exact absurd h h1
    · exact absurd h h2
    · exact h
  · rw [hs]
    have size_is : am5Ops.size = 11 := by kernel_rfl
    rw [size_is]
    intro i hi hne1 hne2 hdp
    have hall : ∀ j, j < 11 → j = i → OpStep Tryz.prog am5Ops Q (am5F b o len c p8 t0 t1 r) w0 46 (fun t => a0.tmps.getD t undef) j := by
      intro j hj hji
      match j, hj with
      | 0, _ => exact am5_s0 b o len c p8 t0 t1 r hlen h0 h1 hc hx1 hx8
      | 1, _ => exact am5_s1 b o len c p8 t0 t1 r hlen h0 h1 hc hx1 hx8
      | 2, _ => exact am5_s2 b o len c p8 t0 t1 r hlen h0 h1 hc hx1 hx8
      | 3, _ => exact am5_s3 b o len c p8 t0 t1 r hlen h0 h1 hc hx1 hx8
      | 4, _ => exact am5_s4 b o len c p8 t0 t1 r hlen h0 h1 hc hx1 hx8
      | 5, _ => exact am5_s5 b o len c p8 t0 t1 r hlen h0 h1 hc hx1 hx8
      | 6, _ => exact am5_s6 b o len c p8 t0 t1 r hlen h0 h1 hc hx1 hx8
      | 7, _ => exact absurd hdp (by rw [← hji]; decide)
      | 8, _ => exact absurd hji.symm hne1
      | 9, _ => exact absurd hji.symm hne2
      | 10, _ => exact absurd hdp (by rw [← hji]; decide)
      | q + 11, hj => exact absurd hj (by omega)
    exact hall i hi rfl
  · rw [hs]
    have size_is : am5Ops.size = 11 := by kernel_rfl
    rw [size_is]
    intro i hi hne1 hne2 hdp
    have hall : ∀ j, j < 11 → j = i → OpStep Tryz.prog am5Ops Q (fun j v w => am5Fl j = true → (am5F b o len c p8 t0 t1 r) j v w) w0 46 (fun t => a0.tmps.getD t undef) j := by
      intro j hj hji
      match j, hj with
      | 0, _ => exact absurd hdp (by rw [← hji]; exact fun h => h (by decide))
      | 1, _ => exact absurd hdp (by rw [← hji]; exact fun h => h (by decide))
      | 2, _ => exact absurd hdp (by rw [← hji]; exact fun h => h (by decide))
      | 3, _ => exact absurd hdp (by rw [← hji]; exact fun h => h (by decide))
      | 4, _ => exact absurd hdp (by rw [← hji]; exact fun h => h (by decide))
      | 5, _ => exact absurd hdp (by rw [← hji]; exact fun h => h (by decide))
      | 6, _ => exact absurd hdp (by rw [← hji]; exact fun h => h (by decide))
      | 7, _ => exact am5_s7 b o len c p8 t0 t1 r hlen h0 h1 hc hx1 hx8
      | 8, _ => exact absurd hji.symm hne1
      | 9, _ => exact absurd hji.symm hne2
      | 10, _ => exact am5_s10 b o len c p8 t0 t1 r hlen h0 h1 hc hx1 hx8
      | q + 11, hj => exact absurd hj (by omega)
    exact hall i hi rfl
  · intro a w hb
    exact step_allocV (by kernel_rfl) (.free (by kernel_rfl)) (by kernel_rfl) (fun _ _ => trivial)
  · intro act w p hb hp0 hp1 hp hn hF
    have gy : act.eval (.tmp 25) = vT r.1 := hF 6 (of_decide_eq_true (by kernel_rfl)) 25 (by kernel_rfl)
    exact step_storeF (show opO am5Ops 9 = some (.store 38 (.tmp 9) (.tmp 25)) by kernel_rfl) (.free (by kernel_rfl)) (by kernel_rfl) hp gy hb hp0 hp1 hn
  · intro V p X hb hp hp0 hp1 hB hV
    exact hend V p X hb hp hp0 hp1 hB (hV 10 (of_decide_eq_true (by kernel_rfl)) (by kernel_rfl) (by kernel_rfl))
end Go.Proofs.YteijijoiifbjlaaGreatDoor

namespace Go.Proofs.YteijijoiifbjlaaGreatDoor
open Go.ChangeShapes Go.WideShapes Go.ChangeAt Go.RowKit
set_option linter.unusedVariables false
set_option linter.unusedSimpArgs false
set_option maxRecDepth 100000

/-- a value's cells behind a call -/
theorem atOn_of {w : World} {b o : Nat} {t : Trip} (h : w.cell? ⟨b, o, none⟩ = some (.int .u8 t.1) ∧ w.cell? ⟨b, o + 1, none⟩ = some (.int .i64 t.2.1) ∧ w.cell? ⟨b, o + 2, none⟩ = some (.string t.2.2)) : AtOn w b o t := by
  intro X hX
  have hlt : b < w.heap.size := block_lt_of_cell h.1
  exact ⟨(hX.cell (p := ⟨b, o, none⟩) hlt).trans h.1, (hX.cell (p := ⟨b, o + 1, none⟩) hlt).trans h.2.1, (hX.cell (p := ⟨b, o + 2, none⟩) hlt).trans h.2.2⟩
theorem opX_or_ok {a b : Trip} : (opX sOr a b).2 = 0 ∨ (opX sOr a b).1 = nulT := by
  unfold opX
  split
  · exact .inr rfl
  · rw [if_neg (show ¬ sOr = sAnd by decide), if_pos rfl]; exact .inl rfl
theorem amL_step (a : Trip) : ∀ (l : List Trip) (i : Nat) (t q told : Trip), l[i]? = some t → amL a told (l.take i) = (q, 0) → amL a told (l.take (i + 1)) = (if (opX sEq a t).2 = 0 then ((opX sOr q (opX sEq a t).1).1, 0) else (nulT, (opX sEq a t).2))
  | [], i, t, q, told, h, _ => by simp at h
  | u :: r, 0, t, q, told, h, h0 => by
    obtain rfl := Option.some.inj h
    simp only [List.take_zero, amL] at h0
    obtain ⟨rfl, -⟩ := Prod.mk.inj h0
    simp only [List.take_succ_cons, List.take_zero, amL]
  | u :: r, i + 1, t, q, told, h, h0 => by
    simp only [List.take_succ_cons, amL] at h0 ⊢
    by_cases h1 : (opX sEq a u).2 = 0
    · rw [if_pos h1] at h0 ⊢
      exact amL_step a r i t q _ (by simpa using h) h0
    · rw [if_neg h1] at h0
      exact absurd (Prod.mk.inj h0).2 h1
theorem amL_stop (a : Trip) : ∀ (l : List Trip) (i : Nat) (told : Trip), (amL a told (l.take i)).2 ≠ 0 → amL a told l = amL a told (l.take i)
  | [], i, told, h => by simp
  | u :: r, 0, told, h => by simp [amL] at h
  | u :: r, i + 1, told, h => by
    simp only [List.take_succ_cons, amL] at h ⊢
    by_cases h1 : (opX sEq a u).2 = 0
    · rw [if_pos h1] at h ⊢
      rw [if_pos h1]
      exact amL_stop a r i _ h
    · rw [if_neg h1, if_neg h1]
theorem amX_eq (n : Int) (t0 : Trip) (l : List Trip) (q : Trip) (er : Int) (h : amL t0 (flagT false) l = (q, er)) : amX n (t0 :: l) = if er = 0 then (if n = 1 then oneX sNot q else (q, er)) else (q, er) := by
  show (if (amL t0 (flagT false) l).2 = 0 then (if n = 1 then oneX sNot (amL t0 (flagT false) l).1 else amL t0 (flagT false) l) else amL t0 (flagT false) l) = _
  rw [h]
def AmRel (a : Trip) (l : List Trip) (p6 q4 : Nat) (w2 : World) (v : Value) (wr : World) : Prop :=
  ∃ (i : Nat) (q : Trip), i ≤ l.length ∧ v = .int .i64 (i : Int) ∧ amL a (flagT false) (l.take i) = (q, 0) ∧ OkT q ∧ BoxF p6 q wr ∧ Below p6 w2 wr ∧ p6 < wr.heap.size
set_option maxHeartbeats 2000000 in
theorem am_tell (k : Int) (s t : ByteArray) (n a : Int) (A : Option Addr) (len cap : Nat) (w : World) (B : Option Addr) (c : Nat) (ts : List Trip) (hR : RdT w B ts) (hl : 2 ≤ ts.length) (hl2 : ts.length ≤ 100000) (hlc : ts.length ≤ c) (ho : ∀ t ∈ ts, OkT t) (hW : Wd w) :
    TellK 57 #[] k s t n a A len cap B c ts (amX n ts) w := by
  obtain ⟨t0, l, rfl⟩ : ∃ t0 l, ts = t0 :: l := by
    cases ts with
    | nil => simp at hl
    | cons t0 l => exact ⟨t0, l, rfl⟩
  have hl3 : l.length ≤ 100000 := by simp only [List.length_cons] at hl2; omega
  obtain ⟨b, o, rfl, hlt, y0⟩ := hR.first 0 t0 rfl
  simp only [Nat.zero_mul, Nat.add_zero] at y0
  rcases hR with hR | ⟨b', o', hbo, hR⟩
  · simp at hR
  obtain ⟨rfl, rfl⟩ : b = b' ∧ o = o' := by simpa using hbo
  obtain ⟨⟨⟨rk, rn, rs⟩, er⟩, hM⟩ : ∃ R, amX n (t0 :: l) = R := ⟨_, rfl⟩
  obtain ⟨w1, hw1⟩ : ∃ X, wE w k s t n a A len cap = X := ⟨_, rfl⟩
  have hE : ∀ X, Below w1.heap.size w1 X → ECell X w.heap.size 0 k s t n a A len cap := fun X h => by subst hw1; exact wE_cells w k s t n a A len cap X h
  have hO : ∀ X, Below w1.heap.size w1 X → BoxF (w.heap.size + 1) nulT X := fun X h => by
    subst hw1
    obtain ⟨a0, a1, a2, a3, a4, a5⟩ := wE_out w k s t n a A len cap X h
    exact ⟨⟨a0, a1, a2⟩, a3, a4, a5⟩
  have hB1 : Below w.heap.size w w1 := by subst hw1; exact wE_below w k s t n a A len cap
  have hs1 : w1.heap.size = w.heap.size + 2 := by subst hw1; exact wE_size w k s t n a A len cap
  unfold TellK
  rw [hM]
  have HM := Lib.hid hM
  have HF := Lib.hid (fun W => flag_any false W)
  have HOK := Lib.hid ho
  have HWD := Lib.hid hW
  have HRV := Lib.hid hR
  have HY0 := Lib.hid y0
  have HE := Lib.hid hE
  have HO := Lib.hid hO
  have HB1 := Lib.hid hB1
  have HS1 := Lib.hid hs1
  clear hM ho hW hR y0 hE hO hB1 hs1 hbo
  go_enter Tryz.func57, Tryz.ntmps57
  go_wp2_with (go_at_call 56; refine (HF.out _).mono ?_; rintro e wa ⟨rfl, ba⟩; have HBA := Lib.hid ba; clear ba)
  obtain ⟨w2, hw2⟩ : ∃ X, wa.alloc (.cells #[.int .u8 1, .int .i64 0, .string ⟨#[]⟩] 38) = X := ⟨_, rfl⟩
  have HP6 : Hid (BoxF wa.heap.size (flagT false) w2) := Lib.hid (by rw [← hw2]; exact BoxF.new wa 1 0 ⟨#[]⟩)
  have HB2 : Hid (Below w1.heap.size w1 w2) := Lib.hid (by rw [← hw2]; exact HBA.out.alloc HBA.out.size _)
  have HZ : Hid (w.heap.size + 2 ≤ wa.heap.size) := Lib.hid (by have := HBA.out.size; have := HS1.out; omega)
  try simp only [vT, flagT] at *
  try rw [hw2]
  clear hw2 hw1 HBA
  generalize wa.heap.size = p6 at *
  go_loopw [15] (fun v wr => AmRel t0 l p6 0 w2 v wr) (fun v _ => l.length - (intOf v).toNat)
  case atStart => exact ⟨0, flagT false, Nat.zero_le _, rfl, by simp [amL], okT_flag false, HP6.out, Below.refl _ _, HP6.out.lt⟩
  case round =>
    obtain ⟨i, q, hi, rfl, hq, hok, hbx, hb, hz⟩ := hrel
    have HBW := Lib.hid (HB1.out.trans ((HB2.out.mono HB1.out.size).trans (hb.mono (by have := HZ.out; omega))))
    by_cases hlt : i < l.length
    · obtain ⟨⟨k1, n1, s1⟩, ht⟩ : ∃ t1, l[i]? = some t1 := ⟨_, List.getElem?_eq_getElem hlt⟩
      obtain ⟨y1, y2, y3⟩ := (HRV.out.on HBW.out).2 (i + 1) k1 n1 s1 (by simpa using ht)
      rw [show o + (i + 1) * 3 = o + 3 + i * 3 by omega] at y1 y2 y3
      have q1 : (i : Int) < (l.length : Int) := by omega
      have q2 : (0 : Int) ≤ (i : Int) := by omega
      have HI := Lib.hid hlt
      have HT := Lib.hid ht
      have HQ := Lib.hid hq
      have HK := Lib.hid hok
      have HX := Lib.hid hbx
      have HB := Lib.hid hb
      clear hlt ht hq hok hbx hb
      go_upto_region 5 with (fail)
      obtain ⟨w3, hw3⟩ : ∃ X, wr.alloc (.cells #[.int .u8 k1, .int .i64 n1, .string s1] 38) = X := ⟨_, rfl⟩
      have hal : Below wr.heap.size wr w3 := by rw [← hw3]; exact (Below.refl _ _).alloc (Nat.le_refl _) _
      have hA8 : AtOn w3 wr.heap.size 0 (k1, n1, s1) := by
        rw [← hw3]
        exact atOn_of (BoxF.new wr k1 n1 s1).1
      rw [hw3]
      have HB3 := Lib.hid (HBW.out.trans (hal.mono HBW.out.size))
      have hA0 : AtOn w3 b o t0 := atOn_of (atOn_of HY0.out w3 HB3.out)
      obtain ⟨⟨⟨ek, en, es⟩, ee⟩, hr⟩ : ∃ r, opX sEq t0 (k1, n1, s1) = r := ⟨_, rfl⟩
      have hO1 : OkT (k1, n1, s1) := HOK.out _ (List.mem_cons_of_mem _ (List.mem_of_getElem? HT.out))
      have hO0 : OkT t0 := HOK.out _ List.mem_cons_self
      have hOp : OpOn w3 sEq t0 (k1, n1, s1) ((ek, en, es), ee) := fun X hX => by rw [← hr]; exact op_is sEq hO0 hO1 X (HWD.out.on (HB3.out.trans (hX.mono HB3.out.size)))
      have hEO : OkT (ek, en, es) := by have := opX_ok sEq hO0 hO1; rw [hr] at this; exact this
      have HX3 := Lib.hid (HX.out.on hal)
      have HST := Lib.hid (amL_step t0 l i _ q _ HT.out HQ.out)
      rw [hr] at HST
      have HEO := Lib.hid hEO
      have hzr : p6 < w3.heap.size := HX3.out.lt
      have HAL := Lib.hid (HB.out.trans (hal.mono (Nat.le_of_lt hz)))
      clear hw3 hr hO1 hO0 hEO hal y1 y2 y3
      refine region_asE (ops' := am5Ops) (by kernel_rfl) ?_
      refine am5 b o (l.length + 1) c wr.heap.size t0 (k1, n1, s1) ((ek, en, es), ee) (by omega) hA0 hA8 hOp rfl rfl rfl ?_
      intro V p X hbX hVp hp0 hp1 hbx9 hV10
      rw [am5_fill V, hVp, hV10]
      have HB4 := Lib.hid (HB3.out.trans (hbX.mono HB3.out.size))
      have HX4 := Lib.hid (HX3.out.on hbX)
      have HA4 := Lib.hid (HAL.out.trans (hbX.mono (Nat.le_of_lt hzr)))
      clear hA0 hA8 hOp HX3 HB3 HAL
      by_cases h0 : ee = 0
      · subst h0
        obtain ⟨⟨x0, x1, x2⟩, -⟩ := hbx9
        obtain ⟨⟨z0, z1, z2⟩, f0, f1, f2⟩ := HX4.out
        obtain ⟨⟨⟨ok, on, os⟩, oe⟩, ho⟩ : ∃ r, opX sOr q (ek, en, es) = r := ⟨_, rfl⟩
        have HOP := Lib.hid (op_is sOr HK.out HEO.out)
        rw [ho] at HOP
        have hOO : OkT (ok, on, os) := by have := opX_ok sOr HK.out HEO.out; rw [ho] at this; exact this
        have HOO := Lib.hid hOO
        rw [if_pos rfl, ho] at HST
        obtain ⟨qk, qn, qs⟩ := q
        clear ho hOO
        go_wp2_with (go_at_call 77; refine (HOP.out _ (HWD.out.on HB4.out)).mono ?_; rintro e wb ⟨rfl, bb⟩; have HX5 := Lib.hid (HX4.out.on bb); have HBB := Lib.hid bb; obtain ⟨⟨m0, m1, m2⟩, n0, n1, n2⟩ := HX5.out; clear bb)
        have hrel2 : AmRel t0 l p6 0 w2 (.int .i64 ((i : Int) + 1)) (((wb.setCell ⟨p6, 0, none⟩ (.int .u8 ok)).setCell ⟨p6, 1, none⟩ (.int .i64 on)).setCell ⟨p6, 2, none⟩ (.string os)) :=
          ⟨i + 1, (ok, on, os), HI.out, rfl, HST.out, HOO.out, HX5.out.set ok on os, (((HA4.out.trans (HBB.out.mono (Nat.le_of_lt HX4.out.lt))).setCell (by show p6 ≤ p6; omega) _).setCell (by show p6 ≤ p6; omega) _).setCell (by show p6 ≤ p6; omega) _, (HX5.out.set ok on os).lt⟩
        exact ⟨⟨_, _, _, _, _, hrel2, rfl, rfl, rfl, rfl, rfl⟩, by
          have := HI.out
          simp [intOf]
          omega⟩
      · rw [if_neg h0] at HST
        have hq2 := amX_eq n t0 l nulT ee ((amL_stop t0 l (i + 1) (flagT false) (by rw [HST.out]; exact h0)).trans HST.out)
        rw [if_neg h0, HM.out] at hq2
        obtain ⟨h1, rfl⟩ := Prod.mk.inj hq2
        obtain ⟨rfl, h2⟩ := Prod.mk.inj h1
        obtain ⟨rfl, rfl⟩ := Prod.mk.inj h2
        obtain ⟨⟨z0, z1, z2⟩, f0, f1, f2⟩ := HO.out X (HB2.out.trans (HA4.out.mono (by have := HZ.out; have := HS1.out; omega)))
        have e0 : (er != 0) = true := by simpa using h0
        have e1 : (er == 0) = false := by simpa using h0
        have hz4 : w.heap.size + 1 < X.heap.size := block_lt_of_cell z0
        clear h0 hq2 h1 h2
        go_wp2_with fail
        exact bodyPost_ret (v := .tuple #[nul, .int .i64 er]) (by simp [results, Tryz.results57, go_sem, z0, z1, z2]) rfl ⟨rfl, ((HB4.out.setCell (by show w.heap.size ≤ w.heap.size + 1; omega) _).setCell (by show w.heap.size ≤ w.heap.size + 1; omega) _).setCell (by show w.heap.size ≤ w.heap.size + 1; omega) _⟩
    · obtain rfl : i = l.length := by omega
      rw [List.take_length] at hq
      have hq2 := amX_eq n t0 l q 0 hq
      rw [if_pos rfl] at hq2
      have q1 : ¬ ((l.length : Int) < (l.length : Int)) := by omega
      have hbr : Below w1.heap.size w1 wr := HB2.out.trans (hb.mono (by have := HZ.out; have := HS1.out; omega))
      obtain ⟨c0, c1, c2, c3, c4, c5⟩ := HE.out wr hbr
      obtain ⟨⟨z0, z1, z2⟩, f0, f1, f2⟩ := HO.out wr hbr
      have hz4 : w.heap.size + 1 < wr.heap.size := block_lt_of_cell z0
      obtain ⟨qk, qn, qs⟩ := q
      obtain ⟨⟨x0, x1, x2⟩, -⟩ := hbx
      have HBR := Lib.hid hbr
      have HOK2 := Lib.hid hok
      simp only [Nat.zero_add] at c0 c1 c2 c3 c4 c5
      clear hbr hb hq hok hlt
      by_cases h1 : n = 1
      · subst h1
        rw [if_pos rfl, HM.out] at hq2
        have HON := Lib.hid (fun W => one_is sNot HOK2.out W)
        rw [← hq2] at HON
        clear hq2
        go_wp2_with (go_at_call 76; refine (HON.out _).mono ?_; rintro e wb ⟨rfl, bb⟩; have HBB := Lib.hid bb; obtain ⟨⟨m0, m1, m2⟩, n0, n1, n2⟩ := HO.out wb (HBR.out.trans (bb.mono HBR.out.size)); have hz5 : w.heap.size + 1 < wb.heap.size := block_lt_of_cell m0; clear bb)
        exact bodyPost_ret (v := .tuple #[vv rk rn rs, .int .i64 er]) (by simp [results, Tryz.results57, go_sem, m0, m1, m2]) rfl ⟨rfl, (((HBW.out.trans (HBB.out.mono HBW.out.size)).setCell (by show w.heap.size ≤ w.heap.size + 1; omega) _).setCell (by show w.heap.size ≤ w.heap.size + 1; omega) _).setCell (by show w.heap.size ≤ w.heap.size + 1; omega) _⟩
      · rw [if_neg h1, HM.out] at hq2
        obtain ⟨h3, rfl⟩ := Prod.mk.inj hq2
        obtain ⟨rfl, h4⟩ := Prod.mk.inj h3
        obtain ⟨rfl, rfl⟩ := Prod.mk.inj h4
        have e1 : (n == 1) = false := by simpa using h1
        clear h1 hq2 h3 h4
        go_wp2_with fail
        exact bodyPost_ret (v := .tuple #[vv rk rn rs, .int .i64 0]) (by simp [results, Tryz.results57, go_sem, z0, z1, z2]) rfl ⟨rfl, ((HBW.out.setCell (by show w.heap.size ≤ w.heap.size + 1; omega) _).setCell (by show w.heap.size ≤ w.heap.size + 1; omega) _).setCell (by show w.heap.size ≤ w.heap.size + 1; omega) _⟩
end Go.Proofs.YteijijoiifbjlaaGreatDoor
