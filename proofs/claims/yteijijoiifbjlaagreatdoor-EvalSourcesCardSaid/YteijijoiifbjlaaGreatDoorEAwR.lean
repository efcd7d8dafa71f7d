/-
  Layer 13, eval: the statements' helper awake: its drawn regions. Conditions: the library's variables are as its text lays them.
-/
import Derived.Test.YteijijoiifbjlaaGreatDoorESaf
namespace Go.Proofs.YteijijoiifbjlaaGreatDoor
open Go.ChangeShapes Go.WideShapes Go.ChangeAt Go.RowKit
set_option linter.unusedVariables false
set_option linter.unusedSimpArgs false
set_option maxRecDepth 100000

/-- the cells of leaves -/
def lfC : List (Int × Int) → List Value
  | [] => []
  | (k, n) :: r => .int .u8 k :: .string ⟨#[]⟩ :: .string ⟨#[]⟩ :: .int .i64 n :: .int .i64 0 :: .slice none 0 0 :: lfC r
def lfL (l : List (Int × Int)) : List Ee := l.map fun p => lf p.1 p.2
section
variable {ops : Array Oper} {Q : Exit → Act → World → Prop} {i : Nat} {a : Act} {w : World} {R : Value → World → Prop}
theorem lfC_cell (w : World) (l : List (Int × Int)) (b : Nat) (m : Nat) (X : World) (hX : X = w.alloc (.cells (lfC l).toArray 25)) : True := trivial
/-- a slice of two leaves, of three -/
theorem step_lf2 {x y : Operand} {k1 n1 k2 n2 : Int} (hop : opO ops i = some (.buildSlice 23 2 #[(0, x), (1, y)])) (hw : Wanted ops i a) (hx : a.eval x = lfV k1 n1) (hy : a.eval y = lfV k2 n2)
    (hR : ∀ v w', IsK [lf k1 n1, lf k2 n2] v w' → Below w.heap.size w w' → R v w') : wpOp Tryz.prog ops Q i (fun a' w' => ∃ v, a' = a.put (dstO ops i) v ∧ R v w') a w := by
  refine step_run (v := .slice (some ⟨w.heap.size, 0, none⟩) 2 2) (w' := w.alloc (.cells #[.int .u8 k1, .string ⟨#[]⟩, .string ⟨#[]⟩, .int .i64 n1, .int .i64 0, .slice none 0 0, .int .u8 k2, .string ⟨#[]⟩, .string ⟨#[]⟩, .int .i64 n2, .int .i64 0, .slice none 0 0] 25)) hop hw (fun o ho => ?_) (hR _ _ ?_ ((Below.refl _ _).alloc (Nat.le_refl _) _))
  · simp only [execOp, ho, List.map_toArray, List.map_cons, List.map_nil, hx, hy]
    simp [go_sem]
  · refine ⟨_, 2, rfl, Nat.le_refl _, ?_⟩
    simp only [ExK]
    refine ⟨_, 0, rfl, ⟨none, 0, ⟨?_, ?_, ?_, ?_, ?_, ?_⟩, Nat.le_refl _, trivial⟩, _, 0 + 6, rfl, ⟨none, 0, ⟨?_, ?_, ?_, ?_, ?_, ?_⟩, Nat.le_refl _, trivial⟩, trivial⟩ <;> simp [go_sem]
theorem step_lf3 {x y z : Operand} {k1 n1 k2 n2 k3 n3 : Int} (hop : opO ops i = some (.buildSlice 23 3 #[(0, x), (1, y), (2, z)])) (hw : Wanted ops i a) (hx : a.eval x = lfV k1 n1) (hy : a.eval y = lfV k2 n2) (hz : a.eval z = lfV k3 n3)
    (hR : ∀ v w', IsK [lf k1 n1, lf k2 n2, lf k3 n3] v w' → Below w.heap.size w w' → R v w') : wpOp Tryz.prog ops Q i (fun a' w' => ∃ v, a' = a.put (dstO ops i) v ∧ R v w') a w := by
  refine step_run (v := .slice (some ⟨w.heap.size, 0, none⟩) 3 3) (w' := w.alloc (.cells #[.int .u8 k1, .string ⟨#[]⟩, .string ⟨#[]⟩, .int .i64 n1, .int .i64 0, .slice none 0 0, .int .u8 k2, .string ⟨#[]⟩, .string ⟨#[]⟩, .int .i64 n2, .int .i64 0, .slice none 0 0, .int .u8 k3, .string ⟨#[]⟩, .string ⟨#[]⟩, .int .i64 n3, .int .i64 0, .slice none 0 0] 25)) hop hw (fun o ho => ?_) (hR _ _ ?_ ((Below.refl _ _).alloc (Nat.le_refl _) _))
  · simp only [execOp, ho, List.map_toArray, List.map_cons, List.map_nil, hx, hy, hz]
    simp [go_sem]
  · refine ⟨_, 3, rfl, Nat.le_refl _, ?_⟩
    simp only [ExK]
    refine ⟨_, 0, rfl, ⟨none, 0, ⟨?_, ?_, ?_, ?_, ?_, ?_⟩, Nat.le_refl _, trivial⟩, _, 0 + 6, rfl, ⟨none, 0, ⟨?_, ?_, ?_, ?_, ?_, ?_⟩, Nat.le_refl _, trivial⟩, _, 0 + 6 + 6, rfl, ⟨none, 0, ⟨?_, ?_, ?_, ?_, ?_, ?_⟩, Nat.le_refl _, trivial⟩, trivial⟩ <;> simp [go_sem]
/-- one value in a slice, one row -/
theorem step_t1 {x : Operand} {k n : Int} {s : ByteArray} (hop : opO ops i = some (.buildSlice 27 1 #[(0, x)])) (hw : Wanted ops i a) (hx : a.eval x = vv k n s)
    (hR : ∀ v w', IsT [(k, n, s)] v w' → Below w.heap.size w w' → R v w') : wpOp Tryz.prog ops Q i (fun a' w' => ∃ v, a' = a.put (dstO ops i) v ∧ R v w') a w := by
  refine step_run (v := .slice (some ⟨w.heap.size, 0, none⟩) 1 1) (w' := w.alloc (box k n s)) hop hw (fun o ho => ?_) (hR _ _ ?_ ((Below.refl _ _).alloc (Nat.le_refl _) _))
  · simp only [execOp, ho, List.map_toArray, List.map_cons, List.map_nil, hx]
    simp [go_sem]
  · refine ⟨_, 1, rfl, Nat.le_refl _, .inr ⟨w.heap.size, 0, rfl, by simp, fun j k' n' s' hj => ?_⟩⟩
    match j, hj with
    | 0, hj =>
      obtain ⟨rfl, h2⟩ := Prod.mk.inj (Option.some.inj hj)
      obtain ⟨rfl, rfl⟩ := Prod.mk.inj h2
      refine ⟨?_, ?_, ?_⟩ <;> simp [go_sem]
    | j + 1, hj => simp at hj
theorem step_r1 {x : Operand} {l : List Trip} (hop : opO ops i = some (.buildSlice 26 1 #[(0, x)])) (hw : Wanted ops i a) (hx : IsT l (a.eval x) w)
    (hR : ∀ v w', IsR [l] v w' → Below w.heap.size w w' → R v w') : wpOp Tryz.prog ops Q i (fun a' w' => ∃ v, a' = a.put (dstO ops i) v ∧ R v w') a w := by
  obtain ⟨A, c, hA, hc, hl⟩ := hx
  have hal : ∀ o, Below w.heap.size w (w.alloc o) := fun o => (Below.refl _ _).alloc (Nat.le_refl _) _
  refine step_run (v := .slice (some ⟨w.heap.size, 0, none⟩) 1 1) (w' := w.alloc (.cells #[.slice A l.length c] 27)) hop hw (fun o ho => ?_) (hR _ _ ?_ (hal _))
  · simp only [execOp, ho, List.map_toArray, List.map_cons, List.map_nil, hA]
    simp [go_sem]
  · refine ⟨_, 1, rfl, Nat.le_refl _, .inr ⟨w.heap.size, 0, rfl, by simp, fun j r hj => ?_⟩⟩
    match j, hj with
    | 0, hj =>
      obtain rfl := Option.some.inj hj
      exact ⟨A, c, by simp [go_sem], hc, hl.on (hal _)⟩
    | j + 1, hj => simp at hj
/-- an Env of rows alone -/
theorem step_rX {x : Operand} {rs : List (List Trip)} (hop : opO ops i = some (.build 29 #[(0, x)])) (hw : Wanted ops i a) (hx : IsR rs (a.eval x) w)
    (hR : ∀ v, IsX ⟨rs, [], [], []⟩ v w → R v w) : wpOp Tryz.prog ops Q i (fun a' w' => ∃ v, a' = a.put (dstO ops i) v ∧ R v w') a w := by
  obtain ⟨A, c, hA, hc, hl⟩ := hx
  refine step_run (v := .agg #[.slice A rs.length c, .slice none 0 0, .slice none 0 0, .slice none 0 0]) hop hw (fun o ho => ?_) (hR _ ⟨A, c, none, 0, none, 0, none, 0, rfl, hl, .inl rfl, .inl rfl, .inl rfl⟩)
  simp only [execOp, ho, List.map_toArray, List.map_cons, List.map_nil, hA]
  simp [go_sem]
end
theorem fit_lf (k n : Int) (hn : In64 n) (hk : k ≠ 10) : Fit (lf k n) := by
  simp only [Fit, FitL, List.length_nil]
  exact ⟨hn, by omega, fun h => absurd h hk, trivial⟩
theorem fit_mk (k : Int) (s : ByteArray) (n a : Int) (l : List Ee) (hn : In64 n) (hk : k ≠ 10) (hl : l.length ≤ 100000) (h : ∀ e ∈ l, Fit e) : Fit (.mk k s ⟨#[]⟩ n a l) := by
  have : ∀ m : List Ee, (∀ e ∈ m, Fit e) → FitL m := by
    intro m
    induction m with
    | nil => intro _; simp only [FitL]
    | cons e r ih => intro h; simp only [FitL]; exact ⟨h e List.mem_cons_self, ih fun u hu => h u (List.mem_cons_of_mem _ hu)⟩
  simp only [Fit]
  exact ⟨hn, hl, fun h => absurd h hk, this l h⟩
theorem env0_ok : EnvOk env0 := ⟨by simp, fun r hr => by simp at hr, by simp, by simp, by simp⟩
theorem env0_t : EnvT env0 := ⟨fun r hr => by simp at hr, fun t ht => by simp at ht, fun t ht => by simp at ht, fun t ht => by simp at ht⟩
theorem env5_ok : EnvOk env5 := ⟨by simp, fun r hr => by simp at hr; subst hr; simp, by simp, by simp, by simp⟩
theorem env5_t : EnvT env5 := ⟨fun r hr t ht => by
  simp at hr; subst hr; simp at ht; subst ht; exact okT_int (by decide), fun t ht => by simp at ht, fun t ht => by simp at ht, fun t ht => by simp at ht⟩
/-- an expression comes to that, from now on -/
def EvOn (w0 : World) (x : EnvM) (e : Ee) (r : Rv) : Prop := ∀ (w : World) (v xv : Value), Below w0.heap.size w0 w → ExV w e v → EnvV w x xv → Calls Tryz.prog 10 #[v, xv] w (RetV (vT r.1) r.2 w)
theorem evOn_of {w0 : World} {x : EnvM} {e : Ee} {r : Rv} (hW : Wd w0) (hxo : EnvOk x) (hxt : EnvT x) (hf : Fit e) (hr : evX x e = r) : EvOn w0 x e r := fun w v xv hb hv hx => by
  rw [← hr]
  exact Eval_any x e hxo hxt hf v xv w (hW.on hb) hv hx

section
variable {ops : Array Oper} {Q : Exit → Act → World → Prop} {i : Nat} {a : Act} {w : World} {R : Value → World → Prop}
theorem step_vmax (hop : opO ops i = some (.build 38 #[(0, .const (.int .u8 1)), (1, .const (.int .i64 9223372036854775807))])) (hw : Wanted ops i a) (hR : R (vv 1 9223372036854775807 ⟨#[]⟩) w) : wpOp Tryz.prog ops Q i (fun a' w' => ∃ v, a' = a.put (dstO ops i) v ∧ R v w') a w := by
  refine step_run hop hw (fun o ho => ?_) hR
  simp only [execOp, ho, List.map_toArray, List.map_cons, List.map_nil]
  simp [go_sem, Act.eval]
end

noncomputable def aw2Ops : Array Oper := regOf Tryz.f8 2
theorem aw2_fill {v0 v1 v2 v3 v4 v5 v6 v7 v8 v9 v10 v11 v12 v13 v14 v15 v16 v17 v18 v19 v20 v21 v22 v23 v24 v25 v26 v27 v28 v29 v30 v31 v32 v33 v34 v35 v36 v37 v38 v39 v40 v41 v42 v43 v44 v45 v46 v47 v48 v49 v50 v51 v52 v53 v54 v55 v56 v57 v58 v59 v60 v61 v62 v63 v64 v65 v66 v67 v68 v69 v70 v71 v72 v73 v74 v75 v76 v77 v78 v79 v80 v81 v82 v83 v84 v85 v86 v87 v88 v89 v90 v91 v92 v93 v94 v95 v96 v97 v98 v99 v100 v101 v102 v103 v104 v105 v106 v107 v108 v109 v110 v111 : Value} (V : Nat → Value) : fillT aw2Ops #[v0, v1, v2, v3, v4, v5, v6, v7, v8, v9, v10, v11, v12, v13, v14, v15, v16, v17, v18, v19, v20, v21, v22, v23, v24, v25, v26, v27, v28, v29, v30, v31, v32, v33, v34, v35, v36, v37, v38, v39, v40, v41, v42, v43, v44, v45, v46, v47, v48, v49, v50, v51, v52, v53, v54, v55, v56, v57, v58, v59, v60, v61, v62, v63, v64, v65, v66, v67, v68, v69, v70, v71, v72, v73, v74, v75, v76, v77, v78, v79, v80, v81, v82, v83, v84, v85, v86, v87, v88, v89, v90, v91, v92, v93, v94, v95, v96, v97, v98, v99, v100, v101, v102, v103, v104, v105, v106, v107, v108, v109, v110, v111] V = #[v0, v1, V 10, V 12, v4, v5, v6, v7, v8, v9, v10, v11, v12, v13, v14, V 7, V 0, V 1, V 2, V 3, V 4, V 5, V 6, V 8, V 9, v25, v26, v27, v28, v29, v30, v31, v32, v33, v34, v35, v36, v37, v38, v39, v40, v41, v42, v43, v44, v45, v46, v47, v48, v49, v50, v51, v52, v53, v54, v55, v56, v57, v58, v59, v60, v61, v62, v63, v64, v65, v66, v67, v68, v69, v70, v71, v72, v73, v74, v75, v76, v77, v78, v79, v80, v81, v82, v83, v84, v85, v86, v87, v88, v89, v90, v91, v92, v93, v94, v95, v96, v97, v98, v99, v100, v101, v102, v103, v104, v105, v106, v107, v108, v109, v110, v111] := by
  kernel_rfl
def aw2L (p1 : Nat) : List (Value → World → Prop) := [IsV (lfV 2 2), IsV (lfV 2 1), IsV (lfV 1 0), IsK [lf 2 2, lf 2 1, lf 1 0], IsE (.mk 9 ⟨#[]⟩ ⟨#[]⟩ 0 0 [lf 2 2, lf 2 1, lf 1 0]), IsX env0, IsV (.tuple #[vT nulT, .int .i64 0]), IsV (.tuple #[vT nulT, .int .i64 0]), IsV (vT nulT), IsV (.int .i64 0), AnyF, AnyF, IsV (.int .i64 0)]
def aw2F (p1 : Nat) (i : Nat) : Value → World → Prop := (aw2L p1).getD i AnyF
theorem aw2F_mono (p1 : Nat) (i : Nat) (v : Value) (w w' : World) (hp : (aw2F p1) i v w) (hb : Below w.heap.size w w') : (aw2F p1) i v w' := by
  refine monoL ?_ i v w w' hp hb
  unfold aw2L
  simp only [List.forall_mem_cons]
  exact ⟨mono_isV _, mono_isV _, mono_isV _, mono_isK _, mono_isE _, mono_isX _, mono_isV _, mono_isV _, mono_isV _, mono_isV _, mono_any, mono_any, mono_isV _, fun _ h => by cases h⟩
def aw2Fl (i : Nat) : Bool := ([true, true, true, false, false, false, true, true, true, true, true, true, true] : List Bool).getD i false
theorem aw2F_flat (p1 : Nat) (i : Nat) (hi : aw2Fl i = true) (v : Value) (w w' : World) (hp : (aw2F p1) i v w) : (aw2F p1) i v w' := by
  unfold aw2Fl at hi
  unfold aw2F aw2L at hp ⊢
  match i, hi with
  | 0, _ => exact hp
  | 1, _ => exact hp
  | 2, _ => exact hp
  | 3, h => exact absurd h (by decide)
  | 4, h => exact absurd h (by decide)
  | 5, h => exact absurd h (by decide)
  | 6, _ => exact hp
  | 7, _ => exact hp
  | 8, _ => exact hp
  | 9, _ => exact hp
  | 10, _ => exact hp
  | 11, _ => exact hp
  | 12, _ => exact hp
  | i + 13, h => simp at h
theorem aw2_s0 {Q : Exit → Act → World → Prop} {w0 : World} {xs : Nat → Value} (p1 : Nat) (c1 : ECell w0 p1 0 1 ⟨#[]⟩ ⟨#[]⟩ 0 0 none 0 0) (hev : EvOn w0 env0 (.mk 9 ⟨#[]⟩ ⟨#[]⟩ 0 0 [lf 2 2, lf 2 1, lf 1 0]) (nulT, 0)) (hx1 : xs 1 = .pointer (some ⟨p1, 0, none⟩)) : OpStep Tryz.prog aw2Ops Q (aw2F p1) w0 112 xs 0 := by
  intro act w hb hk hF
  exact step_call (f := 16) (xs := #[.const (.int .i64 2)]) (by kernel_rfl) (.free (by kernel_rfl)) (map1 rfl) (enters_of Tryz.func16 (by kernel_rfl) rfl) ((num_any 2 w).mono fun e w' h => ⟨_, h.1, rfl, h.2⟩)
theorem aw2_s1 {Q : Exit → Act → World → Prop} {w0 : World} {xs : Nat → Value} (p1 : Nat) (c1 : ECell w0 p1 0 1 ⟨#[]⟩ ⟨#[]⟩ 0 0 none 0 0) (hev : EvOn w0 env0 (.mk 9 ⟨#[]⟩ ⟨#[]⟩ 0 0 [lf 2 2, lf 2 1, lf 1 0]) (nulT, 0)) (hx1 : xs 1 = .pointer (some ⟨p1, 0, none⟩)) : OpStep Tryz.prog aw2Ops Q (aw2F p1) w0 112 xs 1 := by
  intro act w hb hk hF
  exact step_call (f := 16) (xs := #[.const (.int .i64 1)]) (by kernel_rfl) (.free (by kernel_rfl)) (map1 rfl) (enters_of Tryz.func16 (by kernel_rfl) rfl) ((num_any 1 w).mono fun e w' h => ⟨_, h.1, rfl, h.2⟩)
theorem aw2_s2 {Q : Exit → Act → World → Prop} {w0 : World} {xs : Nat → Value} (p1 : Nat) (c1 : ECell w0 p1 0 1 ⟨#[]⟩ ⟨#[]⟩ 0 0 none 0 0) (hev : EvOn w0 env0 (.mk 9 ⟨#[]⟩ ⟨#[]⟩ 0 0 [lf 2 2, lf 2 1, lf 1 0]) (nulT, 0)) (hx1 : xs 1 = .pointer (some ⟨p1, 0, none⟩)) : OpStep Tryz.prog aw2Ops Q (aw2F p1) w0 112 xs 2 := by
  intro act w hb hk hF
  have g1 : act.eval (.tmp 1) = .pointer (some ⟨p1, 0, none⟩) := (hk 1 (by decide) (by kernel_rfl)).trans hx1
  exact step_loadE (show opO aw2Ops 2 = some (.load 25 (.tmp 1)) by kernel_rfl) (.free (by kernel_rfl)) g1 (c1.on hb) ⟨rfl, Below.refl _ _⟩
theorem aw2_s3 {Q : Exit → Act → World → Prop} {w0 : World} {xs : Nat → Value} (p1 : Nat) (c1 : ECell w0 p1 0 1 ⟨#[]⟩ ⟨#[]⟩ 0 0 none 0 0) (hev : EvOn w0 env0 (.mk 9 ⟨#[]⟩ ⟨#[]⟩ 0 0 [lf 2 2, lf 2 1, lf 1 0]) (nulT, 0)) (hx1 : xs 1 = .pointer (some ⟨p1, 0, none⟩)) : OpStep Tryz.prog aw2Ops Q (aw2F p1) w0 112 xs 3 := by
  intro act w hb hk hF
  have g16 : act.eval (.tmp 16) = lfV 2 2 := hF 0 (of_decide_eq_true (by kernel_rfl)) 16 (by kernel_rfl)
  have g17 : act.eval (.tmp 17) = lfV 2 1 := hF 1 (of_decide_eq_true (by kernel_rfl)) 17 (by kernel_rfl)
  have g18 : act.eval (.tmp 18) = lfV 1 0 := hF 2 (of_decide_eq_true (by kernel_rfl)) 18 (by kernel_rfl)
  exact step_lf3 (show opO aw2Ops 3 = some (.buildSlice 23 3 #[(0, .tmp 16), (1, .tmp 17), (2, .tmp 18)]) by kernel_rfl) (.free (by kernel_rfl)) g16 g17 g18 (fun v w' h1 h2 => ⟨h1, h2⟩)
theorem aw2_s4 {Q : Exit → Act → World → Prop} {w0 : World} {xs : Nat → Value} (p1 : Nat) (c1 : ECell w0 p1 0 1 ⟨#[]⟩ ⟨#[]⟩ 0 0 none 0 0) (hev : EvOn w0 env0 (.mk 9 ⟨#[]⟩ ⟨#[]⟩ 0 0 [lf 2 2, lf 2 1, lf 1 0]) (nulT, 0)) (hx1 : xs 1 = .pointer (some ⟨p1, 0, none⟩)) : OpStep Tryz.prog aw2Ops Q (aw2F p1) w0 112 xs 4 := by
  intro act w hb hk hF
  have g19 : IsK [lf 2 2, lf 2 1, lf 1 0] (act.eval (.tmp 19)) w := hF 3 (of_decide_eq_true (by kernel_rfl)) 19 (by kernel_rfl)
  exact step_call (f := 15) (xs := #[.const (.int .i64 0), .tmp 19]) (by kernel_rfl) (.free (by kernel_rfl)) (map2 rfl rfl) (enters_of Tryz.func15 (by kernel_rfl) rfl) ((inE_is 0 _ _ w g19).mono fun e w' ⟨v, h1, h2, h3⟩ => ⟨v, h1, h2, h3⟩)
theorem aw2_s5 {Q : Exit → Act → World → Prop} {w0 : World} {xs : Nat → Value} (p1 : Nat) (c1 : ECell w0 p1 0 1 ⟨#[]⟩ ⟨#[]⟩ 0 0 none 0 0) (hev : EvOn w0 env0 (.mk 9 ⟨#[]⟩ ⟨#[]⟩ 0 0 [lf 2 2, lf 2 1, lf 1 0]) (nulT, 0)) (hx1 : xs 1 = .pointer (some ⟨p1, 0, none⟩)) : OpStep Tryz.prog aw2Ops Q (aw2F p1) w0 112 xs 5 := by
  intro act w hb hk hF
  exact step_nulX (show opO aw2Ops 5 = some (.build 29 #[]) by kernel_rfl) (.free (by kernel_rfl)) ⟨env_nul _, Below.refl _ _⟩
theorem aw2_s6 {Q : Exit → Act → World → Prop} {w0 : World} {xs : Nat → Value} (p1 : Nat) (c1 : ECell w0 p1 0 1 ⟨#[]⟩ ⟨#[]⟩ 0 0 none 0 0) (hev : EvOn w0 env0 (.mk 9 ⟨#[]⟩ ⟨#[]⟩ 0 0 [lf 2 2, lf 2 1, lf 1 0]) (nulT, 0)) (hx1 : xs 1 = .pointer (some ⟨p1, 0, none⟩)) : OpStep Tryz.prog aw2Ops Q (aw2F p1) w0 112 xs 6 := by
  intro act w hb hk hF
  have g20 : IsE (.mk 9 ⟨#[]⟩ ⟨#[]⟩ 0 0 [lf 2 2, lf 2 1, lf 1 0]) (act.eval (.tmp 20)) w := hF 4 (of_decide_eq_true (by kernel_rfl)) 20 (by kernel_rfl)
  have g21 : IsX env0 (act.eval (.tmp 21)) w := hF 5 (of_decide_eq_true (by kernel_rfl)) 21 (by kernel_rfl)
  exact step_call (f := 10) (xs := #[.tmp 20, .tmp 21]) (by kernel_rfl) (.free (by kernel_rfl)) (map2 rfl rfl) (enters_of Tryz.func10 (by kernel_rfl) rfl) ((hev w _ _ hb g20 g21).mono fun e w' h => ⟨_, h.1, rfl, h.2⟩)
theorem aw2_s7 {Q : Exit → Act → World → Prop} {w0 : World} {xs : Nat → Value} (p1 : Nat) (c1 : ECell w0 p1 0 1 ⟨#[]⟩ ⟨#[]⟩ 0 0 none 0 0) (hev : EvOn w0 env0 (.mk 9 ⟨#[]⟩ ⟨#[]⟩ 0 0 [lf 2 2, lf 2 1, lf 1 0]) (nulT, 0)) (hx1 : xs 1 = .pointer (some ⟨p1, 0, none⟩)) : OpStep Tryz.prog aw2Ops Q (aw2F p1) w0 112 xs 7 := by
  intro act w hb hk hF
  have g22 : act.eval (.tmp 22) = .tuple #[vT nulT, .int .i64 0] := hF 6 (of_decide_eq_true (by kernel_rfl)) 22 (by kernel_rfl)
  exact step_move (show opO aw2Ops 7 = some (.move (.tmp 22)) by kernel_rfl) (.free (by kernel_rfl)) g22 ⟨rfl, Below.refl _ _⟩
theorem aw2_s8 {Q : Exit → Act → World → Prop} {w0 : World} {xs : Nat → Value} (p1 : Nat) (c1 : ECell w0 p1 0 1 ⟨#[]⟩ ⟨#[]⟩ 0 0 none 0 0) (hev : EvOn w0 env0 (.mk 9 ⟨#[]⟩ ⟨#[]⟩ 0 0 [lf 2 2, lf 2 1, lf 1 0]) (nulT, 0)) (hx1 : xs 1 = .pointer (some ⟨p1, 0, none⟩)) : OpStep Tryz.prog aw2Ops Q (aw2F p1) w0 112 xs 8 := by
  intro act w hb hk hF
  have g15 : act.eval (.tmp 15) = .tuple #[vT nulT, .int .i64 0] := hF 7 (of_decide_eq_true (by kernel_rfl)) 15 (by kernel_rfl)
  exact step_extract (show opO aw2Ops 8 = some (.extract (.tmp 15) 0) by kernel_rfl) (.free (by kernel_rfl)) g15 rfl ⟨rfl, Below.refl _ _⟩
theorem aw2_s9 {Q : Exit → Act → World → Prop} {w0 : World} {xs : Nat → Value} (p1 : Nat) (c1 : ECell w0 p1 0 1 ⟨#[]⟩ ⟨#[]⟩ 0 0 none 0 0) (hev : EvOn w0 env0 (.mk 9 ⟨#[]⟩ ⟨#[]⟩ 0 0 [lf 2 2, lf 2 1, lf 1 0]) (nulT, 0)) (hx1 : xs 1 = .pointer (some ⟨p1, 0, none⟩)) : OpStep Tryz.prog aw2Ops Q (fun j v w => aw2Fl j = true → (aw2F p1) j v w) w0 112 xs 9 := by
  intro act w hb hk hF
  have g15 : act.eval (.tmp 15) = .tuple #[vT nulT, .int .i64 0] := (show aw2Fl 7 = true → _ from hF 7 (of_decide_eq_true (by kernel_rfl)) 15 (by kernel_rfl)) (by kernel_rfl)
  exact step_extract (show opO aw2Ops 9 = some (.extract (.tmp 15) 1) by kernel_rfl) (.free (by kernel_rfl)) g15 rfl ⟨fun _ => rfl, Below.refl _ _⟩
theorem aw2_s12 {Q : Exit → Act → World → Prop} {w0 : World} {xs : Nat → Value} (p1 : Nat) (c1 : ECell w0 p1 0 1 ⟨#[]⟩ ⟨#[]⟩ 0 0 none 0 0) (hev : EvOn w0 env0 (.mk 9 ⟨#[]⟩ ⟨#[]⟩ 0 0 [lf 2 2, lf 2 1, lf 1 0]) (nulT, 0)) (hx1 : xs 1 = .pointer (some ⟨p1, 0, none⟩)) : OpStep Tryz.prog aw2Ops Q (fun j v w => aw2Fl j = true → (aw2F p1) j v w) w0 112 xs 12 := by
  intro act w hb hk hF
  have g24 : act.eval (.tmp 24) = .int .i64 0 := (show aw2Fl 9 = true → _ from hF 9 (of_decide_eq_true (by kernel_rfl)) 24 (by kernel_rfl)) (by kernel_rfl)
  exact step_assign (show opO aw2Ops 12 = some (.assign (.tmp 24)) by kernel_rfl) (.free (by kernel_rfl)) g24 ⟨fun _ => rfl, Below.refl _ _⟩
theorem aw2 {Q : Exit → Act → World → Prop} {a0 : Act} {w0 : World} (p1 : Nat) (c1 : ECell w0 p1 0 1 ⟨#[]⟩ ⟨#[]⟩ 0 0 none 0 0) (hev : EvOn w0 env0 (.mk 9 ⟨#[]⟩ ⟨#[]⟩ 0 0 [lf 2 2, lf 2 1, lf 1 0]) (nulT, 0)) (hx1 : a0.tmps.getD 1 undef = .pointer (some ⟨p1, 0, none⟩)) (hs : a0.tmps.size = 112)
    (hend : ∀ (V : Nat → Value) (p : Nat) (X : World), Below w0.heap.size w0 X → V 10 = .pointer (some ⟨p, 0, none⟩) → w0.heap.size ≤ p → p < X.heap.size → BoxF p nulT X → V 12 = .int .i64 0 → Q .normal ⟨fillT aw2Ops a0.tmps V, a0.defers⟩ X) : (Code.region 2 aw2Ops true).wp Tryz.prog Q a0 w0 := by
  refine wp_region_boxM (by kernel_rfl) (aw2F p1) 10 11 2 NewAt (fun p w => BoxF p nulT w) aw2Fl (aw2F_mono p1) (aw2F_flat p1) (by kernel_rfl) (by kernel_rfl) (of_decide_eq_true (by kernel_rfl)) (of_decide_eq_true (by kernel_rfl)) (by decide) ?_ new_keep boxF_keep (by rw [hs]; kernel_rfl) ?_ ?_ ?_ ?_ ?_
  · have size_is : aw2Ops.size = 13 := by kernel_rfl
    rw [size_is]
    intro i hi h1 h2
    have hq : ((List.range 13).all fun i => decide (i ∈ depsO aw2Ops 11) || decide (i = 11) || aw2Fl i) = true := by kernel_rfl
    have := List.all_eq_true.1 hq i (List.mem_range.2 hi)
    simp only [Bool.or_eq_true, decide_eq_true_eq] at this
    rcases this with (h | h) | h
    · exact absurd h h1
    · exact absurd h h2
    · exact h
  · rw [hs]
    have size_is : aw2Ops.size = 13 := by kernel_rfl
    rw [size_is]
    intro i hi hne1 hne2 hdp
    have hall : ∀ j, j < 13 → j = i → OpStep Tryz.prog aw2Ops Q (aw2F p1) w0 112 (fun t => a0.tmps.getD t undef) j := by
      intro j hj hji
      match j, hj with
      | 0, _ => exact aw2_s0 p1 c1 hev hx1
      | 1, _ => exact aw2_s1 p1 c1 hev hx1
      | 2, _ => exact aw2_s2 p1 c1 hev hx1
      | 3, _ => exact aw2_s3 p1 c1 hev hx1
      | 4, _ => exact aw2_s4 p1 c1 hev hx1
      | 5, _ => exact aw2_s5 p1 c1 hev hx1
      | 6, _ => exact aw2_s6 p1 c1 hev hx1
      | 7, _ => exact aw2_s7 p1 c1 hev hx1
      | 8, _ => exact aw2_s8 p1 c1 hev hx1
      | 9, _ => exact absurd hdp (by rw [← hji]; decide)
      | 10, _ => exact absurd hji.symm hne1
      | 11, _ => exact absurd hji.symm hne2
      | 12, _ => exact absurd hdp (by rw [← hji]; decide)
      | q + 13, hj => exact absurd hj (by omega)
    exact hall i hi rfl
  · rw [hs]
    have size_is : aw2Ops.size = 13 := by kernel_rfl
    rw [size_is]
    intro i hi hne1 hne2 hdp
    have hall : ∀ j, j < 13 → j = i → OpStep Tryz.prog aw2Ops Q (fun j v w => aw2Fl j = true → (aw2F p1) j v w) w0 112 (fun t => a0.tmps.getD t undef) j := by
      intro j hj hji
      match j, hj with
      | 0, _ => exact absurd hdp (by rw [← hji]; exact fun h => h (by decide))
      | 1, _ => exact absurd hdp (by rw [← hji]; exact fun h => h (by decide))
      | 2, _ => exact absurd hdp (by rw [← hji]; exact fun h => h (by decide))
      | 3, _ => exact absurd hdp (by rw [← hji]; exact fun h => h (by decide))
      | 4, _ => exact absurd hdp (by rw [← hji]; exact fun h => h (by decide))
      | 5, _ => exact absurd hdp (by rw [← hji]; exact fun h => h (by decide))
      | 6, _ => exact absurd hdp (by rw [← hji]; exact fun h => h (by decide))
      | 7, _ => exact absurd hdp (by rw [← hji]; exact fun h => h (by decide))
      | 8, _ => exact absurd hdp (by rw [← hji]; exact fun h => h (by decide))
      | 9, _ => exact aw2_s9 p1 c1 hev hx1
      | 10, _ => exact absurd hji.symm hne1
      | 11, _ => exact absurd hji.symm hne2
      | 12, _ => exact aw2_s12 p1 c1 hev hx1
      | q + 13, hj => exact absurd hj (by omega)
    exact hall i hi rfl
  · intro a w hb
    exact step_allocV (by kernel_rfl) (.free (by kernel_rfl)) (by kernel_rfl) (fun _ _ => trivial)
  · intro act w p hb hp0 hp1 hp hn hF
    have gy : act.eval (.tmp 23) = vT nulT := hF 8 (of_decide_eq_true (by kernel_rfl)) 23 (by kernel_rfl)
    exact step_storeF (show opO aw2Ops 11 = some (.store 38 (.tmp 2) (.tmp 23)) by kernel_rfl) (.free (by kernel_rfl)) (by kernel_rfl) hp gy hb hp0 hp1 hn
  · intro V p X hb hp hp0 hp1 hB hV
    exact hend V p X hb hp hp0 hp1 hB (hV 12 (of_decide_eq_true (by kernel_rfl)) (by kernel_rfl) (by kernel_rfl))
noncomputable def aw3Ops : Array Oper := regOf Tryz.f8 3
theorem aw3_fill {v0 v1 v2 v3 v4 v5 v6 v7 v8 v9 v10 v11 v12 v13 v14 v15 v16 v17 v18 v19 v20 v21 v22 v23 v24 v25 v26 v27 v28 v29 v30 v31 v32 v33 v34 v35 v36 v37 v38 v39 v40 v41 v42 v43 v44 v45 v46 v47 v48 v49 v50 v51 v52 v53 v54 v55 v56 v57 v58 v59 v60 v61 v62 v63 v64 v65 v66 v67 v68 v69 v70 v71 v72 v73 v74 v75 v76 v77 v78 v79 v80 v81 v82 v83 v84 v85 v86 v87 v88 v89 v90 v91 v92 v93 v94 v95 v96 v97 v98 v99 v100 v101 v102 v103 v104 v105 v106 v107 v108 v109 v110 v111 : Value} (V : Nat → Value) : fillT aw3Ops #[v0, v1, v2, v3, v4, v5, v6, v7, v8, v9, v10, v11, v12, v13, v14, v15, v16, v17, v18, v19, v20, v21, v22, v23, v24, v25, v26, v27, v28, v29, v30, v31, v32, v33, v34, v35, v36, v37, v38, v39, v40, v41, v42, v43, v44, v45, v46, v47, v48, v49, v50, v51, v52, v53, v54, v55, v56, v57, v58, v59, v60, v61, v62, v63, v64, v65, v66, v67, v68, v69, v70, v71, v72, v73, v74, v75, v76, v77, v78, v79, v80, v81, v82, v83, v84, v85, v86, v87, v88, v89, v90, v91, v92, v93, v94, v95, v96, v97, v98, v99, v100, v101, v102, v103, v104, v105, v106, v107, v108, v109, v110, v111] V = #[v0, v1, v2, v3, V 10, V 12, v6, v7, v8, v9, v10, v11, v12, v13, v14, v15, v16, v17, v18, v19, v20, v21, v22, v23, v24, V 7, V 0, V 1, V 2, V 3, V 4, V 5, V 6, V 8, V 9, v35, v36, v37, v38, v39, v40, v41, v42, v43, v44, v45, v46, v47, v48, v49, v50, v51, v52, v53, v54, v55, v56, v57, v58, v59, v60, v61, v62, v63, v64, v65, v66, v67, v68, v69, v70, v71, v72, v73, v74, v75, v76, v77, v78, v79, v80, v81, v82, v83, v84, v85, v86, v87, v88, v89, v90, v91, v92, v93, v94, v95, v96, v97, v98, v99, v100, v101, v102, v103, v104, v105, v106, v107, v108, v109, v110, v111] := by
  kernel_rfl
def aw3L (p1 : Nat) : List (Value → World → Prop) := [IsV (lfV 2 1), IsV (lfV 2 1), IsV (lfV 1 0), IsK [lf 2 1, lf 2 1, lf 1 0], IsE (.mk 9 ⟨#[]⟩ ⟨#[]⟩ 0 0 [lf 2 1, lf 2 1, lf 1 0]), IsX env0, IsV (.tuple #[vT (intT 1), .int .i64 0]), IsV (.tuple #[vT (intT 1), .int .i64 0]), IsV (vT (intT 1)), IsV (.int .i64 0), AnyF, AnyF, IsV (.int .i64 0)]
def aw3F (p1 : Nat) (i : Nat) : Value → World → Prop := (aw3L p1).getD i AnyF
theorem aw3F_mono (p1 : Nat) (i : Nat) (v : Value) (w w' : World) (hp : (aw3F p1) i v w) (hb : Below w.heap.size w w') : (aw3F p1) i v w' := by
  refine monoL ?_ i v w w' hp hb
  unfold aw3L
  simp only [List.forall_mem_cons]
  exact ⟨mono_isV _, mono_isV _, mono_isV _, mono_isK _, mono_isE _, mono_isX _, mono_isV _, mono_isV _, mono_isV _, mono_isV _, mono_any, mono_any, mono_isV _, fun _ h => by cases h⟩
def aw3Fl (i : Nat) : Bool := ([true, true, true, false, false, false, true, true, true, true, true, true, true] : List Bool).getD i false
theorem aw3F_flat (p1 : Nat) (i : Nat) (hi : aw3Fl i = true) (v : Value) (w w' : World) (hp : (aw3F p1) i v w) : (aw3F p1) i v w' := by
  unfold aw3Fl at hi
  unfold aw3F aw3L at hp ⊢
  match i, hi with
  | 0, _ => exact hp
  | 1, _ => exact hp
  | 2, _ => exact hp
  | 3, h => exact absurd h (by decide)
  | 4, h => exact absurd h (by decide)
  | 5, h => exact absurd h (by decide)
  | 6, _ => exact hp
  | 7, _ => exact hp
  | 8, _ => exact hp
  | 9, _ => exact hp
  | 10, _ => exact hp
  | 11, _ => exact hp
  | 12, _ => exact hp
  | i + 13, h => simp at h
theorem aw3_s0 {Q : Exit → Act → World → Prop} {w0 : World} {xs : Nat → Value} (p1 : Nat) (c1 : ECell w0 p1 0 1 ⟨#[]⟩ ⟨#[]⟩ 0 0 none 0 0) (hev : EvOn w0 env0 (.mk 9 ⟨#[]⟩ ⟨#[]⟩ 0 0 [lf 2 1, lf 2 1, lf 1 0]) (intT 1, 0)) (hx1 : xs 1 = .pointer (some ⟨p1, 0, none⟩)) : OpStep Tryz.prog aw3Ops Q (aw3F p1) w0 112 xs 0 := by
  intro act w hb hk hF
  exact step_call (f := 16) (xs := #[.const (.int .i64 1)]) (by kernel_rfl) (.free (by kernel_rfl)) (map1 rfl) (enters_of Tryz.func16 (by kernel_rfl) rfl) ((num_any 1 w).mono fun e w' h => ⟨_, h.1, rfl, h.2⟩)
theorem aw3_s1 {Q : Exit → Act → World → Prop} {w0 : World} {xs : Nat → Value} (p1 : Nat) (c1 : ECell w0 p1 0 1 ⟨#[]⟩ ⟨#[]⟩ 0 0 none 0 0) (hev : EvOn w0 env0 (.mk 9 ⟨#[]⟩ ⟨#[]⟩ 0 0 [lf 2 1, lf 2 1, lf 1 0]) (intT 1, 0)) (hx1 : xs 1 = .pointer (some ⟨p1, 0, none⟩)) : OpStep Tryz.prog aw3Ops Q (aw3F p1) w0 112 xs 1 := by
  intro act w hb hk hF
  exact step_call (f := 16) (xs := #[.const (.int .i64 1)]) (by kernel_rfl) (.free (by kernel_rfl)) (map1 rfl) (enters_of Tryz.func16 (by kernel_rfl) rfl) ((num_any 1 w).mono fun e w' h => ⟨_, h.1, rfl, h.2⟩)
theorem aw3_s2 {Q : Exit → Act → World → Prop} {w0 : World} {xs : Nat → Value} (p1 : Nat) (c1 : ECell w0 p1 0 1 ⟨#[]⟩ ⟨#[]⟩ 0 0 none 0 0) (hev : EvOn w0 env0 (.mk 9 ⟨#[]⟩ ⟨#[]⟩ 0 0 [lf 2 1, lf 2 1, lf 1 0]) (intT 1, 0)) (hx1 : xs 1 = .pointer (some ⟨p1, 0, none⟩)) : OpStep Tryz.prog aw3Ops Q (aw3F p1) w0 112 xs 2 := by
  intro act w hb hk hF
  have g1 : act.eval (.tmp 1) = .pointer (some ⟨p1, 0, none⟩) := (hk 1 (by decide) (by kernel_rfl)).trans hx1
  exact step_loadE (show opO aw3Ops 2 = some (.load 25 (.tmp 1)) by kernel_rfl) (.free (by kernel_rfl)) g1 (c1.on hb) ⟨rfl, Below.refl _ _⟩
theorem aw3_s3 {Q : Exit → Act → World → Prop} {w0 : World} {xs : Nat → Value} (p1 : Nat) (c1 : ECell w0 p1 0 1 ⟨#[]⟩ ⟨#[]⟩ 0 0 none 0 0) (hev : EvOn w0 env0 (.mk 9 ⟨#[]⟩ ⟨#[]⟩ 0 0 [lf 2 1, lf 2 1, lf 1 0]) (intT 1, 0)) (hx1 : xs 1 = .pointer (some ⟨p1, 0, none⟩)) : OpStep Tryz.prog aw3Ops Q (aw3F p1) w0 112 xs 3 := by
  intro act w hb hk hF
  have g26 : act.eval (.tmp 26) = lfV 2 1 := hF 0 (of_decide_eq_true (by kernel_rfl)) 26 (by kernel_rfl)
  have g27 : act.eval (.tmp 27) = lfV 2 1 := hF 1 (of_decide_eq_true (by kernel_rfl)) 27 (by kernel_rfl)
  have g28 : act.eval (.tmp 28) = lfV 1 0 := hF 2 (of_decide_eq_true (by kernel_rfl)) 28 (by kernel_rfl)
  exact step_lf3 (show opO aw3Ops 3 = some (.buildSlice 23 3 #[(0, .tmp 26), (1, .tmp 27), (2, .tmp 28)]) by kernel_rfl) (.free (by kernel_rfl)) g26 g27 g28 (fun v w' h1 h2 => ⟨h1, h2⟩)
theorem aw3_s4 {Q : Exit → Act → World → Prop} {w0 : World} {xs : Nat → Value} (p1 : Nat) (c1 : ECell w0 p1 0 1 ⟨#[]⟩ ⟨#[]⟩ 0 0 none 0 0) (hev : EvOn w0 env0 (.mk 9 ⟨#[]⟩ ⟨#[]⟩ 0 0 [lf 2 1, lf 2 1, lf 1 0]) (intT 1, 0)) (hx1 : xs 1 = .pointer (some ⟨p1, 0, none⟩)) : OpStep Tryz.prog aw3Ops Q (aw3F p1) w0 112 xs 4 := by
  intro act w hb hk hF
  have g29 : IsK [lf 2 1, lf 2 1, lf 1 0] (act.eval (.tmp 29)) w := hF 3 (of_decide_eq_true (by kernel_rfl)) 29 (by kernel_rfl)
  exact step_call (f := 15) (xs := #[.const (.int .i64 0), .tmp 29]) (by kernel_rfl) (.free (by kernel_rfl)) (map2 rfl rfl) (enters_of Tryz.func15 (by kernel_rfl) rfl) ((inE_is 0 _ _ w g29).mono fun e w' ⟨v, h1, h2, h3⟩ => ⟨v, h1, h2, h3⟩)
theorem aw3_s5 {Q : Exit → Act → World → Prop} {w0 : World} {xs : Nat → Value} (p1 : Nat) (c1 : ECell w0 p1 0 1 ⟨#[]⟩ ⟨#[]⟩ 0 0 none 0 0) (hev : EvOn w0 env0 (.mk 9 ⟨#[]⟩ ⟨#[]⟩ 0 0 [lf 2 1, lf 2 1, lf 1 0]) (intT 1, 0)) (hx1 : xs 1 = .pointer (some ⟨p1, 0, none⟩)) : OpStep Tryz.prog aw3Ops Q (aw3F p1) w0 112 xs 5 := by
  intro act w hb hk hF
  exact step_nulX (show opO aw3Ops 5 = some (.build 29 #[]) by kernel_rfl) (.free (by kernel_rfl)) ⟨env_nul _, Below.refl _ _⟩
theorem aw3_s6 {Q : Exit → Act → World → Prop} {w0 : World} {xs : Nat → Value} (p1 : Nat) (c1 : ECell w0 p1 0 1 ⟨#[]⟩ ⟨#[]⟩ 0 0 none 0 0) (hev : EvOn w0 env0 (.mk 9 ⟨#[]⟩ ⟨#[]⟩ 0 0 [lf 2 1, lf 2 1, lf 1 0]) (intT 1, 0)) (hx1 : xs 1 = .pointer (some ⟨p1, 0, none⟩)) : OpStep Tryz.prog aw3Ops Q (aw3F p1) w0 112 xs 6 := by
  intro act w hb hk hF
  have g30 : IsE (.mk 9 ⟨#[]⟩ ⟨#[]⟩ 0 0 [lf 2 1, lf 2 1, lf 1 0]) (act.eval (.tmp 30)) w := hF 4 (of_decide_eq_true (by kernel_rfl)) 30 (by kernel_rfl)
  have g31 : IsX env0 (act.eval (.tmp 31)) w := hF 5 (of_decide_eq_true (by kernel_rfl)) 31 (by kernel_rfl)
  exact step_call (f := 10) (xs := #[.tmp 30, .tmp 31]) (by kernel_rfl) (.free (by kernel_rfl)) (map2 rfl rfl) (enters_of Tryz.func10 (by kernel_rfl) rfl) ((hev w _ _ hb g30 g31).mono fun e w' h => ⟨_, h.1, rfl, h.2⟩)
theorem aw3_s7 {Q : Exit → Act → World → Prop} {w0 : World} {xs : Nat → Value} (p1 : Nat) (c1 : ECell w0 p1 0 1 ⟨#[]⟩ ⟨#[]⟩ 0 0 none 0 0) (hev : EvOn w0 env0 (.mk 9 ⟨#[]⟩ ⟨#[]⟩ 0 0 [lf 2 1, lf 2 1, lf 1 0]) (intT 1, 0)) (hx1 : xs 1 = .pointer (some ⟨p1, 0, none⟩)) : OpStep Tryz.prog aw3Ops Q (aw3F p1) w0 112 xs 7 := by
  intro act w hb hk hF
  have g32 : act.eval (.tmp 32) = .tuple #[vT (intT 1), .int .i64 0] := hF 6 (of_decide_eq_true (by kernel_rfl)) 32 (by kernel_rfl)
  exact step_move (show opO aw3Ops 7 = some (.move (.tmp 32)) by kernel_rfl) (.free (by kernel_rfl)) g32 ⟨rfl, Below.refl _ _⟩
theorem aw3_s8 {Q : Exit → Act → World → Prop} {w0 : World} {xs : Nat → Value} (p1 : Nat) (c1 : ECell w0 p1 0 1 ⟨#[]⟩ ⟨#[]⟩ 0 0 none 0 0) (hev : EvOn w0 env0 (.mk 9 ⟨#[]⟩ ⟨#[]⟩ 0 0 [lf 2 1, lf 2 1, lf 1 0]) (intT 1, 0)) (hx1 : xs 1 = .pointer (some ⟨p1, 0, none⟩)) : OpStep Tryz.prog aw3Ops Q (aw3F p1) w0 112 xs 8 := by
  intro act w hb hk hF
  have g25 : act.eval (.tmp 25) = .tuple #[vT (intT 1), .int .i64 0] := hF 7 (of_decide_eq_true (by kernel_rfl)) 25 (by kernel_rfl)
  exact step_extract (show opO aw3Ops 8 = some (.extract (.tmp 25) 0) by kernel_rfl) (.free (by kernel_rfl)) g25 rfl ⟨rfl, Below.refl _ _⟩
theorem aw3_s9 {Q : Exit → Act → World → Prop} {w0 : World} {xs : Nat → Value} (p1 : Nat) (c1 : ECell w0 p1 0 1 ⟨#[]⟩ ⟨#[]⟩ 0 0 none 0 0) (hev : EvOn w0 env0 (.mk 9 ⟨#[]⟩ ⟨#[]⟩ 0 0 [lf 2 1, lf 2 1, lf 1 0]) (intT 1, 0)) (hx1 : xs 1 = .pointer (some ⟨p1, 0, none⟩)) : OpStep Tryz.prog aw3Ops Q (fun j v w => aw3Fl j = true → (aw3F p1) j v w) w0 112 xs 9 := by
  intro act w hb hk hF
  have g25 : act.eval (.tmp 25) = .tuple #[vT (intT 1), .int .i64 0] := (show aw3Fl 7 = true → _ from hF 7 (of_decide_eq_true (by kernel_rfl)) 25 (by kernel_rfl)) (by kernel_rfl)
  exact step_extract (show opO aw3Ops 9 = some (.extract (.tmp 25) 1) by kernel_rfl) (.free (by kernel_rfl)) g25 rfl ⟨fun _ => rfl, Below.refl _ _⟩
theorem aw3_s12 {Q : Exit → Act → World → Prop} {w0 : World} {xs : Nat → Value} (p1 : Nat) (c1 : ECell w0 p1 0 1 ⟨#[]⟩ ⟨#[]⟩ 0 0 none 0 0) (hev : EvOn w0 env0 (.mk 9 ⟨#[]⟩ ⟨#[]⟩ 0 0 [lf 2 1, lf 2 1, lf 1 0]) (intT 1, 0)) (hx1 : xs 1 = .pointer (some ⟨p1, 0, none⟩)) : OpStep Tryz.prog aw3Ops Q (fun j v w => aw3Fl j = true → (aw3F p1) j v w) w0 112 xs 12 := by
  intro act w hb hk hF
  have g34 : act.eval (.tmp 34) = .int .i64 0 := (show aw3Fl 9 = true → _ from hF 9 (of_decide_eq_true (by kernel_rfl)) 34 (by kernel_rfl)) (by kernel_rfl)
  exact step_assign (show opO aw3Ops 12 = some (.assign (.tmp 34)) by kernel_rfl) (.free (by kernel_rfl)) g34 ⟨fun _ => rfl, Below.refl _ _⟩
theorem aw3 {Q : Exit → Act → World → Prop} {a0 : Act} {w0 : World} (p1 : Nat) (c1 : ECell w0 p1 0 1 ⟨#[]⟩ ⟨#[]⟩ 0 0 none 0 0) (hev : EvOn w0 env0 (.mk 9 ⟨#[]⟩ ⟨#[]⟩ 0 0 [lf 2 1, lf 2 1, lf 1 0]) (intT 1, 0)) (hx1 : a0.tmps.getD 1 undef = .pointer (some ⟨p1, 0, none⟩)) (hs : a0.tmps.size = 112)
    (hend : ∀ (V : Nat → Value) (p : Nat) (X : World), Below w0.heap.size w0 X → V 10 = .pointer (some ⟨p, 0, none⟩) → w0.heap.size ≤ p → p < X.heap.size → BoxF p (intT 1) X → V 12 = .int .i64 0 → Q .normal ⟨fillT aw3Ops a0.tmps V, a0.defers⟩ X) : (Code.region 3 aw3Ops true).wp Tryz.prog Q a0 w0 := by
  refine wp_region_boxM (by kernel_rfl) (aw3F p1) 10 11 4 NewAt (fun p w => BoxF p (intT 1) w) aw3Fl (aw3F_mono p1) (aw3F_flat p1) (by kernel_rfl) (by kernel_rfl) (of_decide_eq_true (by kernel_rfl)) (of_decide_eq_true (by kernel_rfl)) (by decide) ?_ new_keep boxF_keep (by rw [hs]; kernel_rfl) ?_ ?_ ?_ ?_ ?_
  · have size_is : aw3Ops.size = 13 := by kernel_rfl
    rw [size_is]
    intro i hi h1 h2
    have hq : ((List.range 13).all fun i => decide (i ∈ depsO aw3Ops 11) || decide (i = 11) || aw3Fl i) = true := by kernel_rfl
    have := List.all_eq_true.1 hq i (List.mem_range.2 hi)
    simp only [Bool.or_eq_true, decide_eq_true_eq] at this
    rcases this with (h | h) | h
    · exact absurd h h1
    · exact absurd h h2
    · exact h
  · rw [hs]
    have size_is : aw3Ops.size = 13 := by kernel_rfl
    rw [size_is]
    intro i hi hne1 hne2 hdp
    have hall : ∀ j, j < 13 → j = i → OpStep Tryz.prog aw3Ops Q (aw3F p1) w0 112 (fun t => a0.tmps.getD t undef) j := by
      intro j hj hji
      match j, hj with
      | 0, _ => exact aw3_s0 p1 c1 hev hx1
      | 1, _ => exact aw3_s1 p1 c1 hev hx1
      | 2, _ => exact aw3_s2 p1 c1 hev hx1
      | 3, _ => exact aw3_s3 p1 c1 hev hx1
      | 4, _ => exact aw3_s4 p1 c1 hev hx1
      | 5, _ => exact aw3_s5 p1 c1 hev hx1
      | 6, _ => exact aw3_s6 p1 c1 hev hx1
      | 7, _ => exact aw3_s7 p1 c1 hev hx1
      | 8, _ => exact aw3_s8 p1 c1 hev hx1
      | 9, _ => exact absurd hdp (by rw [← hji]; decide)
      | 10, _ => exact absurd hji.symm hne1
      | 11, _ => exact absurd hji.symm hne2
      | 12, _ => exact absurd hdp (by rw [← hji]; decide)
      | q + 13, hj => exact absurd hj (by omega)
    exact hall i hi rfl
  · rw [hs]
    have size_is : aw3Ops.size = 13 := by kernel_rfl
    rw [size_is]
    intro i hi hne1 hne2 hdp
    have hall : ∀ j, j < 13 → j = i → OpStep Tryz.prog aw3Ops Q (fun j v w => aw3Fl j = true → (aw3F p1) j v w) w0 112 (fun t => a0.tmps.getD t undef) j := by
      intro j hj hji
      match j, hj with
      | 0, _ => exact absurd hdp (by rw [← hji]; exact fun h => h (by decide))
      | 1, _ => exact absurd hdp (by rw [← hji]; exact fun h => h (by decide))
      | 2, _ => exact absurd hdp (by rw [← hji]; exact fun h => h (by decide))
      | 3, _ => exact absurd hdp (by rw [← hji]; exact fun h => h (by decide))
      | 4, _ => exact absurd hdp (by rw [← hji]; exact fun h => h (by decide))
      | 5, _ => exact absurd hdp (by rw [← hji]; exact fun h => h (by decide))
      | 6, _ => exact absurd hdp (by rw [← hji]; exact fun h => h (by decide))
      | 7, _ => exact absurd hdp (by rw [← hji]; exact fun h => h (by decide))
      | 8, _ => exact absurd hdp (by rw [← hji]; exact fun h => h (by decide))
      | 9, _ => exact aw3_s9 p1 c1 hev hx1
      | 10, _ => exact absurd hji.symm hne1
      | 11, _ => exact absurd hji.symm hne2
      | 12, _ => exact aw3_s12 p1 c1 hev hx1
      | q + 13, hj => exact absurd hj (by omega)
    exact hall i hi rfl
  · intro a w hb
    exact step_allocV (by kernel_rfl) (.free (by kernel_rfl)) (by kernel_rfl) (fun _ _ => trivial)
  · intro act w p hb hp0 hp1 hp hn hF
    have gy : act.eval (.tmp 33) = vT (intT 1) := hF 8 (of_decide_eq_true (by kernel_rfl)) 33 (by kernel_rfl)
    exact step_storeF (show opO aw3Ops 11 = some (.store 38 (.tmp 4) (.tmp 33)) by kernel_rfl) (.free (by kernel_rfl)) (by kernel_rfl) hp gy hb hp0 hp1 hn
  · intro V p X hb hp hp0 hp1 hB hV
    exact hend V p X hb hp hp0 hp1 hB (hV 12 (of_decide_eq_true (by kernel_rfl)) (by kernel_rfl) (by kernel_rfl))
noncomputable def aw7Ops : Array Oper := regOf Tryz.f8 7
theorem aw7_fill {v0 v1 v2 v3 v4 v5 v6 v7 v8 v9 v10 v11 v12 v13 v14 v15 v16 v17 v18 v19 v20 v21 v22 v23 v24 v25 v26 v27 v28 v29 v30 v31 v32 v33 v34 v35 v36 v37 v38 v39 v40 v41 v42 v43 v44 v45 v46 v47 v48 v49 v50 v51 v52 v53 v54 v55 v56 v57 v58 v59 v60 v61 v62 v63 v64 v65 v66 v67 v68 v69 v70 v71 v72 v73 v74 v75 v76 v77 v78 v79 v80 v81 v82 v83 v84 v85 v86 v87 v88 v89 v90 v91 v92 v93 v94 v95 v96 v97 v98 v99 v100 v101 v102 v103 v104 v105 v106 v107 v108 v109 v110 v111 : Value} (V : Nat → Value) : fillT aw7Ops #[v0, v1, v2, v3, v4, v5, v6, v7, v8, v9, v10, v11, v12, v13, v14, v15, v16, v17, v18, v19, v20, v21, v22, v23, v24, v25, v26, v27, v28, v29, v30, v31, v32, v33, v34, v35, v36, v37, v38, v39, v40, v41, v42, v43, v44, v45, v46, v47, v48, v49, v50, v51, v52, v53, v54, v55, v56, v57, v58, v59, v60, v61, v62, v63, v64, v65, v66, v67, v68, v69, v70, v71, v72, v73, v74, v75, v76, v77, v78, v79, v80, v81, v82, v83, v84, v85, v86, v87, v88, v89, v90, v91, v92, v93, v94, v95, v96, v97, v98, v99, v100, v101, v102, v103, v104, v105, v106, v107, v108, v109, v110, v111] V = #[v0, v1, v2, v3, v4, v5, v6, v7, v8, v9, v10, V 12, V 14, v13, v14, v15, v16, v17, v18, v19, v20, v21, v22, v23, v24, v25, v26, v27, v28, v29, v30, v31, v32, v33, v34, v35, v36, v37, v38, v39, v40, v41, v42, v43, v44, v45, v46, v47, v48, v49, v50, v51, V 9, V 0, V 1, V 2, V 3, V 4, V 5, V 6, V 7, V 8, V 10, V 11, v64, v65, v66, v67, v68, v69, v70, v71, v72, v73, v74, v75, v76, v77, v78, v79, v80, v81, v82, v83, v84, v85, v86, v87, v88, v89, v90, v91, v92, v93, v94, v95, v96, v97, v98, v99, v100, v101, v102, v103, v104, v105, v106, v107, v108, v109, v110, v111] := by
  kernel_rfl
def aw7L (p1 : Nat) : List (Value → World → Prop) := [IsV (lfV 2 1), IsV (lfV 13 0), IsK [lf 2 1, lf 13 0], IsE (.mk 7 sAdd ⟨#[]⟩ 0 0 [lf 2 1, lf 13 0]), IsV (vv 1 9223372036854775807 ⟨#[]⟩), IsT [intT 9223372036854775807], IsR ([[intT 9223372036854775807]]), IsX env5, IsV (.tuple #[vT nulT, .int .i64 20]), IsV (.tuple #[vT nulT, .int .i64 20]), IsV (vT nulT), IsV (.int .i64 20), AnyF, AnyF, IsV (.int .i64 20)]
def aw7F (p1 : Nat) (i : Nat) : Value → World → Prop := (aw7L p1).getD i AnyF
theorem aw7F_mono (p1 : Nat) (i : Nat) (v : Value) (w w' : World) (hp : (aw7F p1) i v w) (hb : Below w.heap.size w w') : (aw7F p1) i v w' := by
  refine monoL ?_ i v w w' hp hb
  unfold aw7L
  simp only [List.forall_mem_cons]
  exact ⟨mono_isV _, mono_isV _, mono_isK _, mono_isE _, mono_isV _, mono_isT _, mono_isR _, mono_isX _, mono_isV _, mono_isV _, mono_isV _, mono_isV _, mono_any, mono_any, mono_isV _, fun _ h => by cases h⟩
def aw7Fl (i : Nat) : Bool := ([true, true, false, false, true, false, false, false, true, true, true, true, true, true, true] : List Bool).getD i false
theorem aw7F_flat (p1 : Nat) (i : Nat) (hi : aw7Fl i = true) (v : Value) (w w' : World) (hp : (aw7F p1) i v w) : (aw7F p1) i v w' := by
  unfold aw7Fl at hi
  unfold aw7F aw7L at hp ⊢
  match i, hi with
  | 0, _ => exact hp
  | 1, _ => exact hp
  | 2, h => exact absurd h (by decide)
  | 3, h => exact absurd h (by decide)
  | 4, _ => exact hp
  | 5, h => exact absurd h (by decide)
  | 6, h => exact absurd h (by decide)
  | 7, h => exact absurd h (by decide)
  | 8, _ => exact hp
  | 9, _ => exact hp
  | 10, _ => exact hp
  | 11, _ => exact hp
  | 12, _ => exact hp
  | 13, _ => exact hp
  | 14, _ => exact hp
  | i + 15, h => simp at h
theorem aw7_s0 {Q : Exit → Act → World → Prop} {w0 : World} {xs : Nat → Value} (p1 : Nat) (c1 : ECell w0 p1 0 13 ⟨#[]⟩ ⟨#[]⟩ 0 0 none 0 0) (hev : EvOn w0 env5 (.mk 7 sAdd ⟨#[]⟩ 0 0 [lf 2 1, lf 13 0]) (nulT, 20)) (hx10 : xs 10 = .pointer (some ⟨p1, 0, none⟩)) : OpStep Tryz.prog aw7Ops Q (aw7F p1) w0 112 xs 0 := by
  intro act w hb hk hF
  exact step_call (f := 16) (xs := #[.const (.int .i64 1)]) (by kernel_rfl) (.free (by kernel_rfl)) (map1 rfl) (enters_of Tryz.func16 (by kernel_rfl) rfl) ((num_any 1 w).mono fun e w' h => ⟨_, h.1, rfl, h.2⟩)
theorem aw7_s1 {Q : Exit → Act → World → Prop} {w0 : World} {xs : Nat → Value} (p1 : Nat) (c1 : ECell w0 p1 0 13 ⟨#[]⟩ ⟨#[]⟩ 0 0 none 0 0) (hev : EvOn w0 env5 (.mk 7 sAdd ⟨#[]⟩ 0 0 [lf 2 1, lf 13 0]) (nulT, 20)) (hx10 : xs 10 = .pointer (some ⟨p1, 0, none⟩)) : OpStep Tryz.prog aw7Ops Q (aw7F p1) w0 112 xs 1 := by
  intro act w hb hk hF
  have g10 : act.eval (.tmp 10) = .pointer (some ⟨p1, 0, none⟩) := (hk 10 (by decide) (by kernel_rfl)).trans hx10
  exact step_loadE (show opO aw7Ops 1 = some (.load 25 (.tmp 10)) by kernel_rfl) (.free (by kernel_rfl)) g10 (c1.on hb) ⟨rfl, Below.refl _ _⟩
theorem aw7_s2 {Q : Exit → Act → World → Prop} {w0 : World} {xs : Nat → Value} (p1 : Nat) (c1 : ECell w0 p1 0 13 ⟨#[]⟩ ⟨#[]⟩ 0 0 none 0 0) (hev : EvOn w0 env5 (.mk 7 sAdd ⟨#[]⟩ 0 0 [lf 2 1, lf 13 0]) (nulT, 20)) (hx10 : xs 10 = .pointer (some ⟨p1, 0, none⟩)) : OpStep Tryz.prog aw7Ops Q (aw7F p1) w0 112 xs 2 := by
  intro act w hb hk hF
  have g53 : act.eval (.tmp 53) = lfV 2 1 := hF 0 (of_decide_eq_true (by kernel_rfl)) 53 (by kernel_rfl)
  have g54 : act.eval (.tmp 54) = lfV 13 0 := hF 1 (of_decide_eq_true (by kernel_rfl)) 54 (by kernel_rfl)
  exact step_lf2 (show opO aw7Ops 2 = some (.buildSlice 23 2 #[(0, .tmp 53), (1, .tmp 54)]) by kernel_rfl) (.free (by kernel_rfl)) g53 g54 (fun v w' h1 h2 => ⟨h1, h2⟩)
theorem aw7_s3 {Q : Exit → Act → World → Prop} {w0 : World} {xs : Nat → Value} (p1 : Nat) (c1 : ECell w0 p1 0 13 ⟨#[]⟩ ⟨#[]⟩ 0 0 none 0 0) (hev : EvOn w0 env5 (.mk 7 sAdd ⟨#[]⟩ 0 0 [lf 2 1, lf 13 0]) (nulT, 20)) (hx10 : xs 10 = .pointer (some ⟨p1, 0, none⟩)) : OpStep Tryz.prog aw7Ops Q (aw7F p1) w0 112 xs 3 := by
  intro act w hb hk hF
  have g55 : IsK [lf 2 1, lf 13 0] (act.eval (.tmp 55)) w := hF 2 (of_decide_eq_true (by kernel_rfl)) 55 (by kernel_rfl)
  exact step_call (f := 11) (xs := #[.const (.string ⟨#[43]⟩), .tmp 55]) (by kernel_rfl) (.free (by kernel_rfl)) (map2 rfl rfl) (enters_of Tryz.func11 (by kernel_rfl) rfl) ((opE_is sAdd _ _ w g55).mono fun e w' ⟨v, h1, h2, h3⟩ => ⟨v, h1, h2, h3⟩)
theorem aw7_s4 {Q : Exit → Act → World → Prop} {w0 : World} {xs : Nat → Value} (p1 : Nat) (c1 : ECell w0 p1 0 13 ⟨#[]⟩ ⟨#[]⟩ 0 0 none 0 0) (hev : EvOn w0 env5 (.mk 7 sAdd ⟨#[]⟩ 0 0 [lf 2 1, lf 13 0]) (nulT, 20)) (hx10 : xs 10 = .pointer (some ⟨p1, 0, none⟩)) : OpStep Tryz.prog aw7Ops Q (aw7F p1) w0 112 xs 4 := by
  intro act w hb hk hF
  exact step_vmax (show opO aw7Ops 4 = some (.build 38 #[(0, .const (.int .u8 1)), (1, .const (.int .i64 9223372036854775807))]) by kernel_rfl) (.free (by kernel_rfl)) ⟨rfl, Below.refl _ _⟩
theorem aw7_s5 {Q : Exit → Act → World → Prop} {w0 : World} {xs : Nat → Value} (p1 : Nat) (c1 : ECell w0 p1 0 13 ⟨#[]⟩ ⟨#[]⟩ 0 0 none 0 0) (hev : EvOn w0 env5 (.mk 7 sAdd ⟨#[]⟩ 0 0 [lf 2 1, lf 13 0]) (nulT, 20)) (hx10 : xs 10 = .pointer (some ⟨p1, 0, none⟩)) : OpStep Tryz.prog aw7Ops Q (aw7F p1) w0 112 xs 5 := by
  intro act w hb hk hF
  have g57 : act.eval (.tmp 57) = vv 1 9223372036854775807 ⟨#[]⟩ := hF 4 (of_decide_eq_true (by kernel_rfl)) 57 (by kernel_rfl)
  exact step_t1 (show opO aw7Ops 5 = some (.buildSlice 27 1 #[(0, .tmp 57)]) by kernel_rfl) (.free (by kernel_rfl)) g57 (fun v w' h1 h2 => ⟨h1, h2⟩)
theorem aw7_s6 {Q : Exit → Act → World → Prop} {w0 : World} {xs : Nat → Value} (p1 : Nat) (c1 : ECell w0 p1 0 13 ⟨#[]⟩ ⟨#[]⟩ 0 0 none 0 0) (hev : EvOn w0 env5 (.mk 7 sAdd ⟨#[]⟩ 0 0 [lf 2 1, lf 13 0]) (nulT, 20)) (hx10 : xs 10 = .pointer (some ⟨p1, 0, none⟩)) : OpStep Tryz.prog aw7Ops Q (aw7F p1) w0 112 xs 6 := by
  intro act w hb hk hF
  have g58 : IsT [intT 9223372036854775807] (act.eval (.tmp 58)) w := hF 5 (of_decide_eq_true (by kernel_rfl)) 58 (by kernel_rfl)
  exact step_r1 (show opO aw7Ops 6 = some (.buildSlice 26 1 #[(0, .tmp 58)]) by kernel_rfl) (.free (by kernel_rfl)) g58 (fun v w' h1 h2 => ⟨h1, h2⟩)
theorem aw7_s7 {Q : Exit → Act → World → Prop} {w0 : World} {xs : Nat → Value} (p1 : Nat) (c1 : ECell w0 p1 0 13 ⟨#[]⟩ ⟨#[]⟩ 0 0 none 0 0) (hev : EvOn w0 env5 (.mk 7 sAdd ⟨#[]⟩ 0 0 [lf 2 1, lf 13 0]) (nulT, 20)) (hx10 : xs 10 = .pointer (some ⟨p1, 0, none⟩)) : OpStep Tryz.prog aw7Ops Q (aw7F p1) w0 112 xs 7 := by
  intro act w hb hk hF
  have g59 : IsR ([[intT 9223372036854775807]]) (act.eval (.tmp 59)) w := hF 6 (of_decide_eq_true (by kernel_rfl)) 59 (by kernel_rfl)
  exact step_rX (show opO aw7Ops 7 = some (.build 29 #[(0, .tmp 59)]) by kernel_rfl) (.free (by kernel_rfl)) g59 (fun v h1 => ⟨h1, Below.refl _ _⟩)
theorem aw7_s8 {Q : Exit → Act → World → Prop} {w0 : World} {xs : Nat → Value} (p1 : Nat) (c1 : ECell w0 p1 0 13 ⟨#[]⟩ ⟨#[]⟩ 0 0 none 0 0) (hev : EvOn w0 env5 (.mk 7 sAdd ⟨#[]⟩ 0 0 [lf 2 1, lf 13 0]) (nulT, 20)) (hx10 : xs 10 = .pointer (some ⟨p1, 0, none⟩)) : OpStep Tryz.prog aw7Ops Q (aw7F p1) w0 112 xs 8 := by
  intro act w hb hk hF
  have g56 : IsE (.mk 7 sAdd ⟨#[]⟩ 0 0 [lf 2 1, lf 13 0]) (act.eval (.tmp 56)) w := hF 3 (of_decide_eq_true (by kernel_rfl)) 56 (by kernel_rfl)
  have g60 : IsX env5 (act.eval (.tmp 60)) w := hF 7 (of_decide_eq_true (by kernel_rfl)) 60 (by kernel_rfl)
  exact step_call (f := 10) (xs := #[.tmp 56, .tmp 60]) (by kernel_rfl) (.free (by kernel_rfl)) (map2 rfl rfl) (enters_of Tryz.func10 (by kernel_rfl) rfl) ((hev w _ _ hb g56 g60).mono fun e w' h => ⟨_, h.1, rfl, h.2⟩)
theorem aw7_s9 {Q : Exit → Act → World → Prop} {w0 : World} {xs : Nat → Value} (p1 : Nat) (c1 : ECell w0 p1 0 13 ⟨#[]⟩ ⟨#[]⟩ 0 0 none 0 0) (hev : EvOn w0 env5 (.mk 7 sAdd ⟨#[]⟩ 0 0 [lf 2 1, lf 13 0]) (nulT, 20)) (hx10 : xs 10 = .pointer (some ⟨p1, 0, none⟩)) : OpStep Tryz.prog aw7Ops Q (aw7F p1) w0 112 xs 9 := by
  intro act w hb hk hF
  have g61 : act.eval (.tmp 61) = .tuple #[vT nulT, .int .i64 20] := hF 8 (of_decide_eq_true (by kernel_rfl)) 61 (by kernel_rfl)
  exact step_move (show opO aw7Ops 9 = some (.move (.tmp 61)) by kernel_rfl) (.free (by kernel_rfl)) g61 ⟨rfl, Below.refl _ _⟩
theorem aw7_s10 {Q : Exit → Act → World → Prop} {w0 : World} {xs : Nat → Value} (p1 : Nat) (c1 : ECell w0 p1 0 13 ⟨#[]⟩ ⟨#[]⟩ 0 0 none 0 0) (hev : EvOn w0 env5 (.mk 7 sAdd ⟨#[]⟩ 0 0 [lf 2 1, lf 13 0]) (nulT, 20)) (hx10 : xs 10 = .pointer (some ⟨p1, 0, none⟩)) : OpStep Tryz.prog aw7Ops Q (aw7F p1) w0 112 xs 10 := by
  intro act w hb hk hF
  have g52 : act.eval (.tmp 52) = .tuple #[vT nulT, .int .i64 20] := hF 9 (of_decide_eq_true (by kernel_rfl)) 52 (by kernel_rfl)
  exact step_extract (show opO aw7Ops 10 = some (.extract (.tmp 52) 0) by kernel_rfl) (.free (by kernel_rfl)) g52 rfl ⟨rfl, Below.refl _ _⟩
theorem aw7_s11 {Q : Exit → Act → World → Prop} {w0 : World} {xs : Nat → Value} (p1 : Nat) (c1 : ECell w0 p1 0 13 ⟨#[]⟩ ⟨#[]⟩ 0 0 none 0 0) (hev : EvOn w0 env5 (.mk 7 sAdd ⟨#[]⟩ 0 0 [lf 2 1, lf 13 0]) (nulT, 20)) (hx10 : xs 10 = .pointer (some ⟨p1, 0, none⟩)) : OpStep Tryz.prog aw7Ops Q (fun j v w => aw7Fl j = true → (aw7F p1) j v w) w0 112 xs 11 := by
  intro act w hb hk hF
  have g52 : act.eval (.tmp 52) = .tuple #[vT nulT, .int .i64 20] := (show aw7Fl 9 = true → _ from hF 9 (of_decide_eq_true (by kernel_rfl)) 52 (by kernel_rfl)) (by kernel_rfl)
  exact step_extract (show opO aw7Ops 11 = some (.extract (.tmp 52) 1) by kernel_rfl) (.free (by kernel_rfl)) g52 rfl ⟨fun _ => rfl, Below.refl _ _⟩
theorem aw7_s14 {Q : Exit → Act → World → Prop} {w0 : World} {xs : Nat → Value} (p1 : Nat) (c1 : ECell w0 p1 0 13 ⟨#[]⟩ ⟨#[]⟩ 0 0 none 0 0) (hev : EvOn w0 env5 (.mk 7 sAdd ⟨#[]⟩ 0 0 [lf 2 1, lf 13 0]) (nulT, 20)) (hx10 : xs 10 = .pointer (some ⟨p1, 0, none⟩)) : OpStep Tryz.prog aw7Ops Q (fun j v w => aw7Fl j = true → (aw7F p1) j v w) w0 112 xs 14 := by
  intro act w hb hk hF
  have g63 : act.eval (.tmp 63) = .int .i64 20 := (show aw7Fl 11 = true → _ from hF 11 (of_decide_eq_true (by kernel_rfl)) 63 (by kernel_rfl)) (by kernel_rfl)
  exact step_assign (show opO aw7Ops 14 = some (.assign (.tmp 63)) by kernel_rfl) (.free (by kernel_rfl)) g63 ⟨fun _ => rfl, Below.refl _ _⟩
theorem aw7 {Q : Exit → Act → World → Prop} {a0 : Act} {w0 : World} (p1 : Nat) (c1 : ECell w0 p1 0 13 ⟨#[]⟩ ⟨#[]⟩ 0 0 none 0 0) (hev : EvOn w0 env5 (.mk 7 sAdd ⟨#[]⟩ 0 0 [lf 2 1, lf 13 0]) (nulT, 20)) (hx10 : a0.tmps.getD 10 undef = .pointer (some ⟨p1, 0, none⟩)) (hs : a0.tmps.size = 112)
    (hend : ∀ (V : Nat → Value) (p : Nat) (X : World), Below w0.heap.size w0 X → V 12 = .pointer (some ⟨p, 0, none⟩) → w0.heap.size ≤ p → p < X.heap.size → BoxF p nulT X → V 14 = .int .i64 20 → Q .normal ⟨fillT aw7Ops a0.tmps V, a0.defers⟩ X) : (Code.region 7 aw7Ops true).wp Tryz.prog Q a0 w0 := by
  refine wp_region_boxM (by kernel_rfl) (aw7F p1) 12 13 11 NewAt (fun p w => BoxF p nulT w) aw7Fl (aw7F_mono p1) (aw7F_flat p1) (by kernel_rfl) (by kernel_rfl) (of_decide_eq_true (by kernel_rfl)) (of_decide_eq_true (by kernel_rfl)) (by decide) ?_ new_keep boxF_keep (by rw [hs]; kernel_rfl) ?_ ?_ ?_ ?_ ?_
  · have size_is : aw7Ops.size = 15 := by kernel_rfl
    rw [size_is]
    intro i hi h1 h2
    have hq : ((List.range 15).all fun i => decide (i ∈ depsO aw7Ops 13) || decide (i = 13) || aw7Fl i) = true := by kernel_rfl
    have := List.all_eq_true.1 hq i (List.mem_range.2 hi)
    simp only [Bool.or_eq_true, decide_eq_true_eq] at this
    rcases this with (h | h) | h
    · exact absurd h h1
    · exact absurd h h2
    · exact h
  · rw [hs]
    have size_is : aw7Ops.size = 15 := by kernel_rfl
    rw [size_is]
    intro i hi hne1 hne2 hdp
    have hall : ∀ j, j < 15 → j = i → OpStep Tryz.prog aw7Ops Q (aw7F p1) w0 112 (fun t => a0.tmps.getD t undef) j := by
      intro j hj hji
      match j, hj with
      | 0, _ => exact aw7_s0 p1 c1 hev hx10
      | 1, _ => exact aw7_s1 p1 c1 hev hx10
      | 2, _ => exact aw7_s2 p1 c1 hev hx10
      | 3, _ => exact aw7_s3 p1 c1 hev hx10
      | 4, _ => exact aw7_s4 p1 c1 hev hx10
      | 5, _ => exact aw7_s5 p1 c1 hev hx10
      | 6, _ => exact aw7_s6 p1 c1 hev hx10
      | 7, _ => exact aw7_s7 p1 c1 hev hx10
      | 8, _ => exact aw7_s8 p1 c1 hev hx10
      | 9, _ => exact aw7_s9 p1 c1 hev hx10
      | 10, _ => exact aw7_s10 p1 c1 hev hx10
      | 11, _ => exact absurd hdp (by rw [← hji]; decide)
      | 12, _ => exact absurd hji.symm hne1
      | 13, _ => exact absurd hji.symm hne2
      | 14, _ => exact absurd hdp (by rw [← hji]; decide)
      | q + 15, hj => exact absurd hj (by omega)
    exact hall i hi rfl
  · rw [hs]
    have size_is : aw7Ops.size = 15 := by kernel_rfl
    rw [size_is]
    intro i hi hne1 hne2 hdp
    have hall : ∀ j, j < 15 → j = i → OpStep Tryz.prog aw7Ops Q (fun j v w => aw7Fl j = true → (aw7F p1) j v w) w0 112 (fun t => a0.tmps.getD t undef) j := by
      intro j hj hji
      match j, hj with
      | 0, _ => exact absurd hdp (by rw [← hji]; exact fun h => h (by decide))
      | 1, _ => exact absurd hdp (by rw [← hji]; exact fun h => h (by decide))
      | 2, _ => exact absurd hdp (by rw [← hji]; exact fun h => h (by decide))
      | 3, _ => exact absurd hdp (by rw [← hji]; exact fun h => h (by decide))
      | 4, _ => exact absurd hdp (by rw [← hji]; exact fun h => h (by decide))
      | 5, _ => exact absurd hdp (by rw [← hji]; exact fun h => h (by decide))
      | 6, _ => exact absurd hdp (by rw [← hji]; exact fun h => h (by decide))
      | 7, _ => exact absurd hdp (by rw [← hji]; exact fun h => h (by decide))
      | 8, _ => exact absurd hdp (by rw [← hji]; exact fun h => h (by decide))
      | 9, _ => exact absurd hdp (by rw [← hji]; exact fun h => h (by decide))
      | 10, _ => exact absurd hdp (by rw [← hji]; exact fun h => h (by decide))
      | 11, _ => exact aw7_s11 p1 c1 hev hx10
      | 12, _ => exact absurd hji.symm hne1
      | 13, _ => exact absurd hji.symm hne2
      | 14, _ => exact aw7_s14 p1 c1 hev hx10
      | q + 15, hj => exact absurd hj (by omega)
    exact hall i hi rfl
  · intro a w hb
    exact step_allocV (by kernel_rfl) (.free (by kernel_rfl)) (by kernel_rfl) (fun _ _ => trivial)
  · intro act w p hb hp0 hp1 hp hn hF
    have gy : act.eval (.tmp 62) = vT nulT := hF 10 (of_decide_eq_true (by kernel_rfl)) 62 (by kernel_rfl)
    exact step_storeF (show opO aw7Ops 13 = some (.store 38 (.tmp 11) (.tmp 62)) by kernel_rfl) (.free (by kernel_rfl)) (by kernel_rfl) hp gy hb hp0 hp1 hn
  · intro V p X hb hp hp0 hp1 hB hV
    exact hend V p X hb hp hp0 hp1 hB (hV 14 (of_decide_eq_true (by kernel_rfl)) (by kernel_rfl) (by kernel_rfl))
end Go.Proofs.YteijijoiifbjlaaGreatDoor
