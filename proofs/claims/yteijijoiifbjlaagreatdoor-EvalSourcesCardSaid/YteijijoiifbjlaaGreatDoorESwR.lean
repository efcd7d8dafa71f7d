/-
  Layer 13, eval: EvalSwap's drawn regions. No conditions.
-/
import Derived.Test.YteijijoiifbjlaaGreatDoorEMk
import Derived.Test.YteijijoiifbjlaaGreatDoorEAwR
namespace Go.Proofs.YteijijoiifbjlaaGreatDoor
open Go.ChangeShapes Go.WideShapes Go.ChangeAt Go.RowKit
set_option linter.unusedVariables false
set_option linter.unusedSimpArgs false
set_option maxRecDepth 100000

/-- an expression in a box; an Env in a box -/
def EBx (w : World) (p : Nat) (e : Ee) : Prop := ∃ k s t n a A len cap, ECell w p 0 k s t n a A len cap ∧ ExV w e (exprV k s t n a A len cap)
theorem EBx.on {w w' : World} {p : Nat} {e : Ee} (h : EBx w p e) (hb : Below w.heap.size w w') : EBx w' p e := by
  obtain ⟨k, s, t, n, a, A, len, cap, h1, h2⟩ := h
  exact ⟨k, s, t, n, a, A, len, cap, h1.on hb, h2.on hb⟩
def XBx (w : World) (p : Nat) (x : EnvM) : Prop := ∃ v0 v1 v2 v3, X4 w p v0 v1 v2 v3 ∧ EnvV w x (.agg #[v0, v1, v2, v3])
theorem XBx.on {w w' : World} {p : Nat} {x : EnvM} (h : XBx w p x) (hb : Below w.heap.size w w') : XBx w' p x := by
  obtain ⟨v0, v1, v2, v3, h1, h2⟩ := h
  exact ⟨v0, v1, v2, v3, h1.on hb, h2.on hb⟩
def SBx (w : World) (p j : Nat) (g : ByteArray) : Prop := w.cell? ⟨p, j, none⟩ = some (.string g)
theorem SBx.on {w w' : World} {p j : Nat} {g : ByteArray} (h : SBx w p j g) (hb : Below w.heap.size w w') : SBx w' p j g := (hb.cell (p := ⟨p, j, none⟩) (block_lt_of_cell h)).trans h
section
variable {ops : Array Oper} {Q : Exit → Act → World → Prop} {i : Nat} {a : Act} {w : World} {R : Value → World → Prop}
theorem step_loadEB {x : Operand} {p : Nat} {e : Ee} (hop : opO ops i = some (.load 25 x)) (hw : Wanted ops i a) (hx : a.eval x = .pointer (some ⟨p, 0, none⟩)) (hc : EBx w p e) (hR : ∀ v, IsE e v w → R v w) : wpOp Tryz.prog ops Q i (fun a' w' => ∃ v, a' = a.put (dstO ops i) v ∧ R v w') a w := by
  obtain ⟨k, s, t, n, c, A, len, cap, h1, h2⟩ := hc
  exact step_loadE hop hw hx h1 (hR _ h2)
theorem step_loadXB {x : Operand} {p : Nat} {xm : EnvM} (hop : opO ops i = some (.load 29 x)) (hw : Wanted ops i a) (hx : a.eval x = .pointer (some ⟨p, 0, none⟩)) (hc : XBx w p xm) (hR : ∀ v, IsX xm v w → R v w) : wpOp Tryz.prog ops Q i (fun a' w' => ∃ v, a' = a.put (dstO ops i) v ∧ R v w') a w := by
  obtain ⟨v0, v1, v2, v3, h1, h2⟩ := hc
  exact step_loadX hop hw hx h1 (hR _ h2)
theorem step_ldG {x : Operand} {p j : Nat} {g : ByteArray} (hop : opO ops i = some (.load 9 x)) (hw : Wanted ops i a) (hx : a.eval x = .pointer (some ⟨p, j, none⟩)) (h0 : SBx w p j g) (hR : R (.string g) w) : wpOp Tryz.prog ops Q i (fun a' w' => ∃ v, a' = a.put (dstO ops i) v ∧ R v w') a w := by
  refine step_run (v := .string g) hop hw (fun o ho => ?_) hR
  unfold SBx at h0
  simp only [execOp, ho, hx]
  simp [go_sem, h0]
theorem step_ixA0 {x : Operand} {p : Nat} (hop : opO ops i = some (.indexAddr 43 x (.const (.int .i64 0)))) (hw : Wanted ops i a) (hx : a.eval x = .pointer (some ⟨p, 0, none⟩)) (hR : R (.pointer (some ⟨p, 0, none⟩)) w) : wpOp Tryz.prog ops Q i (fun a' w' => ∃ v, a' = a.put (dstO ops i) v ∧ R v w') a w := by
  refine step_run hop hw (fun o' ho => ?_) hR
  simp only [execOp, ho, hx]
  simp [go_sem]
theorem step_ixA1 {x : Operand} {p : Nat} (hop : opO ops i = some (.indexAddr 43 x (.const (.int .i64 1)))) (hw : Wanted ops i a) (hx : a.eval x = .pointer (some ⟨p, 0, none⟩)) (hR : R (.pointer (some ⟨p, 1, none⟩)) w) : wpOp Tryz.prog ops Q i (fun a' w' => ∃ v, a' = a.put (dstO ops i) v ∧ R v w') a w := by
  refine step_run hop hw (fun o' ho => ?_) hR
  simp only [execOp, ho, hx]
  simp [go_sem]
end

noncomputable def sw10Ops : Array Oper := regOf Tryz.f4 10
theorem sw10_fill {v0 v1 v2 v3 v4 v5 v6 v7 v8 v9 v10 v11 v12 v13 v14 v15 v16 v17 v18 v19 v20 v21 v22 v23 v24 v25 v26 v27 v28 v29 v30 v31 v32 v33 v34 v35 v36 v37 v38 v39 v40 v41 v42 v43 v44 v45 v46 v47 v48 v49 v50 v51 v52 v53 v54 v55 v56 v57 v58 v59 v60 v61 v62 v63 v64 v65 v66 v67 v68 v69 v70 v71 v72 v73 v74 v75 v76 v77 v78 v79 v80 v81 v82 v83 v84 v85 v86 v87 v88 v89 v90 v91 v92 v93 v94 v95 v96 v97 v98 v99 v100 v101 v102 v103 v104 v105 v106 v107 v108 v109 v110 v111 v112 v113 v114 v115 v116 v117 v118 v119 v120 v121 v122 v123 v124 : Value} (V : Nat → Value) : fillT sw10Ops #[v0, v1, v2, v3, v4, v5, v6, v7, v8, v9, v10, v11, v12, v13, v14, v15, v16, v17, v18, v19, v20, v21, v22, v23, v24, v25, v26, v27, v28, v29, v30, v31, v32, v33, v34, v35, v36, v37, v38, v39, v40, v41, v42, v43, v44, v45, v46, v47, v48, v49, v50, v51, v52, v53, v54, v55, v56, v57, v58, v59, v60, v61, v62, v63, v64, v65, v66, v67, v68, v69, v70, v71, v72, v73, v74, v75, v76, v77, v78, v79, v80, v81, v82, v83, v84, v85, v86, v87, v88, v89, v90, v91, v92, v93, v94, v95, v96, v97, v98, v99, v100, v101, v102, v103, v104, v105, v106, v107, v108, v109, v110, v111, v112, v113, v114, v115, v116, v117, v118, v119, v120, v121, v122, v123, v124] V = #[v0, v1, v2, v3, v4, v5, v6, v7, v8, v9, v10, v11, v12, V 11, V 13, v15, v16, v17, v18, v19, v20, v21, v22, v23, v24, v25, v26, v27, v28, v29, v30, v31, v32, v33, v34, v35, v36, v37, v38, v39, v40, v41, v42, v43, v44, v45, v46, v47, v48, v49, v50, v51, v52, v53, v54, v55, v56, v57, v58, v59, v60, v61, v62, V 8, V 0, V 1, V 2, V 3, V 4, V 5, V 6, V 7, V 9, V 10, v74, v75, v76, v77, v78, v79, v80, v81, v82, v83, v84, v85, v86, v87, v88, v89, v90, v91, v92, v93, v94, v95, v96, v97, v98, v99, v100, v101, v102, v103, v104, v105, v106, v107, v108, v109, v110, v111, v112, v113, v114, v115, v116, v117, v118, v119, v120, v121, v122, v123, v124] := by
  kernel_rfl
def sw10L (x : EnvM) (p3 p4 p5 : Nat) (e e2 : Ee) (r : Rv) (p12 : Nat) (g : ByteArray) : List (Value → World → Prop) := [IsV (.pointer (some ⟨p12, 0, none⟩)), IsV (.string g), IsE e, IsE e2, IsK [e, e2], IsE (.mk 7 g ⟨#[]⟩ 0 0 [e, e2]), IsX x, IsV (.tuple #[vT r.1, .int .i64 r.2]), IsV (.tuple #[vT r.1, .int .i64 r.2]), IsV (vT r.1), IsV (.int .i64 r.2), AnyF, AnyF, IsV (.int .i64 r.2)]
def sw10F (x : EnvM) (p3 p4 p5 : Nat) (e e2 : Ee) (r : Rv) (p12 : Nat) (g : ByteArray) (i : Nat) : Value → World → Prop := (sw10L x p3 p4 p5 e e2 r p12 g).getD i AnyF
theorem sw10F_mono (x : EnvM) (p3 p4 p5 : Nat) (e e2 : Ee) (r : Rv) (p12 : Nat) (g : ByteArray) (i : Nat) (v : Value) (w w' : World) (hp : (sw10F x p3 p4 p5 e e2 r p12 g) i v w) (hb : Below w.heap.size w w') : (sw10F x p3 p4 p5 e e2 r p12 g) i v w' := by
  refine monoL ?_ i v w w' hp hb
  unfold sw10L
  simp only [List.forall_mem_cons]
  exact ⟨mono_isV _, mono_isV _, mono_isE _, mono_isE _, mono_isK _, mono_isE _, mono_isX _, mono_isV _, mono_isV _, mono_isV _, mono_isV _, mono_any, mono_any, mono_isV _, fun _ h => by cases h⟩
def sw10Fl (i : Nat) : Bool := ([true, true, false, false, false, false, false, true, true, true, true, true, true, true] : List Bool).getD i false
theorem sw10F_flat (x : EnvM) (p3 p4 p5 : Nat) (e e2 : Ee) (r : Rv) (p12 : Nat) (g : ByteArray) (i : Nat) (hi : sw10Fl i = true) (v : Value) (w w' : World) (hp : (sw10F x p3 p4 p5 e e2 r p12 g) i v w) : (sw10F x p3 p4 p5 e e2 r p12 g) i v w' := by
  unfold sw10Fl at hi
  unfold sw10F sw10L at hp ⊢
  match i, hi with
  | 0, _ => exact hp
  | 1, _ => exact hp
  | 2, h => exact absurd h (by decide)
  | 3, h => exact absurd h (by decide)
  | 4, h => exact absurd h (by decide)
  | 5, h => exact absurd h (by decide)
  | 6, h => exact absurd h (by decide)
  | 7, _ => exact hp
  | 8, _ => exact hp
  | 9, _ => exact hp
  | 10, _ => exact hp
  | 11, _ => exact hp
  | 12, _ => exact hp
  | 13, _ => exact hp
  | i + 14, h => simp at h
theorem sw10_s0 {Q : Exit → Act → World → Prop} {w0 : World} {xs : Nat → Value} (x : EnvM) (p3 p4 p5 : Nat) (e e2 : Ee) (r : Rv) (p12 : Nat) (g : ByteArray) (h3 : EBx w0 p3 e) (h4 : EBx w0 p4 e2) (h5 : XBx w0 p5 x) (hg : SBx w0 p12 0 g) (hev : EvOn w0 x (.mk 7 g ⟨#[]⟩ 0 0 [e, e2]) r) (hx3 : xs 3 = .pointer (some ⟨p3, 0, none⟩)) (hx4 : xs 4 = .pointer (some ⟨p4, 0, none⟩)) (hx5 : xs 5 = .pointer (some ⟨p5, 0, none⟩)) (hx12 : xs 12 = .pointer (some ⟨p12, 0, none⟩)) : OpStep Tryz.prog sw10Ops Q (sw10F x p3 p4 p5 e e2 r p12 g) w0 125 xs 0 := by
  intro act w hb hk hF
  have g12 : act.eval (.tmp 12) = .pointer (some ⟨p12, 0, none⟩) := (hk 12 (by decide) (by kernel_rfl)).trans hx12
  exact step_ixA0 (show opO sw10Ops 0 = some (.indexAddr 43 (.tmp 12) (.const (.int .i64 0))) by kernel_rfl) (.free (by kernel_rfl)) g12 ⟨rfl, Below.refl _ _⟩
theorem sw10_s1 {Q : Exit → Act → World → Prop} {w0 : World} {xs : Nat → Value} (x : EnvM) (p3 p4 p5 : Nat) (e e2 : Ee) (r : Rv) (p12 : Nat) (g : ByteArray) (h3 : EBx w0 p3 e) (h4 : EBx w0 p4 e2) (h5 : XBx w0 p5 x) (hg : SBx w0 p12 0 g) (hev : EvOn w0 x (.mk 7 g ⟨#[]⟩ 0 0 [e, e2]) r) (hx3 : xs 3 = .pointer (some ⟨p3, 0, none⟩)) (hx4 : xs 4 = .pointer (some ⟨p4, 0, none⟩)) (hx5 : xs 5 = .pointer (some ⟨p5, 0, none⟩)) (hx12 : xs 12 = .pointer (some ⟨p12, 0, none⟩)) : OpStep Tryz.prog sw10Ops Q (sw10F x p3 p4 p5 e e2 r p12 g) w0 125 xs 1 := by
  intro act w hb hk hF
  have g64 : act.eval (.tmp 64) = .pointer (some ⟨p12, 0, none⟩) := hF 0 (of_decide_eq_true (by kernel_rfl)) 64 (by kernel_rfl)
  exact step_ldG (show opO sw10Ops 1 = some (.load 9 (.tmp 64)) by kernel_rfl) (.free (by kernel_rfl)) g64 (hg.on hb) ⟨rfl, Below.refl _ _⟩
theorem sw10_s2 {Q : Exit → Act → World → Prop} {w0 : World} {xs : Nat → Value} (x : EnvM) (p3 p4 p5 : Nat) (e e2 : Ee) (r : Rv) (p12 : Nat) (g : ByteArray) (h3 : EBx w0 p3 e) (h4 : EBx w0 p4 e2) (h5 : XBx w0 p5 x) (hg : SBx w0 p12 0 g) (hev : EvOn w0 x (.mk 7 g ⟨#[]⟩ 0 0 [e, e2]) r) (hx3 : xs 3 = .pointer (some ⟨p3, 0, none⟩)) (hx4 : xs 4 = .pointer (some ⟨p4, 0, none⟩)) (hx5 : xs 5 = .pointer (some ⟨p5, 0, none⟩)) (hx12 : xs 12 = .pointer (some ⟨p12, 0, none⟩)) : OpStep Tryz.prog sw10Ops Q (sw10F x p3 p4 p5 e e2 r p12 g) w0 125 xs 2 := by
  intro act w hb hk hF
  have g3 : act.eval (.tmp 3) = .pointer (some ⟨p3, 0, none⟩) := (hk 3 (by decide) (by kernel_rfl)).trans hx3
  exact step_loadEB (show opO sw10Ops 2 = some (.load 25 (.tmp 3)) by kernel_rfl) (.free (by kernel_rfl)) g3 (h3.on hb) (fun v h => ⟨h, Below.refl _ _⟩)
theorem sw10_s3 {Q : Exit → Act → World → Prop} {w0 : World} {xs : Nat → Value} (x : EnvM) (p3 p4 p5 : Nat) (e e2 : Ee) (r : Rv) (p12 : Nat) (g : ByteArray) (h3 : EBx w0 p3 e) (h4 : EBx w0 p4 e2) (h5 : XBx w0 p5 x) (hg : SBx w0 p12 0 g) (hev : EvOn w0 x (.mk 7 g ⟨#[]⟩ 0 0 [e, e2]) r) (hx3 : xs 3 = .pointer (some ⟨p3, 0, none⟩)) (hx4 : xs 4 = .pointer (some ⟨p4, 0, none⟩)) (hx5 : xs 5 = .pointer (some ⟨p5, 0, none⟩)) (hx12 : xs 12 = .pointer (some ⟨p12, 0, none⟩)) : OpStep Tryz.prog sw10Ops Q (sw10F x p3 p4 p5 e e2 r p12 g) w0 125 xs 3 := by
  intro act w hb hk hF
  have g4 : act.eval (.tmp 4) = .pointer (some ⟨p4, 0, none⟩) := (hk 4 (by decide) (by kernel_rfl)).trans hx4
  exact step_loadEB (show opO sw10Ops 3 = some (.load 25 (.tmp 4)) by kernel_rfl) (.free (by kernel_rfl)) g4 (h4.on hb) (fun v h => ⟨h, Below.refl _ _⟩)
theorem sw10_s4 {Q : Exit → Act → World → Prop} {w0 : World} {xs : Nat → Value} (x : EnvM) (p3 p4 p5 : Nat) (e e2 : Ee) (r : Rv) (p12 : Nat) (g : ByteArray) (h3 : EBx w0 p3 e) (h4 : EBx w0 p4 e2) (h5 : XBx w0 p5 x) (hg : SBx w0 p12 0 g) (hev : EvOn w0 x (.mk 7 g ⟨#[]⟩ 0 0 [e, e2]) r) (hx3 : xs 3 = .pointer (some ⟨p3, 0, none⟩)) (hx4 : xs 4 = .pointer (some ⟨p4, 0, none⟩)) (hx5 : xs 5 = .pointer (some ⟨p5, 0, none⟩)) (hx12 : xs 12 = .pointer (some ⟨p12, 0, none⟩)) : OpStep Tryz.prog sw10Ops Q (sw10F x p3 p4 p5 e e2 r p12 g) w0 125 xs 4 := by
  intro act w hb hk hF
  have g66 : IsE e (act.eval (.tmp 66)) w := hF 2 (of_decide_eq_true (by kernel_rfl)) 66 (by kernel_rfl)
  have g67 : IsE e2 (act.eval (.tmp 67)) w := hF 3 (of_decide_eq_true (by kernel_rfl)) 67 (by kernel_rfl)
  exact step_k2 (show opO sw10Ops 4 = some (.buildSlice 23 2 #[(0, .tmp 66), (1, .tmp 67)]) by kernel_rfl) (.free (by kernel_rfl)) g66 g67 (fun v w' h1 h2 => ⟨h1, h2⟩)
theorem sw10_s5 {Q : Exit → Act → World → Prop} {w0 : World} {xs : Nat → Value} (x : EnvM) (p3 p4 p5 : Nat) (e e2 : Ee) (r : Rv) (p12 : Nat) (g : ByteArray) (h3 : EBx w0 p3 e) (h4 : EBx w0 p4 e2) (h5 : XBx w0 p5 x) (hg : SBx w0 p12 0 g) (hev : EvOn w0 x (.mk 7 g ⟨#[]⟩ 0 0 [e, e2]) r) (hx3 : xs 3 = .pointer (some ⟨p3, 0, none⟩)) (hx4 : xs 4 = .pointer (some ⟨p4, 0, none⟩)) (hx5 : xs 5 = .pointer (some ⟨p5, 0, none⟩)) (hx12 : xs 12 = .pointer (some ⟨p12, 0, none⟩)) : OpStep Tryz.prog sw10Ops Q (sw10F x p3 p4 p5 e e2 r p12 g) w0 125 xs 5 := by
  intro act w hb hk hF
  have g65 : act.eval (.tmp 65) = .string g := hF 1 (of_decide_eq_true (by kernel_rfl)) 65 (by kernel_rfl)
  have g68 : IsK [e, e2] (act.eval (.tmp 68)) w := hF 4 (of_decide_eq_true (by kernel_rfl)) 68 (by kernel_rfl)
  exact step_call (f := 11) (xs := #[.tmp 65, .tmp 68]) (by kernel_rfl) (.free (by kernel_rfl)) (map2 g65 rfl) (enters_of Tryz.func11 (by kernel_rfl) rfl) ((opE_is g _ _ w g68).mono fun e w' ⟨v, h1, h2, h3⟩ => ⟨v, h1, h2, h3⟩)
theorem sw10_s6 {Q : Exit → Act → World → Prop} {w0 : World} {xs : Nat → Value} (x : EnvM) (p3 p4 p5 : Nat) (e e2 : Ee) (r : Rv) (p12 : Nat) (g : ByteArray) (h3 : EBx w0 p3 e) (h4 : EBx w0 p4 e2) (h5 : XBx w0 p5 x) (hg : SBx w0 p12 0 g) (hev : EvOn w0 x (.mk 7 g ⟨#[]⟩ 0 0 [e, e2]) r) (hx3 : xs 3 = .pointer (some ⟨p3, 0, none⟩)) (hx4 : xs 4 = .pointer (some ⟨p4, 0, none⟩)) (hx5 : xs 5 = .pointer (some ⟨p5, 0, none⟩)) (hx12 : xs 12 = .pointer (some ⟨p12, 0, none⟩)) : OpStep Tryz.prog sw10Ops Q (sw10F x p3 p4 p5 e e2 r p12 g) w0 125 xs 6 := by
  intro act w hb hk hF
  have g5 : act.eval (.tmp 5) = .pointer (some ⟨p5, 0, none⟩) := (hk 5 (by decide) (by kernel_rfl)).trans hx5
  exact step_loadXB (show opO sw10Ops 6 = some (.load 29 (.tmp 5)) by kernel_rfl) (.free (by kernel_rfl)) g5 (h5.on hb) (fun v h => ⟨h, Below.refl _ _⟩)
theorem sw10_s7 {Q : Exit → Act → World → Prop} {w0 : World} {xs : Nat → Value} (x : EnvM) (p3 p4 p5 : Nat) (e e2 : Ee) (r : Rv) (p12 : Nat) (g : ByteArray) (h3 : EBx w0 p3 e) (h4 : EBx w0 p4 e2) (h5 : XBx w0 p5 x) (hg : SBx w0 p12 0 g) (hev : EvOn w0 x (.mk 7 g ⟨#[]⟩ 0 0 [e, e2]) r) (hx3 : xs 3 = .pointer (some ⟨p3, 0, none⟩)) (hx4 : xs 4 = .pointer (some ⟨p4, 0, none⟩)) (hx5 : xs 5 = .pointer (some ⟨p5, 0, none⟩)) (hx12 : xs 12 = .pointer (some ⟨p12, 0, none⟩)) : OpStep Tryz.prog sw10Ops Q (sw10F x p3 p4 p5 e e2 r p12 g) w0 125 xs 7 := by
  intro act w hb hk hF
  have g69 : IsE (.mk 7 g ⟨#[]⟩ 0 0 [e, e2]) (act.eval (.tmp 69)) w := hF 5 (of_decide_eq_true (by kernel_rfl)) 69 (by kernel_rfl)
  have g70 : IsX x (act.eval (.tmp 70)) w := hF 6 (of_decide_eq_true (by kernel_rfl)) 70 (by kernel_rfl)
  exact step_call (f := 10) (xs := #[.tmp 69, .tmp 70]) (by kernel_rfl) (.free (by kernel_rfl)) (map2 rfl rfl) (enters_of Tryz.func10 (by kernel_rfl) rfl) ((hev w _ _ hb g69 g70).mono fun e w' h => ⟨_, h.1, rfl, h.2⟩)
theorem sw10_s8 {Q : Exit → Act → World → Prop} {w0 : World} {xs : Nat → Value} (x : EnvM) (p3 p4 p5 : Nat) (e e2 : Ee) (r : Rv) (p12 : Nat) (g : ByteArray) (h3 : EBx w0 p3 e) (h4 : EBx w0 p4 e2) (h5 : XBx w0 p5 x) (hg : SBx w0 p12 0 g) (hev : EvOn w0 x (.mk 7 g ⟨#[]⟩ 0 0 [e, e2]) r) (hx3 : xs 3 = .pointer (some ⟨p3, 0, none⟩)) (hx4 : xs 4 = .pointer (some ⟨p4, 0, none⟩)) (hx5 : xs 5 = .pointer (some ⟨p5, 0, none⟩)) (hx12 : xs 12 = .pointer (some ⟨p12, 0, none⟩)) : OpStep Tryz.prog sw10Ops Q (sw10F x p3 p4 p5 e e2 r p12 g) w0 125 xs 8 := by
  intro act w hb hk hF
  have g71 : act.eval (.tmp 71) = .tuple #[vT r.1, .int .i64 r.2] := hF 7 (of_decide_eq_true (by kernel_rfl)) 71 (by kernel_rfl)
  exact step_move (show opO sw10Ops 8 = some (.move (.tmp 71)) by kernel_rfl) (.free (by kernel_rfl)) g71 ⟨rfl, Below.refl _ _⟩
theorem sw10_s9 {Q : Exit → Act → World → Prop} {w0 : World} {xs : Nat → Value} (x : EnvM) (p3 p4 p5 : Nat) (e e2 : Ee) (r : Rv) (p12 : Nat) (g : ByteArray) (h3 : EBx w0 p3 e) (h4 : EBx w0 p4 e2) (h5 : XBx w0 p5 x) (hg : SBx w0 p12 0 g) (hev : EvOn w0 x (.mk 7 g ⟨#[]⟩ 0 0 [e, e2]) r) (hx3 : xs 3 = .pointer (some ⟨p3, 0, none⟩)) (hx4 : xs 4 = .pointer (some ⟨p4, 0, none⟩)) (hx5 : xs 5 = .pointer (some ⟨p5, 0, none⟩)) (hx12 : xs 12 = .pointer (some ⟨p12, 0, none⟩)) : OpStep Tryz.prog sw10Ops Q (sw10F x p3 p4 p5 e e2 r p12 g) w0 125 xs 9 := by
  intro act w hb hk hF
  have g63 : act.eval (.tmp 63) = .tuple #[vT r.1, .int .i64 r.2] := hF 8 (of_decide_eq_true (by kernel_rfl)) 63 (by kernel_rfl)
  exact step_extract (show opO sw10Ops 9 = some (.extract (.tmp 63) 0) by kernel_rfl) (.free (by kernel_rfl)) g63 rfl ⟨rfl, Below.refl _ _⟩
theorem sw10_s10 {Q : Exit → Act → World → Prop} {w0 : World} {xs : Nat → Value} (x : EnvM) (p3 p4 p5 : Nat) (e e2 : Ee) (r : Rv) (p12 : Nat) (g : ByteArray) (h3 : EBx w0 p3 e) (h4 : EBx w0 p4 e2) (h5 : XBx w0 p5 x) (hg : SBx w0 p12 0 g) (hev : EvOn w0 x (.mk 7 g ⟨#[]⟩ 0 0 [e, e2]) r) (hx3 : xs 3 = .pointer (some ⟨p3, 0, none⟩)) (hx4 : xs 4 = .pointer (some ⟨p4, 0, none⟩)) (hx5 : xs 5 = .pointer (some ⟨p5, 0, none⟩)) (hx12 : xs 12 = .pointer (some ⟨p12, 0, none⟩)) : OpStep Tryz.prog sw10Ops Q (fun j v w => sw10Fl j = true → (sw10F x p3 p4 p5 e e2 r p12 g) j v w) w0 125 xs 10 := by
  intro act w hb hk hF
  have g63 : act.eval (.tmp 63) = .tuple #[vT r.1, .int .i64 r.2] := (show sw10Fl 8 = true → _ from hF 8 (of_decide_eq_true (by kernel_rfl)) 63 (by kernel_rfl)) (by kernel_rfl)
  exact step_extract (show opO sw10Ops 10 = some (.extract (.tmp 63) 1) by kernel_rfl) (.free (by kernel_rfl)) g63 rfl ⟨fun _ => rfl, Below.refl _ _⟩
theorem sw10_s13 {Q : Exit → Act → World → Prop} {w0 : World} {xs : Nat → Value} (x : EnvM) (p3 p4 p5 : Nat) (e e2 : Ee) (r : Rv) (p12 : Nat) (g : ByteArray) (h3 : EBx w0 p3 e) (h4 : EBx w0 p4 e2) (h5 : XBx w0 p5 x) (hg : SBx w0 p12 0 g) (hev : EvOn w0 x (.mk 7 g ⟨#[]⟩ 0 0 [e, e2]) r) (hx3 : xs 3 = .pointer (some ⟨p3, 0, none⟩)) (hx4 : xs 4 = .pointer (some ⟨p4, 0, none⟩)) (hx5 : xs 5 = .pointer (some ⟨p5, 0, none⟩)) (hx12 : xs 12 = .pointer (some ⟨p12, 0, none⟩)) : OpStep Tryz.prog sw10Ops Q (fun j v w => sw10Fl j = true → (sw10F x p3 p4 p5 e e2 r p12 g) j v w) w0 125 xs 13 := by
  intro act w hb hk hF
  have g73 : act.eval (.tmp 73) = .int .i64 r.2 := (show sw10Fl 10 = true → _ from hF 10 (of_decide_eq_true (by kernel_rfl)) 73 (by kernel_rfl)) (by kernel_rfl)
  exact step_assign (show opO sw10Ops 13 = some (.assign (.tmp 73)) by kernel_rfl) (.free (by kernel_rfl)) g73 ⟨fun _ => rfl, Below.refl _ _⟩
theorem sw10 {Q : Exit → Act → World → Prop} {a0 : Act} {w0 : World} (x : EnvM) (p3 p4 p5 : Nat) (e e2 : Ee) (r : Rv) (p12 : Nat) (g : ByteArray) (h3 : EBx w0 p3 e) (h4 : EBx w0 p4 e2) (h5 : XBx w0 p5 x) (hg : SBx w0 p12 0 g) (hev : EvOn w0 x (.mk 7 g ⟨#[]⟩ 0 0 [e, e2]) r) (hx3 : a0.tmps.getD 3 undef = .pointer (some ⟨p3, 0, none⟩)) (hx4 : a0.tmps.getD 4 undef = .pointer (some ⟨p4, 0, none⟩)) (hx5 : a0.tmps.getD 5 undef = .pointer (some ⟨p5, 0, none⟩)) (hx12 : a0.tmps.getD 12 undef = .pointer (some ⟨p12, 0, none⟩)) (hs : a0.tmps.size = 125)
    (hend : ∀ (V : Nat → Value) (p : Nat) (X : World), Below w0.heap.size w0 X → V 11 = .pointer (some ⟨p, 0, none⟩) → w0.heap.size ≤ p → p < X.heap.size → BoxF p r.1 X → V 13 = .int .i64 r.2 → Q .normal ⟨fillT sw10Ops a0.tmps V, a0.defers⟩ X) : (Code.region 10 sw10Ops true).wp Tryz.prog Q a0 w0 := by
  refine wp_region_boxM (by kernel_rfl) (sw10F x p3 p4 p5 e e2 r p12 g) 11 12 13 NewAt (fun p w => BoxF p r.1 w) sw10Fl (sw10F_mono x p3 p4 p5 e e2 r p12 g) (sw10F_flat x p3 p4 p5 e e2 r p12 g) (by kernel_rfl) (by kernel_rfl) (of_decide_eq_true (by kernel_rfl)) (of_decide_eq_true (by kernel_rfl)) (by decide) ?_ new_keep boxF_keep (by rw [hs]; kernel_rfl) ?_ ?_ ?_ ?_ ?_
  · have size_is : sw10Ops.size = 14 := by kernel_rfl
    rw [size_is]
    intro i hi h1 h2
    have hq : ((List.range 14).all fun i => decide (i ∈ depsO sw10Ops 12) || decide (i = 12) || sw10Fl i) = true := by kernel_rfl
    have := List.all_eq_true.1 hq i (List.mem_range.2 hi)
    simp only [Bool.or_eq_true, decide_eq_true_eq] at this
    rcases this with (h | h) | h
    · exact absurd h h1
    · exact absurd h h2
    · exact h
  · rw [hs]
    have size_is : sw10Ops.size = 14 := by kernel_rfl
    rw [size_is]
    intro i hi hne1 hne2 hdp
    have hall : ∀ j, j < 14 → j = i → OpStep Tryz.prog sw10Ops Q (sw10F x p3 p4 p5 e e2 r p12 g) w0 125 (fun t => a0.tmps.getD t undef) j := by
      intro j hj hji
      match j, hj with
      | 0, _ => exact sw10_s0 x p3 p4 p5 e e2 r p12 g h3 h4 h5 hg hev hx3 hx4 hx5 hx12
      | 1, _ => exact sw10_s1 x p3 p4 p5 e e2 r p12 g h3 h4 h5 hg hev hx3 hx4 hx5 hx12
      | 2, _ => exact sw10_s2 x p3 p4 p5 e e2 r p12 g h3 h4 h5 hg hev hx3 hx4 hx5 hx12
      | 3, _ => exact sw10_s3 x p3 p4 p5 e e2 r p12 g h3 h4 h5 hg hev hx3 hx4 hx5 hx12
      | 4, _ => exact sw10_s4 x p3 p4 p5 e e2 r p12 g h3 h4 h5 hg hev hx3 hx4 hx5 hx12
      | 5, _ => exact sw10_s5 x p3 p4 p5 e e2 r p12 g h3 h4 h5 hg hev hx3 hx4 hx5 hx12
      | 6, _ => exact sw10_s6 x p3 p4 p5 e e2 r p12 g h3 h4 h5 hg hev hx3 hx4 hx5 hx12
      | 7, _ => exact sw10_s7 x p3 p4 p5 e e2 r p12 g h3 h4 h5 hg hev hx3 hx4 hx5 hx12
      | 8, _ => exact sw10_s8 x p3 p4 p5 e e2 r p12 g h3 h4 h5 hg hev hx3 hx4 hx5 hx12
      | 9, _ => exact sw10_s9 x p3 p4 p5 e e2 r p12 g h3 h4 h5 hg hev hx3 hx4 hx5 hx12
      | 10, _ => exact absurd hdp (by rw [← hji]; decide)
      | 11, _ => exact absurd hji.symm hne1
      | 12, _ => exact absurd hji.symm hne2
      | 13, _ => exact absurd hdp (by rw [← hji]; decide)
      | q + 14, hj => exact absurd hj (by omega)
    exact hall i hi rfl
  · rw [hs]
    have size_is : sw10Ops.size = 14 := by kernel_rfl
    rw [size_is]
    intro i hi hne1 hne2 hdp
    have hall : ∀ j, j < 14 → j = i → OpStep Tryz.prog sw10Ops Q (fun j v w => sw10Fl j = true → (sw10F x p3 p4 p5 e e2 r p12 g) j v w) w0 125 (fun t => a0.tmps.getD t undef) j := by
      intro j hj hji
      match j, hj with
      | 0, _ => exact absurd hdp (by rw [← hji]; exact fun h => h (by decide))
      | 1, _ => exact absurd hdp (by rw [← hji]; exact fun h => h (by decide))
      | 2, _ => exact absurd hdp (by rw [← hji]; exact fun h => h (by decide))
      | 3, _ => exact absurd hdp (by rw [← hji]; exact fun h => h (by decide))
      | 4, _ => exact absurd hdp (by rw [← hji]; exact fun h => h (by decide))
      | 5, _ => exact absurd hdp (by rw [← hji]; exact fun h => h (by decide))
      | 6, _ => exact absurd hdp (by rw [← hji]; exact fun h => h (by decide))
      | 7, _ => exact absurd hdp (by rw [← hji]; exact fun h => h (by decide))
      | 8, _ => exact absurd hdp (by rw [← hji]; exact fun h => h (by decide))
      | 9, _ => exact absurd hdp (by rw [← hji]; exact fun h => h (by decide))
      | 10, _ => exact sw10_s10 x p3 p4 p5 e e2 r p12 g h3 h4 h5 hg hev hx3 hx4 hx5 hx12
      | 11, _ => exact absurd hji.symm hne1
      | 12, _ => exact absurd hji.symm hne2
      | 13, _ => exact sw10_s13 x p3 p4 p5 e e2 r p12 g h3 h4 h5 hg hev hx3 hx4 hx5 hx12
      | q + 14, hj => exact absurd hj (by omega)
    exact hall i hi rfl
  · intro a w hb
    exact step_allocV (by kernel_rfl) (.free (by kernel_rfl)) (by kernel_rfl) (fun _ _ => trivial)
  · intro act w p hb hp0 hp1 hp hn hF
    have gy : act.eval (.tmp 72) = vT r.1 := hF 9 (of_decide_eq_true (by kernel_rfl)) 72 (by kernel_rfl)
    exact step_storeF (show opO sw10Ops 12 = some (.store 38 (.tmp 13) (.tmp 72)) by kernel_rfl) (.free (by kernel_rfl)) (by kernel_rfl) hp gy hb hp0 hp1 hn
  · intro V p X hb hp hp0 hp1 hB hV
    exact hend V p X hb hp hp0 hp1 hB (hV 13 (of_decide_eq_true (by kernel_rfl)) (by kernel_rfl) (by kernel_rfl))
noncomputable def sw11Ops : Array Oper := regOf Tryz.f4 11
theorem sw11_fill {v0 v1 v2 v3 v4 v5 v6 v7 v8 v9 v10 v11 v12 v13 v14 v15 v16 v17 v18 v19 v20 v21 v22 v23 v24 v25 v26 v27 v28 v29 v30 v31 v32 v33 v34 v35 v36 v37 v38 v39 v40 v41 v42 v43 v44 v45 v46 v47 v48 v49 v50 v51 v52 v53 v54 v55 v56 v57 v58 v59 v60 v61 v62 v63 v64 v65 v66 v67 v68 v69 v70 v71 v72 v73 v74 v75 v76 v77 v78 v79 v80 v81 v82 v83 v84 v85 v86 v87 v88 v89 v90 v91 v92 v93 v94 v95 v96 v97 v98 v99 v100 v101 v102 v103 v104 v105 v106 v107 v108 v109 v110 v111 v112 v113 v114 v115 v116 v117 v118 v119 v120 v121 v122 v123 v124 : Value} (V : Nat → Value) : fillT sw11Ops #[v0, v1, v2, v3, v4, v5, v6, v7, v8, v9, v10, v11, v12, v13, v14, v15, v16, v17, v18, v19, v20, v21, v22, v23, v24, v25, v26, v27, v28, v29, v30, v31, v32, v33, v34, v35, v36, v37, v38, v39, v40, v41, v42, v43, v44, v45, v46, v47, v48, v49, v50, v51, v52, v53, v54, v55, v56, v57, v58, v59, v60, v61, v62, v63, v64, v65, v66, v67, v68, v69, v70, v71, v72, v73, v74, v75, v76, v77, v78, v79, v80, v81, v82, v83, v84, v85, v86, v87, v88, v89, v90, v91, v92, v93, v94, v95, v96, v97, v98, v99, v100, v101, v102, v103, v104, v105, v106, v107, v108, v109, v110, v111, v112, v113, v114, v115, v116, v117, v118, v119, v120, v121, v122, v123, v124] V = #[v0, v1, v2, v3, v4, v5, v6, v7, v8, v9, v10, v11, v12, v13, v14, V 11, V 13, v17, v18, v19, v20, v21, v22, v23, v24, v25, v26, v27, v28, v29, v30, v31, v32, v33, v34, v35, v36, v37, v38, v39, v40, v41, v42, v43, v44, v45, v46, v47, v48, v49, v50, v51, v52, v53, v54, v55, v56, v57, v58, v59, v60, v61, v62, v63, v64, v65, v66, v67, v68, v69, v70, v71, v72, v73, V 8, V 0, V 1, V 2, V 3, V 4, V 5, V 6, V 7, V 9, V 10, v85, v86, v87, v88, v89, v90, v91, v92, v93, v94, v95, v96, v97, v98, v99, v100, v101, v102, v103, v104, v105, v106, v107, v108, v109, v110, v111, v112, v113, v114, v115, v116, v117, v118, v119, v120, v121, v122, v123, v124] := by
  kernel_rfl
def sw11L (x : EnvM) (p3 p4 p5 : Nat) (e e2 : Ee) (r : Rv) (p12 : Nat) (g : ByteArray) : List (Value → World → Prop) := [IsV (.pointer (some ⟨p12, 1, none⟩)), IsV (.string g), IsE e2, IsE e, IsK [e2, e], IsE (.mk 7 g ⟨#[]⟩ 0 0 [e2, e]), IsX x, IsV (.tuple #[vT r.1, .int .i64 r.2]), IsV (.tuple #[vT r.1, .int .i64 r.2]), IsV (vT r.1), IsV (.int .i64 r.2), AnyF, AnyF, IsV (.int .i64 r.2)]
def sw11F (x : EnvM) (p3 p4 p5 : Nat) (e e2 : Ee) (r : Rv) (p12 : Nat) (g : ByteArray) (i : Nat) : Value → World → Prop := (sw11L x p3 p4 p5 e e2 r p12 g).getD i AnyF
theorem sw11F_mono (x : EnvM) (p3 p4 p5 : Nat) (e e2 : Ee) (r : Rv) (p12 : Nat) (g : ByteArray) (i : Nat) (v : Value) (w w' : World) (hp : (sw11F x p3 p4 p5 e e2 r p12 g) i v w) (hb : Below w.heap.size w w') : (sw11F x p3 p4 p5 e e2 r p12 g) i v w' := by
  refine monoL ?_ i v w w' hp hb
  unfold sw11L
  simp only [List.forall_mem_cons]
  exact ⟨mono_isV _, mono_isV _, mono_isE _, mono_isE _, mono_isK _, mono_isE _, mono_isX _, mono_isV _, mono_isV _, mono_isV _, mono_isV _, mono_any, mono_any, mono_isV _, fun _ h => by cases h⟩
def sw11Fl (i : Nat) : Bool := ([true, true, false, false, false, false, false, true, true, true, true, true, true, true] : List Bool).getD i false
theorem sw11F_flat (x : EnvM) (p3 p4 p5 : Nat) (e e2 : Ee) (r : Rv) (p12 : Nat) (g : ByteArray) (i : Nat) (hi : sw11Fl i = true) (v : Value) (w w' : World) (hp : (sw11F x p3 p4 p5 e e2 r p12 g) i v w) : (sw11F x p3 p4 p5 e e2 r p12 g) i v w' := by
  unfold sw11Fl at hi
  unfold sw11F sw11L at hp ⊢
  match i, hi with
  | 0, _ => exact hp
  | 1, _ => exact hp
  | 2, h => exact absurd h (by decide)
  | 3, h => exact absurd h (by decide)
  | 4, h => exact absurd h (by decide)
  | 5, h => exact absurd h (by decide)
  | 6, h => exact absurd h (by decide)
  | 7, _ => exact hp
  | 8, _ => exact hp
  | 9, _ => exact hp
  | 10, _ => exact hp
  | 11, _ => exact hp
  | 12, _ => exact hp
  | 13, _ => exact hp
  | i + 14, h => simp at h
theorem sw11_s0 {Q : Exit → Act → World → Prop} {w0 : World} {xs : Nat → Value} (x : EnvM) (p3 p4 p5 : Nat) (e e2 : Ee) (r : Rv) (p12 : Nat) (g : ByteArray) (h3 : EBx w0 p3 e) (h4 : EBx w0 p4 e2) (h5 : XBx w0 p5 x) (hg : SBx w0 p12 1 g) (hev : EvOn w0 x (.mk 7 g ⟨#[]⟩ 0 0 [e2, e]) r) (hx3 : xs 3 = .pointer (some ⟨p3, 0, none⟩)) (hx4 : xs 4 = .pointer (some ⟨p4, 0, none⟩)) (hx5 : xs 5 = .pointer (some ⟨p5, 0, none⟩)) (hx12 : xs 12 = .pointer (some ⟨p12, 0, none⟩)) : OpStep Tryz.prog sw11Ops Q (sw11F x p3 p4 p5 e e2 r p12 g) w0 125 xs 0 := by
  intro act w hb hk hF
  have g12 : act.eval (.tmp 12) = .pointer (some ⟨p12, 0, none⟩) := (hk 12 (by decide) (by kernel_rfl)).trans hx12
  exact step_ixA1 (show opO sw11Ops 0 = some (.indexAddr 43 (.tmp 12) (.const (.int .i64 1))) by kernel_rfl) (.free (by kernel_rfl)) g12 ⟨rfl, Below.refl _ _⟩
theorem sw11_s1 {Q : Exit → Act → World → Prop} {w0 : World} {xs : Nat → Value} (x : EnvM) (p3 p4 p5 : Nat) (e e2 : Ee) (r : Rv) (p12 : Nat) (g : ByteArray) (h3 : EBx w0 p3 e) (h4 : EBx w0 p4 e2) (h5 : XBx w0 p5 x) (hg : SBx w0 p12 1 g) (hev : EvOn w0 x (.mk 7 g ⟨#[]⟩ 0 0 [e2, e]) r) (hx3 : xs 3 = .pointer (some ⟨p3, 0, none⟩)) (hx4 : xs 4 = .pointer (some ⟨p4, 0, none⟩)) (hx5 : xs 5 = .pointer (some ⟨p5, 0, none⟩)) (hx12 : xs 12 = .pointer (some ⟨p12, 0, none⟩)) : OpStep Tryz.prog sw11Ops Q (sw11F x p3 p4 p5 e e2 r p12 g) w0 125 xs 1 := by
  intro act w hb hk hF
  have g75 : act.eval (.tmp 75) = .pointer (some ⟨p12, 1, none⟩) := hF 0 (of_decide_eq_true (by kernel_rfl)) 75 (by kernel_rfl)
  exact step_ldG (show opO sw11Ops 1 = some (.load 9 (.tmp 75)) by kernel_rfl) (.free (by kernel_rfl)) g75 (hg.on hb) ⟨rfl, Below.refl _ _⟩
theorem sw11_s2 {Q : Exit → Act → World → Prop} {w0 : World} {xs : Nat → Value} (x : EnvM) (p3 p4 p5 : Nat) (e e2 : Ee) (r : Rv) (p12 : Nat) (g : ByteArray) (h3 : EBx w0 p3 e) (h4 : EBx w0 p4 e2) (h5 : XBx w0 p5 x) (hg : SBx w0 p12 1 g) (hev : EvOn w0 x (.mk 7 g ⟨#[]⟩ 0 0 [e2, e]) r) (hx3 : xs 3 = .pointer (some ⟨p3, 0, none⟩)) (hx4 : xs 4 = .pointer (some ⟨p4, 0, none⟩)) (hx5 : xs 5 = .pointer (some ⟨p5, 0, none⟩)) (hx12 : xs 12 = .pointer (some ⟨p12, 0, none⟩)) : OpStep Tryz.prog sw11Ops Q (sw11F x p3 p4 p5 e e2 r p12 g) w0 125 xs 2 := by
  intro act w hb hk hF
  have g4 : act.eval (.tmp 4) = .pointer (some ⟨p4, 0, none⟩) := (hk 4 (by decide) (by kernel_rfl)).trans hx4
  exact step_loadEB (show opO sw11Ops 2 = some (.load 25 (.tmp 4)) by kernel_rfl) (.free (by kernel_rfl)) g4 (h4.on hb) (fun v h => ⟨h, Below.refl _ _⟩)
theorem sw11_s3 {Q : Exit → Act → World → Prop} {w0 : World} {xs : Nat → Value} (x : EnvM) (p3 p4 p5 : Nat) (e e2 : Ee) (r : Rv) (p12 : Nat) (g : ByteArray) (h3 : EBx w0 p3 e) (h4 : EBx w0 p4 e2) (h5 : XBx w0 p5 x) (hg : SBx w0 p12 1 g) (hev : EvOn w0 x (.mk 7 g ⟨#[]⟩ 0 0 [e2, e]) r) (hx3 : xs 3 = .pointer (some ⟨p3, 0, none⟩)) (hx4 : xs 4 = .pointer (some ⟨p4, 0, none⟩)) (hx5 : xs 5 = .pointer (some ⟨p5, 0, none⟩)) (hx12 : xs 12 = .pointer (some ⟨p12, 0, none⟩)) : OpStep Tryz.prog sw11Ops Q (sw11F x p3 p4 p5 e e2 r p12 g) w0 125 xs 3 := by
  intro act w hb hk hF
  have g3 : act.eval (.tmp 3) = .pointer (some ⟨p3, 0, none⟩) := (hk 3 (by decide) (by kernel_rfl)).trans hx3
  exact step_loadEB (show opO sw11Ops 3 = some (.load 25 (.tmp 3)) by kernel_rfl) (.free (by kernel_rfl)) g3 (h3.on hb) (fun v h => ⟨h, Below.refl _ _⟩)
theorem sw11_s4 {Q : Exit → Act → World → Prop} {w0 : World} {xs : Nat → Value} (x : EnvM) (p3 p4 p5 : Nat) (e e2 : Ee) (r : Rv) (p12 : Nat) (g : ByteArray) (h3 : EBx w0 p3 e) (h4 : EBx w0 p4 e2) (h5 : XBx w0 p5 x) (hg : SBx w0 p12 1 g) (hev : EvOn w0 x (.mk 7 g ⟨#[]⟩ 0 0 [e2, e]) r) (hx3 : xs 3 = .pointer (some ⟨p3, 0, none⟩)) (hx4 : xs 4 = .pointer (some ⟨p4, 0, none⟩)) (hx5 : xs 5 = .pointer (some ⟨p5, 0, none⟩)) (hx12 : xs 12 = .pointer (some ⟨p12, 0, none⟩)) : OpStep Tryz.prog sw11Ops Q (sw11F x p3 p4 p5 e e2 r p12 g) w0 125 xs 4 := by
  intro act w hb hk hF
  have g77 : IsE e2 (act.eval (.tmp 77)) w := hF 2 (of_decide_eq_true (by kernel_rfl)) 77 (by kernel_rfl)
  have g78 : IsE e (act.eval (.tmp 78)) w := hF 3 (of_decide_eq_true (by kernel_rfl)) 78 (by kernel_rfl)
  exact step_k2 (show opO sw11Ops 4 = some (.buildSlice 23 2 #[(0, .tmp 77), (1, .tmp 78)]) by kernel_rfl) (.free (by kernel_rfl)) g77 g78 (fun v w' h1 h2 => ⟨h1, h2⟩)
theorem sw11_s5 {Q : Exit → Act → World → Prop} {w0 : World} {xs : Nat → Value} (x : EnvM) (p3 p4 p5 : Nat) (e e2 : Ee) (r : Rv) (p12 : Nat) (g : ByteArray) (h3 : EBx w0 p3 e) (h4 : EBx w0 p4 e2) (h5 : XBx w0 p5 x) (hg : SBx w0 p12 1 g) (hev : EvOn w0 x (.mk 7 g ⟨#[]⟩ 0 0 [e2, e]) r) (hx3 : xs 3 = .pointer (some ⟨p3, 0, none⟩)) (hx4 : xs 4 = .pointer (some ⟨p4, 0, none⟩)) (hx5 : xs 5 = .pointer (some ⟨p5, 0, none⟩)) (hx12 : xs 12 = .pointer (some ⟨p12, 0, none⟩)) : OpStep Tryz.prog sw11Ops Q (sw11F x p3 p4 p5 e e2 r p12 g) w0 125 xs 5 := by
  intro act w hb hk hF
  have g76 : act.eval (.tmp 76) = .string g := hF 1 (of_decide_eq_true (by kernel_rfl)) 76 (by kernel_rfl)
  have g79 : IsK [e2, e] (act.eval (.tmp 79)) w := hF 4 (of_decide_eq_true (by kernel_rfl)) 79 (by kernel_rfl)
  exact step_call (f := 11) (xs := #[.tmp 76, .tmp 79]) (by kernel_rfl) (.free (by kernel_rfl)) (map2 g76 rfl) (enters_of Tryz.func11 (by kernel_rfl) rfl) ((opE_is g _ _ w g79).mono fun e w' ⟨v, h1, h2, h3⟩ => ⟨v, h1, h2, h3⟩)
theorem sw11_s6 {Q : Exit → Act → World → Prop} {w0 : World} {xs : Nat → Value} (x : EnvM) (p3 p4 p5 : Nat) (e e2 : Ee) (r : Rv) (p12 : Nat) (g : ByteArray) (h3 : EBx w0 p3 e) (h4 : EBx w0 p4 e2) (h5 : XBx w0 p5 x) (hg : SBx w0 p12 1 g) (hev : EvOn w0 x (.mk 7 g ⟨#[]⟩ 0 0 [e2, e]) r) (hx3 : xs 3 = .pointer (some ⟨p3, 0, none⟩)) (hx4 : xs 4 = .pointer (some ⟨p4, 0, none⟩)) (hx5 : xs 5 = .pointer (some ⟨p5, 0, none⟩)) (hx12 : xs 12 = .pointer (some ⟨p12, 0, none⟩)) : OpStep Tryz.prog sw11Ops Q (sw11F x p3 p4 p5 e e2 r p12 g) w0 125 xs 6 := by
  intro act w hb hk hF
  have g5 : act.eval (.tmp 5) = .pointer (some ⟨p5, 0, none⟩) := (hk 5 (by decide) (by kernel_rfl)).trans hx5
  exact step_loadXB (show opO sw11Ops 6 = some (.load 29 (.tmp 5)) by kernel_rfl) (.free (by kernel_rfl)) g5 (h5.on hb) (fun v h => ⟨h, Below.refl _ _⟩)
theorem sw11_s7 {Q : Exit → Act → World → Prop} {w0 : World} {xs : Nat → Value} (x : EnvM) (p3 p4 p5 : Nat) (e e2 : Ee) (r : Rv) (p12 : Nat) (g : ByteArray) (h3 : EBx w0 p3 e) (h4 : EBx w0 p4 e2) (h5 : XBx w0 p5 x) (hg : SBx w0 p12 1 g) (hev : EvOn w0 x (.mk 7 g ⟨#[]⟩ 0 0 [e2, e]) r) (hx3 : xs 3 = .pointer (some ⟨p3, 0, none⟩)) (hx4 : xs 4 = .pointer (some ⟨p4, 0, none⟩)) (hx5 : xs 5 = .pointer (some ⟨p5, 0, none⟩)) (hx12 : xs 12 = .pointer (some ⟨p12, 0, none⟩)) : OpStep Tryz.prog sw11Ops Q (sw11F x p3 p4 p5 e e2 r p12 g) w0 125 xs 7 := by
  intro act w hb hk hF
  have g80 : IsE (.mk 7 g ⟨#[]⟩ 0 0 [e2, e]) (act.eval (.tmp 80)) w := hF 5 (of_decide_eq_true (by kernel_rfl)) 80 (by kernel_rfl)
  have g81 : IsX x (act.eval (.tmp 81)) w := hF 6 (of_decide_eq_true (by kernel_rfl)) 81 (by kernel_rfl)
  exact step_call (f := 10) (xs := #[.tmp 80, .tmp 81]) (by kernel_rfl) (.free (by kernel_rfl)) (map2 rfl rfl) (enters_of Tryz.func10 (by kernel_rfl) rfl) ((hev w _ _ hb g80 g81).mono fun e w' h => ⟨_, h.1, rfl, h.2⟩)
theorem sw11_s8 {Q : Exit → Act → World → Prop} {w0 : World} {xs : Nat → Value} (x : EnvM) (p3 p4 p5 : Nat) (e e2 : Ee) (r : Rv) (p12 : Nat) (g : ByteArray) (h3 : EBx w0 p3 e) (h4 : EBx w0 p4 e2) (h5 : XBx w0 p5 x) (hg : SBx w0 p12 1 g) (hev : EvOn w0 x (.mk 7 g ⟨#[]⟩ 0 0 [e2, e]) r) (hx3 : xs 3 = .pointer (some ⟨p3, 0, none⟩)) (hx4 : xs 4 = .pointer (some ⟨p4, 0, none⟩)) (hx5 : xs 5 = .pointer (some ⟨p5, 0, none⟩)) (hx12 : xs 12 = .pointer (some ⟨p12, 0, none⟩)) : OpStep Tryz.prog sw11Ops Q (sw11F x p3 p4 p5 e e2 r p12 g) w0 125 xs 8 := by
  intro act w hb hk hF
  have g82 : act.eval (.tmp 82) = .tuple #[vT r.1, .int .i64 r.2] := hF 7 (of_decide_eq_true (by kernel_rfl)) 82 (by kernel_rfl)
  exact step_move (show opO sw11Ops 8 = some (.move (.tmp 82)) by kernel_rfl) (.free (by kernel_rfl)) g82 ⟨rfl, Below.refl _ _⟩
theorem sw11_s9 {Q : Exit → Act → World → Prop} {w0 : World} {xs : Nat → Value} (x : EnvM) (p3 p4 p5 : Nat) (e e2 : Ee) (r : Rv) (p12 : Nat) (g : ByteArray) (h3 : EBx w0 p3 e) (h4 : EBx w0 p4 e2) (h5 : XBx w0 p5 x) (hg : SBx w0 p12 1 g) (hev : EvOn w0 x (.mk 7 g ⟨#[]⟩ 0 0 [e2, e]) r) (hx3 : xs 3 = .pointer (some ⟨p3, 0, none⟩)) (hx4 : xs 4 = .pointer (some ⟨p4, 0, none⟩)) (hx5 : xs 5 = .pointer (some ⟨p5, 0, none⟩)) (hx12 : xs 12 = .pointer (some ⟨p12, 0, none⟩)) : OpStep Tryz.prog sw11Ops Q (sw11F x p3 p4 p5 e e2 r p12 g) w0 125 xs 9 := by
  intro act w hb hk hF
  have g74 : act.eval (.tmp 74) = .tuple #[vT r.1, .int .i64 r.2] := hF 8 (of_decide_eq_true (by kernel_rfl)) 74 (by kernel_rfl)
  exact step_extract (show opO sw11Ops 9 = some (.extract (.tmp 74) 0) by kernel_rfl) (.free (by kernel_rfl)) g74 rfl ⟨rfl, Below.refl _ _⟩
theorem sw11_s10 {Q : Exit → Act → World → Prop} {w0 : World} {xs : Nat → Value} (x : EnvM) (p3 p4 p5 : Nat) (e e2 : Ee) (r : Rv) (p12 : Nat) (g : ByteArray) (h3 : EBx w0 p3 e) (h4 : EBx w0 p4 e2) (h5 : XBx w0 p5 x) (hg : SBx w0 p12 1 g) (hev : EvOn w0 x (.mk 7 g ⟨#[]⟩ 0 0 [e2, e]) r) (hx3 : xs 3 = .pointer (some ⟨p3, 0, none⟩)) (hx4 : xs 4 = .pointer (some ⟨p4, 0, none⟩)) (hx5 : xs 5 = .pointer (some ⟨p5, 0, none⟩)) (hx12 : xs 12 = .pointer (some ⟨p12, 0, none⟩)) : OpStep Tryz.prog sw11Ops Q (fun j v w => sw11Fl j = true → (sw11F x p3 p4 p5 e e2 r p12 g) j v w) w0 125 xs 10 := by
  intro act w hb hk hF
  have g74 : act.eval (.tmp 74) = .tuple #[vT r.1, .int .i64 r.2] := (show sw11Fl 8 = true → _ from hF 8 (of_decide_eq_true (by kernel_rfl)) 74 (by kernel_rfl)) (by kernel_rfl)
  exact step_extract (show opO sw11Ops 10 = some (.extract (.tmp 74) 1) by kernel_rfl) (.free (by kernel_rfl)) g74 rfl ⟨fun _ => rfl, Below.refl _ _⟩
theorem sw11_s13 {Q : Exit → Act → World → Prop} {w0 : World} {xs : Nat → Value} (x : EnvM) (p3 p4 p5 : Nat) (e e2 : Ee) (r : Rv) (p12 : Nat) (g : ByteArray) (h3 : EBx w0 p3 e) (h4 : EBx w0 p4 e2) (h5 : XBx w0 p5 x) (hg : SBx w0 p12 1 g) (hev : EvOn w0 x (.mk 7 g ⟨#[]⟩ 0 0 [e2, e]) r) (hx3 : xs 3 = .pointer (some ⟨p3, 0, none⟩)) (hx4 : xs 4 = .pointer (some ⟨p4, 0, none⟩)) (hx5 : xs 5 = .pointer (some ⟨p5, 0, none⟩)) (hx12 : xs 12 = .pointer (some ⟨p12, 0, none⟩)) : OpStep Tryz.prog sw11Ops Q (fun j v w => sw11Fl j = true → (sw11F x p3 p4 p5 e e2 r p12 g) j v w) w0 125 xs 13 := by
  intro act w hb hk hF
  have g84 : act.eval (.tmp 84) = .int .i64 r.2 := (show sw11Fl 10 = true → _ from hF 10 (of_decide_eq_true (by kernel_rfl)) 84 (by kernel_rfl)) (by kernel_rfl)
  exact step_assign (show opO sw11Ops 13 = some (.assign (.tmp 84)) by kernel_rfl) (.free (by kernel_rfl)) g84 ⟨fun _ => rfl, Below.refl _ _⟩
theorem sw11 {Q : Exit → Act → World → Prop} {a0 : Act} {w0 : World} (x : EnvM) (p3 p4 p5 : Nat) (e e2 : Ee) (r : Rv) (p12 : Nat) (g : ByteArray) (h3 : EBx w0 p3 e) (h4 : EBx w0 p4 e2) (h5 : XBx w0 p5 x) (hg : SBx w0 p12 1 g) (hev : EvOn w0 x (.mk 7 g ⟨#[]⟩ 0 0 [e2, e]) r) (hx3 : a0.tmps.getD 3 undef = .pointer (some ⟨p3, 0, none⟩)) (hx4 : a0.tmps.getD 4 undef = .pointer (some ⟨p4, 0, none⟩)) (hx5 : a0.tmps.getD 5 undef = .pointer (some ⟨p5, 0, none⟩)) (hx12 : a0.tmps.getD 12 undef = .pointer (some ⟨p12, 0, none⟩)) (hs : a0.tmps.size = 125)
    (hend : ∀ (V : Nat → Value) (p : Nat) (X : World), Below w0.heap.size w0 X → V 11 = .pointer (some ⟨p, 0, none⟩) → w0.heap.size ≤ p → p < X.heap.size → BoxF p r.1 X → V 13 = .int .i64 r.2 → Q .normal ⟨fillT sw11Ops a0.tmps V, a0.defers⟩ X) : (Code.region 11 sw11Ops true).wp Tryz.prog Q a0 w0 := by
  refine wp_region_boxM (by kernel_rfl) (sw11F x p3 p4 p5 e e2 r p12 g) 11 12 15 NewAt (fun p w => BoxF p r.1 w) sw11Fl (sw11F_mono x p3 p4 p5 e e2 r p12 g) (sw11F_flat x p3 p4 p5 e e2 r p12 g) (by kernel_rfl) (by kernel_rfl) (of_decide_eq_true (by kernel_rfl)) (of_decide_eq_true (by kernel_rfl)) (by decide) ?_ new_keep boxF_keep (by rw [hs]; kernel_rfl) ?_ ?_ ?_ ?_ ?_
  · have size_is : sw11Ops.size = 14 := by kernel_rfl
    rw [size_is]
    intro i hi h1 h2
    have hq : ((List.range 14).all fun i => decide (i ∈ depsO sw11Ops 12) || decide (i = 12) || sw11Fl i) = true := by kernel_rfl
    have := List.all_eq_true.1 hq i (List.mem_range.2 hi)
    simp only [Bool.or_eq_true, decide_eq_true_eq] at this
    rcases this with (h | h) | h
    · exact absurd h h1
    · exact absurd h h2
    · exact h
  · rw [hs]
    have size_is : sw11Ops.size = 14 := by kernel_rfl
    rw [size_is]
    intro i hi hne1 hne2 hdp
    have hall : ∀ j, j < 14 → j = i → OpStep Tryz.prog sw11Ops Q (sw11F x p3 p4 p5 e e2 r p12 g) w0 125 (fun t => a0.tmps.getD t undef) j := by
      intro j hj hji
      match j, hj with
      | 0, _ => exact sw11_s0 x p3 p4 p5 e e2 r p12 g h3 h4 h5 hg hev hx3 hx4 hx5 hx12
      | 1, _ => exact sw11_s1 x p3 p4 p5 e e2 r p12 g h3 h4 h5 hg hev hx3 hx4 hx5 hx12
      | 2, _ => exact sw11_s2 x p3 p4 p5 e e2 r p12 g h3 h4 h5 hg hev hx3 hx4 hx5 hx12
      | 3, _ => exact sw11_s3 x p3 p4 p5 e e2 r p12 g h3 h4 h5 hg hev hx3 hx4 hx5 hx12
      | 4, _ => exact sw11_s4 x p3 p4 p5 e e2 r p12 g h3 h4 h5 hg hev hx3 hx4 hx5 hx12
      | 5, _ => exact sw11_s5 x p3 p4 p5 e e2 r p12 g h3 h4 h5 hg hev hx3 hx4 hx5 hx12
      | 6, _ => exact sw11_s6 x p3 p4 p5 e e2 r p12 g h3 h4 h5 hg hev hx3 hx4 hx5 hx12
      | 7, _ => exact sw11_s7 x p3 p4 p5 e e2 r p12 g h3 h4 h5 hg hev hx3 hx4 hx5 hx12
      | 8, _ => exact sw11_s8 x p3 p4 p5 e e2 r p12 g h3 h4 h5 hg hev hx3 hx4 hx5 hx12
      | 9, _ => exact sw11_s9 x p3 p4 p5 e e2 r p12 g h3 h4 h5 hg hev hx3 hx4 hx5 hx12
      | 10, _ => exact absurd hdp (by rw [← hji]; decide)
      | 11, _ => exact absurd hji.symm hne1
      | 12, _ => exact absurd hji.symm hne2
      | 13, _ => exact absurd hdp (by rw [← hji]; decide)
      | q + 14, hj => exact absurd hj (by omega)
    exact hall i hi rfl
  · rw [hs]
    have size_is : sw11Ops.size = 14 := by kernel_rfl
    rw [size_is]
    intro i hi hne1 hne2 hdp
    have hall : ∀ j, j < 14 → j = i → OpStep Tryz.prog sw11Ops Q (fun j v w => sw11Fl j = true → (sw11F x p3 p4 p5 e e2 r p12 g) j v w) w0 125 (fun t => a0.tmps.getD t undef) j := by
      intro j hj hji
      match j, hj with
      | 0, _ => exact absurd hdp (by rw [← hji]; exact fun h => h (by decide))
      | 1, _ => exact absurd hdp (by rw [← hji]; exact fun h => h (by decide))
      | 2, _ => exact absurd hdp (by rw [← hji]; exact fun h => h (by decide))
      | 3, _ => exact absurd hdp (by rw [← hji]; exact fun h => h (by decide))
      | 4, _ => exact absurd hdp (by rw [← hji]; exact fun h => h (by decide))
      | 5, _ => exact absurd hdp (by rw [← hji]; exact fun h => h (by decide))
      | 6, _ => exact absurd hdp (by rw [← hji]; exact fun h => h (by decide))
      | 7, _ => exact absurd hdp (by rw [← hji]; exact fun h => h (by decide))
      | 8, _ => exact absurd hdp (by rw [← hji]; exact fun h => h (by decide))
      | 9, _ => exact absurd hdp (by rw [← hji]; exact fun h => h (by decide))
      | 10, _ => exact sw11_s10 x p3 p4 p5 e e2 r p12 g h3 h4 h5 hg hev hx3 hx4 hx5 hx12
      | 11, _ => exact absurd hji.symm hne1
      | 12, _ => exact absurd hji.symm hne2
      | 13, _ => exact sw11_s13 x p3 p4 p5 e e2 r p12 g h3 h4 h5 hg hev hx3 hx4 hx5 hx12
      | q + 14, hj => exact absurd hj (by omega)
    exact hall i hi rfl
  · intro a w hb
    exact step_allocV (by kernel_rfl) (.free (by kernel_rfl)) (by kernel_rfl) (fun _ _ => trivial)
  · intro act w p hb hp0 hp1 hp hn hF
    have gy : act.eval (.tmp 83) = vT r.1 := hF 9 (of_decide_eq_true (by kernel_rfl)) 83 (by kernel_rfl)
    exact step_storeF (show opO sw11Ops 12 = some (.store 38 (.tmp 15) (.tmp 83)) by kernel_rfl) (.free (by kernel_rfl)) (by kernel_rfl) hp gy hb hp0 hp1 hn
  · intro V p X hb hp hp0 hp1 hB hV
    exact hend V p X hb hp hp0 hp1 hB (hV 13 (of_decide_eq_true (by kernel_rfl)) (by kernel_rfl) (by kernel_rfl))
noncomputable def sw15Ops : Array Oper := regOf Tryz.f4 15
theorem sw15_fill {v0 v1 v2 v3 v4 v5 v6 v7 v8 v9 v10 v11 v12 v13 v14 v15 v16 v17 v18 v19 v20 v21 v22 v23 v24 v25 v26 v27 v28 v29 v30 v31 v32 v33 v34 v35 v36 v37 v38 v39 v40 v41 v42 v43 v44 v45 v46 v47 v48 v49 v50 v51 v52 v53 v54 v55 v56 v57 v58 v59 v60 v61 v62 v63 v64 v65 v66 v67 v68 v69 v70 v71 v72 v73 v74 v75 v76 v77 v78 v79 v80 v81 v82 v83 v84 v85 v86 v87 v88 v89 v90 v91 v92 v93 v94 v95 v96 v97 v98 v99 v100 v101 v102 v103 v104 v105 v106 v107 v108 v109 v110 v111 v112 v113 v114 v115 v116 v117 v118 v119 v120 v121 v122 v123 v124 : Value} (V : Nat → Value) : fillT sw15Ops #[v0, v1, v2, v3, v4, v5, v6, v7, v8, v9, v10, v11, v12, v13, v14, v15, v16, v17, v18, v19, v20, v21, v22, v23, v24, v25, v26, v27, v28, v29, v30, v31, v32, v33, v34, v35, v36, v37, v38, v39, v40, v41, v42, v43, v44, v45, v46, v47, v48, v49, v50, v51, v52, v53, v54, v55, v56, v57, v58, v59, v60, v61, v62, v63, v64, v65, v66, v67, v68, v69, v70, v71, v72, v73, v74, v75, v76, v77, v78, v79, v80, v81, v82, v83, v84, v85, v86, v87, v88, v89, v90, v91, v92, v93, v94, v95, v96, v97, v98, v99, v100, v101, v102, v103, v104, v105, v106, v107, v108, v109, v110, v111, v112, v113, v114, v115, v116, v117, v118, v119, v120, v121, v122, v123, v124] V = #[v0, v1, v2, v3, v4, v5, v6, v7, v8, v9, v10, v11, v12, v13, v14, v15, v16, V 11, V 13, v19, v20, v21, v22, v23, v24, v25, v26, v27, v28, v29, v30, v31, v32, v33, v34, v35, v36, v37, v38, v39, v40, v41, v42, v43, v44, v45, v46, v47, v48, v49, v50, v51, v52, v53, v54, v55, v56, v57, v58, v59, v60, v61, v62, v63, v64, v65, v66, v67, v68, v69, v70, v71, v72, v73, v74, v75, v76, v77, v78, v79, v80, v81, v82, v83, v84, v85, v86, v87, v88, v89, v90, v91, v92, v93, V 8, V 0, V 1, V 2, V 3, V 4, V 5, V 6, V 7, V 9, V 10, v105, v106, v107, v108, v109, v110, v111, v112, v113, v114, v115, v116, v117, v118, v119, v120, v121, v122, v123, v124] := by
  kernel_rfl
def sw15L (x : EnvM) (p3 p4 p5 : Nat) (e e2 : Ee) (r : Rv) : List (Value → World → Prop) := [IsE e, IsE e2, IsK [e, e2], IsE (.mk 7 ⟨#[61]⟩ ⟨#[]⟩ 0 0 [e, e2]), IsK ([.mk 7 ⟨#[61]⟩ ⟨#[]⟩ 0 0 [e, e2]]), IsE (.mk 7 ⟨#[110, 111, 116]⟩ ⟨#[]⟩ 0 0 [.mk 7 ⟨#[61]⟩ ⟨#[]⟩ 0 0 [e, e2]]), IsX x, IsV (.tuple #[vT r.1, .int .i64 r.2]), IsV (.tuple #[vT r.1, .int .i64 r.2]), IsV (vT r.1), IsV (.int .i64 r.2), AnyF, AnyF, IsV (.int .i64 r.2)]
def sw15F (x : EnvM) (p3 p4 p5 : Nat) (e e2 : Ee) (r : Rv) (i : Nat) : Value → World → Prop := (sw15L x p3 p4 p5 e e2 r).getD i AnyF
theorem sw15F_mono (x : EnvM) (p3 p4 p5 : Nat) (e e2 : Ee) (r : Rv) (i : Nat) (v : Value) (w w' : World) (hp : (sw15F x p3 p4 p5 e e2 r) i v w) (hb : Below w.heap.size w w') : (sw15F x p3 p4 p5 e e2 r) i v w' := by
  refine monoL ?_ i v w w' hp hb
  unfold sw15L
  simp only [List.forall_mem_cons]
  exact ⟨mono_isE _, mono_isE _, mono_isK _, mono_isE _, mono_isK _, mono_isE _, mono_isX _, mono_isV _, mono_isV _, mono_isV _, mono_isV _, mono_any, mono_any, mono_isV _, fun _ h => by cases h⟩
def sw15Fl (i : Nat) : Bool := ([false, false, false, false, false, false, false, true, true, true, true, true, true, true] : List Bool).getD i false
theorem sw15F_flat (x : EnvM) (p3 p4 p5 : Nat) (e e2 : Ee) (r : Rv) (i : Nat) (hi : sw15Fl i = true) (v : Value) (w w' : World) (hp : (sw15F x p3 p4 p5 e e2 r) i v w) : (sw15F x p3 p4 p5 e e2 r) i v w' := by
  unfold sw15Fl at hi
  unfold sw15F sw15L at hp ⊢
  match i, hi with
  | 0, h => exact absurd h (by decide)
  | 1, h => exact absurd h (by decide)
  | 2, h => exact absurd h (by decide)
  | 3, h => exact absurd h (by decide)
  | 4, h => exact absurd h (by decide)
  | 5, h => exact absurd h (by decide)
  | 6, h => exact absurd h (by decide)
  | 7, _ => exact hp
  | 8, _ => exact hp
  | 9, _ => exact hp
  | 10, _ => exact hp
  | 11, _ => exact hp
  | 12, _ => exact hp
  | 13, _ => exact hp
  | i + 14, h => simp at h
theorem sw15_s0 {Q : Exit → Act → World → Prop} {w0 : World} {xs : Nat → Value} (x : EnvM) (p3 p4 p5 : Nat) (e e2 : Ee) (r : Rv) (h3 : EBx w0 p3 e) (h4 : EBx w0 p4 e2) (h5 : XBx w0 p5 x) (hev : EvOn w0 x (.mk 7 ⟨#[110, 111, 116]⟩ ⟨#[]⟩ 0 0 [.mk 7 ⟨#[61]⟩ ⟨#[]⟩ 0 0 [e, e2]]) r) (hx3 : xs 3 = .pointer (some ⟨p3, 0, none⟩)) (hx4 : xs 4 = .pointer (some ⟨p4, 0, none⟩)) (hx5 : xs 5 = .pointer (some ⟨p5, 0, none⟩)) : OpStep Tryz.prog sw15Ops Q (sw15F x p3 p4 p5 e e2 r) w0 125 xs 0 := by
  intro act w hb hk hF
  have g3 : act.eval (.tmp 3) = .pointer (some ⟨p3, 0, none⟩) := (hk 3 (by decide) (by kernel_rfl)).trans hx3
  exact step_loadEB (show opO sw15Ops 0 = some (.load 25 (.tmp 3)) by kernel_rfl) (.free (by kernel_rfl)) g3 (h3.on hb) (fun v h => ⟨h, Below.refl _ _⟩)
theorem sw15_s1 {Q : Exit → Act → World → Prop} {w0 : World} {xs : Nat → Value} (x : EnvM) (p3 p4 p5 : Nat) (e e2 : Ee) (r : Rv) (h3 : EBx w0 p3 e) (h4 : EBx w0 p4 e2) (h5 : XBx w0 p5 x) (hev : EvOn w0 x (.mk 7 ⟨#[110, 111, 116]⟩ ⟨#[]⟩ 0 0 [.mk 7 ⟨#[61]⟩ ⟨#[]⟩ 0 0 [e, e2]]) r) (hx3 : xs 3 = .pointer (some ⟨p3, 0, none⟩)) (hx4 : xs 4 = .pointer (some ⟨p4, 0, none⟩)) (hx5 : xs 5 = .pointer (some ⟨p5, 0, none⟩)) : OpStep Tryz.prog sw15Ops Q (sw15F x p3 p4 p5 e e2 r) w0 125 xs 1 := by
  intro act w hb hk hF
  have g4 : act.eval (.tmp 4) = .pointer (some ⟨p4, 0, none⟩) := (hk 4 (by decide) (by kernel_rfl)).trans hx4
  exact step_loadEB (show opO sw15Ops 1 = some (.load 25 (.tmp 4)) by kernel_rfl) (.free (by kernel_rfl)) g4 (h4.on hb) (fun v h => ⟨h, Below.refl _ _⟩)
theorem sw15_s2 {Q : Exit → Act → World → Prop} {w0 : World} {xs : Nat → Value} (x : EnvM) (p3 p4 p5 : Nat) (e e2 : Ee) (r : Rv) (h3 : EBx w0 p3 e) (h4 : EBx w0 p4 e2) (h5 : XBx w0 p5 x) (hev : EvOn w0 x (.mk 7 ⟨#[110, 111, 116]⟩ ⟨#[]⟩ 0 0 [.mk 7 ⟨#[61]⟩ ⟨#[]⟩ 0 0 [e, e2]]) r) (hx3 : xs 3 = .pointer (some ⟨p3, 0, none⟩)) (hx4 : xs 4 = .pointer (some ⟨p4, 0, none⟩)) (hx5 : xs 5 = .pointer (some ⟨p5, 0, none⟩)) : OpStep Tryz.prog sw15Ops Q (sw15F x p3 p4 p5 e e2 r) w0 125 xs 2 := by
  intro act w hb hk hF
  have g95 : IsE e (act.eval (.tmp 95)) w := hF 0 (of_decide_eq_true (by kernel_rfl)) 95 (by kernel_rfl)
  have g96 : IsE e2 (act.eval (.tmp 96)) w := hF 1 (of_decide_eq_true (by kernel_rfl)) 96 (by kernel_rfl)
  exact step_k2 (show opO sw15Ops 2 = some (.buildSlice 23 2 #[(0, .tmp 95), (1, .tmp 96)]) by kernel_rfl) (.free (by kernel_rfl)) g95 g96 (fun v w' h1 h2 => ⟨h1, h2⟩)
theorem sw15_s3 {Q : Exit → Act → World → Prop} {w0 : World} {xs : Nat → Value} (x : EnvM) (p3 p4 p5 : Nat) (e e2 : Ee) (r : Rv) (h3 : EBx w0 p3 e) (h4 : EBx w0 p4 e2) (h5 : XBx w0 p5 x) (hev : EvOn w0 x (.mk 7 ⟨#[110, 111, 116]⟩ ⟨#[]⟩ 0 0 [.mk 7 ⟨#[61]⟩ ⟨#[]⟩ 0 0 [e, e2]]) r) (hx3 : xs 3 = .pointer (some ⟨p3, 0, none⟩)) (hx4 : xs 4 = .pointer (some ⟨p4, 0, none⟩)) (hx5 : xs 5 = .pointer (some ⟨p5, 0, none⟩)) : OpStep Tryz.prog sw15Ops Q (sw15F x p3 p4 p5 e e2 r) w0 125 xs 3 := by
  intro act w hb hk hF
  have g97 : IsK [e, e2] (act.eval (.tmp 97)) w := hF 2 (of_decide_eq_true (by kernel_rfl)) 97 (by kernel_rfl)
  exact step_call (f := 11) (xs := #[.const (.string ⟨#[61]⟩), .tmp 97]) (by kernel_rfl) (.free (by kernel_rfl)) (map2 rfl rfl) (enters_of Tryz.func11 (by kernel_rfl) rfl) ((opE_is ⟨#[61]⟩ _ _ w g97).mono fun e w' ⟨v, h1, h2, h3⟩ => ⟨v, h1, h2, h3⟩)
theorem sw15_s4 {Q : Exit → Act → World → Prop} {w0 : World} {xs : Nat → Value} (x : EnvM) (p3 p4 p5 : Nat) (e e2 : Ee) (r : Rv) (h3 : EBx w0 p3 e) (h4 : EBx w0 p4 e2) (h5 : XBx w0 p5 x) (hev : EvOn w0 x (.mk 7 ⟨#[110, 111, 116]⟩ ⟨#[]⟩ 0 0 [.mk 7 ⟨#[61]⟩ ⟨#[]⟩ 0 0 [e, e2]]) r) (hx3 : xs 3 = .pointer (some ⟨p3, 0, none⟩)) (hx4 : xs 4 = .pointer (some ⟨p4, 0, none⟩)) (hx5 : xs 5 = .pointer (some ⟨p5, 0, none⟩)) : OpStep Tryz.prog sw15Ops Q (sw15F x p3 p4 p5 e e2 r) w0 125 xs 4 := by
  intro act w hb hk hF
  have g98 : IsE (.mk 7 ⟨#[61]⟩ ⟨#[]⟩ 0 0 [e, e2]) (act.eval (.tmp 98)) w := hF 3 (of_decide_eq_true (by kernel_rfl)) 98 (by kernel_rfl)
  exact step_k1 (show opO sw15Ops 4 = some (.buildSlice 23 1 #[(0, .tmp 98)]) by kernel_rfl) (.free (by kernel_rfl)) g98 (fun v w' h1 h2 => ⟨h1, h2⟩)
theorem sw15_s5 {Q : Exit → Act → World → Prop} {w0 : World} {xs : Nat → Value} (x : EnvM) (p3 p4 p5 : Nat) (e e2 : Ee) (r : Rv) (h3 : EBx w0 p3 e) (h4 : EBx w0 p4 e2) (h5 : XBx w0 p5 x) (hev : EvOn w0 x (.mk 7 ⟨#[110, 111, 116]⟩ ⟨#[]⟩ 0 0 [.mk 7 ⟨#[61]⟩ ⟨#[]⟩ 0 0 [e, e2]]) r) (hx3 : xs 3 = .pointer (some ⟨p3, 0, none⟩)) (hx4 : xs 4 = .pointer (some ⟨p4, 0, none⟩)) (hx5 : xs 5 = .pointer (some ⟨p5, 0, none⟩)) : OpStep Tryz.prog sw15Ops Q (sw15F x p3 p4 p5 e e2 r) w0 125 xs 5 := by
  intro act w hb hk hF
  have g99 : IsK ([.mk 7 ⟨#[61]⟩ ⟨#[]⟩ 0 0 [e, e2]]) (act.eval (.tmp 99)) w := hF 4 (of_decide_eq_true (by kernel_rfl)) 99 (by kernel_rfl)
  exact step_call (f := 11) (xs := #[.const (.string ⟨#[110, 111, 116]⟩), .tmp 99]) (by kernel_rfl) (.free (by kernel_rfl)) (map2 rfl rfl) (enters_of Tryz.func11 (by kernel_rfl) rfl) ((opE_is ⟨#[110, 111, 116]⟩ _ _ w g99).mono fun e w' ⟨v, h1, h2, h3⟩ => ⟨v, h1, h2, h3⟩)
theorem sw15_s6 {Q : Exit → Act → World → Prop} {w0 : World} {xs : Nat → Value} (x : EnvM) (p3 p4 p5 : Nat) (e e2 : Ee) (r : Rv) (h3 : EBx w0 p3 e) (h4 : EBx w0 p4 e2) (h5 : XBx w0 p5 x) (hev : EvOn w0 x (.mk 7 ⟨#[110, 111, 116]⟩ ⟨#[]⟩ 0 0 [.mk 7 ⟨#[61]⟩ ⟨#[]⟩ 0 0 [e, e2]]) r) (hx3 : xs 3 = .pointer (some ⟨p3, 0, none⟩)) (hx4 : xs 4 = .pointer (some ⟨p4, 0, none⟩)) (hx5 : xs 5 = .pointer (some ⟨p5, 0, none⟩)) : OpStep Tryz.prog sw15Ops Q (sw15F x p3 p4 p5 e e2 r) w0 125 xs 6 := by
  intro act w hb hk hF
  have g5 : act.eval (.tmp 5) = .pointer (some ⟨p5, 0, none⟩) := (hk 5 (by decide) (by kernel_rfl)).trans hx5
  exact step_loadXB (show opO sw15Ops 6 = some (.load 29 (.tmp 5)) by kernel_rfl) (.free (by kernel_rfl)) g5 (h5.on hb) (fun v h => ⟨h, Below.refl _ _⟩)
theorem sw15_s7 {Q : Exit → Act → World → Prop} {w0 : World} {xs : Nat → Value} (x : EnvM) (p3 p4 p5 : Nat) (e e2 : Ee) (r : Rv) (h3 : EBx w0 p3 e) (h4 : EBx w0 p4 e2) (h5 : XBx w0 p5 x) (hev : EvOn w0 x (.mk 7 ⟨#[110, 111, 116]⟩ ⟨#[]⟩ 0 0 [.mk 7 ⟨#[61]⟩ ⟨#[]⟩ 0 0 [e, e2]]) r) (hx3 : xs 3 = .pointer (some ⟨p3, 0, none⟩)) (hx4 : xs 4 = .pointer (some ⟨p4, 0, none⟩)) (hx5 : xs 5 = .pointer (some ⟨p5, 0, none⟩)) : OpStep Tryz.prog sw15Ops Q (sw15F x p3 p4 p5 e e2 r) w0 125 xs 7 := by
  intro act w hb hk hF
  have g100 : IsE (.mk 7 ⟨#[110, 111, 116]⟩ ⟨#[]⟩ 0 0 [.mk 7 ⟨#[61]⟩ ⟨#[]⟩ 0 0 [e, e2]]) (act.eval (.tmp 100)) w := hF 5 (of_decide_eq_true (by kernel_rfl)) 100 (by kernel_rfl)
  have g101 : IsX x (act.eval (.tmp 101)) w := hF 6 (of_decide_eq_true (by kernel_rfl)) 101 (by kernel_rfl)
  exact step_call (f := 10) (xs := #[.tmp 100, .tmp 101]) (by kernel_rfl) (.free (by kernel_rfl)) (map2 rfl rfl) (enters_of Tryz.func10 (by kernel_rfl) rfl) ((hev w _ _ hb g100 g101).mono fun e w' h => ⟨_, h.1, rfl, h.2⟩)
theorem sw15_s8 {Q : Exit → Act → World → Prop} {w0 : World} {xs : Nat → Value} (x : EnvM) (p3 p4 p5 : Nat) (e e2 : Ee) (r : Rv) (h3 : EBx w0 p3 e) (h4 : EBx w0 p4 e2) (h5 : XBx w0 p5 x) (hev : EvOn w0 x (.mk 7 ⟨#[110, 111, 116]⟩ ⟨#[]⟩ 0 0 [.mk 7 ⟨#[61]⟩ ⟨#[]⟩ 0 0 [e, e2]]) r) (hx3 : xs 3 = .pointer (some ⟨p3, 0, none⟩)) (hx4 : xs 4 = .pointer (some ⟨p4, 0, none⟩)) (hx5 : xs 5 = .pointer (some ⟨p5, 0, none⟩)) : OpStep Tryz.prog sw15Ops Q (sw15F x p3 p4 p5 e e2 r) w0 125 xs 8 := by
  intro act w hb hk hF
  have g102 : act.eval (.tmp 102) = .tuple #[vT r.1, .int .i64 r.2] := hF 7 (of_decide_eq_true (by kernel_rfl)) 102 (by kernel_rfl)
  exact step_move (show opO sw15Ops 8 = some (.move (.tmp 102)) by kernel_rfl) (.free (by kernel_rfl)) g102 ⟨rfl, Below.refl _ _⟩
theorem sw15_s9 {Q : Exit → Act → World → Prop} {w0 : World} {xs : Nat → Value} (x : EnvM) (p3 p4 p5 : Nat) (e e2 : Ee) (r : Rv) (h3 : EBx w0 p3 e) (h4 : EBx w0 p4 e2) (h5 : XBx w0 p5 x) (hev : EvOn w0 x (.mk 7 ⟨#[110, 111, 116]⟩ ⟨#[]⟩ 0 0 [.mk 7 ⟨#[61]⟩ ⟨#[]⟩ 0 0 [e, e2]]) r) (hx3 : xs 3 = .pointer (some ⟨p3, 0, none⟩)) (hx4 : xs 4 = .pointer (some ⟨p4, 0, none⟩)) (hx5 : xs 5 = .pointer (some ⟨p5, 0, none⟩)) : OpStep Tryz.prog sw15Ops Q (sw15F x p3 p4 p5 e e2 r) w0 125 xs 9 := by
  intro act w hb hk hF
  have g94 : act.eval (.tmp 94) = .tuple #[vT r.1, .int .i64 r.2] := hF 8 (of_decide_eq_true (by kernel_rfl)) 94 (by kernel_rfl)
  exact step_extract (show opO sw15Ops 9 = some (.extract (.tmp 94) 0) by kernel_rfl) (.free (by kernel_rfl)) g94 rfl ⟨rfl, Below.refl _ _⟩
theorem sw15_s10 {Q : Exit → Act → World → Prop} {w0 : World} {xs : Nat → Value} (x : EnvM) (p3 p4 p5 : Nat) (e e2 : Ee) (r : Rv) (h3 : EBx w0 p3 e) (h4 : EBx w0 p4 e2) (h5 : XBx w0 p5 x) (hev : EvOn w0 x (.mk 7 ⟨#[110, 111, 116]⟩ ⟨#[]⟩ 0 0 [.mk 7 ⟨#[61]⟩ ⟨#[]⟩ 0 0 [e, e2]]) r) (hx3 : xs 3 = .pointer (some ⟨p3, 0, none⟩)) (hx4 : xs 4 = .pointer (some ⟨p4, 0, none⟩)) (hx5 : xs 5 = .pointer (some ⟨p5, 0, none⟩)) : OpStep Tryz.prog sw15Ops Q (fun j v w => sw15Fl j = true → (sw15F x p3 p4 p5 e e2 r) j v w) w0 125 xs 10 := by
  intro act w hb hk hF
  have g94 : act.eval (.tmp 94) = .tuple #[vT r.1, .int .i64 r.2] := (show sw15Fl 8 = true → _ from hF 8 (of_decide_eq_true (by kernel_rfl)) 94 (by kernel_rfl)) (by kernel_rfl)
  exact step_extract (show opO sw15Ops 10 = some (.extract (.tmp 94) 1) by kernel_rfl) (.free (by kernel_rfl)) g94 rfl ⟨fun _ => rfl, Below.refl _ _⟩
theorem sw15_s13 {Q : Exit → Act → World → Prop} {w0 : World} {xs : Nat → Value} (x : EnvM) (p3 p4 p5 : Nat) (e e2 : Ee) (r : Rv) (h3 : EBx w0 p3 e) (h4 : EBx w0 p4 e2) (h5 : XBx w0 p5 x) (hev : EvOn w0 x (.mk 7 ⟨#[110, 111, 116]⟩ ⟨#[]⟩ 0 0 [.mk 7 ⟨#[61]⟩ ⟨#[]⟩ 0 0 [e, e2]]) r) (hx3 : xs 3 = .pointer (some ⟨p3, 0, none⟩)) (hx4 : xs 4 = .pointer (some ⟨p4, 0, none⟩)) (hx5 : xs 5 = .pointer (some ⟨p5, 0, none⟩)) : OpStep Tryz.prog sw15Ops Q (fun j v w => sw15Fl j = true → (sw15F x p3 p4 p5 e e2 r) j v w) w0 125 xs 13 := by
  intro act w hb hk hF
  have g104 : act.eval (.tmp 104) = .int .i64 r.2 := (show sw15Fl 10 = true → _ from hF 10 (of_decide_eq_true (by kernel_rfl)) 104 (by kernel_rfl)) (by kernel_rfl)
  exact step_assign (show opO sw15Ops 13 = some (.assign (.tmp 104)) by kernel_rfl) (.free (by kernel_rfl)) g104 ⟨fun _ => rfl, Below.refl _ _⟩
theorem sw15 {Q : Exit → Act → World → Prop} {a0 : Act} {w0 : World} (x : EnvM) (p3 p4 p5 : Nat) (e e2 : Ee) (r : Rv) (h3 : EBx w0 p3 e) (h4 : EBx w0 p4 e2) (h5 : XBx w0 p5 x) (hev : EvOn w0 x (.mk 7 ⟨#[110, 111, 116]⟩ ⟨#[]⟩ 0 0 [.mk 7 ⟨#[61]⟩ ⟨#[]⟩ 0 0 [e, e2]]) r) (hx3 : a0.tmps.getD 3 undef = .pointer (some ⟨p3, 0, none⟩)) (hx4 : a0.tmps.getD 4 undef = .pointer (some ⟨p4, 0, none⟩)) (hx5 : a0.tmps.getD 5 undef = .pointer (some ⟨p5, 0, none⟩)) (hs : a0.tmps.size = 125)
    (hend : ∀ (V : Nat → Value) (p : Nat) (X : World), Below w0.heap.size w0 X → V 11 = .pointer (some ⟨p, 0, none⟩) → w0.heap.size ≤ p → p < X.heap.size → BoxF p r.1 X → V 13 = .int .i64 r.2 → Q .normal ⟨fillT sw15Ops a0.tmps V, a0.defers⟩ X) : (Code.region 15 sw15Ops true).wp Tryz.prog Q a0 w0 := by
  refine wp_region_boxM (by kernel_rfl) (sw15F x p3 p4 p5 e e2 r) 11 12 17 NewAt (fun p w => BoxF p r.1 w) sw15Fl (sw15F_mono x p3 p4 p5 e e2 r) (sw15F_flat x p3 p4 p5 e e2 r) (by kernel_rfl) (by kernel_rfl) (of_decide_eq_true (by kernel_rfl)) (of_decide_eq_true (by kernel_rfl)) (by decide) ?_ new_keep boxF_keep (by rw [hs]; kernel_rfl) ?_ ?_ ?_ ?_ ?_
  · have size_is : sw15Ops.size = 14 := by kernel_rfl
    rw [size_is]
    intro i hi h1 h2
    have hq : ((List.range 14).all fun i => decide (i ∈ depsO sw15Ops 12) || decide (i = 12) || sw15Fl i) = true := by kernel_rfl
    have := List.all_eq_true.1 hq i (List.mem_range.2 hi)
    simp only [Bool.or_eq_true, decide_eq_true_eq] at this
    rcases this with (h | h) | h
    · exact absurd h h1
    · exact absurd h h2
    · exact h
  · rw [hs]
    have size_is : sw15Ops.size = 14 := by kernel_rfl
    rw [size_is]
    intro i hi hne1 hne2 hdp
    have hall : ∀ j, j < 14 → j = i → OpStep Tryz.prog sw15Ops Q (sw15F x p3 p4 p5 e e2 r) w0 125 (fun t => a0.tmps.getD t undef) j := by
      intro j hj hji
      match j, hj with
      | 0, _ => exact sw15_s0 x p3 p4 p5 e e2 r h3 h4 h5 hev hx3 hx4 hx5
      | 1, _ => exact sw15_s1 x p3 p4 p5 e e2 r h3 h4 h5 hev hx3 hx4 hx5
      | 2, _ => exact sw15_s2 x p3 p4 p5 e e2 r h3 h4 h5 hev hx3 hx4 hx5
      | 3, _ => exact sw15_s3 x p3 p4 p5 e e2 r h3 h4 h5 hev hx3 hx4 hx5
      | 4, _ => exact sw15_s4 x p3 p4 p5 e e2 r h3 h4 h5 hev hx3 hx4 hx5
      | 5, _ => exact sw15_s5 x p3 p4 p5 e e2 r h3 h4 h5 hev hx3 hx4 hx5
      | 6, _ => exact sw15_s6 x p3 p4 p5 e e2 r h3 h4 h5 hev hx3 hx4 hx5
      | 7, _ => exact sw15_s7 x p3 p4 p5 e e2 r h3 h4 h5 hev hx3 hx4 hx5
      | 8, _ => exact sw15_s8 x p3 p4 p5 e e2 r h3 h4 h5 hev hx3 hx4 hx5
      | 9, _ => exact sw15_s9 x p3 p4 p5 e e2 r h3 h4 h5 hev hx3 hx4 hx5
      | 10, _ => exact absurd hdp (by rw [← hji]; decide)
      | 11, _ => exact absurd hji.symm hne1
      | 12, _ => exact absurd hji.symm hne2
      | 13, _ => exact absurd hdp (by rw [← hji]; decide)
      | q + 14, hj => exact absurd hj (by omega)
    exact hall i hi rfl
  · rw [hs]
    have size_is : sw15Ops.size = 14 := by kernel_rfl
    rw [size_is]
    intro i hi hne1 hne2 hdp
    have hall : ∀ j, j < 14 → j = i → OpStep Tryz.prog sw15Ops Q (fun j v w => sw15Fl j = true → (sw15F x p3 p4 p5 e e2 r) j v w) w0 125 (fun t => a0.tmps.getD t undef) j := by
      intro j hj hji
      match j, hj with
      | 0, _ => exact absurd hdp (by rw [← hji]; exact fun h => h (by decide))
      | 1, _ => exact absurd hdp (by rw [← hji]; exact fun h => h (by decide))
      | 2, _ => exact absurd hdp (by rw [← hji]; exact fun h => h (by decide))
      | 3, _ => exact absurd hdp (by rw [← hji]; exact fun h => h (by decide))
      | 4, _ => exact absurd hdp (by rw [← hji]; exact fun h => h (by decide))
      | 5, _ => exact absurd hdp (by rw [← hji]; exact fun h => h (by decide))
      | 6, _ => exact absurd hdp (by rw [← hji]; exact fun h => h (by decide))
      | 7, _ => exact absurd hdp (by rw [← hji]; exact fun h => h (by decide))
      | 8, _ => exact absurd hdp (by rw [← hji]; exact fun h => h (by decide))
      | 9, _ => exact absurd hdp (by rw [← hji]; exact fun h => h (by decide))
      | 10, _ => exact sw15_s10 x p3 p4 p5 e e2 r h3 h4 h5 hev hx3 hx4 hx5
      | 11, _ => exact absurd hji.symm hne1
      | 12, _ => exact absurd hji.symm hne2
      | 13, _ => exact sw15_s13 x p3 p4 p5 e e2 r h3 h4 h5 hev hx3 hx4 hx5
      | q + 14, hj => exact absurd hj (by omega)
    exact hall i hi rfl
  · intro a w hb
    exact step_allocV (by kernel_rfl) (.free (by kernel_rfl)) (by kernel_rfl) (fun _ _ => trivial)
  · intro act w p hb hp0 hp1 hp hn hF
    have gy : act.eval (.tmp 103) = vT r.1 := hF 9 (of_decide_eq_true (by kernel_rfl)) 103 (by kernel_rfl)
    exact step_storeF (show opO sw15Ops 12 = some (.store 38 (.tmp 17) (.tmp 103)) by kernel_rfl) (.free (by kernel_rfl)) (by kernel_rfl) hp gy hb hp0 hp1 hn
  · intro V p X hb hp hp0 hp1 hB hV
    exact hend V p X hb hp hp0 hp1 hB (hV 13 (of_decide_eq_true (by kernel_rfl)) (by kernel_rfl) (by kernel_rfl))
noncomputable def sw16Ops : Array Oper := regOf Tryz.f4 16
theorem sw16_fill {v0 v1 v2 v3 v4 v5 v6 v7 v8 v9 v10 v11 v12 v13 v14 v15 v16 v17 v18 v19 v20 v21 v22 v23 v24 v25 v26 v27 v28 v29 v30 v31 v32 v33 v34 v35 v36 v37 v38 v39 v40 v41 v42 v43 v44 v45 v46 v47 v48 v49 v50 v51 v52 v53 v54 v55 v56 v57 v58 v59 v60 v61 v62 v63 v64 v65 v66 v67 v68 v69 v70 v71 v72 v73 v74 v75 v76 v77 v78 v79 v80 v81 v82 v83 v84 v85 v86 v87 v88 v89 v90 v91 v92 v93 v94 v95 v96 v97 v98 v99 v100 v101 v102 v103 v104 v105 v106 v107 v108 v109 v110 v111 v112 v113 v114 v115 v116 v117 v118 v119 v120 v121 v122 v123 v124 : Value} (V : Nat → Value) : fillT sw16Ops #[v0, v1, v2, v3, v4, v5, v6, v7, v8, v9, v10, v11, v12, v13, v14, v15, v16, v17, v18, v19, v20, v21, v22, v23, v24, v25, v26, v27, v28, v29, v30, v31, v32, v33, v34, v35, v36, v37, v38, v39, v40, v41, v42, v43, v44, v45, v46, v47, v48, v49, v50, v51, v52, v53, v54, v55, v56, v57, v58, v59, v60, v61, v62, v63, v64, v65, v66, v67, v68, v69, v70, v71, v72, v73, v74, v75, v76, v77, v78, v79, v80, v81, v82, v83, v84, v85, v86, v87, v88, v89, v90, v91, v92, v93, v94, v95, v96, v97, v98, v99, v100, v101, v102, v103, v104, v105, v106, v107, v108, v109, v110, v111, v112, v113, v114, v115, v116, v117, v118, v119, v120, v121, v122, v123, v124] V = #[v0, v1, v2, v3, v4, v5, v6, v7, v8, v9, v10, v11, v12, v13, v14, v15, v16, v17, v18, V 9, V 11, v21, v22, v23, v24, v25, v26, v27, v28, v29, v30, v31, v32, v33, v34, v35, v36, v37, v38, v39, v40, v41, v42, v43, v44, v45, v46, v47, v48, v49, v50, v51, v52, v53, v54, v55, v56, v57, v58, v59, v60, v61, v62, v63, v64, v65, v66, v67, v68, v69, v70, v71, v72, v73, v74, v75, v76, v77, v78, v79, v80, v81, v82, v83, v84, v85, v86, v87, v88, v89, v90, v91, v92, v93, v94, v95, v96, v97, v98, v99, v100, v101, v102, v103, v104, V 6, V 0, V 1, V 2, V 3, V 4, V 5, V 7, V 8, v114, v115, v116, v117, v118, v119, v120, v121, v122, v123, v124] := by
  kernel_rfl
def sw16L (x : EnvM) (p3 p4 p5 : Nat) (e e2 : Ee) (r : Rv) : List (Value → World → Prop) := [IsE e, IsE e2, IsK [e, e2], IsE (.mk 7 ⟨#[60, 62]⟩ ⟨#[]⟩ 0 0 [e, e2]), IsX x, IsV (.tuple #[vT r.1, .int .i64 r.2]), IsV (.tuple #[vT r.1, .int .i64 r.2]), IsV (vT r.1), IsV (.int .i64 r.2), AnyF, AnyF, IsV (.int .i64 r.2)]
def sw16F (x : EnvM) (p3 p4 p5 : Nat) (e e2 : Ee) (r : Rv) (i : Nat) : Value → World → Prop := (sw16L x p3 p4 p5 e e2 r).getD i AnyF
theorem sw16F_mono (x : EnvM) (p3 p4 p5 : Nat) (e e2 : Ee) (r : Rv) (i : Nat) (v : Value) (w w' : World) (hp : (sw16F x p3 p4 p5 e e2 r) i v w) (hb : Below w.heap.size w w') : (sw16F x p3 p4 p5 e e2 r) i v w' := by
  refine monoL ?_ i v w w' hp hb
  unfold sw16L
  simp only [List.forall_mem_cons]
  exact ⟨mono_isE _, mono_isE _, mono_isK _, mono_isE _, mono_isX _, mono_isV _, mono_isV _, mono_isV _, mono_isV _, mono_any, mono_any, mono_isV _, fun _ h => by cases h⟩
def sw16Fl (i : Nat) : Bool := ([false, false, false, false, false, true, true, true, true, true, true, true] : List Bool).getD i false
theorem sw16F_flat (x : EnvM) (p3 p4 p5 : Nat) (e e2 : Ee) (r : Rv) (i : Nat) (hi : sw16Fl i = true) (v : Value) (w w' : World) (hp : (sw16F x p3 p4 p5 e e2 r) i v w) : (sw16F x p3 p4 p5 e e2 r) i v w' := by
  unfold sw16Fl at hi
  unfold sw16F sw16L at hp ⊢
  match i, hi with
  | 0, h => exact absurd h (by decide)
  | 1, h => exact absurd h (by decide)
  | 2, h => exact absurd h (by decide)
  | 3, h => exact absurd h (by decide)
  | 4, h => exact absurd h (by decide)
  | 5, _ => exact hp
  | 6, _ => exact hp
  | 7, _ => exact hp
  | 8, _ => exact hp
  | 9, _ => exact hp
  | 10, _ => exact hp
  | 11, _ => exact hp
  | i + 12, h => simp at h
theorem sw16_s0 {Q : Exit → Act → World → Prop} {w0 : World} {xs : Nat → Value} (x : EnvM) (p3 p4 p5 : Nat) (e e2 : Ee) (r : Rv) (h3 : EBx w0 p3 e) (h4 : EBx w0 p4 e2) (h5 : XBx w0 p5 x) (hev : EvOn w0 x (.mk 7 ⟨#[60, 62]⟩ ⟨#[]⟩ 0 0 [e, e2]) r) (hx3 : xs 3 = .pointer (some ⟨p3, 0, none⟩)) (hx4 : xs 4 = .pointer (some ⟨p4, 0, none⟩)) (hx5 : xs 5 = .pointer (some ⟨p5, 0, none⟩)) : OpStep Tryz.prog sw16Ops Q (sw16F x p3 p4 p5 e e2 r) w0 125 xs 0 := by
  intro act w hb hk hF
  have g3 : act.eval (.tmp 3) = .pointer (some ⟨p3, 0, none⟩) := (hk 3 (by decide) (by kernel_rfl)).trans hx3
  exact step_loadEB (show opO sw16Ops 0 = some (.load 25 (.tmp 3)) by kernel_rfl) (.free (by kernel_rfl)) g3 (h3.on hb) (fun v h => ⟨h, Below.refl _ _⟩)
theorem sw16_s1 {Q : Exit → Act → World → Prop} {w0 : World} {xs : Nat → Value} (x : EnvM) (p3 p4 p5 : Nat) (e e2 : Ee) (r : Rv) (h3 : EBx w0 p3 e) (h4 : EBx w0 p4 e2) (h5 : XBx w0 p5 x) (hev : EvOn w0 x (.mk 7 ⟨#[60, 62]⟩ ⟨#[]⟩ 0 0 [e, e2]) r) (hx3 : xs 3 = .pointer (some ⟨p3, 0, none⟩)) (hx4 : xs 4 = .pointer (some ⟨p4, 0, none⟩)) (hx5 : xs 5 = .pointer (some ⟨p5, 0, none⟩)) : OpStep Tryz.prog sw16Ops Q (sw16F x p3 p4 p5 e e2 r) w0 125 xs 1 := by
  intro act w hb hk hF
  have g4 : act.eval (.tmp 4) = .pointer (some ⟨p4, 0, none⟩) := (hk 4 (by decide) (by kernel_rfl)).trans hx4
  exact step_loadEB (show opO sw16Ops 1 = some (.load 25 (.tmp 4)) by kernel_rfl) (.free (by kernel_rfl)) g4 (h4.on hb) (fun v h => ⟨h, Below.refl _ _⟩)
theorem sw16_s2 {Q : Exit → Act → World → Prop} {w0 : World} {xs : Nat → Value} (x : EnvM) (p3 p4 p5 : Nat) (e e2 : Ee) (r : Rv) (h3 : EBx w0 p3 e) (h4 : EBx w0 p4 e2) (h5 : XBx w0 p5 x) (hev : EvOn w0 x (.mk 7 ⟨#[60, 62]⟩ ⟨#[]⟩ 0 0 [e, e2]) r) (hx3 : xs 3 = .pointer (some ⟨p3, 0, none⟩)) (hx4 : xs 4 = .pointer (some ⟨p4, 0, none⟩)) (hx5 : xs 5 = .pointer (some ⟨p5, 0, none⟩)) : OpStep Tryz.prog sw16Ops Q (sw16F x p3 p4 p5 e e2 r) w0 125 xs 2 := by
  intro act w hb hk hF
  have g106 : IsE e (act.eval (.tmp 106)) w := hF 0 (of_decide_eq_true (by kernel_rfl)) 106 (by kernel_rfl)
  have g107 : IsE e2 (act.eval (.tmp 107)) w := hF 1 (of_decide_eq_true (by kernel_rfl)) 107 (by kernel_rfl)
  exact step_k2 (show opO sw16Ops 2 = some (.buildSlice 23 2 #[(0, .tmp 106), (1, .tmp 107)]) by kernel_rfl) (.free (by kernel_rfl)) g106 g107 (fun v w' h1 h2 => ⟨h1, h2⟩)
theorem sw16_s3 {Q : Exit → Act → World → Prop} {w0 : World} {xs : Nat → Value} (x : EnvM) (p3 p4 p5 : Nat) (e e2 : Ee) (r : Rv) (h3 : EBx w0 p3 e) (h4 : EBx w0 p4 e2) (h5 : XBx w0 p5 x) (hev : EvOn w0 x (.mk 7 ⟨#[60, 62]⟩ ⟨#[]⟩ 0 0 [e, e2]) r) (hx3 : xs 3 = .pointer (some ⟨p3, 0, none⟩)) (hx4 : xs 4 = .pointer (some ⟨p4, 0, none⟩)) (hx5 : xs 5 = .pointer (some ⟨p5, 0, none⟩)) : OpStep Tryz.prog sw16Ops Q (sw16F x p3 p4 p5 e e2 r) w0 125 xs 3 := by
  intro act w hb hk hF
  have g108 : IsK [e, e2] (act.eval (.tmp 108)) w := hF 2 (of_decide_eq_true (by kernel_rfl)) 108 (by kernel_rfl)
  exact step_call (f := 11) (xs := #[.const (.string ⟨#[60, 62]⟩), .tmp 108]) (by kernel_rfl) (.free (by kernel_rfl)) (map2 rfl rfl) (enters_of Tryz.func11 (by kernel_rfl) rfl) ((opE_is ⟨#[60, 62]⟩ _ _ w g108).mono fun e w' ⟨v, h1, h2, h3⟩ => ⟨v, h1, h2, h3⟩)
theorem sw16_s4 {Q : Exit → Act → World → Prop} {w0 : World} {xs : Nat → Value} (x : EnvM) (p3 p4 p5 : Nat) (e e2 : Ee) (r : Rv) (h3 : EBx w0 p3 e) (h4 : EBx w0 p4 e2) (h5 : XBx w0 p5 x) (hev : EvOn w0 x (.mk 7 ⟨#[60, 62]⟩ ⟨#[]⟩ 0 0 [e, e2]) r) (hx3 : xs 3 = .pointer (some ⟨p3, 0, none⟩)) (hx4 : xs 4 = .pointer (some ⟨p4, 0, none⟩)) (hx5 : xs 5 = .pointer (some ⟨p5, 0, none⟩)) : OpStep Tryz.prog sw16Ops Q (sw16F x p3 p4 p5 e e2 r) w0 125 xs 4 := by
  intro act w hb hk hF
  have g5 : act.eval (.tmp 5) = .pointer (some ⟨p5, 0, none⟩) := (hk 5 (by decide) (by kernel_rfl)).trans hx5
  exact step_loadXB (show opO sw16Ops 4 = some (.load 29 (.tmp 5)) by kernel_rfl) (.free (by kernel_rfl)) g5 (h5.on hb) (fun v h => ⟨h, Below.refl _ _⟩)
theorem sw16_s5 {Q : Exit → Act → World → Prop} {w0 : World} {xs : Nat → Value} (x : EnvM) (p3 p4 p5 : Nat) (e e2 : Ee) (r : Rv) (h3 : EBx w0 p3 e) (h4 : EBx w0 p4 e2) (h5 : XBx w0 p5 x) (hev : EvOn w0 x (.mk 7 ⟨#[60, 62]⟩ ⟨#[]⟩ 0 0 [e, e2]) r) (hx3 : xs 3 = .pointer (some ⟨p3, 0, none⟩)) (hx4 : xs 4 = .pointer (some ⟨p4, 0, none⟩)) (hx5 : xs 5 = .pointer (some ⟨p5, 0, none⟩)) : OpStep Tryz.prog sw16Ops Q (sw16F x p3 p4 p5 e e2 r) w0 125 xs 5 := by
  intro act w hb hk hF
  have g109 : IsE (.mk 7 ⟨#[60, 62]⟩ ⟨#[]⟩ 0 0 [e, e2]) (act.eval (.tmp 109)) w := hF 3 (of_decide_eq_true (by kernel_rfl)) 109 (by kernel_rfl)
  have g110 : IsX x (act.eval (.tmp 110)) w := hF 4 (of_decide_eq_true (by kernel_rfl)) 110 (by kernel_rfl)
  exact step_call (f := 10) (xs := #[.tmp 109, .tmp 110]) (by kernel_rfl) (.free (by kernel_rfl)) (map2 rfl rfl) (enters_of Tryz.func10 (by kernel_rfl) rfl) ((hev w _ _ hb g109 g110).mono fun e w' h => ⟨_, h.1, rfl, h.2⟩)
theorem sw16_s6 {Q : Exit → Act → World → Prop} {w0 : World} {xs : Nat → Value} (x : EnvM) (p3 p4 p5 : Nat) (e e2 : Ee) (r : Rv) (h3 : EBx w0 p3 e) (h4 : EBx w0 p4 e2) (h5 : XBx w0 p5 x) (hev : EvOn w0 x (.mk 7 ⟨#[60, 62]⟩ ⟨#[]⟩ 0 0 [e, e2]) r) (hx3 : xs 3 = .pointer (some ⟨p3, 0, none⟩)) (hx4 : xs 4 = .pointer (some ⟨p4, 0, none⟩)) (hx5 : xs 5 = .pointer (some ⟨p5, 0, none⟩)) : OpStep Tryz.prog sw16Ops Q (sw16F x p3 p4 p5 e e2 r) w0 125 xs 6 := by
  intro act w hb hk hF
  have g111 : act.eval (.tmp 111) = .tuple #[vT r.1, .int .i64 r.2] := hF 5 (of_decide_eq_true (by kernel_rfl)) 111 (by kernel_rfl)
  exact step_move (show opO sw16Ops 6 = some (.move (.tmp 111)) by kernel_rfl) (.free (by kernel_rfl)) g111 ⟨rfl, Below.refl _ _⟩
theorem sw16_s7 {Q : Exit → Act → World → Prop} {w0 : World} {xs : Nat → Value} (x : EnvM) (p3 p4 p5 : Nat) (e e2 : Ee) (r : Rv) (h3 : EBx w0 p3 e) (h4 : EBx w0 p4 e2) (h5 : XBx w0 p5 x) (hev : EvOn w0 x (.mk 7 ⟨#[60, 62]⟩ ⟨#[]⟩ 0 0 [e, e2]) r) (hx3 : xs 3 = .pointer (some ⟨p3, 0, none⟩)) (hx4 : xs 4 = .pointer (some ⟨p4, 0, none⟩)) (hx5 : xs 5 = .pointer (some ⟨p5, 0, none⟩)) : OpStep Tryz.prog sw16Ops Q (sw16F x p3 p4 p5 e e2 r) w0 125 xs 7 := by
  intro act w hb hk hF
  have g105 : act.eval (.tmp 105) = .tuple #[vT r.1, .int .i64 r.2] := hF 6 (of_decide_eq_true (by kernel_rfl)) 105 (by kernel_rfl)
  exact step_extract (show opO sw16Ops 7 = some (.extract (.tmp 105) 0) by kernel_rfl) (.free (by kernel_rfl)) g105 rfl ⟨rfl, Below.refl _ _⟩
theorem sw16_s8 {Q : Exit → Act → World → Prop} {w0 : World} {xs : Nat → Value} (x : EnvM) (p3 p4 p5 : Nat) (e e2 : Ee) (r : Rv) (h3 : EBx w0 p3 e) (h4 : EBx w0 p4 e2) (h5 : XBx w0 p5 x) (hev : EvOn w0 x (.mk 7 ⟨#[60, 62]⟩ ⟨#[]⟩ 0 0 [e, e2]) r) (hx3 : xs 3 = .pointer (some ⟨p3, 0, none⟩)) (hx4 : xs 4 = .pointer (some ⟨p4, 0, none⟩)) (hx5 : xs 5 = .pointer (some ⟨p5, 0, none⟩)) : OpStep Tryz.prog sw16Ops Q (fun j v w => sw16Fl j = true → (sw16F x p3 p4 p5 e e2 r) j v w) w0 125 xs 8 := by
  intro act w hb hk hF
  have g105 : act.eval (.tmp 105) = .tuple #[vT r.1, .int .i64 r.2] := (show sw16Fl 6 = true → _ from hF 6 (of_decide_eq_true (by kernel_rfl)) 105 (by kernel_rfl)) (by kernel_rfl)
  exact step_extract (show opO sw16Ops 8 = some (.extract (.tmp 105) 1) by kernel_rfl) (.free (by kernel_rfl)) g105 rfl ⟨fun _ => rfl, Below.refl _ _⟩
theorem sw16_s11 {Q : Exit → Act → World → Prop} {w0 : World} {xs : Nat → Value} (x : EnvM) (p3 p4 p5 : Nat) (e e2 : Ee) (r : Rv) (h3 : EBx w0 p3 e) (h4 : EBx w0 p4 e2) (h5 : XBx w0 p5 x) (hev : EvOn w0 x (.mk 7 ⟨#[60, 62]⟩ ⟨#[]⟩ 0 0 [e, e2]) r) (hx3 : xs 3 = .pointer (some ⟨p3, 0, none⟩)) (hx4 : xs 4 = .pointer (some ⟨p4, 0, none⟩)) (hx5 : xs 5 = .pointer (some ⟨p5, 0, none⟩)) : OpStep Tryz.prog sw16Ops Q (fun j v w => sw16Fl j = true → (sw16F x p3 p4 p5 e e2 r) j v w) w0 125 xs 11 := by
  intro act w hb hk hF
  have g113 : act.eval (.tmp 113) = .int .i64 r.2 := (show sw16Fl 8 = true → _ from hF 8 (of_decide_eq_true (by kernel_rfl)) 113 (by kernel_rfl)) (by kernel_rfl)
  exact step_assign (show opO sw16Ops 11 = some (.assign (.tmp 113)) by kernel_rfl) (.free (by kernel_rfl)) g113 ⟨fun _ => rfl, Below.refl _ _⟩
theorem sw16 {Q : Exit → Act → World → Prop} {a0 : Act} {w0 : World} (x : EnvM) (p3 p4 p5 : Nat) (e e2 : Ee) (r : Rv) (h3 : EBx w0 p3 e) (h4 : EBx w0 p4 e2) (h5 : XBx w0 p5 x) (hev : EvOn w0 x (.mk 7 ⟨#[60, 62]⟩ ⟨#[]⟩ 0 0 [e, e2]) r) (hx3 : a0.tmps.getD 3 undef = .pointer (some ⟨p3, 0, none⟩)) (hx4 : a0.tmps.getD 4 undef = .pointer (some ⟨p4, 0, none⟩)) (hx5 : a0.tmps.getD 5 undef = .pointer (some ⟨p5, 0, none⟩)) (hs : a0.tmps.size = 125)
    (hend : ∀ (V : Nat → Value) (p : Nat) (X : World), Below w0.heap.size w0 X → V 9 = .pointer (some ⟨p, 0, none⟩) → w0.heap.size ≤ p → p < X.heap.size → BoxF p r.1 X → V 11 = .int .i64 r.2 → Q .normal ⟨fillT sw16Ops a0.tmps V, a0.defers⟩ X) : (Code.region 16 sw16Ops true).wp Tryz.prog Q a0 w0 := by
  refine wp_region_boxM (by kernel_rfl) (sw16F x p3 p4 p5 e e2 r) 9 10 19 NewAt (fun p w => BoxF p r.1 w) sw16Fl (sw16F_mono x p3 p4 p5 e e2 r) (sw16F_flat x p3 p4 p5 e e2 r) (by kernel_rfl) (by kernel_rfl) (of_decide_eq_true (by kernel_rfl)) (of_decide_eq_true (by kernel_rfl)) (by decide) ?_ new_keep boxF_keep (by rw [hs]; kernel_rfl) ?_ ?_ ?_ ?_ ?_
  · have size_is : sw16Ops.size = 12 := by kernel_rfl
    rw [size_is]
    intro i hi h1 h2
    have hq : ((List.range 12).all fun i => decide (i ∈ depsO sw16Ops 10) || decide (i = 10) || sw16Fl i) = true := by kernel_rfl
    have := List.all_eq_true.1 hq i (List.mem_range.2 hi)
    simp only [Bool.or_eq_true, decide_eq_true_eq] at this
    rcases this with (h | h) | h
    · exact absurd h h1
    · exact absurd h h2
    · exact h
  · rw [hs]
    have size_is : sw16Ops.size = 12 := by kernel_rfl
    rw [size_is]
    intro i hi hne1 hne2 hdp
    have hall : ∀ j, j < 12 → j = i → OpStep Tryz.prog sw16Ops Q (sw16F x p3 p4 p5 e e2 r) w0 125 (fun t => a0.tmps.getD t undef) j := by
      intro j hj hji
      match j, hj with
      | 0, _ => exact sw16_s0 x p3 p4 p5 e e2 r h3 h4 h5 hev hx3 hx4 hx5
      | 1, _ => exact sw16_s1 x p3 p4 p5 e e2 r h3 h4 h5 hev hx3 hx4 hx5
      | 2, _ => exact sw16_s2 x p3 p4 p5 e e2 r h3 h4 h5 hev hx3 hx4 hx5
      | 3, _ => exact sw16_s3 x p3 p4 p5 e e2 r h3 h4 h5 hev hx3 hx4 hx5
      | 4, _ => exact sw16_s4 x p3 p4 p5 e e2 r h3 h4 h5 hev hx3 hx4 hx5
      | 5, _ => exact sw16_s5 x p3 p4 p5 e e2 r h3 h4 h5 hev hx3 hx4 hx5
      | 6, _ => exact sw16_s6 x p3 p4 p5 e e2 r h3 h4 h5 hev hx3 hx4 hx5
      | 7, _ => exact sw16_s7 x p3 p4 p5 e e2 r h3 h4 h5 hev hx3 hx4 hx5
      | 8, _ => exact absurd hdp (by rw [← hji]; decide)
      | 9, _ => exact absurd hji.symm hne1
      | 10, _ => exact absurd hji.symm hne2
      | 11, _ => exact absurd hdp (by rw [← hji]; decide)
      | q + 12, hj => exact absurd hj (by omega)
    exact hall i hi rfl
  · rw [hs]
    have size_is : sw16Ops.size = 12 := by kernel_rfl
    rw [size_is]
    intro i hi hne1 hne2 hdp
    have hall : ∀ j, j < 12 → j = i → OpStep Tryz.prog sw16Ops Q (fun j v w => sw16Fl j = true → (sw16F x p3 p4 p5 e e2 r) j v w) w0 125 (fun t => a0.tmps.getD t undef) j := by
      intro j hj hji
      match j, hj with
      | 0, _ => exact absurd hdp (by rw [← hji]; exact fun h => h (by decide))
      | 1, _ => exact absurd hdp (by rw [← hji]; exact fun h => h (by decide))
      | 2, _ => exact absurd hdp (by rw [← hji]; exact fun h => h (by decide))
      | 3, _ => exact absurd hdp (by rw [← hji]; exact fun h => h (by decide))
      | 4, _ => exact absurd hdp (by rw [← hji]; exact fun h => h (by decide))
      | 5, _ => exact absurd hdp (by rw [← hji]; exact fun h => h (by decide))
      | 6, _ => exact absurd hdp (by rw [← hji]; exact fun h => h (by decide))
      | 7, _ => exact absurd hdp (by rw [← hji]; exact fun h => h (by decide))
      | 8, _ => exact sw16_s8 x p3 p4 p5 e e2 r h3 h4 h5 hev hx3 hx4 hx5
      | 9, _ => exact absurd hji.symm hne1
      | 10, _ => exact absurd hji.symm hne2
      | 11, _ => exact sw16_s11 x p3 p4 p5 e e2 r h3 h4 h5 hev hx3 hx4 hx5
      | q + 12, hj => exact absurd hj (by omega)
    exact hall i hi rfl
  · intro a w hb
    exact step_allocV (by kernel_rfl) (.free (by kernel_rfl)) (by kernel_rfl) (fun _ _ => trivial)
  · intro act w p hb hp0 hp1 hp hn hF
    have gy : act.eval (.tmp 112) = vT r.1 := hF 7 (of_decide_eq_true (by kernel_rfl)) 112 (by kernel_rfl)
    exact step_storeF (show opO sw16Ops 10 = some (.store 38 (.tmp 19) (.tmp 112)) by kernel_rfl) (.free (by kernel_rfl)) (by kernel_rfl) hp gy hb hp0 hp1 hn
  · intro V p X hb hp hp0 hp1 hB hV
    exact hend V p X hb hp hp0 hp1 hB (hV 11 (of_decide_eq_true (by kernel_rfl)) (by kernel_rfl) (by kernel_rfl))
end Go.Proofs.YteijijoiifbjlaaGreatDoor
