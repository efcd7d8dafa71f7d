/-
  Layer 13, eval: EvalNull's drawn regions. No conditions.
  Layer 13, eval: EvalNull as mathematics. No conditions.
  Layer 13, eval: True of any expression and Env. Conditions: sizes; calls come to something; the library's variables are as its text lays them.
-/
import Derived.Test.YteijijoiifbjlaaGreatDoorESwR
import Derived.Test.YteijijoiifbjlaaGreatDoorESwM
import Derived.Test.YteijijoiifbjlaaGreatDoorEEva
namespace Go.Proofs.YteijijoiifbjlaaGreatDoor
open Go.ChangeShapes Go.WideShapes Go.ChangeAt Go.RowKit
set_option linter.unusedVariables false
set_option linter.unusedSimpArgs false
set_option linter.unusedSimpArgs false
set_option maxRecDepth 100000

noncomputable def nu10Ops : Array Oper := regOf Tryz.f5 10
theorem nu10_fill {v0 v1 v2 v3 v4 v5 v6 v7 v8 v9 v10 v11 v12 v13 v14 v15 v16 v17 v18 v19 v20 v21 v22 v23 v24 v25 v26 v27 v28 v29 v30 v31 v32 v33 v34 v35 v36 v37 v38 v39 v40 v41 v42 v43 v44 v45 v46 v47 v48 v49 v50 v51 v52 v53 v54 v55 v56 v57 v58 v59 v60 v61 v62 v63 v64 v65 v66 v67 v68 v69 v70 v71 v72 v73 v74 v75 v76 v77 v78 v79 v80 v81 v82 v83 v84 v85 v86 v87 v88 v89 v90 v91 v92 v93 v94 v95 v96 v97 v98 v99 v100 v101 v102 v103 v104 v105 v106 v107 v108 v109 v110 v111 v112 v113 v114 v115 v116 v117 v118 v119 v120 v121 v122 v123 v124 v125 v126 v127 v128 v129 v130 v131 v132 v133 v134 v135 v136 v137 v138 v139 v140 v141 v142 v143 v144 v145 v146 v147 v148 v149 v150 v151 v152 v153 v154 v155 v156 v157 v158 v159 v160 v161 v162 v163 v164 v165 v166 v167 v168 v169 v170 v171 v172 v173 v174 v175 v176 v177 v178 v179 v180 v181 v182 v183 v184 v185 v186 v187 v188 v189 v190 v191 v192 v193 v194 v195 v196 : Value} (V : Nat → Value) : fillT nu10Ops #[v0, v1, v2, v3, v4, v5, v6, v7, v8, v9, v10, v11, v12, v13, v14, v15, v16, v17, v18, v19, v20, v21, v22, v23, v24, v25, v26, v27, v28, v29, v30, v31, v32, v33, v34, v35, v36, v37, v38, v39, v40, v41, v42, v43, v44, v45, v46, v47, v48, v49, v50, v51, v52, v53, v54, v55, v56, v57, v58, v59, v60, v61, v62, v63, v64, v65, v66, v67, v68, v69, v70, v71, v72, v73, v74, v75, v76, v77, v78, v79, v80, v81, v82, v83, v84, v85, v86, v87, v88, v89, v90, v91, v92, v93, v94, v95, v96, v97, v98, v99, v100, v101, v102, v103, v104, v105, v106, v107, v108, v109, v110, v111, v112, v113, v114, v115, v116, v117, v118, v119, v120, v121, v122, v123, v124, v125, v126, v127, v128, v129, v130, v131, v132, v133, v134, v135, v136, v137, v138, v139, v140, v141, v142, v143, v144, v145, v146, v147, v148, v149, v150, v151, v152, v153, v154, v155, v156, v157, v158, v159, v160, v161, v162, v163, v164, v165, v166, v167, v168, v169, v170, v171, v172, v173, v174, v175, v176, v177, v178, v179, v180, v181, v182, v183, v184, v185, v186, v187, v188, v189, v190, v191, v192, v193, v194, v195, v196] V = #[v0, v1, v2, v3, v4, v5, v6, v7, v8, v9, V 10, V 12, v12, v13, v14, v15, v16, v17, v18, v19, v20, v21, v22, v23, v24, v25, v26, v27, v28, v29, v30, v31, v32, v33, v34, v35, v36, v37, v38, v39, v40, v41, v42, v43, v44, v45, v46, v47, v48, v49, v50, v51, v52, V 7, V 0, V 1, V 2, V 3, V 4, V 5, V 6, V 8, V 9, v63, v64, v65, v66, v67, v68, v69, v70, v71, v72, v73, v74, v75, v76, v77, v78, v79, v80, v81, v82, v83, v84, v85, v86, v87, v88, v89, v90, v91, v92, v93, v94, v95, v96, v97, v98, v99, v100, v101, v102, v103, v104, v105, v106, v107, v108, v109, v110, v111, v112, v113, v114, v115, v116, v117, v118, v119, v120, v121, v122, v123, v124, v125, v126, v127, v128, v129, v130, v131, v132, v133, v134, v135, v136, v137, v138, v139, v140, v141, v142, v143, v144, v145, v146, v147, v148, v149, v150, v151, v152, v153, v154, v155, v156, v157, v158, v159, v160, v161, v162, v163, v164, v165, v166, v167, v168, v169, v170, v171, v172, v173, v174, v175, v176, v177, v178, v179, v180, v181, v182, v183, v184, v185, v186, v187, v188, v189, v190, v191, v192, v193, v194, v195, v196] := by
  kernel_rfl
def nu10L (x : EnvM) (p3 p4 p5 : Nat) (e e2 : Ee) (r : Rv) (g : ByteArray) : List (Value → World → Prop) := [IsV (.string g), IsE e, IsE e2, IsK [e, e2], IsE (.mk 7 g ⟨#[]⟩ 0 0 [e, e2]), IsX x, IsV (.tuple #[vT r.1, .int .i64 r.2]), IsV (.tuple #[vT r.1, .int .i64 r.2]), IsV (vT r.1), IsV (.int .i64 r.2), AnyF, AnyF, IsV (.int .i64 r.2)]
def nu10F (x : EnvM) (p3 p4 p5 : Nat) (e e2 : Ee) (r : Rv) (g : ByteArray) (i : Nat) : Value → World → Prop := (nu10L x p3 p4 p5 e e2 r g).getD i AnyF
theorem nu10F_mono (x : EnvM) (p3 p4 p5 : Nat) (e e2 : Ee) (r : Rv) (g : ByteArray) (i : Nat) (v : Value) (w w' : World) (hp : (nu10F x p3 p4 p5 e e2 r g) i v w) (hb : Below w.heap.size w w') : (nu10F x p3 p4 p5 e e2 r g) i v w' := by
  refine monoL ?_ i v w w' hp hb
  unfold nu10L
  simp only [List.forall_mem_cons]
  exact ⟨mono_isV _, mono_isE _, mono_isE _, mono_isK _, mono_isE _, mono_isX _, mono_isV _, mono_isV _, mono_isV _, mono_isV _, mono_any, mono_any, mono_isV _, fun _ h => by cases h⟩
def nu10Fl (i : Nat) : Bool := ([true, false, false, false, false, false, true, true, true, true, true, true, true] : List Bool).getD i false
theorem nu10F_flat (x : EnvM) (p3 p4 p5 : Nat) (e e2 : Ee) (r : Rv) (g : ByteArray) (i : Nat) (hi : nu10Fl i = true) (v : Value) (w w' : World) (hp : (nu10F x p3 p4 p5 e e2 r g) i v w) : (nu10F x p3 p4 p5 e e2 r g) i v w' := by
  unfold nu10Fl at hi
  unfold nu10F nu10L at hp ⊢
  match i, hi with
  | 0, _ => exact hp
  | 1, h => exact absurd h (by decide)
  | 2, h => exact absurd h (by decide)
  | 3, h => exact absurd h (by decide)
  | 4, h => exact absurd h (by decide)
  | 5, h => exact absurd h (by decide)
  | 6, _ => exact hp
  | 7, _ => exact hp
  | 8, _ => exact hp
  | 9, _ => exact hp
  | 10, _ => exact hp
  | 11, _ => exact hp
  | 12, _ => exact hp
  | i + 13, h => simp at h
theorem nu10_s0 {Q : Exit → Act → World → Prop} {w0 : World} {xs : Nat → Value} (x : EnvM) (p3 p4 p5 : Nat) (e e2 : Ee) (r : Rv) (g : ByteArray) (h3 : EBx w0 p3 e) (h4 : EBx w0 p4 e2) (h5 : XBx w0 p5 x) (hev : EvOn w0 x (.mk 7 g ⟨#[]⟩ 0 0 [e, e2]) r) (hx2 : xs 2 = .pointer (some ⟨p3, 0, none⟩)) (hx7 : xs 7 = .pointer (some ⟨p4, 0, none⟩)) (hx3 : xs 3 = .pointer (some ⟨p5, 0, none⟩)) (hx9 : xs 9 = .string g) : OpStep Tryz.prog nu10Ops Q (nu10F x p3 p4 p5 e e2 r g) w0 197 xs 0 := by
  intro act w hb hk hF
  have g9 : act.eval (.tmp 9) = .string g := (hk 9 (by decide) (by kernel_rfl)).trans hx9
  exact step_move (show opO nu10Ops 0 = some (.move (.tmp 9)) by kernel_rfl) (.free (by kernel_rfl)) g9 ⟨rfl, Below.refl _ _⟩
theorem nu10_s1 {Q : Exit → Act → World → Prop} {w0 : World} {xs : Nat → Value} (x : EnvM) (p3 p4 p5 : Nat) (e e2 : Ee) (r : Rv) (g : ByteArray) (h3 : EBx w0 p3 e) (h4 : EBx w0 p4 e2) (h5 : XBx w0 p5 x) (hev : EvOn w0 x (.mk 7 g ⟨#[]⟩ 0 0 [e, e2]) r) (hx2 : xs 2 = .pointer (some ⟨p3, 0, none⟩)) (hx7 : xs 7 = .pointer (some ⟨p4, 0, none⟩)) (hx3 : xs 3 = .pointer (some ⟨p5, 0, none⟩)) (hx9 : xs 9 = .string g) : OpStep Tryz.prog nu10Ops Q (nu10F x p3 p4 p5 e e2 r g) w0 197 xs 1 := by
  intro act w hb hk hF
  have g2 : act.eval (.tmp 2) = .pointer (some ⟨p3, 0, none⟩) := (hk 2 (by decide) (by kernel_rfl)).trans hx2
  exact step_loadEB (show opO nu10Ops 1 = some (.load 25 (.tmp 2)) by kernel_rfl) (.free (by kernel_rfl)) g2 (h3.on hb) (fun v h => ⟨h, Below.refl _ _⟩)
theorem nu10_s2 {Q : Exit → Act → World → Prop} {w0 : World} {xs : Nat → Value} (x : EnvM) (p3 p4 p5 : Nat) (e e2 : Ee) (r : Rv) (g : ByteArray) (h3 : EBx w0 p3 e) (h4 : EBx w0 p4 e2) (h5 : XBx w0 p5 x) (hev : EvOn w0 x (.mk 7 g ⟨#[]⟩ 0 0 [e, e2]) r) (hx2 : xs 2 = .pointer (some ⟨p3, 0, none⟩)) (hx7 : xs 7 = .pointer (some ⟨p4, 0, none⟩)) (hx3 : xs 3 = .pointer (some ⟨p5, 0, none⟩)) (hx9 : xs 9 = .string g) : OpStep Tryz.prog nu10Ops Q (nu10F x p3 p4 p5 e e2 r g) w0 197 xs 2 := by
  intro act w hb hk hF
  have g7 : act.eval (.tmp 7) = .pointer (some ⟨p4, 0, none⟩) := (hk 7 (by decide) (by kernel_rfl)).trans hx7
  exact step_loadEB (show opO nu10Ops 2 = some (.load 25 (.tmp 7)) by kernel_rfl) (.free (by kernel_rfl)) g7 (h4.on hb) (fun v h => ⟨h, Below.refl _ _⟩)
theorem nu10_s3 {Q : Exit → Act → World → Prop} {w0 : World} {xs : Nat → Value} (x : EnvM) (p3 p4 p5 : Nat) (e e2 : Ee) (r : Rv) (g : ByteArray) (h3 : EBx w0 p3 e) (h4 : EBx w0 p4 e2) (h5 : XBx w0 p5 x) (hev : EvOn w0 x (.mk 7 g ⟨#[]⟩ 0 0 [e, e2]) r) (hx2 : xs 2 = .pointer (some ⟨p3, 0, none⟩)) (hx7 : xs 7 = .pointer (some ⟨p4, 0, none⟩)) (hx3 : xs 3 = .pointer (some ⟨p5, 0, none⟩)) (hx9 : xs 9 = .string g) : OpStep Tryz.prog nu10Ops Q (nu10F x p3 p4 p5 e e2 r g) w0 197 xs 3 := by
  intro act w hb hk hF
  have g55 : IsE e (act.eval (.tmp 55)) w := hF 1 (of_decide_eq_true (by kernel_rfl)) 55 (by kernel_rfl)
  have g56 : IsE e2 (act.eval (.tmp 56)) w := hF 2 (of_decide_eq_true (by kernel_rfl)) 56 (by kernel_rfl)
  exact step_k2 (show opO nu10Ops 3 = some (.buildSlice 23 2 #[(0, .tmp 55), (1, .tmp 56)]) by kernel_rfl) (.free (by kernel_rfl)) g55 g56 (fun v w' h1 h2 => ⟨h1, h2⟩)
theorem nu10_s4 {Q : Exit → Act → World → Prop} {w0 : World} {xs : Nat → Value} (x : EnvM) (p3 p4 p5 : Nat) (e e2 : Ee) (r : Rv) (g : ByteArray) (h3 : EBx w0 p3 e) (h4 : EBx w0 p4 e2) (h5 : XBx w0 p5 x) (hev : EvOn w0 x (.mk 7 g ⟨#[]⟩ 0 0 [e, e2]) r) (hx2 : xs 2 = .pointer (some ⟨p3, 0, none⟩)) (hx7 : xs 7 = .pointer (some ⟨p4, 0, none⟩)) (hx3 : xs 3 = .pointer (some ⟨p5, 0, none⟩)) (hx9 : xs 9 = .string g) : OpStep Tryz.prog nu10Ops Q (nu10F x p3 p4 p5 e e2 r g) w0 197 xs 4 := by
  intro act w hb hk hF
  have g54 : act.eval (.tmp 54) = .string g := hF 0 (of_decide_eq_true (by kernel_rfl)) 54 (by kernel_rfl)
  have g57 : IsK [e, e2] (act.eval (.tmp 57)) w := hF 3 (of_decide_eq_true (by kernel_rfl)) 57 (by kernel_rfl)
  exact step_call (f := 11) (xs := #[.tmp 54, .tmp 57]) (by kernel_rfl) (.free (by kernel_rfl)) (map2 g54 rfl) (enters_of Tryz.func11 (by kernel_rfl) rfl) ((opE_is g _ _ w g57).mono fun e w' ⟨v, h1, h2, h3⟩ => ⟨v, h1, h2, h3⟩)
theorem nu10_s5 {Q : Exit → Act → World → Prop} {w0 : World} {xs : Nat → Value} (x : EnvM) (p3 p4 p5 : Nat) (e e2 : Ee) (r : Rv) (g : ByteArray) (h3 : EBx w0 p3 e) (h4 : EBx w0 p4 e2) (h5 : XBx w0 p5 x) (hev : EvOn w0 x (.mk 7 g ⟨#[]⟩ 0 0 [e, e2]) r) (hx2 : xs 2 = .pointer (some ⟨p3, 0, none⟩)) (hx7 : xs 7 = .pointer (some ⟨p4, 0, none⟩)) (hx3 : xs 3 = .pointer (some ⟨p5, 0, none⟩)) (hx9 : xs 9 = .string g) : OpStep Tryz.prog nu10Ops Q (nu10F x p3 p4 p5 e e2 r g) w0 197 xs 5 := by
  intro act w hb hk hF
  have g3 : act.eval (.tmp 3) = .pointer (some ⟨p5, 0, none⟩) := (hk 3 (by decide) (by kernel_rfl)).trans hx3
  exact step_loadXB (show opO nu10Ops 5 = some (.load 29 (.tmp 3)) by kernel_rfl) (.free (by kernel_rfl)) g3 (h5.on hb) (fun v h => ⟨h, Below.refl _ _⟩)
theorem nu10_s6 {Q : Exit → Act → World → Prop} {w0 : World} {xs : Nat → Value} (x : EnvM) (p3 p4 p5 : Nat) (e e2 : Ee) (r : Rv) (g : ByteArray) (h3 : EBx w0 p3 e) (h4 : EBx w0 p4 e2) (h5 : XBx w0 p5 x) (hev : EvOn w0 x (.mk 7 g ⟨#[]⟩ 0 0 [e, e2]) r) (hx2 : xs 2 = .pointer (some ⟨p3, 0, none⟩)) (hx7 : xs 7 = .pointer (some ⟨p4, 0, none⟩)) (hx3 : xs 3 = .pointer (some ⟨p5, 0, none⟩)) (hx9 : xs 9 = .string g) : OpStep Tryz.prog nu10Ops Q (nu10F x p3 p4 p5 e e2 r g) w0 197 xs 6 := by
  intro act w hb hk hF
  have g58 : IsE (.mk 7 g ⟨#[]⟩ 0 0 [e, e2]) (act.eval (.tmp 58)) w := hF 4 (of_decide_eq_true (by kernel_rfl)) 58 (by kernel_rfl)
  have g59 : IsX x (act.eval (.tmp 59)) w := hF 5 (of_decide_eq_true (by kernel_rfl)) 59 (by kernel_rfl)
  exact step_call (f := 10) (xs := #[.tmp 58, .tmp 59]) (by kernel_rfl) (.free (by kernel_rfl)) (map2 rfl rfl) (enters_of Tryz.func10 (by kernel_rfl) rfl) ((hev w _ _ hb g58 g59).mono fun e w' h => ⟨_, h.1, rfl, h.2⟩)
theorem nu10_s7 {Q : Exit → Act → World → Prop} {w0 : World} {xs : Nat → Value} (x : EnvM) (p3 p4 p5 : Nat) (e e2 : Ee) (r : Rv) (g : ByteArray) (h3 : EBx w0 p3 e) (h4 : EBx w0 p4 e2) (h5 : XBx w0 p5 x) (hev : EvOn w0 x (.mk 7 g ⟨#[]⟩ 0 0 [e, e2]) r) (hx2 : xs 2 = .pointer (some ⟨p3, 0, none⟩)) (hx7 : xs 7 = .pointer (some ⟨p4, 0, none⟩)) (hx3 : xs 3 = .pointer (some ⟨p5, 0, none⟩)) (hx9 : xs 9 = .string g) : OpStep Tryz.prog nu10Ops Q (nu10F x p3 p4 p5 e e2 r g) w0 197 xs 7 := by
  intro act w hb hk hF
  have g60 : act.eval (.tmp 60) = .tuple #[vT r.1, .int .i64 r.2] := hF 6 (of_decide_eq_true (by kernel_rfl)) 60 (by kernel_rfl)
  exact step_move (show opO nu10Ops 7 = some (.move (.tmp 60)) by kernel_rfl) (.free (by kernel_rfl)) g60 ⟨rfl, Below.refl _ _⟩
theorem nu10_s8 {Q : Exit → Act → World → Prop} {w0 : World} {xs : Nat → Value} (x : EnvM) (p3 p4 p5 : Nat) (e e2 : Ee) (r : Rv) (g : ByteArray) (h3 : EBx w0 p3 e) (h4 : EBx w0 p4 e2) (h5 : XBx w0 p5 x) (hev : EvOn w0 x (.mk 7 g ⟨#[]⟩ 0 0 [e, e2]) r) (hx2 : xs 2 = .pointer (some ⟨p3, 0, none⟩)) (hx7 : xs 7 = .pointer (some ⟨p4, 0, none⟩)) (hx3 : xs 3 = .pointer (some ⟨p5, 0, none⟩)) (hx9 : xs 9 = .string g) : OpStep Tryz.prog nu10Ops Q (nu10F x p3 p4 p5 e e2 r g) w0 197 xs 8 := by
  intro act w hb hk hF
  have g53 : act.eval (.tmp 53) = .tuple #[vT r.1, .int .i64 r.2] := hF 7 (of_decide_eq_true (by kernel_rfl)) 53 (by kernel_rfl)
  exact step_extract (show opO nu10Ops 8 = some (.extract (.tmp 53) 0) by kernel_rfl) (.free (by kernel_rfl)) g53 rfl ⟨rfl, Below.refl _ _⟩
theorem nu10_s9 {Q : Exit → Act → World → Prop} {w0 : World} {xs : Nat → Value} (x : EnvM) (p3 p4 p5 : Nat) (e e2 : Ee) (r : Rv) (g : ByteArray) (h3 : EBx w0 p3 e) (h4 : EBx w0 p4 e2) (h5 : XBx w0 p5 x) (hev : EvOn w0 x (.mk 7 g ⟨#[]⟩ 0 0 [e, e2]) r) (hx2 : xs 2 = .pointer (some ⟨p3, 0, none⟩)) (hx7 : xs 7 = .pointer (some ⟨p4, 0, none⟩)) (hx3 : xs 3 = .pointer (some ⟨p5, 0, none⟩)) (hx9 : xs 9 = .string g) : OpStep Tryz.prog nu10Ops Q (fun j v w => nu10Fl j = true → (nu10F x p3 p4 p5 e e2 r g) j v w) w0 197 xs 9 := by
  intro act w hb hk hF
  have g53 : act.eval (.tmp 53) = .tuple #[vT r.1, .int .i64 r.2] := (show nu10Fl 7 = true → _ from hF 7 (of_decide_eq_true (by kernel_rfl)) 53 (by kernel_rfl)) (by kernel_rfl)
  exact step_extract (show opO nu10Ops 9 = some (.extract (.tmp 53) 1) by kernel_rfl) (.free (by kernel_rfl)) g53 rfl ⟨fun _ => rfl, Below.refl _ _⟩
theorem nu10_s12 {Q : Exit → Act → World → Prop} {w0 : World} {xs : Nat → Value} (x : EnvM) (p3 p4 p5 : Nat) (e e2 : Ee) (r : Rv) (g : ByteArray) (h3 : EBx w0 p3 e) (h4 : EBx w0 p4 e2) (h5 : XBx w0 p5 x) (hev : EvOn w0 x (.mk 7 g ⟨#[]⟩ 0 0 [e, e2]) r) (hx2 : xs 2 = .pointer (some ⟨p3, 0, none⟩)) (hx7 : xs 7 = .pointer (some ⟨p4, 0, none⟩)) (hx3 : xs 3 = .pointer (some ⟨p5, 0, none⟩)) (hx9 : xs 9 = .string g) : OpStep Tryz.prog nu10Ops Q (fun j v w => nu10Fl j = true → (nu10F x p3 p4 p5 e e2 r g) j v w) w0 197 xs 12 := by
  intro act w hb hk hF
  have g62 : act.eval (.tmp 62) = .int .i64 r.2 := (show nu10Fl 9 = true → _ from hF 9 (of_decide_eq_true (by kernel_rfl)) 62 (by kernel_rfl)) (by kernel_rfl)
  exact step_assign (show opO nu10Ops 12 = some (.assign (.tmp 62)) by kernel_rfl) (.free (by kernel_rfl)) g62 ⟨fun _ => rfl, Below.refl _ _⟩
theorem nu10 {Q : Exit → Act → World → Prop} {a0 : Act} {w0 : World} (x : EnvM) (p3 p4 p5 : Nat) (e e2 : Ee) (r : Rv) (g : ByteArray) (h3 : EBx w0 p3 e) (h4 : EBx w0 p4 e2) (h5 : XBx w0 p5 x) (hev : EvOn w0 x (.mk 7 g ⟨#[]⟩ 0 0 [e, e2]) r) (hx2 : a0.tmps.getD 2 undef = .pointer (some ⟨p3, 0, none⟩)) (hx7 : a0.tmps.getD 7 undef = .pointer (some ⟨p4, 0, none⟩)) (hx3 : a0.tmps.getD 3 undef = .pointer (some ⟨p5, 0, none⟩)) (hx9 : a0.tmps.getD 9 undef = .string g) (hs : a0.tmps.size = 197)
    (hend : ∀ (V : Nat → Value) (p : Nat) (X : World), Below w0.heap.size w0 X → V 10 = .pointer (some ⟨p, 0, none⟩) → w0.heap.size ≤ p → p < X.heap.size → BoxF p r.1 X → V 12 = .int .i64 r.2 → Q .normal ⟨fillT nu10Ops a0.tmps V, a0.defers⟩ X) : (Code.region 10 nu10Ops true).wp Tryz.prog Q a0 w0 := by
  refine wp_region_boxM (by kernel_rfl) (nu10F x p3 p4 p5 e e2 r g) 10 11 10 NewAt (fun p w => BoxF p r.1 w) nu10Fl (nu10F_mono x p3 p4 p5 e e2 r g) (nu10F_flat x p3 p4 p5 e e2 r g) (by kernel_rfl) (by kernel_rfl) (of_decide_eq_true (by kernel_rfl)) (of_decide_eq_true (by kernel_rfl)) (by decide) ?_ new_keep boxF_keep (by rw [hs]; kernel_rfl) ?_ ?_ ?_ ?_ ?_
  · have size_is : nu10Ops.size = 13 := by kernel_rfl
    rw [size_is]
    intro i hi h1 h2
    have hq : ((List.range 13).all fun i => decide (i ∈ depsO nu10Ops 11) || decide (i = 11) || nu10Fl i) = true := by kernel_rfl
    have := List.all_eq_true.1 hq i (List.mem_range.2 hi)
    simp only [Bool.or_eq_true, decide_eq_true_eq] at this
    rcases this with (h | h) | h
    · exact absurd h h1
    · exact absurd h h2
    · exact h
  · rw [hs]
    have size_is : nu10Ops.size = 13 := by kernel_rfl
    rw [size_is]
    intro i hi hne1 hne2 hdp
    have hall : ∀ j, j < 13 → j = i → OpStep Tryz.prog nu10Ops Q (nu10F x p3 p4 p5 e e2 r g) w0 197 (fun t => a0.tmps.getD t undef) j := by
      intro j hj hji
      match j, hj with
      | 0, _ => exact nu10_s0 x p3 p4 p5 e e2 r g h3 h4 h5 hev hx2 hx7 hx3 hx9
      | 1, _ => exact nu10_s1 x p3 p4 p5 e e2 r g h3 h4 h5 hev hx2 hx7 hx3 hx9
      | 2, _ => exact nu10_s2 x p3 p4 p5 e e2 r g h3 h4 h5 hev hx2 hx7 hx3 hx9
      | 3, _ => exact nu10_s3 x p3 p4 p5 e e2 r g h3 h4 h5 hev hx2 hx7 hx3 hx9
      | 4, _ => exact nu10_s4 x p3 p4 p5 e e2 r g h3 h4 h5 hev hx2 hx7 hx3 hx9
      | 5, _ => exact nu10_s5 x p3 p4 p5 e e2 r g h3 h4 h5 hev hx2 hx7 hx3 hx9
      | 6, _ => exact nu10_s6 x p3 p4 p5 e e2 r g h3 h4 h5 hev hx2 hx7 hx3 hx9
      | 7, _ => exact nu10_s7 x p3 p4 p5 e e2 r g h3 h4 h5 hev hx2 hx7 hx3 hx9
      | 8, _ => exact nu10_s8 x p3 p4 p5 e e2 r g h3 h4 h5 hev hx2 hx7 hx3 hx9
      | 9, _ => exact absurd hdp (by rw [← hji]; decide)
      | 10, _ => exact absurd hji.symm hne1
      | 11, _ => exact absurd hji.symm hne2
      | 12, _ => exact absurd hdp (by rw [← hji]; decide)
      | q + 13, hj => exact absurd hj (by omega)
    exact hall i hi rfl
  · rw [hs]
    have size_is : nu10Ops.size = 13 := by kernel_rfl
    rw [size_is]
    intro i hi hne1 hne2 hdp
    have hall : ∀ j, j < 13 → j = i → OpStep Tryz.prog nu10Ops Q (fun j v w => nu10Fl j = true → (nu10F x p3 p4 p5 e e2 r g) j v w) w0 197 (fun t => a0.tmps.getD t undef) j := by
      intro j hj hji
      match j, hj with
      | 0, _ => exact absurd hdp (by rw [← hji]; exact fun h => h (by decide))
      | 1, _ => exact absurd hdp (by rw [← hji]; exact fun h => h (by decide))
      | 2, _ => exact absurd hdp (by rw [← hji]; exact fun h => h (by decide))
      | 3, _ => exact absurd hdp (by rw [← hji]; exact fun h => h (by decide))
      | 4, _ => exact absurd hdp (by rw [← hji]; exact fun h => h (by decide))
      | 5, _ => exact absurd hdp (by rw [← hji]; exact fun h => h (by decide))
      | 6, _ => exact absurd hdp (by rw [← hji]; exact fun h => h (by decide))
      | 7, _ => exact absurd hdp (by rw [← hji]; exact fun h => h (by decide))
      | 8, _ => exact absurd hdp (by rw [← hji]; exact fun h => h (by decide))
      | 9, _ => exact nu10_s9 x p3 p4 p5 e e2 r g h3 h4 h5 hev hx2 hx7 hx3 hx9
      | 10, _ => exact absurd hji.symm hne1
      | 11, _ => exact absurd hji.symm hne2
      | 12, _ => exact nu10_s12 x p3 p4 p5 e e2 r g h3 h4 h5 hev hx2 hx7 hx3 hx9
      | q + 13, hj => exact absurd hj (by omega)
    exact hall i hi rfl
  · intro a w hb
    exact step_allocV (by kernel_rfl) (.free (by kernel_rfl)) (by kernel_rfl) (fun _ _ => trivial)
  · intro act w p hb hp0 hp1 hp hn hF
    have gy : act.eval (.tmp 61) = vT r.1 := hF 8 (of_decide_eq_true (by kernel_rfl)) 61 (by kernel_rfl)
    exact step_storeF (show opO nu10Ops 11 = some (.store 38 (.tmp 10) (.tmp 61)) by kernel_rfl) (.free (by kernel_rfl)) (by kernel_rfl) hp gy hb hp0 hp1 hn
  · intro V p X hb hp hp0 hp1 hB hV
    exact hend V p X hb hp hp0 hp1 hB (hV 12 (of_decide_eq_true (by kernel_rfl)) (by kernel_rfl) (by kernel_rfl))
noncomputable def nu11Ops : Array Oper := regOf Tryz.f5 11
theorem nu11_fill {v0 v1 v2 v3 v4 v5 v6 v7 v8 v9 v10 v11 v12 v13 v14 v15 v16 v17 v18 v19 v20 v21 v22 v23 v24 v25 v26 v27 v28 v29 v30 v31 v32 v33 v34 v35 v36 v37 v38 v39 v40 v41 v42 v43 v44 v45 v46 v47 v48 v49 v50 v51 v52 v53 v54 v55 v56 v57 v58 v59 v60 v61 v62 v63 v64 v65 v66 v67 v68 v69 v70 v71 v72 v73 v74 v75 v76 v77 v78 v79 v80 v81 v82 v83 v84 v85 v86 v87 v88 v89 v90 v91 v92 v93 v94 v95 v96 v97 v98 v99 v100 v101 v102 v103 v104 v105 v106 v107 v108 v109 v110 v111 v112 v113 v114 v115 v116 v117 v118 v119 v120 v121 v122 v123 v124 v125 v126 v127 v128 v129 v130 v131 v132 v133 v134 v135 v136 v137 v138 v139 v140 v141 v142 v143 v144 v145 v146 v147 v148 v149 v150 v151 v152 v153 v154 v155 v156 v157 v158 v159 v160 v161 v162 v163 v164 v165 v166 v167 v168 v169 v170 v171 v172 v173 v174 v175 v176 v177 v178 v179 v180 v181 v182 v183 v184 v185 v186 v187 v188 v189 v190 v191 v192 v193 v194 v195 v196 : Value} (V : Nat → Value) : fillT nu11Ops #[v0, v1, v2, v3, v4, v5, v6, v7, v8, v9, v10, v11, v12, v13, v14, v15, v16, v17, v18, v19, v20, v21, v22, v23, v24, v25, v26, v27, v28, v29, v30, v31, v32, v33, v34, v35, v36, v37, v38, v39, v40, v41, v42, v43, v44, v45, v46, v47, v48, v49, v50, v51, v52, v53, v54, v55, v56, v57, v58, v59, v60, v61, v62, v63, v64, v65, v66, v67, v68, v69, v70, v71, v72, v73, v74, v75, v76, v77, v78, v79, v80, v81, v82, v83, v84, v85, v86, v87, v88, v89, v90, v91, v92, v93, v94, v95, v96, v97, v98, v99, v100, v101, v102, v103, v104, v105, v106, v107, v108, v109, v110, v111, v112, v113, v114, v115, v116, v117, v118, v119, v120, v121, v122, v123, v124, v125, v126, v127, v128, v129, v130, v131, v132, v133, v134, v135, v136, v137, v138, v139, v140, v141, v142, v143, v144, v145, v146, v147, v148, v149, v150, v151, v152, v153, v154, v155, v156, v157, v158, v159, v160, v161, v162, v163, v164, v165, v166, v167, v168, v169, v170, v171, v172, v173, v174, v175, v176, v177, v178, v179, v180, v181, v182, v183, v184, v185, v186, v187, v188, v189, v190, v191, v192, v193, v194, v195, v196] V = #[v0, v1, v2, v3, v4, v5, v6, v7, v8, v9, v10, v11, V 10, V 12, v14, v15, v16, v17, v18, v19, v20, v21, v22, v23, v24, v25, v26, v27, v28, v29, v30, v31, v32, v33, v34, v35, v36, v37, v38, v39, v40, v41, v42, v43, v44, v45, v46, v47, v48, v49, v50, v51, v52, v53, v54, v55, v56, v57, v58, v59, v60, v61, v62, V 7, V 0, V 1, V 2, V 3, V 4, V 5, V 6, V 8, V 9, v73, v74, v75, v76, v77, v78, v79, v80, v81, v82, v83, v84, v85, v86, v87, v88, v89, v90, v91, v92, v93, v94, v95, v96, v97, v98, v99, v100, v101, v102, v103, v104, v105, v106, v107, v108, v109, v110, v111, v112, v113, v114, v115, v116, v117, v118, v119, v120, v121, v122, v123, v124, v125, v126, v127, v128, v129, v130, v131, v132, v133, v134, v135, v136, v137, v138, v139, v140, v141, v142, v143, v144, v145, v146, v147, v148, v149, v150, v151, v152, v153, v154, v155, v156, v157, v158, v159, v160, v161, v162, v163, v164, v165, v166, v167, v168, v169, v170, v171, v172, v173, v174, v175, v176, v177, v178, v179, v180, v181, v182, v183, v184, v185, v186, v187, v188, v189, v190, v191, v192, v193, v194, v195, v196] := by
  kernel_rfl
def nu11L (x : EnvM) (p3 p4 p5 : Nat) (e e2 : Ee) (r : Rv) (g : ByteArray) : List (Value → World → Prop) := [IsV (.string g), IsE e2, IsE e, IsK [e2, e], IsE (.mk 7 g ⟨#[]⟩ 0 0 [e2, e]), IsX x, IsV (.tuple #[vT r.1, .int .i64 r.2]), IsV (.tuple #[vT r.1, .int .i64 r.2]), IsV (vT r.1), IsV (.int .i64 r.2), AnyF, AnyF, IsV (.int .i64 r.2)]
def nu11F (x : EnvM) (p3 p4 p5 : Nat) (e e2 : Ee) (r : Rv) (g : ByteArray) (i : Nat) : Value → World → Prop := (nu11L x p3 p4 p5 e e2 r g).getD i AnyF
theorem nu11F_mono (x : EnvM) (p3 p4 p5 : Nat) (e e2 : Ee) (r : Rv) (g : ByteArray) (i : Nat) (v : Value) (w w' : World) (hp : (nu11F x p3 p4 p5 e e2 r g) i v w) (hb : Below w.heap.size w w') : (nu11F x p3 p4 p5 e e2 r g) i v w' := by
  refine monoL ?_ i v w w' hp hb
  unfold nu11L
  simp only [List.forall_mem_cons]
  exact ⟨mono_isV _, mono_isE _, mono_isE _, mono_isK _, mono_isE _, mono_isX _, mono_isV _, mono_isV _, mono_isV _, mono_isV _, mono_any, mono_any, mono_isV _, fun _ h => by cases h⟩
def nu11Fl (i : Nat) : Bool := ([true, false, false, false, false, false, true, true, true, true, true, true, true] : List Bool).getD i false
theorem nu11F_flat (x : EnvM) (p3 p4 p5 : Nat) (e e2 : Ee) (r : Rv) (g : ByteArray) (i : Nat) (hi : nu11Fl i = true) (v : Value) (w w' : World) (hp : (nu11F x p3 p4 p5 e e2 r g) i v w) : (nu11F x p3 p4 p5 e e2 r g) i v w' := by
  unfold nu11Fl at hi
  unfold nu11F nu11L at hp ⊢
  match i, hi with
  | 0, _ => exact hp
  | 1, h => exact absurd h (by decide)
  | 2, h => exact absurd h (by decide)
  | 3, h => exact absurd h (by decide)
  | 4, h => exact absurd h (by decide)
  | 5, h => exact absurd h (by decide)
  | 6, _ => exact hp
  | 7, _ => exact hp
  | 8, _ => exact hp
  | 9, _ => exact hp
  | 10, _ => exact hp
  | 11, _ => exact hp
  | 12, _ => exact hp
  | i + 13, h => simp at h
theorem nu11_s0 {Q : Exit → Act → World → Prop} {w0 : World} {xs : Nat → Value} (x : EnvM) (p3 p4 p5 : Nat) (e e2 : Ee) (r : Rv) (g : ByteArray) (h3 : EBx w0 p3 e) (h4 : EBx w0 p4 e2) (h5 : XBx w0 p5 x) (hev : EvOn w0 x (.mk 7 g ⟨#[]⟩ 0 0 [e2, e]) r) (hx2 : xs 2 = .pointer (some ⟨p3, 0, none⟩)) (hx7 : xs 7 = .pointer (some ⟨p4, 0, none⟩)) (hx3 : xs 3 = .pointer (some ⟨p5, 0, none⟩)) (hx9 : xs 9 = .string g) : OpStep Tryz.prog nu11Ops Q (nu11F x p3 p4 p5 e e2 r g) w0 197 xs 0 := by
  intro act w hb hk hF
  have g9 : act.eval (.tmp 9) = .string g := (hk 9 (by decide) (by kernel_rfl)).trans hx9
  exact step_move (show opO nu11Ops 0 = some (.move (.tmp 9)) by kernel_rfl) (.free (by kernel_rfl)) g9 ⟨rfl, Below.refl _ _⟩
theorem nu11_s1 {Q : Exit → Act → World → Prop} {w0 : World} {xs : Nat → Value} (x : EnvM) (p3 p4 p5 : Nat) (e e2 : Ee) (r : Rv) (g : ByteArray) (h3 : EBx w0 p3 e) (h4 : EBx w0 p4 e2) (h5 : XBx w0 p5 x) (hev : EvOn w0 x (.mk 7 g ⟨#[]⟩ 0 0 [e2, e]) r) (hx2 : xs 2 = .pointer (some ⟨p3, 0, none⟩)) (hx7 : xs 7 = .pointer (some ⟨p4, 0, none⟩)) (hx3 : xs 3 = .pointer (some ⟨p5, 0, none⟩)) (hx9 : xs 9 = .string g) : OpStep Tryz.prog nu11Ops Q (nu11F x p3 p4 p5 e e2 r g) w0 197 xs 1 := by
  intro act w hb hk hF
  have g7 : act.eval (.tmp 7) = .pointer (some ⟨p4, 0, none⟩) := (hk 7 (by decide) (by kernel_rfl)).trans hx7
  exact step_loadEB (show opO nu11Ops 1 = some (.load 25 (.tmp 7)) by kernel_rfl) (.free (by kernel_rfl)) g7 (h4.on hb) (fun v h => ⟨h, Below.refl _ _⟩)
theorem nu11_s2 {Q : Exit → Act → World → Prop} {w0 : World} {xs : Nat → Value} (x : EnvM) (p3 p4 p5 : Nat) (e e2 : Ee) (r : Rv) (g : ByteArray) (h3 : EBx w0 p3 e) (h4 : EBx w0 p4 e2) (h5 : XBx w0 p5 x) (hev : EvOn w0 x (.mk 7 g ⟨#[]⟩ 0 0 [e2, e]) r) (hx2 : xs 2 = .pointer (some ⟨p3, 0, none⟩)) (hx7 : xs 7 = .pointer (some ⟨p4, 0, none⟩)) (hx3 : xs 3 = .pointer (some ⟨p5, 0, none⟩)) (hx9 : xs 9 = .string g) : OpStep Tryz.prog nu11Ops Q (nu11F x p3 p4 p5 e e2 r g) w0 197 xs 2 := by
  intro act w hb hk hF
  have g2 : act.eval (.tmp 2) = .pointer (some ⟨p3, 0, none⟩) := (hk 2 (by decide) (by kernel_rfl)).trans hx2
  exact step_loadEB (show opO nu11Ops 2 = some (.load 25 (.tmp 2)) by kernel_rfl) (.free (by kernel_rfl)) g2 (h3.on hb) (fun v h => ⟨h, Below.refl _ _⟩)
theorem nu11_s3 {Q : Exit → Act → World → Prop} {w0 : World} {xs : Nat → Value} (x : EnvM) (p3 p4 p5 : Nat) (e e2 : Ee) (r : Rv) (g : ByteArray) (h3 : EBx w0 p3 e) (h4 : EBx w0 p4 e2) (h5 : XBx w0 p5 x) (hev : EvOn w0 x (.mk 7 g ⟨#[]⟩ 0 0 [e2, e]) r) (hx2 : xs 2 = .pointer (some ⟨p3, 0, none⟩)) (hx7 : xs 7 = .pointer (some ⟨p4, 0, none⟩)) (hx3 : xs 3 = .pointer (some ⟨p5, 0, none⟩)) (hx9 : xs 9 = .string g) : OpStep Tryz.prog nu11Ops Q (nu11F x p3 p4 p5 e e2 r g) w0 197 xs 3 := by
  intro act w hb hk hF
  have g65 : IsE e2 (act.eval (.tmp 65)) w := hF 1 (of_decide_eq_true (by kernel_rfl)) 65 (by kernel_rfl)
  have g66 : IsE e (act.eval (.tmp 66)) w := hF 2 (of_decide_eq_true (by kernel_rfl)) 66 (by kernel_rfl)
  exact step_k2 (show opO nu11Ops 3 = some (.buildSlice 23 2 #[(0, .tmp 65), (1, .tmp 66)]) by kernel_rfl) (.free (by kernel_rfl)) g65 g66 (fun v w' h1 h2 => ⟨h1, h2⟩)
theorem nu11_s4 {Q : Exit → Act → World → Prop} {w0 : World} {xs : Nat → Value} (x : EnvM) (p3 p4 p5 : Nat) (e e2 : Ee) (r : Rv) (g : ByteArray) (h3 : EBx w0 p3 e) (h4 : EBx w0 p4 e2) (h5 : XBx w0 p5 x) (hev : EvOn w0 x (.mk 7 g ⟨#[]⟩ 0 0 [e2, e]) r) (hx2 : xs 2 = .pointer (some ⟨p3, 0, none⟩)) (hx7 : xs 7 = .pointer (some ⟨p4, 0, none⟩)) (hx3 : xs 3 = .pointer (some ⟨p5, 0, none⟩)) (hx9 : xs 9 = .string g) : OpStep Tryz.prog nu11Ops Q (nu11F x p3 p4 p5 e e2 r g) w0 197 xs 4 := by
  intro act w hb hk hF
  have g64 : act.eval (.tmp 64) = .string g := hF 0 (of_decide_eq_true (by kernel_rfl)) 64 (by kernel_rfl)
  have g67 : IsK [e2, e] (act.eval (.tmp 67)) w := hF 3 (of_decide_eq_true (by kernel_rfl)) 67 (by kernel_rfl)
  exact step_call (f := 11) (xs := #[.tmp 64, .tmp 67]) (by kernel_rfl) (.free (by kernel_rfl)) (map2 g64 rfl) (enters_of Tryz.func11 (by kernel_rfl) rfl) ((opE_is g _ _ w g67).mono fun e w' ⟨v, h1, h2, h3⟩ => ⟨v, h1, h2, h3⟩)
theorem nu11_s5 {Q : Exit → Act → World → Prop} {w0 : World} {xs : Nat → Value} (x : EnvM) (p3 p4 p5 : Nat) (e e2 : Ee) (r : Rv) (g : ByteArray) (h3 : EBx w0 p3 e) (h4 : EBx w0 p4 e2) (h5 : XBx w0 p5 x) (hev : EvOn w0 x (.mk 7 g ⟨#[]⟩ 0 0 [e2, e]) r) (hx2 : xs 2 = .pointer (some ⟨p3, 0, none⟩)) (hx7 : xs 7 = .pointer (some ⟨p4, 0, none⟩)) (hx3 : xs 3 = .pointer (some ⟨p5, 0, none⟩)) (hx9 : xs 9 = .string g) : OpStep Tryz.prog nu11Ops Q (nu11F x p3 p4 p5 e e2 r g) w0 197 xs 5 := by
  intro act w hb hk hF
  have g3 : act.eval (.tmp 3) = .pointer (some ⟨p5, 0, none⟩) := (hk 3 (by decide) (by kernel_rfl)).trans hx3
  exact step_loadXB (show opO nu11Ops 5 = some (.load 29 (.tmp 3)) by kernel_rfl) (.free (by kernel_rfl)) g3 (h5.on hb) (fun v h => ⟨h, Below.refl _ _⟩)
theorem nu11_s6 {Q : Exit → Act → World → Prop} {w0 : World} {xs : Nat → Value} (x : EnvM) (p3 p4 p5 : Nat) (e e2 : Ee) (r : Rv) (g : ByteArray) (h3 : EBx w0 p3 e) (h4 : EBx w0 p4 e2) (h5 : XBx w0 p5 x) (hev : EvOn w0 x (.mk 7 g ⟨#[]⟩ 0 0 [e2, e]) r) (hx2 : xs 2 = .pointer (some ⟨p3, 0, none⟩)) (hx7 : xs 7 = .pointer (some ⟨p4, 0, none⟩)) (hx3 : xs 3 = .pointer (some ⟨p5, 0, none⟩)) (hx9 : xs 9 = .string g) : OpStep Tryz.prog nu11Ops Q (nu11F x p3 p4 p5 e e2 r g) w0 197 xs 6 := by
  intro act w hb hk hF
  have g68 : IsE (.mk 7 g ⟨#[]⟩ 0 0 [e2, e]) (act.eval (.tmp 68)) w := hF 4 (of_decide_eq_true (by kernel_rfl)) 68 (by kernel_rfl)
  have g69 : IsX x (act.eval (.tmp 69)) w := hF 5 (of_decide_eq_true (by kernel_rfl)) 69 (by kernel_rfl)
  exact step_call (f := 10) (xs := #[.tmp 68, .tmp 69]) (by kernel_rfl) (.free (by kernel_rfl)) (map2 rfl rfl) (enters_of Tryz.func10 (by kernel_rfl) rfl) ((hev w _ _ hb g68 g69).mono fun e w' h => ⟨_, h.1, rfl, h.2⟩)
theorem nu11_s7 {Q : Exit → Act → World → Prop} {w0 : World} {xs : Nat → Value} (x : EnvM) (p3 p4 p5 : Nat) (e e2 : Ee) (r : Rv) (g : ByteArray) (h3 : EBx w0 p3 e) (h4 : EBx w0 p4 e2) (h5 : XBx w0 p5 x) (hev : EvOn w0 x (.mk 7 g ⟨#[]⟩ 0 0 [e2, e]) r) (hx2 : xs 2 = .pointer (some ⟨p3, 0, none⟩)) (hx7 : xs 7 = .pointer (some ⟨p4, 0, none⟩)) (hx3 : xs 3 = .pointer (some ⟨p5, 0, none⟩)) (hx9 : xs 9 = .string g) : OpStep Tryz.prog nu11Ops Q (nu11F x p3 p4 p5 e e2 r g) w0 197 xs 7 := by
  intro act w hb hk hF
  have g70 : act.eval (.tmp 70) = .tuple #[vT r.1, .int .i64 r.2] := hF 6 (of_decide_eq_true (by kernel_rfl)) 70 (by kernel_rfl)
  exact step_move (show opO nu11Ops 7 = some (.move (.tmp 70)) by kernel_rfl) (.free (by kernel_rfl)) g70 ⟨rfl, Below.refl _ _⟩
theorem nu11_s8 {Q : Exit → Act → World → Prop} {w0 : World} {xs : Nat → Value} (x : EnvM) (p3 p4 p5 : Nat) (e e2 : Ee) (r : Rv) (g : ByteArray) (h3 : EBx w0 p3 e) (h4 : EBx w0 p4 e2) (h5 : XBx w0 p5 x) (hev : EvOn w0 x (.mk 7 g ⟨#[]⟩ 0 0 [e2, e]) r) (hx2 : xs 2 = .pointer (some ⟨p3, 0, none⟩)) (hx7 : xs 7 = .pointer (some ⟨p4, 0, none⟩)) (hx3 : xs 3 = .pointer (some ⟨p5, 0, none⟩)) (hx9 : xs 9 = .string g) : OpStep Tryz.prog nu11Ops Q (nu11F x p3 p4 p5 e e2 r g) w0 197 xs 8 := by
  intro act w hb hk hF
  have g63 : act.eval (.tmp 63) = .tuple #[vT r.1, .int .i64 r.2] := hF 7 (of_decide_eq_true (by kernel_rfl)) 63 (by kernel_rfl)
  exact step_extract (show opO nu11Ops 8 = some (.extract (.tmp 63) 0) by kernel_rfl) (.free (by kernel_rfl)) g63 rfl ⟨rfl, Below.refl _ _⟩
theorem nu11_s9 {Q : Exit → Act → World → Prop} {w0 : World} {xs : Nat → Value} (x : EnvM) (p3 p4 p5 : Nat) (e e2 : Ee) (r : Rv) (g : ByteArray) (h3 : EBx w0 p3 e) (h4 : EBx w0 p4 e2) (h5 : XBx w0 p5 x) (hev : EvOn w0 x (.mk 7 g ⟨#[]⟩ 0 0 [e2, e]) r) (hx2 : xs 2 = .pointer (some ⟨p3, 0, none⟩)) (hx7 : xs 7 = .pointer (some ⟨p4, 0, none⟩)) (hx3 : xs 3 = .pointer (some ⟨p5, 0, none⟩)) (hx9 : xs 9 = .string g) : OpStep Tryz.prog nu11Ops Q (fun j v w => nu11Fl j = true → (nu11F x p3 p4 p5 e e2 r g) j v w) w0 197 xs 9 := by
  intro act w hb hk hF
  have g63 : act.eval (.tmp 63) = .tuple #[vT r.1, .int .i64 r.2] := (show nu11Fl 7 = true → _ from hF 7 (of_decide_eq_true (by kernel_rfl)) 63 (by kernel_rfl)) (by kernel_rfl)
  exact step_extract (show opO nu11Ops 9 = some (.extract (.tmp 63) 1) by kernel_rfl) (.free (by kernel_rfl)) g63 rfl ⟨fun _ => rfl, Below.refl _ _⟩
theorem nu11_s12 {Q : Exit → Act → World → Prop} {w0 : World} {xs : Nat → Value} (x : EnvM) (p3 p4 p5 : Nat) (e e2 : Ee) (r : Rv) (g : ByteArray) (h3 : EBx w0 p3 e) (h4 : EBx w0 p4 e2) (h5 : XBx w0 p5 x) (hev : EvOn w0 x (.mk 7 g ⟨#[]⟩ 0 0 [e2, e]) r) (hx2 : xs 2 = .pointer (some ⟨p3, 0, none⟩)) (hx7 : xs 7 = .pointer (some ⟨p4, 0, none⟩)) (hx3 : xs 3 = .pointer (some ⟨p5, 0, none⟩)) (hx9 : xs 9 = .string g) : OpStep Tryz.prog nu11Ops Q (fun j v w => nu11Fl j = true → (nu11F x p3 p4 p5 e e2 r g) j v w) w0 197 xs 12 := by
  intro act w hb hk hF
  have g72 : act.eval (.tmp 72) = .int .i64 r.2 := (show nu11Fl 9 = true → _ from hF 9 (of_decide_eq_true (by kernel_rfl)) 72 (by kernel_rfl)) (by kernel_rfl)
  exact step_assign (show opO nu11Ops 12 = some (.assign (.tmp 72)) by kernel_rfl) (.free (by kernel_rfl)) g72 ⟨fun _ => rfl, Below.refl _ _⟩
theorem nu11 {Q : Exit → Act → World → Prop} {a0 : Act} {w0 : World} (x : EnvM) (p3 p4 p5 : Nat) (e e2 : Ee) (r : Rv) (g : ByteArray) (h3 : EBx w0 p3 e) (h4 : EBx w0 p4 e2) (h5 : XBx w0 p5 x) (hev : EvOn w0 x (.mk 7 g ⟨#[]⟩ 0 0 [e2, e]) r) (hx2 : a0.tmps.getD 2 undef = .pointer (some ⟨p3, 0, none⟩)) (hx7 : a0.tmps.getD 7 undef = .pointer (some ⟨p4, 0, none⟩)) (hx3 : a0.tmps.getD 3 undef = .pointer (some ⟨p5, 0, none⟩)) (hx9 : a0.tmps.getD 9 undef = .string g) (hs : a0.tmps.size = 197)
    (hend : ∀ (V : Nat → Value) (p : Nat) (X : World), Below w0.heap.size w0 X → V 10 = .pointer (some ⟨p, 0, none⟩) → w0.heap.size ≤ p → p < X.heap.size → BoxF p r.1 X → V 12 = .int .i64 r.2 → Q .normal ⟨fillT nu11Ops a0.tmps V, a0.defers⟩ X) : (Code.region 11 nu11Ops true).wp Tryz.prog Q a0 w0 := by
  refine wp_region_boxM (by kernel_rfl) (nu11F x p3 p4 p5 e e2 r g) 10 11 12 NewAt (fun p w => BoxF p r.1 w) nu11Fl (nu11F_mono x p3 p4 p5 e e2 r g) (nu11F_flat x p3 p4 p5 e e2 r g) (by kernel_rfl) (by kernel_rfl) (of_decide_eq_true (by kernel_rfl)) (of_decide_eq_true (by kernel_rfl)) (by decide) ?_ new_keep boxF_keep (by rw [hs]; kernel_rfl) ?_ ?_ ?_ ?_ ?_
  · have size_is : nu11Ops.size = 13 := by kernel_rfl
    rw [size_is]
    intro i hi h1 h2
    have hq : ((List.range 13).all fun i => decide (i ∈ depsO nu11Ops 11) || decide (i = 11) || nu11Fl i) = true := by kernel_rfl
    have := List.all_eq_true.1 hq i (List.mem_range.2 hi)
    simp only [Bool.or_eq_true, decide_eq_true_eq] at this
    rcases this with (h | h) | h
    · exact absurd h h1
    · exact absurd h h2
    · exact h
  · rw [hs]
    have size_is : nu11Ops.size = 13 := by kernel_rfl
    rw [size_is]
    intro i hi hne1 hne2 hdp
    have hall : ∀ j, j < 13 → j = i → OpStep Tryz.prog nu11Ops Q (nu11F x p3 p4 p5 e e2 r g) w0 197 (fun t => a0.tmps.getD t undef) j := by
      intro j hj hji
      match j, hj with
      | 0, _ => exact nu11_s0 x p3 p4 p5 e e2 r g h3 h4 h5 hev hx2 hx7 hx3 hx9
      | 1, _ => exact nu11_s1 x p3 p4 p5 e e2 r g h3 h4 h5 hev hx2 hx7 hx3 hx9
      | 2, _ => exact nu11_s2 x p3 p4 p5 e e2 r g h3 h4 h5 hev hx2 hx7 hx3 hx9
      | 3, _ => exact nu11_s3 x p3 p4 p5 e e2 r g h3 h4 h5 hev hx2 hx7 hx3 hx9
      | 4, _ => exact nu11_s4 x p3 p4 p5 e e2 r g h3 h4 h5 hev hx2 hx7 hx3 hx9
      | 5, _ => exact nu11_s5 x p3 p4 p5 e e2 r g h3 h4 h5 hev hx2 hx7 hx3 hx9
      | 6, _ => exact nu11_s6 x p3 p4 p5 e e2 r g h3 h4 h5 hev hx2 hx7 hx3 hx9
      | 7, _ => exact nu11_s7 x p3 p4 p5 e e2 r g h3 h4 h5 hev hx2 hx7 hx3 hx9
      | 8, _ => exact nu11_s8 x p3 p4 p5 e e2 r g h3 h4 h5 hev hx2 hx7 hx3 hx9
      | 9, _ => exact absurd hdp (by rw [← hji]; decide)
      | 10, _ => exact absurd hji.symm hne1
      | 11, _ => exact absurd hji.symm hne2
      | 12, _ => exact absurd hdp (by rw [← hji]; decide)
      | q + 13, hj => exact absurd hj (by omega)
    exact hall i hi rfl
  · rw [hs]
    have size_is : nu11Ops.size = 13 := by kernel_rfl
    rw [size_is]
    intro i hi hne1 hne2 hdp
    have hall : ∀ j, j < 13 → j = i → OpStep Tryz.prog nu11Ops Q (fun j v w => nu11Fl j = true → (nu11F x p3 p4 p5 e e2 r g) j v w) w0 197 (fun t => a0.tmps.getD t undef) j := by
      intro j hj hji
      match j, hj with
      | 0, _ => exact absurd hdp (by rw [← hji]; exact fun h => h (by decide))
      | 1, _ => exact absurd hdp (by rw [← hji]; exact fun h => h (by decide))
      | 2, _ => exact absurd hdp (by rw [← hji]; exact fun h => h (by decide))
      | 3, _ => exact absurd hdp (by rw [← hji]; exact fun h => h (by decide))
      | 4, _ => exact absurd hdp (by rw [← hji]; exact fun h => h (by decide))
      | 5, _ => exact absurd hdp (by rw [← hji]; exact fun h => h (by decide))
      | 6, _ => exact absurd hdp (by rw [← hji]; exact fun h => h (by decide))
      | 7, _ => exact absurd hdp (by rw [← hji]; exact fun h => h (by decide))
      | 8, _ => exact absurd hdp (by rw [← hji]; exact fun h => h (by decide))
      | 9, _ => exact nu11_s9 x p3 p4 p5 e e2 r g h3 h4 h5 hev hx2 hx7 hx3 hx9
      | 10, _ => exact absurd hji.symm hne1
      | 11, _ => exact absurd hji.symm hne2
      | 12, _ => exact nu11_s12 x p3 p4 p5 e e2 r g h3 h4 h5 hev hx2 hx7 hx3 hx9
      | q + 13, hj => exact absurd hj (by omega)
    exact hall i hi rfl
  · intro a w hb
    exact step_allocV (by kernel_rfl) (.free (by kernel_rfl)) (by kernel_rfl) (fun _ _ => trivial)
  · intro act w p hb hp0 hp1 hp hn hF
    have gy : act.eval (.tmp 71) = vT r.1 := hF 8 (of_decide_eq_true (by kernel_rfl)) 71 (by kernel_rfl)
    exact step_storeF (show opO nu11Ops 11 = some (.store 38 (.tmp 12) (.tmp 71)) by kernel_rfl) (.free (by kernel_rfl)) (by kernel_rfl) hp gy hb hp0 hp1 hn
  · intro V p X hb hp hp0 hp1 hB hV
    exact hend V p X hb hp hp0 hp1 hB (hV 12 (of_decide_eq_true (by kernel_rfl)) (by kernel_rfl) (by kernel_rfl))
noncomputable def nu20Ops : Array Oper := regOf Tryz.f5 20
theorem nu20_fill {v0 v1 v2 v3 v4 v5 v6 v7 v8 v9 v10 v11 v12 v13 v14 v15 v16 v17 v18 v19 v20 v21 v22 v23 v24 v25 v26 v27 v28 v29 v30 v31 v32 v33 v34 v35 v36 v37 v38 v39 v40 v41 v42 v43 v44 v45 v46 v47 v48 v49 v50 v51 v52 v53 v54 v55 v56 v57 v58 v59 v60 v61 v62 v63 v64 v65 v66 v67 v68 v69 v70 v71 v72 v73 v74 v75 v76 v77 v78 v79 v80 v81 v82 v83 v84 v85 v86 v87 v88 v89 v90 v91 v92 v93 v94 v95 v96 v97 v98 v99 v100 v101 v102 v103 v104 v105 v106 v107 v108 v109 v110 v111 v112 v113 v114 v115 v116 v117 v118 v119 v120 v121 v122 v123 v124 v125 v126 v127 v128 v129 v130 v131 v132 v133 v134 v135 v136 v137 v138 v139 v140 v141 v142 v143 v144 v145 v146 v147 v148 v149 v150 v151 v152 v153 v154 v155 v156 v157 v158 v159 v160 v161 v162 v163 v164 v165 v166 v167 v168 v169 v170 v171 v172 v173 v174 v175 v176 v177 v178 v179 v180 v181 v182 v183 v184 v185 v186 v187 v188 v189 v190 v191 v192 v193 v194 v195 v196 : Value} (V : Nat → Value) : fillT nu20Ops #[v0, v1, v2, v3, v4, v5, v6, v7, v8, v9, v10, v11, v12, v13, v14, v15, v16, v17, v18, v19, v20, v21, v22, v23, v24, v25, v26, v27, v28, v29, v30, v31, v32, v33, v34, v35, v36, v37, v38, v39, v40, v41, v42, v43, v44, v45, v46, v47, v48, v49, v50, v51, v52, v53, v54, v55, v56, v57, v58, v59, v60, v61, v62, v63, v64, v65, v66, v67, v68, v69, v70, v71, v72, v73, v74, v75, v76, v77, v78, v79, v80, v81, v82, v83, v84, v85, v86, v87, v88, v89, v90, v91, v92, v93, v94, v95, v96, v97, v98, v99, v100, v101, v102, v103, v104, v105, v106, v107, v108, v109, v110, v111, v112, v113, v114, v115, v116, v117, v118, v119, v120, v121, v122, v123, v124, v125, v126, v127, v128, v129, v130, v131, v132, v133, v134, v135, v136, v137, v138, v139, v140, v141, v142, v143, v144, v145, v146, v147, v148, v149, v150, v151, v152, v153, v154, v155, v156, v157, v158, v159, v160, v161, v162, v163, v164, v165, v166, v167, v168, v169, v170, v171, v172, v173, v174, v175, v176, v177, v178, v179, v180, v181, v182, v183, v184, v185, v186, v187, v188, v189, v190, v191, v192, v193, v194, v195, v196] V = #[v0, v1, v2, v3, v4, v5, v6, v7, v8, v9, v10, v11, v12, v13, v14, v15, v16, v17, v18, v19, V 9, V 11, v22, v23, v24, v25, v26, v27, v28, v29, v30, v31, v32, v33, v34, v35, v36, v37, v38, v39, v40, v41, v42, v43, v44, v45, v46, v47, v48, v49, v50, v51, v52, v53, v54, v55, v56, v57, v58, v59, v60, v61, v62, v63, v64, v65, v66, v67, v68, v69, v70, v71, v72, v73, v74, v75, v76, v77, v78, v79, v80, v81, v82, v83, v84, v85, v86, v87, v88, v89, v90, v91, v92, v93, v94, v95, v96, v97, v98, v99, v100, v101, v102, v103, v104, v105, v106, v107, v108, v109, v110, v111, v112, v113, v114, v115, v116, v117, v118, v119, v120, v121, v122, v123, v124, v125, v126, v127, v128, v129, v130, v131, v132, v133, v134, v135, v136, v137, v138, v139, v140, v141, v142, v143, v144, V 6, V 0, V 1, V 2, V 3, V 4, V 5, V 7, V 8, v154, v155, v156, v157, v158, v159, v160, v161, v162, v163, v164, v165, v166, v167, v168, v169, v170, v171, v172, v173, v174, v175, v176, v177, v178, v179, v180, v181, v182, v183, v184, v185, v186, v187, v188, v189, v190, v191, v192, v193, v194, v195, v196] := by
  kernel_rfl
def nu20L (x : EnvM) (p3 p4 p5 : Nat) (e e2 : Ee) (r : Rv) : List (Value → World → Prop) := [IsE e, IsE e2, IsK [e, e2], IsE (.mk 7 ⟨#[111, 114]⟩ ⟨#[]⟩ 0 0 [e, e2]), IsX x, IsV (.tuple #[vT r.1, .int .i64 r.2]), IsV (.tuple #[vT r.1, .int .i64 r.2]), IsV (vT r.1), IsV (.int .i64 r.2), AnyF, AnyF, IsV (.int .i64 r.2)]
def nu20F (x : EnvM) (p3 p4 p5 : Nat) (e e2 : Ee) (r : Rv) (i : Nat) : Value → World → Prop := (nu20L x p3 p4 p5 e e2 r).getD i AnyF
theorem nu20F_mono (x : EnvM) (p3 p4 p5 : Nat) (e e2 : Ee) (r : Rv) (i : Nat) (v : Value) (w w' : World) (hp : (nu20F x p3 p4 p5 e e2 r) i v w) (hb : Below w.heap.size w w') : (nu20F x p3 p4 p5 e e2 r) i v w' := by
  refine monoL ?_ i v w w' hp hb
  unfold nu20L
  simp only [List.forall_mem_cons]
  exact ⟨mono_isE _, mono_isE _, mono_isK _, mono_isE _, mono_isX _, mono_isV _, mono_isV _, mono_isV _, mono_isV _, mono_any, mono_any, mono_isV _, fun _ h => by cases h⟩
def nu20Fl (i : Nat) : Bool := ([false, false, false, false, false, true, true, true, true, true, true, true] : List Bool).getD i false
theorem nu20F_flat (x : EnvM) (p3 p4 p5 : Nat) (e e2 : Ee) (r : Rv) (i : Nat) (hi : nu20Fl i = true) (v : Value) (w w' : World) (hp : (nu20F x p3 p4 p5 e e2 r) i v w) : (nu20F x p3 p4 p5 e e2 r) i v w' := by
  unfold nu20Fl at hi
  unfold nu20F nu20L at hp ⊢
  match i, hi with
  | 0, h => exact absurd h (by decide)
  | 1, h => exact absurd h (by decide)
  | 2, h => exact absurd h (by decide)
  | 3, h => exact absurd h (by decide)
  | 4, h => exact absurd h (by decide)
  | 5, _ => exact hp
  | 6, _ => exact hp
  | 7, _ => exact hp
  | 8, _ => exact hp
  | 9, _ => exact hp
  | 10, _ => exact hp
  | 11, _ => exact hp
  | i + 12, h => simp at h
theorem nu20_s0 {Q : Exit → Act → World → Prop} {w0 : World} {xs : Nat → Value} (x : EnvM) (p3 p4 p5 : Nat) (e e2 : Ee) (r : Rv) (h3 : EBx w0 p3 e) (h4 : EBx w0 p4 e2) (h5 : XBx w0 p5 x) (hev : EvOn w0 x (.mk 7 ⟨#[111, 114]⟩ ⟨#[]⟩ 0 0 [e, e2]) r) (hx2 : xs 2 = .pointer (some ⟨p3, 0, none⟩)) (hx7 : xs 7 = .pointer (some ⟨p4, 0, none⟩)) (hx3 : xs 3 = .pointer (some ⟨p5, 0, none⟩)) : OpStep Tryz.prog nu20Ops Q (nu20F x p3 p4 p5 e e2 r) w0 197 xs 0 := by
  intro act w hb hk hF
  have g2 : act.eval (.tmp 2) = .pointer (some ⟨p3, 0, none⟩) := (hk 2 (by decide) (by kernel_rfl)).trans hx2
  exact step_loadEB (show opO nu20Ops 0 = some (.load 25 (.tmp 2)) by kernel_rfl) (.free (by kernel_rfl)) g2 (h3.on hb) (fun v h => ⟨h, Below.refl _ _⟩)
theorem nu20_s1 {Q : Exit → Act → World → Prop} {w0 : World} {xs : Nat → Value} (x : EnvM) (p3 p4 p5 : Nat) (e e2 : Ee) (r : Rv) (h3 : EBx w0 p3 e) (h4 : EBx w0 p4 e2) (h5 : XBx w0 p5 x) (hev : EvOn w0 x (.mk 7 ⟨#[111, 114]⟩ ⟨#[]⟩ 0 0 [e, e2]) r) (hx2 : xs 2 = .pointer (some ⟨p3, 0, none⟩)) (hx7 : xs 7 = .pointer (some ⟨p4, 0, none⟩)) (hx3 : xs 3 = .pointer (some ⟨p5, 0, none⟩)) : OpStep Tryz.prog nu20Ops Q (nu20F x p3 p4 p5 e e2 r) w0 197 xs 1 := by
  intro act w hb hk hF
  have g7 : act.eval (.tmp 7) = .pointer (some ⟨p4, 0, none⟩) := (hk 7 (by decide) (by kernel_rfl)).trans hx7
  exact step_loadEB (show opO nu20Ops 1 = some (.load 25 (.tmp 7)) by kernel_rfl) (.free (by kernel_rfl)) g7 (h4.on hb) (fun v h => ⟨h, Below.refl _ _⟩)
theorem nu20_s2 {Q : Exit → Act → World → Prop} {w0 : World} {xs : Nat → Value} (x : EnvM) (p3 p4 p5 : Nat) (e e2 : Ee) (r : Rv) (h3 : EBx w0 p3 e) (h4 : EBx w0 p4 e2) (h5 : XBx w0 p5 x) (hev : EvOn w0 x (.mk 7 ⟨#[111, 114]⟩ ⟨#[]⟩ 0 0 [e, e2]) r) (hx2 : xs 2 = .pointer (some ⟨p3, 0, none⟩)) (hx7 : xs 7 = .pointer (some ⟨p4, 0, none⟩)) (hx3 : xs 3 = .pointer (some ⟨p5, 0, none⟩)) : OpStep Tryz.prog nu20Ops Q (nu20F x p3 p4 p5 e e2 r) w0 197 xs 2 := by
  intro act w hb hk hF
  have g146 : IsE e (act.eval (.tmp 146)) w := hF 0 (of_decide_eq_true (by kernel_rfl)) 146 (by kernel_rfl)
  have g147 : IsE e2 (act.eval (.tmp 147)) w := hF 1 (of_decide_eq_true (by kernel_rfl)) 147 (by kernel_rfl)
  exact step_k2 (show opO nu20Ops 2 = some (.buildSlice 23 2 #[(0, .tmp 146), (1, .tmp 147)]) by kernel_rfl) (.free (by kernel_rfl)) g146 g147 (fun v w' h1 h2 => ⟨h1, h2⟩)
theorem nu20_s3 {Q : Exit → Act → World → Prop} {w0 : World} {xs : Nat → Value} (x : EnvM) (p3 p4 p5 : Nat) (e e2 : Ee) (r : Rv) (h3 : EBx w0 p3 e) (h4 : EBx w0 p4 e2) (h5 : XBx w0 p5 x) (hev : EvOn w0 x (.mk 7 ⟨#[111, 114]⟩ ⟨#[]⟩ 0 0 [e, e2]) r) (hx2 : xs 2 = .pointer (some ⟨p3, 0, none⟩)) (hx7 : xs 7 = .pointer (some ⟨p4, 0, none⟩)) (hx3 : xs 3 = .pointer (some ⟨p5, 0, none⟩)) : OpStep Tryz.prog nu20Ops Q (nu20F x p3 p4 p5 e e2 r) w0 197 xs 3 := by
  intro act w hb hk hF
  have g148 : IsK [e, e2] (act.eval (.tmp 148)) w := hF 2 (of_decide_eq_true (by kernel_rfl)) 148 (by kernel_rfl)
  exact step_call (f := 11) (xs := #[.const (.string ⟨#[111, 114]⟩), .tmp 148]) (by kernel_rfl) (.free (by kernel_rfl)) (map2 rfl rfl) (enters_of Tryz.func11 (by kernel_rfl) rfl) ((opE_is ⟨#[111, 114]⟩ _ _ w g148).mono fun e w' ⟨v, h1, h2, h3⟩ => ⟨v, h1, h2, h3⟩)
theorem nu20_s4 {Q : Exit → Act → World → Prop} {w0 : World} {xs : Nat → Value} (x : EnvM) (p3 p4 p5 : Nat) (e e2 : Ee) (r : Rv) (h3 : EBx w0 p3 e) (h4 : EBx w0 p4 e2) (h5 : XBx w0 p5 x) (hev : EvOn w0 x (.mk 7 ⟨#[111, 114]⟩ ⟨#[]⟩ 0 0 [e, e2]) r) (hx2 : xs 2 = .pointer (some ⟨p3, 0, none⟩)) (hx7 : xs 7 = .pointer (some ⟨p4, 0, none⟩)) (hx3 : xs 3 = .pointer (some ⟨p5, 0, none⟩)) : OpStep Tryz.prog nu20Ops Q (nu20F x p3 p4 p5 e e2 r) w0 197 xs 4 := by
  intro act w hb hk hF
  have g3 : act.eval (.tmp 3) = .pointer (some ⟨p5, 0, none⟩) := (hk 3 (by decide) (by kernel_rfl)).trans hx3
  exact step_loadXB (show opO nu20Ops 4 = some (.load 29 (.tmp 3)) by kernel_rfl) (.free (by kernel_rfl)) g3 (h5.on hb) (fun v h => ⟨h, Below.refl _ _⟩)
theorem nu20_s5 {Q : Exit → Act → World → Prop} {w0 : World} {xs : Nat → Value} (x : EnvM) (p3 p4 p5 : Nat) (e e2 : Ee) (r : Rv) (h3 : EBx w0 p3 e) (h4 : EBx w0 p4 e2) (h5 : XBx w0 p5 x) (hev : EvOn w0 x (.mk 7 ⟨#[111, 114]⟩ ⟨#[]⟩ 0 0 [e, e2]) r) (hx2 : xs 2 = .pointer (some ⟨p3, 0, none⟩)) (hx7 : xs 7 = .pointer (some ⟨p4, 0, none⟩)) (hx3 : xs 3 = .pointer (some ⟨p5, 0, none⟩)) : OpStep Tryz.prog nu20Ops Q (nu20F x p3 p4 p5 e e2 r) w0 197 xs 5 := by
  intro act w hb hk hF
  have g149 : IsE (.mk 7 ⟨#[111, 114]⟩ ⟨#[]⟩ 0 0 [e, e2]) (act.eval (.tmp 149)) w := hF 3 (of_decide_eq_true (by kernel_rfl)) 149 (by kernel_rfl)
  have g150 : IsX x (act.eval (.tmp 150)) w := hF 4 (of_decide_eq_true (by kernel_rfl)) 150 (by kernel_rfl)
  exact step_call (f := 10) (xs := #[.tmp 149, .tmp 150]) (by kernel_rfl) (.free (by kernel_rfl)) (map2 rfl rfl) (enters_of Tryz.func10 (by kernel_rfl) rfl) ((hev w _ _ hb g149 g150).mono fun e w' h => ⟨_, h.1, rfl, h.2⟩)
theorem nu20_s6 {Q : Exit → Act → World → Prop} {w0 : World} {xs : Nat → Value} (x : EnvM) (p3 p4 p5 : Nat) (e e2 : Ee) (r : Rv) (h3 : EBx w0 p3 e) (h4 : EBx w0 p4 e2) (h5 : XBx w0 p5 x) (hev : EvOn w0 x (.mk 7 ⟨#[111, 114]⟩ ⟨#[]⟩ 0 0 [e, e2]) r) (hx2 : xs 2 = .pointer (some ⟨p3, 0, none⟩)) (hx7 : xs 7 = .pointer (some ⟨p4, 0, none⟩)) (hx3 : xs 3 = .pointer (some ⟨p5, 0, none⟩)) : OpStep Tryz.prog nu20Ops Q (nu20F x p3 p4 p5 e e2 r) w0 197 xs 6 := by
  intro act w hb hk hF
  have g151 : act.eval (.tmp 151) = .tuple #[vT r.1, .int .i64 r.2] := hF 5 (of_decide_eq_true (by kernel_rfl)) 151 (by kernel_rfl)
  exact step_move (show opO nu20Ops 6 = some (.move (.tmp 151)) by kernel_rfl) (.free (by kernel_rfl)) g151 ⟨rfl, Below.refl _ _⟩
theorem nu20_s7 {Q : Exit → Act → World → Prop} {w0 : World} {xs : Nat → Value} (x : EnvM) (p3 p4 p5 : Nat) (e e2 : Ee) (r : Rv) (h3 : EBx w0 p3 e) (h4 : EBx w0 p4 e2) (h5 : XBx w0 p5 x) (hev : EvOn w0 x (.mk 7 ⟨#[111, 114]⟩ ⟨#[]⟩ 0 0 [e, e2]) r) (hx2 : xs 2 = .pointer (some ⟨p3, 0, none⟩)) (hx7 : xs 7 = .pointer (some ⟨p4, 0, none⟩)) (hx3 : xs 3 = .pointer (some ⟨p5, 0, none⟩)) : OpStep Tryz.prog nu20Ops Q (nu20F x p3 p4 p5 e e2 r) w0 197 xs 7 := by
  intro act w hb hk hF
  have g145 : act.eval (.tmp 145) = .tuple #[vT r.1, .int .i64 r.2] := hF 6 (of_decide_eq_true (by kernel_rfl)) 145 (by kernel_rfl)
  exact step_extract (show opO nu20Ops 7 = some (.extract (.tmp 145) 0) by kernel_rfl) (.free (by kernel_rfl)) g145 rfl ⟨rfl, Below.refl _ _⟩
theorem nu20_s8 {Q : Exit → Act → World → Prop} {w0 : World} {xs : Nat → Value} (x : EnvM) (p3 p4 p5 : Nat) (e e2 : Ee) (r : Rv) (h3 : EBx w0 p3 e) (h4 : EBx w0 p4 e2) (h5 : XBx w0 p5 x) (hev : EvOn w0 x (.mk 7 ⟨#[111, 114]⟩ ⟨#[]⟩ 0 0 [e, e2]) r) (hx2 : xs 2 = .pointer (some ⟨p3, 0, none⟩)) (hx7 : xs 7 = .pointer (some ⟨p4, 0, none⟩)) (hx3 : xs 3 = .pointer (some ⟨p5, 0, none⟩)) : OpStep Tryz.prog nu20Ops Q (fun j v w => nu20Fl j = true → (nu20F x p3 p4 p5 e e2 r) j v w) w0 197 xs 8 := by
  intro act w hb hk hF
  have g145 : act.eval (.tmp 145) = .tuple #[vT r.1, .int .i64 r.2] := (show nu20Fl 6 = true → _ from hF 6 (of_decide_eq_true (by kernel_rfl)) 145 (by kernel_rfl)) (by kernel_rfl)
  exact step_extract (show opO nu20Ops 8 = some (.extract (.tmp 145) 1) by kernel_rfl) (.free (by kernel_rfl)) g145 rfl ⟨fun _ => rfl, Below.refl _ _⟩
theorem nu20_s11 {Q : Exit → Act → World → Prop} {w0 : World} {xs : Nat → Value} (x : EnvM) (p3 p4 p5 : Nat) (e e2 : Ee) (r : Rv) (h3 : EBx w0 p3 e) (h4 : EBx w0 p4 e2) (h5 : XBx w0 p5 x) (hev : EvOn w0 x (.mk 7 ⟨#[111, 114]⟩ ⟨#[]⟩ 0 0 [e, e2]) r) (hx2 : xs 2 = .pointer (some ⟨p3, 0, none⟩)) (hx7 : xs 7 = .pointer (some ⟨p4, 0, none⟩)) (hx3 : xs 3 = .pointer (some ⟨p5, 0, none⟩)) : OpStep Tryz.prog nu20Ops Q (fun j v w => nu20Fl j = true → (nu20F x p3 p4 p5 e e2 r) j v w) w0 197 xs 11 := by
  intro act w hb hk hF
  have g153 : act.eval (.tmp 153) = .int .i64 r.2 := (show nu20Fl 8 = true → _ from hF 8 (of_decide_eq_true (by kernel_rfl)) 153 (by kernel_rfl)) (by kernel_rfl)
  exact step_assign (show opO nu20Ops 11 = some (.assign (.tmp 153)) by kernel_rfl) (.free (by kernel_rfl)) g153 ⟨fun _ => rfl, Below.refl _ _⟩
theorem nu20 {Q : Exit → Act → World → Prop} {a0 : Act} {w0 : World} (x : EnvM) (p3 p4 p5 : Nat) (e e2 : Ee) (r : Rv) (h3 : EBx w0 p3 e) (h4 : EBx w0 p4 e2) (h5 : XBx w0 p5 x) (hev : EvOn w0 x (.mk 7 ⟨#[111, 114]⟩ ⟨#[]⟩ 0 0 [e, e2]) r) (hx2 : a0.tmps.getD 2 undef = .pointer (some ⟨p3, 0, none⟩)) (hx7 : a0.tmps.getD 7 undef = .pointer (some ⟨p4, 0, none⟩)) (hx3 : a0.tmps.getD 3 undef = .pointer (some ⟨p5, 0, none⟩)) (hs : a0.tmps.size = 197)
    (hend : ∀ (V : Nat → Value) (p : Nat) (X : World), Below w0.heap.size w0 X → V 9 = .pointer (some ⟨p, 0, none⟩) → w0.heap.size ≤ p → p < X.heap.size → BoxF p r.1 X → V 11 = .int .i64 r.2 → Q .normal ⟨fillT nu20Ops a0.tmps V, a0.defers⟩ X) : (Code.region 20 nu20Ops true).wp Tryz.prog Q a0 w0 := by
  refine wp_region_boxM (by kernel_rfl) (nu20F x p3 p4 p5 e e2 r) 9 10 20 NewAt (fun p w => BoxF p r.1 w) nu20Fl (nu20F_mono x p3 p4 p5 e e2 r) (nu20F_flat x p3 p4 p5 e e2 r) (by kernel_rfl) (by kernel_rfl) (of_decide_eq_true (by kernel_rfl)) (of_decide_eq_true (by kernel_rfl)) (by decide) ?_ new_keep boxF_keep (by rw [hs]; kernel_rfl) ?_ ?_ ?_ ?_ ?_
  · have size_is : nu20Ops.size = 12 := by kernel_rfl
    rw [size_is]
    intro i hi h1 h2
    have hq : ((List.range 12).all fun i => decide (i ∈ depsO nu20Ops 10) || decide (i = 10) || nu20Fl i) = true := by kernel_rfl
    have := List.all_eq_true.1 hq i (List.mem_range.2 hi)
    simp only [Bool.or_eq_true, decide_eq_true_eq] at this
    rcases this with (h | h) | h
    · exact absurd h h1
    · exact absurd h h2
    · exact h
  · rw [hs]
    have size_is : nu20Ops.size = 12 := by kernel_rfl
    rw [size_is]
    intro i hi hne1 hne2 hdp
    have hall : ∀ j, j < 12 → j = i → OpStep Tryz.prog nu20Ops Q (nu20F x p3 p4 p5 e e2 r) w0 197 (fun t => a0.tmps.getD t undef) j := by
      intro j hj hji
      match j, hj with
      | 0, _ => exact nu20_s0 x p3 p4 p5 e e2 r h3 h4 h5 hev hx2 hx7 hx3
      | 1, _ => exact nu20_s1 x p3 p4 p5 e e2 r h3 h4 h5 hev hx2 hx7 hx3
      | 2, _ => exact nu20_s2 x p3 p4 p5 e e2 r h3 h4 h5 hev hx2 hx7 hx3
      | 3, _ => exact nu20_s3 x p3 p4 p5 e e2 r h3 h4 h5 hev hx2 hx7 hx3
      | 4, _ => exact nu20_s4 x p3 p4 p5 e e2 r h3 h4 h5 hev hx2 hx7 hx3
      | 5, _ => exact nu20_s5 x p3 p4 p5 e e2 r h3 h4 h5 hev hx2 hx7 hx3
      | 6, _ => exact nu20_s6 x p3 p4 p5 e e2 r h3 h4 h5 hev hx2 hx7 hx3
      | 7, _ => exact nu20_s7 x p3 p4 p5 e e2 r h3 h4 h5 hev hx2 hx7 hx3
      | 8, _ => exact absurd hdp (by rw [← hji]; decide)
      | 9, _ => exact absurd hji.symm hne1
      | 10, _ => exact absurd hji.symm hne2
      | 11, _ => exact absurd hdp (by rw [← hji]; decide)
      | q + 12, hj => exact absurd hj (by omega)
    exact hall i hi rfl
  · rw [hs]
    have size_is : nu20Ops.size = 12 := by kernel_rfl
    rw [size_is]
    intro i hi hne1 hne2 hdp
    have hall : ∀ j, j < 12 → j = i → OpStep Tryz.prog nu20Ops Q (fun j v w => nu20Fl j = true → (nu20F x p3 p4 p5 e e2 r) j v w) w0 197 (fun t => a0.tmps.getD t undef) j := by
      intro j hj hji
      match j, hj with
      | 0, _ => exact absurd hdp (by rw [← hji]; exact fun h => h (by decide))
      | 1, _ => exact absurd hdp (by rw [← hji]; exact fun h => h (by decide))
      | 2, _ => exact absurd hdp (by rw [← hji]; exact fun h => h (by decide))
      | 3, _ => exact absurd hdp (by rw [← hji]; exact fun h => h (by decide))
      | 4, _ => exact absurd hdp (by rw [← hji]; exact fun h => h (by decide))
      | 5, _ => exact absurd hdp (by rw [← hji]; exact fun h => h (by decide))
      | 6, _ => exact absurd hdp (by rw [← hji]; exact fun h => h (by decide))
      | 7, _ => exact absurd hdp (by rw [← hji]; exact fun h => h (by decide))
      | 8, _ => exact nu20_s8 x p3 p4 p5 e e2 r h3 h4 h5 hev hx2 hx7 hx3
      | 9, _ => exact absurd hji.symm hne1
      | 10, _ => exact absurd hji.symm hne2
      | 11, _ => exact nu20_s11 x p3 p4 p5 e e2 r h3 h4 h5 hev hx2 hx7 hx3
      | q + 12, hj => exact absurd hj (by omega)
    exact hall i hi rfl
  · intro a w hb
    exact step_allocV (by kernel_rfl) (.free (by kernel_rfl)) (by kernel_rfl) (fun _ _ => trivial)
  · intro act w p hb hp0 hp1 hp hn hF
    have gy : act.eval (.tmp 152) = vT r.1 := hF 7 (of_decide_eq_true (by kernel_rfl)) 152 (by kernel_rfl)
    exact step_storeF (show opO nu20Ops 10 = some (.store 38 (.tmp 20) (.tmp 152)) by kernel_rfl) (.free (by kernel_rfl)) (by kernel_rfl) hp gy hb hp0 hp1 hn
  · intro V p X hb hp hp0 hp1 hB hV
    exact hend V p X hb hp hp0 hp1 hB (hV 11 (of_decide_eq_true (by kernel_rfl)) (by kernel_rfl) (by kernel_rfl))
noncomputable def nu21Ops : Array Oper := regOf Tryz.f5 21
theorem nu21_fill {v0 v1 v2 v3 v4 v5 v6 v7 v8 v9 v10 v11 v12 v13 v14 v15 v16 v17 v18 v19 v20 v21 v22 v23 v24 v25 v26 v27 v28 v29 v30 v31 v32 v33 v34 v35 v36 v37 v38 v39 v40 v41 v42 v43 v44 v45 v46 v47 v48 v49 v50 v51 v52 v53 v54 v55 v56 v57 v58 v59 v60 v61 v62 v63 v64 v65 v66 v67 v68 v69 v70 v71 v72 v73 v74 v75 v76 v77 v78 v79 v80 v81 v82 v83 v84 v85 v86 v87 v88 v89 v90 v91 v92 v93 v94 v95 v96 v97 v98 v99 v100 v101 v102 v103 v104 v105 v106 v107 v108 v109 v110 v111 v112 v113 v114 v115 v116 v117 v118 v119 v120 v121 v122 v123 v124 v125 v126 v127 v128 v129 v130 v131 v132 v133 v134 v135 v136 v137 v138 v139 v140 v141 v142 v143 v144 v145 v146 v147 v148 v149 v150 v151 v152 v153 v154 v155 v156 v157 v158 v159 v160 v161 v162 v163 v164 v165 v166 v167 v168 v169 v170 v171 v172 v173 v174 v175 v176 v177 v178 v179 v180 v181 v182 v183 v184 v185 v186 v187 v188 v189 v190 v191 v192 v193 v194 v195 v196 : Value} (V : Nat → Value) : fillT nu21Ops #[v0, v1, v2, v3, v4, v5, v6, v7, v8, v9, v10, v11, v12, v13, v14, v15, v16, v17, v18, v19, v20, v21, v22, v23, v24, v25, v26, v27, v28, v29, v30, v31, v32, v33, v34, v35, v36, v37, v38, v39, v40, v41, v42, v43, v44, v45, v46, v47, v48, v49, v50, v51, v52, v53, v54, v55, v56, v57, v58, v59, v60, v61, v62, v63, v64, v65, v66, v67, v68, v69, v70, v71, v72, v73, v74, v75, v76, v77, v78, v79, v80, v81, v82, v83, v84, v85, v86, v87, v88, v89, v90, v91, v92, v93, v94, v95, v96, v97, v98, v99, v100, v101, v102, v103, v104, v105, v106, v107, v108, v109, v110, v111, v112, v113, v114, v115, v116, v117, v118, v119, v120, v121, v122, v123, v124, v125, v126, v127, v128, v129, v130, v131, v132, v133, v134, v135, v136, v137, v138, v139, v140, v141, v142, v143, v144, v145, v146, v147, v148, v149, v150, v151, v152, v153, v154, v155, v156, v157, v158, v159, v160, v161, v162, v163, v164, v165, v166, v167, v168, v169, v170, v171, v172, v173, v174, v175, v176, v177, v178, v179, v180, v181, v182, v183, v184, v185, v186, v187, v188, v189, v190, v191, v192, v193, v194, v195, v196] V = #[v0, v1, v2, v3, v4, v5, v6, v7, v8, v9, v10, v11, v12, v13, v14, v15, v16, v17, v18, v19, v20, v21, V 9, V 11, v24, v25, v26, v27, v28, v29, v30, v31, v32, v33, v34, v35, v36, v37, v38, v39, v40, v41, v42, v43, v44, v45, v46, v47, v48, v49, v50, v51, v52, v53, v54, v55, v56, v57, v58, v59, v60, v61, v62, v63, v64, v65, v66, v67, v68, v69, v70, v71, v72, v73, v74, v75, v76, v77, v78, v79, v80, v81, v82, v83, v84, v85, v86, v87, v88, v89, v90, v91, v92, v93, v94, v95, v96, v97, v98, v99, v100, v101, v102, v103, v104, v105, v106, v107, v108, v109, v110, v111, v112, v113, v114, v115, v116, v117, v118, v119, v120, v121, v122, v123, v124, v125, v126, v127, v128, v129, v130, v131, v132, v133, v134, v135, v136, v137, v138, v139, v140, v141, v142, v143, v144, v145, v146, v147, v148, v149, v150, v151, v152, v153, V 6, V 0, V 1, V 2, V 3, V 4, V 5, V 7, V 8, v163, v164, v165, v166, v167, v168, v169, v170, v171, v172, v173, v174, v175, v176, v177, v178, v179, v180, v181, v182, v183, v184, v185, v186, v187, v188, v189, v190, v191, v192, v193, v194, v195, v196] := by
  kernel_rfl
def nu21L (x : EnvM) (p3 p4 p5 : Nat) (e e2 : Ee) (r : Rv) : List (Value → World → Prop) := [IsE e, IsE e2, IsK [e, e2], IsE (.mk 7 ⟨#[97, 110, 100]⟩ ⟨#[]⟩ 0 0 [e, e2]), IsX x, IsV (.tuple #[vT r.1, .int .i64 r.2]), IsV (.tuple #[vT r.1, .int .i64 r.2]), IsV (vT r.1), IsV (.int .i64 r.2), AnyF, AnyF, IsV (.int .i64 r.2)]
def nu21F (x : EnvM) (p3 p4 p5 : Nat) (e e2 : Ee) (r : Rv) (i : Nat) : Value → World → Prop := (nu21L x p3 p4 p5 e e2 r).getD i AnyF
theorem nu21F_mono (x : EnvM) (p3 p4 p5 : Nat) (e e2 : Ee) (r : Rv) (i : Nat) (v : Value) (w w' : World) (hp : (nu21F x p3 p4 p5 e e2 r) i v w) (hb : Below w.heap.size w w') : (nu21F x p3 p4 p5 e e2 r) i v w' := by
  refine monoL ?_ i v w w' hp hb
  unfold nu21L
  simp only [List.forall_mem_cons]
  exact ⟨mono_isE _, mono_isE _, mono_isK _, mono_isE _, mono_isX _, mono_isV _, mono_isV _, mono_isV _, mono_isV _, mono_any, mono_any, mono_isV _, fun _ h => by cases h⟩
def nu21Fl (i : Nat) : Bool := ([false, false, false, false, false, true, true, true, true, true, true, true] : List Bool).getD i false
theorem nu21F_flat (x : EnvM) (p3 p4 p5 : Nat) (e e2 : Ee) (r : Rv) (i : Nat) (hi : nu21Fl i = true) (v : Value) (w w' : World) (hp : (nu21F x p3 p4 p5 e e2 r) i v w) : (nu21F x p3 p4 p5 e e2 r) i v w' := by
  unfold nu21Fl at hi
  unfold nu21F nu21L at hp ⊢
  match i, hi with
  | 0, h => exact absurd h (by decide)
  | 1, h => exact absurd h (by decide)
  | 2, h => exact absurd h (by decide)
  | 3, h => exact absurd h (by decide)
  | 4, h => exact absurd h (by decide)
  | 5, _ => exact hp
  | 6, _ => exact hp
  | 7, _ => exact hp
  | 8, _ => exact hp
  | 9, _ => exact hp
  | 10, _ => exact hp
  | 11, _ => exact hp
  | i + 12, h => simp at h
theorem nu21_s0 {Q : Exit → Act → World → Prop} {w0 : World} {xs : Nat → Value} (x : EnvM) (p3 p4 p5 : Nat) (e e2 : Ee) (r : Rv) (h3 : EBx w0 p3 e) (h4 : EBx w0 p4 e2) (h5 : XBx w0 p5 x) (hev : EvOn w0 x (.mk 7 ⟨#[97, 110, 100]⟩ ⟨#[]⟩ 0 0 [e, e2]) r) (hx2 : xs 2 = .pointer (some ⟨p3, 0, none⟩)) (hx7 : xs 7 = .pointer (some ⟨p4, 0, none⟩)) (hx3 : xs 3 = .pointer (some ⟨p5, 0, none⟩)) : OpStep Tryz.prog nu21Ops Q (nu21F x p3 p4 p5 e e2 r) w0 197 xs 0 := by
  intro act w hb hk hF
  have g2 : act.eval (.tmp 2) = .pointer (some ⟨p3, 0, none⟩) := (hk 2 (by decide) (by kernel_rfl)).trans hx2
  exact step_loadEB (show opO nu21Ops 0 = some (.load 25 (.tmp 2)) by kernel_rfl) (.free (by kernel_rfl)) g2 (h3.on hb) (fun v h => ⟨h, Below.refl _ _⟩)
theorem nu21_s1 {Q : Exit → Act → World → Prop} {w0 : World} {xs : Nat → Value} (x : EnvM) (p3 p4 p5 : Nat) (e e2 : Ee) (r : Rv) (h3 : EBx w0 p3 e) (h4 : EBx w0 p4 e2) (h5 : XBx w0 p5 x) (hev : EvOn w0 x (.mk 7 ⟨#[97, 110, 100]⟩ ⟨#[]⟩ 0 0 [e, e2]) r) (hx2 : xs 2 = .pointer (some ⟨p3, 0, none⟩)) (hx7 : xs 7 = .pointer (some ⟨p4, 0, none⟩)) (hx3 : xs 3 = .pointer (some ⟨p5, 0, none⟩)) : OpStep Tryz.prog nu21Ops Q (nu21F x p3 p4 p5 e e2 r) w0 197 xs 1 := by
  intro act w hb hk hF
  have g7 : act.eval (.tmp 7) = .pointer (some ⟨p4, 0, none⟩) := (hk 7 (by decide) (by kernel_rfl)).trans hx7
  exact step_loadEB (show opO nu21Ops 1 = some (.load 25 (.tmp 7)) by kernel_rfl) (.free (by kernel_rfl)) g7 (h4.on hb) (fun v h => ⟨h, Below.refl _ _⟩)
theorem nu21_s2 {Q : Exit → Act → World → Prop} {w0 : World} {xs : Nat → Value} (x : EnvM) (p3 p4 p5 : Nat) (e e2 : Ee) (r : Rv) (h3 : EBx w0 p3 e) (h4 : EBx w0 p4 e2) (h5 : XBx w0 p5 x) (hev : EvOn w0 x (.mk 7 ⟨#[97, 110, 100]⟩ ⟨#[]⟩ 0 0 [e, e2]) r) (hx2 : xs 2 = .pointer (some ⟨p3, 0, none⟩)) (hx7 : xs 7 = .pointer (some ⟨p4, 0, none⟩)) (hx3 : xs 3 = .pointer (some ⟨p5, 0, none⟩)) : OpStep Tryz.prog nu21Ops Q (nu21F x p3 p4 p5 e e2 r) w0 197 xs 2 := by
  intro act w hb hk hF
  have g155 : IsE e (act.eval (.tmp 155)) w := hF 0 (of_decide_eq_true (by kernel_rfl)) 155 (by kernel_rfl)
  have g156 : IsE e2 (act.eval (.tmp 156)) w := hF 1 (of_decide_eq_true (by kernel_rfl)) 156 (by kernel_rfl)
  exact step_k2 (show opO nu21Ops 2 = some (.buildSlice 23 2 #[(0, .tmp 155), (1, .tmp 156)]) by kernel_rfl) (.free (by kernel_rfl)) g155 g156 (fun v w' h1 h2 => ⟨h1, h2⟩)
theorem nu21_s3 {Q : Exit → Act → World → Prop} {w0 : World} {xs : Nat → Value} (x : EnvM) (p3 p4 p5 : Nat) (e e2 : Ee) (r : Rv) (h3 : EBx w0 p3 e) (h4 : EBx w0 p4 e2) (h5 : XBx w0 p5 x) (hev : EvOn w0 x (.mk 7 ⟨#[97, 110, 100]⟩ ⟨#[]⟩ 0 0 [e, e2]) r) (hx2 : xs 2 = .pointer (some ⟨p3, 0, none⟩)) (hx7 : xs 7 = .pointer (some ⟨p4, 0, none⟩)) (hx3 : xs 3 = .pointer (some ⟨p5, 0, none⟩)) : OpStep Tryz.prog nu21Ops Q (nu21F x p3 p4 p5 e e2 r) w0 197 xs 3 := by
  intro act w hb hk hF
  have g157 : IsK [e, e2] (act.eval (.tmp 157)) w := hF 2 (of_decide_eq_true (by kernel_rfl)) 157 (by kernel_rfl)
  exact step_call (f := 11) (xs := #[.const (.string ⟨#[97, 110, 100]⟩), .tmp 157]) (by kernel_rfl) (.free (by kernel_rfl)) (map2 rfl rfl) (enters_of Tryz.func11 (by kernel_rfl) rfl) ((opE_is ⟨#[97, 110, 100]⟩ _ _ w g157).mono fun e w' ⟨v, h1, h2, h3⟩ => ⟨v, h1, h2, h3⟩)
theorem nu21_s4 {Q : Exit → Act → World → Prop} {w0 : World} {xs : Nat → Value} (x : EnvM) (p3 p4 p5 : Nat) (e e2 : Ee) (r : Rv) (h3 : EBx w0 p3 e) (h4 : EBx w0 p4 e2) (h5 : XBx w0 p5 x) (hev : EvOn w0 x (.mk 7 ⟨#[97, 110, 100]⟩ ⟨#[]⟩ 0 0 [e, e2]) r) (hx2 : xs 2 = .pointer (some ⟨p3, 0, none⟩)) (hx7 : xs 7 = .pointer (some ⟨p4, 0, none⟩)) (hx3 : xs 3 = .pointer (some ⟨p5, 0, none⟩)) : OpStep Tryz.prog nu21Ops Q (nu21F x p3 p4 p5 e e2 r) w0 197 xs 4 := by
  intro act w hb hk hF
  have g3 : act.eval (.tmp 3) = .pointer (some ⟨p5, 0, none⟩) := (hk 3 (by decide) (by kernel_rfl)).trans hx3
  exact step_loadXB (show opO nu21Ops 4 = some (.load 29 (.tmp 3)) by kernel_rfl) (.free (by kernel_rfl)) g3 (h5.on hb) (fun v h => ⟨h, Below.refl _ _⟩)
theorem nu21_s5 {Q : Exit → Act → World → Prop} {w0 : World} {xs : Nat → Value} (x : EnvM) (p3 p4 p5 : Nat) (e e2 : Ee) (r : Rv) (h3 : EBx w0 p3 e) (h4 : EBx w0 p4 e2) (h5 : XBx w0 p5 x) (hev : EvOn w0 x (.mk 7 ⟨#[97, 110, 100]⟩ ⟨#[]⟩ 0 0 [e, e2]) r) (hx2 : xs 2 = .pointer (some ⟨p3, 0, none⟩)) (hx7 : xs 7 = .pointer (some ⟨p4, 0, none⟩)) (hx3 : xs 3 = .pointer (some ⟨p5, 0, none⟩)) : OpStep Tryz.prog nu21Ops Q (nu21F x p3 p4 p5 e e2 r) w0 197 xs 5 := by
  intro act w hb hk hF
  have g158 : IsE (.mk 7 ⟨#[97, 110, 100]⟩ ⟨#[]⟩ 0 0 [e, e2]) (act.eval (.tmp 158)) w := hF 3 (of_decide_eq_true (by kernel_rfl)) 158 (by kernel_rfl)
  have g159 : IsX x (act.eval (.tmp 159)) w := hF 4 (of_decide_eq_true (by kernel_rfl)) 159 (by kernel_rfl)
  exact step_call (f := 10) (xs := #[.tmp 158, .tmp 159]) (by kernel_rfl) (.free (by kernel_rfl)) (map2 rfl rfl) (enters_of Tryz.func10 (by kernel_rfl) rfl) ((hev w _ _ hb g158 g159).mono fun e w' h => ⟨_, h.1, rfl, h.2⟩)
theorem nu21_s6 {Q : Exit → Act → World → Prop} {w0 : World} {xs : Nat → Value} (x : EnvM) (p3 p4 p5 : Nat) (e e2 : Ee) (r : Rv) (h3 : EBx w0 p3 e) (h4 : EBx w0 p4 e2) (h5 : XBx w0 p5 x) (hev : EvOn w0 x (.mk 7 ⟨#[97, 110, 100]⟩ ⟨#[]⟩ 0 0 [e, e2]) r) (hx2 : xs 2 = .pointer (some ⟨p3, 0, none⟩)) (hx7 : xs 7 = .pointer (some ⟨p4, 0, none⟩)) (hx3 : xs 3 = .pointer (some ⟨p5, 0, none⟩)) : OpStep Tryz.prog nu21Ops Q (nu21F x p3 p4 p5 e e2 r) w0 197 xs 6 := by
  intro act w hb hk hF
  have g160 : act.eval (.tmp 160) = .tuple #[vT r.1, .int .i64 r.2] := hF 5 (of_decide_eq_true (by kernel_rfl)) 160 (by kernel_rfl)
  exact step_move (show opO nu21Ops 6 = some (.move (.tmp 160)) by kernel_rfl) (.free (by kernel_rfl)) g160 ⟨rfl, Below.refl _ _⟩
theorem nu21_s7 {Q : Exit → Act → World → Prop} {w0 : World} {xs : Nat → Value} (x : EnvM) (p3 p4 p5 : Nat) (e e2 : Ee) (r : Rv) (h3 : EBx w0 p3 e) (h4 : EBx w0 p4 e2) (h5 : XBx w0 p5 x) (hev : EvOn w0 x (.mk 7 ⟨#[97, 110, 100]⟩ ⟨#[]⟩ 0 0 [e, e2]) r) (hx2 : xs 2 = .pointer (some ⟨p3, 0, none⟩)) (hx7 : xs 7 = .pointer (some ⟨p4, 0, none⟩)) (hx3 : xs 3 = .pointer (some ⟨p5, 0, none⟩)) : OpStep Tryz.prog nu21Ops Q (nu21F x p3 p4 p5 e e2 r) w0 197 xs 7 := by
  intro act w hb hk hF
  have g154 : act.eval (.tmp 154) = .tuple #[vT r.1, .int .i64 r.2] := hF 6 (of_decide_eq_true (by kernel_rfl)) 154 (by kernel_rfl)
  exact step_extract (show opO nu21Ops 7 = some (.extract (.tmp 154) 0) by kernel_rfl) (.free (by kernel_rfl)) g154 rfl ⟨rfl, Below.refl _ _⟩
theorem nu21_s8 {Q : Exit → Act → World → Prop} {w0 : World} {xs : Nat → Value} (x : EnvM) (p3 p4 p5 : Nat) (e e2 : Ee) (r : Rv) (h3 : EBx w0 p3 e) (h4 : EBx w0 p4 e2) (h5 : XBx w0 p5 x) (hev : EvOn w0 x (.mk 7 ⟨#[97, 110, 100]⟩ ⟨#[]⟩ 0 0 [e, e2]) r) (hx2 : xs 2 = .pointer (some ⟨p3, 0, none⟩)) (hx7 : xs 7 = .pointer (some ⟨p4, 0, none⟩)) (hx3 : xs 3 = .pointer (some ⟨p5, 0, none⟩)) : OpStep Tryz.prog nu21Ops Q (fun j v w => nu21Fl j = true → (nu21F x p3 p4 p5 e e2 r) j v w) w0 197 xs 8 := by
  intro act w hb hk hF
  have g154 : act.eval (.tmp 154) = .tuple #[vT r.1, .int .i64 r.2] := (show nu21Fl 6 = true → _ from hF 6 (of_decide_eq_true (by kernel_rfl)) 154 (by kernel_rfl)) (by kernel_rfl)
  exact step_extract (show opO nu21Ops 8 = some (.extract (.tmp 154) 1) by kernel_rfl) (.free (by kernel_rfl)) g154 rfl ⟨fun _ => rfl, Below.refl _ _⟩
theorem nu21_s11 {Q : Exit → Act → World → Prop} {w0 : World} {xs : Nat → Value} (x : EnvM) (p3 p4 p5 : Nat) (e e2 : Ee) (r : Rv) (h3 : EBx w0 p3 e) (h4 : EBx w0 p4 e2) (h5 : XBx w0 p5 x) (hev : EvOn w0 x (.mk 7 ⟨#[97, 110, 100]⟩ ⟨#[]⟩ 0 0 [e, e2]) r) (hx2 : xs 2 = .pointer (some ⟨p3, 0, none⟩)) (hx7 : xs 7 = .pointer (some ⟨p4, 0, none⟩)) (hx3 : xs 3 = .pointer (some ⟨p5, 0, none⟩)) : OpStep Tryz.prog nu21Ops Q (fun j v w => nu21Fl j = true → (nu21F x p3 p4 p5 e e2 r) j v w) w0 197 xs 11 := by
  intro act w hb hk hF
  have g162 : act.eval (.tmp 162) = .int .i64 r.2 := (show nu21Fl 8 = true → _ from hF 8 (of_decide_eq_true (by kernel_rfl)) 162 (by kernel_rfl)) (by kernel_rfl)
  exact step_assign (show opO nu21Ops 11 = some (.assign (.tmp 162)) by kernel_rfl) (.free (by kernel_rfl)) g162 ⟨fun _ => rfl, Below.refl _ _⟩
theorem nu21 {Q : Exit → Act → World → Prop} {a0 : Act} {w0 : World} (x : EnvM) (p3 p4 p5 : Nat) (e e2 : Ee) (r : Rv) (h3 : EBx w0 p3 e) (h4 : EBx w0 p4 e2) (h5 : XBx w0 p5 x) (hev : EvOn w0 x (.mk 7 ⟨#[97, 110, 100]⟩ ⟨#[]⟩ 0 0 [e, e2]) r) (hx2 : a0.tmps.getD 2 undef = .pointer (some ⟨p3, 0, none⟩)) (hx7 : a0.tmps.getD 7 undef = .pointer (some ⟨p4, 0, none⟩)) (hx3 : a0.tmps.getD 3 undef = .pointer (some ⟨p5, 0, none⟩)) (hs : a0.tmps.size = 197)
    (hend : ∀ (V : Nat → Value) (p : Nat) (X : World), Below w0.heap.size w0 X → V 9 = .pointer (some ⟨p, 0, none⟩) → w0.heap.size ≤ p → p < X.heap.size → BoxF p r.1 X → V 11 = .int .i64 r.2 → Q .normal ⟨fillT nu21Ops a0.tmps V, a0.defers⟩ X) : (Code.region 21 nu21Ops true).wp Tryz.prog Q a0 w0 := by
  refine wp_region_boxM (by kernel_rfl) (nu21F x p3 p4 p5 e e2 r) 9 10 22 NewAt (fun p w => BoxF p r.1 w) nu21Fl (nu21F_mono x p3 p4 p5 e e2 r) (nu21F_flat x p3 p4 p5 e e2 r) (by kernel_rfl) (by kernel_rfl) (of_decide_eq_true (by kernel_rfl)) (of_decide_eq_true (by kernel_rfl)) (by decide) ?_ new_keep boxF_keep (by rw [hs]; kernel_rfl) ?_ ?_ ?_ ?_ ?_
  · have size_is : nu21Ops.size = 12 := by kernel_rfl
    rw [size_is]
    intro i hi h1 h2
    have hq : ((List.range 12).all fun i => decide (i ∈ depsO nu21Ops 10) || decide (i = 10) || nu21Fl i) = true := by kernel_rfl
    have := List.all_eq_true.1 hq i (List.mem_range.2 hi)
    simp only [Bool.or_eq_true, decide_eq_true_eq] at this
    rcases this with (h | h) | h
    · exact absurd h h1
    · exact absurd h h2
    · exact h
  · rw [hs]
    have size_is : nu21Ops.size = 12 := by kernel_rfl
    rw [size_is]
    intro i hi hne1 hne2 hdp
    have hall : ∀ j, j < 12 → j = i → OpStep Tryz.prog nu21Ops Q (nu21F x p3 p4 p5 e e2 r) w0 197 (fun t => a0.tmps.getD t undef) j := by
      intro j hj hji
      match j, hj with
      | 0, _ => exact nu21_s0 x p3 p4 p5 e e2 r h3 h4 h5 hev hx2 hx7 hx3
      | 1, _ => exact nu21_s1 x p3 p4 p5 e e2 r h3 h4 h5 hev hx2 hx7 hx3
      | 2, _ => exact nu21_s2 x p3 p4 p5 e e2 r h3 h4 h5 hev hx2 hx7 hx3
      | 3, _ => exact nu21_s3 x p3 p4 p5 e e2 r h3 h4 h5 hev hx2 hx7 hx3
      | 4, _ => exact nu21_s4 x p3 p4 p5 e e2 r h3 h4 h5 hev hx2 hx7 hx3
      | 5, _ => exact nu21_s5 x p3 p4 p5 e e2 r h3 h4 h5 hev hx2 hx7 hx3
      | 6, _ => exact nu21_s6 x p3 p4 p5 e e2 r h3 h4 h5 hev hx2 hx7 hx3
      | 7, _ => exact nu21_s7 x p3 p4 p5 e e2 r h3 h4 h5 hev hx2 hx7 hx3
      | 8, _ => exact absurd hdp (by rw [← hji]; decide)
      | 9, _ => exact absurd hji.symm hne1
      | 10, _ => exact absurd hji.symm hne2
      | 11, _ => exact absurd hdp (by rw [← hji]; decide)
      | q + 12, hj => exact absurd hj (by omega)
    exact hall i hi rfl
  · rw [hs]
    have size_is : nu21Ops.size = 12 := by kernel_rfl
    rw [size_is]
    intro i hi hne1 hne2 hdp
    have hall : ∀ j, j < 12 → j = i → OpStep Tryz.prog nu21Ops Q (fun j v w => nu21Fl j = true → (nu21F x p3 p4 p5 e e2 r) j v w) w0 197 (fun t => a0.tmps.getD t undef) j := by
      intro j hj hji
      match j, hj with
      | 0, _ => exact absurd hdp (by rw [← hji]; exact fun h => h (by decide))
      | 1, _ => exact absurd hdp (by rw [← hji]; exact fun h => h (by decide))
      | 2, _ => exact absurd hdp (by rw [← hji]; exact fun h => h (by decide))
      | 3, _ => exact absurd hdp (by rw [← hji]; exact fun h => h (by decide))
      | 4, _ => exact absurd hdp (by rw [← hji]; exact fun h => h (by decide))
      | 5, _ => exact absurd hdp (by rw [← hji]; exact fun h => h (by decide))
      | 6, _ => exact absurd hdp (by rw [← hji]; exact fun h => h (by decide))
      | 7, _ => exact absurd hdp (by rw [← hji]; exact fun h => h (by decide))
      | 8, _ => exact nu21_s8 x p3 p4 p5 e e2 r h3 h4 h5 hev hx2 hx7 hx3
      | 9, _ => exact absurd hji.symm hne1
      | 10, _ => exact absurd hji.symm hne2
      | 11, _ => exact nu21_s11 x p3 p4 p5 e e2 r h3 h4 h5 hev hx2 hx7 hx3
      | q + 12, hj => exact absurd hj (by omega)
    exact hall i hi rfl
  · intro a w hb
    exact step_allocV (by kernel_rfl) (.free (by kernel_rfl)) (by kernel_rfl) (fun _ _ => trivial)
  · intro act w p hb hp0 hp1 hp hn hF
    have gy : act.eval (.tmp 161) = vT r.1 := hF 7 (of_decide_eq_true (by kernel_rfl)) 161 (by kernel_rfl)
    exact step_storeF (show opO nu21Ops 10 = some (.store 38 (.tmp 22) (.tmp 161)) by kernel_rfl) (.free (by kernel_rfl)) (by kernel_rfl) hp gy hb hp0 hp1 hn
  · intro V p X hb hp hp0 hp1 hB hV
    exact hend V p X hb hp hp0 hp1 hB (hV 11 (of_decide_eq_true (by kernel_rfl)) (by kernel_rfl) (by kernel_rfl))
end Go.Proofs.YteijijoiifbjlaaGreatDoor

namespace Go.Proofs.YteijijoiifbjlaaGreatDoor
open Go.ChangeShapes Go.WideShapes Go.ChangeAt Go.RowKit
set_option linter.unusedVariables false
set_option linter.unusedSimpArgs false
set_option maxRecDepth 100000

/-- the twelve signs that tell NULL of NULL -/
def nulL : List ByteArray := [sAdd, sSub, sMul, sQuo, sRem, sCat, sEq, sNe, sLt, sLe, sGt, sLike]
theorem nulL_sgn {g : ByteArray} (h : g ∈ nulL) : g ∈ sgn := by
  simp only [nulL, List.mem_cons, List.not_mem_nil, or_false] at h
  rcases h with rfl | rfl | rfl | rfl | rfl | rfl | rfl | rfl | rfl | rfl | rfl | rfl <;> simp [sgn]
theorem nul_r {g : ByteArray} (h : g ∈ nulL) {a : Trip} (ha : RtT a) : opX g a nulT = (nulT, 0) := opX_null (nulL_sgn h) ha RtT_nul (.inr rfl)
theorem nul_l {g : ByteArray} (h : g ∈ nulL) {a : Trip} (ha : RtT a) : opX g nulT a = (nulT, 0) := opX_null (nulL_sgn h) RtT_nul ha (.inl rfl)
theorem ev_is (x : EnvM) (n : Int) (hn : n = 0 ∨ n = 1) {e : Ee} {t : Trip} (h : evX x e = (t, 0)) : evX x (.mk 8 ⟨#[]⟩ ⟨#[]⟩ n 0 [e]) = (flagT (decide (t.1 = 0) == decide (n = 1)), 0) := by
  simp only [evX]
  rw [if_pos (by rcases hn with rfl | rfl <;> simp [mayB])]
  simp [evL, h, toldX]
theorem true_nul {t : Trip} (h0 : t.1 = 0) : trueT t = false := by
  obtain ⟨k, n, s⟩ := t
  simp only at h0
  subst h0
  simp [trueT, trueV]
/-- 'or' and 'and' with NULL: by whether it is true -/
theorem or_nulX {a : Trip} (ha : RtT a) : opX sOr a nulT = (if trueT a = true then (intT 1, 0) else (nulT, 0)) := by
  rw [opX_or ha RtT_nul]
  unfold orT orK orN
  have h : trueT nulT = false := true_nul rfl
  rw [h]
  cases trueT a <;> simp
theorem and_nulX {a : Trip} (ha : RtT a) (h : trueT a = true) : opX sAnd a nulT = (nulT, 0) := by
  rw [opX_and ha RtT_nul]
  unfold andT andK andN
  have h2 : trueT nulT = false := true_nul rfl
  rw [h2, h]
  simp
end Go.Proofs.YteijijoiifbjlaaGreatDoor

namespace Go.Proofs.YteijijoiifbjlaaGreatDoor
open Go.ChangeShapes Go.WideShapes Go.ChangeAt Go.RowKit
set_option linter.unusedVariables false
set_option linter.unusedSimpArgs false
set_option maxRecDepth 100000
noncomputable def tr1Ops : Array Oper := regOf Tryz.f13 1
theorem tr1_fill {v0 v1 v2 v3 v4 v5 v6 v7 v8 v9 v10 v11 v12 v13 v14 v15 v16 v17 v18 v19 v20 v21 v22 v23 v24 v25 v26 : Value} (V : Nat → Value) : fillT tr1Ops #[v0, v1, v2, v3, v4, v5, v6, v7, v8, v9, v10, v11, v12, v13, v14, v15, v16, v17, v18, v19, v20, v21, v22, v23, v24, v25, v26] V = #[v0, v1, v2, v3, v4, v5, V 7, V 9, v8, v9, V 4, V 0, V 1, V 2, V 3, V 5, V 6, v17, v18, v19, v20, v21, v22, v23, v24, v25, v26] := by
  kernel_rfl
def tr1L (p2 p3 : Nat) (x : EnvM) (e : Ee) (r : Rv) (k n a : Int) (s t : ByteArray) (A : Option Addr) (len cap : Nat) (v0 v1 v2 v3 : Value) : List (Value → World → Prop) := [IsX x, IsC x, IsE e, IsV (.tuple #[vT r.1, .int .i64 r.2]), IsV (.tuple #[vT r.1, .int .i64 r.2]), IsV (vT r.1), IsV (.int .i64 r.2), AnyF, AnyF, IsV (.int .i64 r.2)]
def tr1F (p2 p3 : Nat) (x : EnvM) (e : Ee) (r : Rv) (k n a : Int) (s t : ByteArray) (A : Option Addr) (len cap : Nat) (v0 v1 v2 v3 : Value) (i : Nat) : Value → World → Prop := (tr1L p2 p3 x e r k n a s t A len cap v0 v1 v2 v3).getD i AnyF
theorem tr1F_mono (p2 p3 : Nat) (x : EnvM) (e : Ee) (r : Rv) (k n a : Int) (s t : ByteArray) (A : Option Addr) (len cap : Nat) (v0 v1 v2 v3 : Value) (i : Nat) (v : Value) (w w' : World) (hp : (tr1F p2 p3 x e r k n a s t A len cap v0 v1 v2 v3) i v w) (hb : Below w.heap.size w w') : (tr1F p2 p3 x e r k n a s t A len cap v0 v1 v2 v3) i v w' := by
  refine monoL ?_ i v w w' hp hb
  unfold tr1L
  simp only [List.forall_mem_cons]
  exact ⟨mono_isX _, mono_isC _, mono_isE _, mono_isV _, mono_isV _, mono_isV _, mono_isV _, mono_any, mono_any, mono_isV _, fun _ h => by cases h⟩
def tr1Fl (i : Nat) : Bool := ([false, false, false, true, true, true, true, true, true, true] : List Bool).getD i false
theorem tr1F_flat (p2 p3 : Nat) (x : EnvM) (e : Ee) (r : Rv) (k n a : Int) (s t : ByteArray) (A : Option Addr) (len cap : Nat) (v0 v1 v2 v3 : Value) (i : Nat) (hi : tr1Fl i = true) (v : Value) (w w' : World) (hp : (tr1F p2 p3 x e r k n a s t A len cap v0 v1 v2 v3) i v w) : (tr1F p2 p3 x e r k n a s t A len cap v0 v1 v2 v3) i v w' := by
  unfold tr1Fl at hi
  unfold tr1F tr1L at hp ⊢
  match i, hi with
  | 0, h => exact absurd h (by decide)
  | 1, h => exact absurd h (by decide)
  | 2, h => exact absurd h (by decide)
  | 3, _ => exact hp
  | 4, _ => exact hp
  | 5, _ => exact hp
  | 6, _ => exact hp
  | 7, _ => exact hp
  | 8, _ => exact hp
  | 9, _ => exact hp
  | i + 10, h => simp at h
theorem tr1_s0 {Q : Exit → Act → World → Prop} {w0 : World} {xs : Nat → Value} (p2 p3 : Nat) (x : EnvM) (e : Ee) (r : Rv) (k n a : Int) (s t : ByteArray) (A : Option Addr) (len cap : Nat) (v0 v1 v2 v3 : Value) (c2 : ECell w0 p2 0 k s t n a A len cap) (e2 : ExV w0 e (exprV k s t n a A len cap)) (c3 : X4 w0 p3 v0 v1 v2 v3) (e3 : EnvV w0 x (.agg #[v0, v1, v2, v3])) (hr : evX x e = r) (hev : EvIs x e) (hW : Wd w0) (hx2 : xs 2 = .pointer (some ⟨p2, 0, none⟩)) (hx3 : xs 3 = .pointer (some ⟨p3, 0, none⟩)) : OpStep Tryz.prog tr1Ops Q (tr1F p2 p3 x e r k n a s t A len cap v0 v1 v2 v3) w0 27 xs 0 := by
  intro act w hb hk hF
  have g3 : act.eval (.tmp 3) = .pointer (some ⟨p3, 0, none⟩) := (hk 3 (by decide) (by kernel_rfl)).trans hx3
  exact step_loadX (show opO tr1Ops 0 = some (.load 29 (.tmp 3)) by kernel_rfl) (.free (by kernel_rfl)) g3 (c3.on hb) ⟨e3.on hb, Below.refl _ _⟩
theorem tr1_s1 {Q : Exit → Act → World → Prop} {w0 : World} {xs : Nat → Value} (p2 p3 : Nat) (x : EnvM) (e : Ee) (r : Rv) (k n a : Int) (s t : ByteArray) (A : Option Addr) (len cap : Nat) (v0 v1 v2 v3 : Value) (c2 : ECell w0 p2 0 k s t n a A len cap) (e2 : ExV w0 e (exprV k s t n a A len cap)) (c3 : X4 w0 p3 v0 v1 v2 v3) (e3 : EnvV w0 x (.agg #[v0, v1, v2, v3])) (hr : evX x e = r) (hev : EvIs x e) (hW : Wd w0) (hx2 : xs 2 = .pointer (some ⟨p2, 0, none⟩)) (hx3 : xs 3 = .pointer (some ⟨p3, 0, none⟩)) : OpStep Tryz.prog tr1Ops Q (tr1F p2 p3 x e r k n a s t A len cap v0 v1 v2 v3) w0 27 xs 1 := by
  intro act w hb hk hF
  have g11 : IsX x (act.eval (.tmp 11)) w := hF 0 (of_decide_eq_true (by kernel_rfl)) 11 (by kernel_rfl)
  exact step_call (f := 21) (xs := #[.tmp 11]) (by kernel_rfl) (.free (by kernel_rfl)) (map1 rfl) (enters_of Tryz.func21 (by kernel_rfl) rfl) ((evaluator_any x _ w g11).mono fun e w' ⟨v, h1, h2, h3⟩ => ⟨v, h1, h2, h3⟩)
theorem tr1_s2 {Q : Exit → Act → World → Prop} {w0 : World} {xs : Nat → Value} (p2 p3 : Nat) (x : EnvM) (e : Ee) (r : Rv) (k n a : Int) (s t : ByteArray) (A : Option Addr) (len cap : Nat) (v0 v1 v2 v3 : Value) (c2 : ECell w0 p2 0 k s t n a A len cap) (e2 : ExV w0 e (exprV k s t n a A len cap)) (c3 : X4 w0 p3 v0 v1 v2 v3) (e3 : EnvV w0 x (.agg #[v0, v1, v2, v3])) (hr : evX x e = r) (hev : EvIs x e) (hW : Wd w0) (hx2 : xs 2 = .pointer (some ⟨p2, 0, none⟩)) (hx3 : xs 3 = .pointer (some ⟨p3, 0, none⟩)) : OpStep Tryz.prog tr1Ops Q (tr1F p2 p3 x e r k n a s t A len cap v0 v1 v2 v3) w0 27 xs 2 := by
  intro act w hb hk hF
  have g2 : act.eval (.tmp 2) = .pointer (some ⟨p2, 0, none⟩) := (hk 2 (by decide) (by kernel_rfl)).trans hx2
  exact step_loadE (show opO tr1Ops 2 = some (.load 25 (.tmp 2)) by kernel_rfl) (.free (by kernel_rfl)) g2 (c2.on hb) ⟨e2.on hb, Below.refl _ _⟩
theorem tr1_s3 {Q : Exit → Act → World → Prop} {w0 : World} {xs : Nat → Value} (p2 p3 : Nat) (x : EnvM) (e : Ee) (r : Rv) (k n a : Int) (s t : ByteArray) (A : Option Addr) (len cap : Nat) (v0 v1 v2 v3 : Value) (c2 : ECell w0 p2 0 k s t n a A len cap) (e2 : ExV w0 e (exprV k s t n a A len cap)) (c3 : X4 w0 p3 v0 v1 v2 v3) (e3 : EnvV w0 x (.agg #[v0, v1, v2, v3])) (hr : evX x e = r) (hev : EvIs x e) (hW : Wd w0) (hx2 : xs 2 = .pointer (some ⟨p2, 0, none⟩)) (hx3 : xs 3 = .pointer (some ⟨p3, 0, none⟩)) : OpStep Tryz.prog tr1Ops Q (tr1F p2 p3 x e r k n a s t A len cap v0 v1 v2 v3) w0 27 xs 3 := by
  intro act w hb hk hF
  have g12 : IsC x (act.eval (.tmp 12)) w := hF 1 (of_decide_eq_true (by kernel_rfl)) 12 (by kernel_rfl)
  have g13 : IsE e (act.eval (.tmp 13)) w := hF 2 (of_decide_eq_true (by kernel_rfl)) 13 (by kernel_rfl)
  obtain ⟨q1, q2, hcl, hke⟩ := g12
  have _ := g13
  exact step_callC (show opO tr1Ops 3 = some (.call { callee := .value (.tmp 12), args := #[.tmp 13], argTypes := #[25] }) by kernel_rfl) (.free (by kernel_rfl)) hcl rfl enters_ev ((by rw [← hr]; exact hev w q1 q2 _ (hW.on hb) hke g13 : Calls _ _ _ w (RetV (vT r.1) r.2 w)).mono fun e w' h => ⟨_, h.1, rfl, h.2⟩)
theorem tr1_s4 {Q : Exit → Act → World → Prop} {w0 : World} {xs : Nat → Value} (p2 p3 : Nat) (x : EnvM) (e : Ee) (r : Rv) (k n a : Int) (s t : ByteArray) (A : Option Addr) (len cap : Nat) (v0 v1 v2 v3 : Value) (c2 : ECell w0 p2 0 k s t n a A len cap) (e2 : ExV w0 e (exprV k s t n a A len cap)) (c3 : X4 w0 p3 v0 v1 v2 v3) (e3 : EnvV w0 x (.agg #[v0, v1, v2, v3])) (hr : evX x e = r) (hev : EvIs x e) (hW : Wd w0) (hx2 : xs 2 = .pointer (some ⟨p2, 0, none⟩)) (hx3 : xs 3 = .pointer (some ⟨p3, 0, none⟩)) : OpStep Tryz.prog tr1Ops Q (tr1F p2 p3 x e r k n a s t A len cap v0 v1 v2 v3) w0 27 xs 4 := by
  intro act w hb hk hF
  have g14 : act.eval (.tmp 14) = .tuple #[vT r.1, .int .i64 r.2] := hF 3 (of_decide_eq_true (by kernel_rfl)) 14 (by kernel_rfl)
  exact step_move (show opO tr1Ops 4 = some (.move (.tmp 14)) by kernel_rfl) (.free (by kernel_rfl)) g14 ⟨rfl, Below.refl _ _⟩
theorem tr1_s5 {Q : Exit → Act → World → Prop} {w0 : World} {xs : Nat → Value} (p2 p3 : Nat) (x : EnvM) (e : Ee) (r : Rv) (k n a : Int) (s t : ByteArray) (A : Option Addr) (len cap : Nat) (v0 v1 v2 v3 : Value) (c2 : ECell w0 p2 0 k s t n a A len cap) (e2 : ExV w0 e (exprV k s t n a A len cap)) (c3 : X4 w0 p3 v0 v1 v2 v3) (e3 : EnvV w0 x (.agg #[v0, v1, v2, v3])) (hr : evX x e = r) (hev : EvIs x e) (hW : Wd w0) (hx2 : xs 2 = .pointer (some ⟨p2, 0, none⟩)) (hx3 : xs 3 = .pointer (some ⟨p3, 0, none⟩)) : OpStep Tryz.prog tr1Ops Q (tr1F p2 p3 x e r k n a s t A len cap v0 v1 v2 v3) w0 27 xs 5 := by
  intro act w hb hk hF
  have g10 : act.eval (.tmp 10) = .tuple #[vT r.1, .int .i64 r.2] := hF 4 (of_decide_eq_true (by kernel_rfl)) 10 (by kernel_rfl)
  exact step_extract (show opO tr1Ops 5 = some (.extract (.tmp 10) 0) by kernel_rfl) (.free (by kernel_rfl)) g10 rfl ⟨rfl, Below.refl _ _⟩
theorem tr1_s6 {Q : Exit → Act → World → Prop} {w0 : World} {xs : Nat → Value} (p2 p3 : Nat) (x : EnvM) (e : Ee) (r : Rv) (k n a : Int) (s t : ByteArray) (A : Option Addr) (len cap : Nat) (v0 v1 v2 v3 : Value) (c2 : ECell w0 p2 0 k s t n a A len cap) (e2 : ExV w0 e (exprV k s t n a A len cap)) (c3 : X4 w0 p3 v0 v1 v2 v3) (e3 : EnvV w0 x (.agg #[v0, v1, v2, v3])) (hr : evX x e = r) (hev : EvIs x e) (hW : Wd w0) (hx2 : xs 2 = .pointer (some ⟨p2, 0, none⟩)) (hx3 : xs 3 = .pointer (some ⟨p3, 0, none⟩)) : OpStep Tryz.prog tr1Ops Q (fun j v w => tr1Fl j = true → (tr1F p2 p3 x e r k n a s t A len cap v0 v1 v2 v3) j v w) w0 27 xs 6 := by
  intro act w hb hk hF
  have g10 : act.eval (.tmp 10) = .tuple #[vT r.1, .int .i64 r.2] := (show tr1Fl 4 = true → _ from hF 4 (of_decide_eq_true (by kernel_rfl)) 10 (by kernel_rfl)) (by kernel_rfl)
  exact step_extract (show opO tr1Ops 6 = some (.extract (.tmp 10) 1) by kernel_rfl) (.free (by kernel_rfl)) g10 rfl ⟨fun _ => rfl, Below.refl _ _⟩
theorem tr1_s9 {Q : Exit → Act → World → Prop} {w0 : World} {xs : Nat → Value} (p2 p3 : Nat) (x : EnvM) (e : Ee) (r : Rv) (k n a : Int) (s t : ByteArray) (A : Option Addr) (len cap : Nat) (v0 v1 v2 v3 : Value) (c2 : ECell w0 p2 0 k s t n a A len cap) (e2 : ExV w0 e (exprV k s t n a A len cap)) (c3 : X4 w0 p3 v0 v1 v2 v3) (e3 : EnvV w0 x (.agg #[v0, v1, v2, v3])) (hr : evX x e = r) (hev : EvIs x e) (hW : Wd w0) (hx2 : xs 2 = .pointer (some ⟨p2, 0, none⟩)) (hx3 : xs 3 = .pointer (some ⟨p3, 0, none⟩)) : OpStep Tryz.prog tr1Ops Q (fun j v w => tr1Fl j = true → (tr1F p2 p3 x e r k n a s t A len cap v0 v1 v2 v3) j v w) w0 27 xs 9 := by
  intro act w hb hk hF
  have g16 : act.eval (.tmp 16) = .int .i64 r.2 := (show tr1Fl 6 = true → _ from hF 6 (of_decide_eq_true (by kernel_rfl)) 16 (by kernel_rfl)) (by kernel_rfl)
  exact step_assign (show opO tr1Ops 9 = some (.assign (.tmp 16)) by kernel_rfl) (.free (by kernel_rfl)) g16 ⟨fun _ => rfl, Below.refl _ _⟩
theorem tr1 {Q : Exit → Act → World → Prop} {a0 : Act} {w0 : World} (p2 p3 : Nat) (x : EnvM) (e : Ee) (r : Rv) (k n a : Int) (s t : ByteArray) (A : Option Addr) (len cap : Nat) (v0 v1 v2 v3 : Value) (c2 : ECell w0 p2 0 k s t n a A len cap) (e2 : ExV w0 e (exprV k s t n a A len cap)) (c3 : X4 w0 p3 v0 v1 v2 v3) (e3 : EnvV w0 x (.agg #[v0, v1, v2, v3])) (hr : evX x e = r) (hev : EvIs x e) (hW : Wd w0) (hx2 : a0.tmps.getD 2 undef = .pointer (some ⟨p2, 0, none⟩)) (hx3 : a0.tmps.getD 3 undef = .pointer (some ⟨p3, 0, none⟩)) (hs : a0.tmps.size = 27)
    (hend : ∀ (V : Nat → Value) (p : Nat) (X : World), Below w0.heap.size w0 X → V 7 = .pointer (some ⟨p, 0, none⟩) → w0.heap.size ≤ p → p < X.heap.size → BoxF p r.1 X → V 9 = .int .i64 r.2 → Q .normal ⟨fillT tr1Ops a0.tmps V, a0.defers⟩ X) : (Code.region 1 tr1Ops true).wp Tryz.prog Q a0 w0 := by
  refine wp_region_boxM (by kernel_rfl) (tr1F p2 p3 x e r k n a s t A len cap v0 v1 v2 v3) 7 8 6 NewAt (fun p w => BoxF p r.1 w) tr1Fl (tr1F_mono p2 p3 x e r k n a s t A len cap v0 v1 v2 v3) (tr1F_flat p2 p3 x e r k n a s t A len cap v0 v1 v2 v3) (by kernel_rfl) (by kernel_rfl) (of_decide_eq_true (by kernel_rfl)) (of_decide_eq_true (by kernel_rfl)) (by decide) ?_ new_keep boxF_keep (by rw [hs]; kernel_rfl) ?_ ?_ ?_ ?_ ?_
  · have size_is : tr1Ops.size = 10 := by kernel_rfl
    rw [size_is]
    intro i hi h1 h2
    have hq : ((List.range 10).all fun i => decide (i ∈ depsO tr1Ops 8) || decide (i = 8) || tr1Fl i) = true := by kernel_rfl
    have := List.all_eq_true.1 hq i (List.mem_range.2 hi)
    simp only [Bool.or_eq_true, decide_eq_true_eq] at this
    rcases this with (h | h) | h
    · exact absurd h h1
    · exact absurd h h2
    · exact h
  · rw [hs]
    have size_is : tr1Ops.size = 10 := by kernel_rfl
    rw [size_is]
    intro i hi hne1 hne2 hdp
    have hall : ∀ j, j < 10 → j = i → OpStep Tryz.prog tr1Ops Q (tr1F p2 p3 x e r k n a s t A len cap v0 v1 v2 v3) w0 27 (fun t => a0.tmps.getD t undef) j := by
      intro j hj hji
      match j, hj with
      | 0, _ => exact tr1_s0 p2 p3 x e r k n a s t A len cap v0 v1 v2 v3 c2 e2 c3 e3 hr hev hW hx2 hx3
      | 1, _ => exact tr1_s1 p2 p3 x e r k n a s t A len cap v0 v1 v2 v3 c2 e2 c3 e3 hr hev hW hx2 hx3
      | 2, _ => exact tr1_s2 p2 p3 x e r k n a s t A len cap v0 v1 v2 v3 c2 e2 c3 e3 hr hev hW hx2 hx3
      | 3, _ => exact tr1_s3 p2 p3 x e r k n a s t A len cap v0 v1 v2 v3 c2 e2 c3 e3 hr hev hW hx2 hx3
      | 4, _ => exact tr1_s4 p2 p3 x e r k n a s t A len cap v0 v1 v2 v3 c2 e2 c3 e3 hr hev hW hx2 hx3
      | 5, _ => exact tr1_s5 p2 p3 x e r k n a s t A len cap v0 v1 v2 v3 c2 e2 c3 e3 hr hev hW hx2 hx3
      | 6, _ => exact absurd hdp (by rw [← hji]; decide)
      | 7, _ => exact absurd hji.symm hne1
      | 8, _ => exact absurd hji.symm hne2
      | 9, _ => exact absurd hdp (by rw [← hji]; decide)
      | q + 10, hj => exact absurd hj (by omega)
    exact hall i hi rfl
  · rw [hs]
    have size_is : tr1Ops.size = 10 := by kernel_rfl
    rw [size_is]
    intro i hi hne1 hne2 hdp
    have hall : ∀ j, j < 10 → j = i → OpStep Tryz.prog tr1Ops Q (fun j v w => tr1Fl j = true → (tr1F p2 p3 x e r k n a s t A len cap v0 v1 v2 v3) j v w) w0 27 (fun t => a0.tmps.getD t undef) j := by
      intro j hj hji
      match j, hj with
      | 0, _ => exact absurd hdp (by rw [← hji]; exact fun h => h (by decide))
      | 1, _ => exact absurd hdp (by rw [← hji]; exact fun h => h (by decide))
      | 2, _ => exact absurd hdp (by rw [← hji]; exact fun h => h (by decide))
      | 3, _ => exact absurd hdp (by rw [← hji]; exact fun h => h (by decide))
      | 4, _ => exact absurd hdp (by rw [← hji]; exact fun h => h (by decide))
      | 5, _ => exact absurd hdp (by rw [← hji]; exact fun h => h (by decide))
      | 6, _ => exact tr1_s6 p2 p3 x e r k n a s t A len cap v0 v1 v2 v3 c2 e2 c3 e3 hr hev hW hx2 hx3
      | 7, _ => exact absurd hji.symm hne1
      | 8, _ => exact absurd hji.symm hne2
      | 9, _ => exact tr1_s9 p2 p3 x e r k n a s t A len cap v0 v1 v2 v3 c2 e2 c3 e3 hr hev hW hx2 hx3
      | q + 10, hj => exact absurd hj (by omega)
    exact hall i hi rfl
  · intro a w hb
    exact step_allocV (by kernel_rfl) (.free (by kernel_rfl)) (by kernel_rfl) (fun _ _ => trivial)
  · intro act w p hb hp0 hp1 hp hn hF
    have gy : act.eval (.tmp 15) = vT r.1 := hF 5 (of_decide_eq_true (by kernel_rfl)) 15 (by kernel_rfl)
    exact step_storeF (show opO tr1Ops 8 = some (.store 38 (.tmp 6) (.tmp 15)) by kernel_rfl) (.free (by kernel_rfl)) (by kernel_rfl) hp gy hb hp0 hp1 hn
  · intro V p X hb hp hp0 hp1 hB hV
    exact hend V p X hb hp hp0 hp1 hB (hV 9 (of_decide_eq_true (by kernel_rfl)) (by kernel_rfl) (by kernel_rfl))
def RetT (b : Bool) (er : Int) (w : World) (e : Ending) (w' : World) : Prop := e = .returned (.tuple #[.bool b, .int .i64 er]) ∧ Below w.heap.size w w'
theorem Truth_b (t : Trip) (w : World) (hs : t.2.2.size ≤ 65536) : ∃ kb, (trueT t = true → kb = true) ∧ ∀ W, Calls Tryz.prog 23 #[vv t.1 t.2.1 t.2.2] W fun e w' => e = .returned (.tuple #[.bool (trueT t), .bool kb]) ∧ Below W.heap.size W w' :=
  ⟨t.1 != 0, fun h => by simp only [trueT, trueV, Bool.and_eq_true] at h; exact h.1, fun W => Truth_any t.1 t.2.1 t.2.2 W (by omega)⟩
set_option maxHeartbeats 2000000 in
/-- True tells whether the value is known to be true -/
theorem True_any (x : EnvM) (e : Ee) (hxo : EnvOk x) (hxt : EnvT x) (hf : Fit e) (v xv : Value) (w : World) (hW : Wd w) (hv : ExV w e v) (hx : EnvV w x xv) :
    Calls Tryz.prog 13 #[v, xv] w (RetT (trueT (evX x e).1) (evX x e).2 w) := by
  have hev := ev_all x hxo hxt _ e (Nat.le_refl _) hf
  have hok := evX_ok hxt hf
  obtain ⟨k, s, t, n, a, kids⟩ := e
  have hv0 := hv
  simp only [ExV] at hv0
  obtain ⟨A, cap, rfl, hcap, -⟩ := hv0
  have hx0 := hx
  obtain ⟨Ar, cr, Ak, ck, At, ct, Ab, cb, rfl, -⟩ := hx0
  obtain ⟨⟨⟨rk, rn, rs⟩, er⟩, hr⟩ : ∃ r, evX x (.mk k s t n a kids) = r := ⟨_, rfl⟩
  rw [hr] at hok ⊢
  obtain ⟨kb, hkb, hTr⟩ := Truth_b (rk, rn, rs) w hok.2
  generalize htb : trueT (rk, rn, rs) = tb at hkb hTr
  obtain ⟨w1, hw1⟩ : ∃ X, (w.alloc (.cells #[.int .u8 k, .string s, .string t, .int .i64 n, .int .i64 a, .slice A kids.length cap] 25)).alloc (.cells #[.slice Ar x.rows.length cr, .slice Ak x.keys.length ck, .slice At x.totals.length ct, .slice Ab x.binds.length cb] 29) = X := ⟨_, rfl⟩
  have hal : Below w.heap.size w w1 := by rw [← hw1]; exact ((Below.refl _ _).alloc (Nat.le_refl _) _).alloc (by simp) _
  have hc2 : ECell w1 w.heap.size 0 k s t n a A kids.length cap := by
    rw [← hw1]
    refine ⟨?_, ?_, ?_, ?_, ?_, ?_⟩ <;> simp [go_sem]
  have hc3 : X4 w1 (w.heap.size + 1) (.slice Ar x.rows.length cr) (.slice Ak x.keys.length ck) (.slice At x.totals.length ct) (.slice Ab x.binds.length cb) := by
    rw [← hw1]
    refine ⟨?_, ?_, ?_, ?_⟩ <;> simp [go_sem]
  have HAL := Lib.hid hal
  have HV := Lib.hid (hv.on hal)
  have HX := Lib.hid (hx.on hal)
  have HW := Lib.hid (hW.on hal)
  have HT := Lib.hid hTr
  have HKB := Lib.hid hkb
  clear hv hx hW hok hTr hkb htb
  go_enter Tryz.func13, Tryz.ntmps13
  go_upto_region 1 with (fail)
  clear hw1
  refine region_asE (ops' := tr1Ops) (by kernel_rfl) ?_
  refine tr1 w.heap.size (w.heap.size + 1) x (.mk k s t n a kids) ((rk, rn, rs), er) k n a s t A kids.length cap _ _ _ _ hc2 HV.out hc3 HX.out hr hev HW.out rfl rfl rfl ?_
  intro V p X hbX hVp hp0 hp1 hbx6 hV7
  rw [tr1_fill V, hVp, hV7]
  have HB := Lib.hid (HAL.out.trans (hbX.mono HAL.out.size))
  obtain ⟨⟨x0, x1, x2⟩, g0, g1, g2⟩ := hbx6
  clear hc2 hc3 hal hbX HW HV HX HAL hev hr
  cases tb
  · go_wp2_with (go_at_call 23; refine (HT.out _).mono ?_; rintro e wb ⟨rfl, bb⟩; have HB2 := Lib.hid (HB.out.trans (bb.mono HB.out.size)); clear bb)
    exact bodyPost_ret (v := .tuple #[.bool false, .int .i64 er]) (by simp [results, Tryz.results13, go_sem]) rfl ⟨rfl, HB2.out⟩
  · obtain rfl : kb = true := HKB.out rfl
    go_wp2_with (go_at_call 23; refine (HT.out _).mono ?_; rintro e wb ⟨rfl, bb⟩; have HB2 := Lib.hid (HB.out.trans (bb.mono HB.out.size)); clear bb)
    exact bodyPost_ret (v := .tuple #[.bool true, .int .i64 er]) (by simp [results, Tryz.results13, go_sem]) rfl ⟨rfl, HB2.out⟩
end Go.Proofs.YteijijoiifbjlaaGreatDoor
