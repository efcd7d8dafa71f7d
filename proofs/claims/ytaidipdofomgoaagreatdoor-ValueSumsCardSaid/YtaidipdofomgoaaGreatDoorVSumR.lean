/-
  ValueSums: its regions, operation by operation. Conditions: what is called tells what it tells.
-/
import Derived.Test.YtaidipdofomgoaaGreatDoorVOrdM
import Derived.Test.YtaidipdofomgoaaGreatDoorVParts
import Derived.Test.YtaidipdofomgoaaGreatDoorVSlot4
namespace Go.Proofs.YtaidipdofomgoaaGreatDoor
open Go.ChangeShapes Go.WideShapes Go.ChangeAt Go.RowKit
set_option linter.unusedVariables false
set_option maxRecDepth 100000

noncomputable def su6Ops : Array Oper := regOf Tryz.f6 6
theorem su6_fill {v0 v1 v2 v3 v4 v5 v6 v7 v8 v9 v10 v11 v12 v13 v14 v15 v16 v17 v18 v19 v20 v21 v22 v23 v24 v25 v26 v27 v28 v29 v30 v31 v32 v33 v34 v35 v36 v37 v38 v39 v40 v41 v42 v43 v44 v45 v46 v47 v48 v49 v50 v51 v52 v53 v54 v55 v56 v57 v58 v59 v60 v61 v62 v63 v64 v65 v66 v67 v68 v69 v70 v71 v72 v73 v74 v75 v76 v77 v78 v79 v80 v81 v82 v83 v84 v85 v86 v87 v88 v89 v90 v91 v92 v93 v94 v95 v96 v97 v98 v99 v100 v101 v102 v103 v104 v105 v106 v107 v108 v109 v110 v111 v112 v113 v114 v115 v116 v117 v118 v119 v120 v121 v122 v123 v124 v125 v126 v127 v128 v129 v130 v131 v132 v133 v134 v135 v136 v137 v138 v139 v140 v141 v142 v143 v144 v145 v146 v147 v148 v149 v150 v151 v152 v153 v154 v155 v156 v157 v158 v159 v160 v161 v162 v163 v164 v165 v166 v167 v168 v169 v170 v171 v172 v173 v174 v175 v176 v177 v178 v179 v180 v181 v182 v183 v184 v185 v186 v187 v188 v189 v190 v191 v192 v193 v194 v195 v196 v197 : Value} (V : Nat → Value) : fillT su6Ops #[v0, v1, v2, v3, v4, v5, v6, v7, v8, v9, v10, v11, v12, v13, v14, v15, v16, v17, v18, v19, v20, v21, v22, v23, v24, v25, v26, v27, v28, v29, v30, v31, v32, v33, v34, v35, v36, v37, v38, v39, v40, v41, v42, v43, v44, v45, v46, v47, v48, v49, v50, v51, v52, v53, v54, v55, v56, v57, v58, v59, v60, v61, v62, v63, v64, v65, v66, v67, v68, v69, v70, v71, v72, v73, v74, v75, v76, v77, v78, v79, v80, v81, v82, v83, v84, v85, v86, v87, v88, v89, v90, v91, v92, v93, v94, v95, v96, v97, v98, v99, v100, v101, v102, v103, v104, v105, v106, v107, v108, v109, v110, v111, v112, v113, v114, v115, v116, v117, v118, v119, v120, v121, v122, v123, v124, v125, v126, v127, v128, v129, v130, v131, v132, v133, v134, v135, v136, v137, v138, v139, v140, v141, v142, v143, v144, v145, v146, v147, v148, v149, v150, v151, v152, v153, v154, v155, v156, v157, v158, v159, v160, v161, v162, v163, v164, v165, v166, v167, v168, v169, v170, v171, v172, v173, v174, v175, v176, v177, v178, v179, v180, v181, v182, v183, v184, v185, v186, v187, v188, v189, v190, v191, v192, v193, v194, v195, v196, v197] V = #[v0, v1, v2, v3, v4, v5, v6, v7, v8, v9, v10, v11, v12, v13, v14, v15, v16, v17, v18, v19, v20, v21, v22, v23, v24, v25, v26, v27, v28, v29, v30, v31, v32, v33, v34, v35, v36, v37, v38, v39, v40, v41, v42, v43, v44, V 0, V 1, V 2, V 3, V 4, V 5, V 6, V 7, V 8, V 9, V 10, V 11, V 12, V 13, V 14, V 15, V 16, V 17, V 18, V 19, V 20, v66, v67, v68, v69, v70, v71, v72, v73, v74, v75, v76, v77, v78, v79, v80, v81, v82, v83, v84, v85, v86, v87, v88, v89, v90, v91, v92, v93, v94, v95, v96, v97, v98, v99, v100, v101, v102, v103, v104, v105, v106, v107, v108, v109, v110, v111, v112, v113, v114, v115, v116, v117, v118, v119, v120, v121, v122, v123, v124, v125, v126, v127, v128, v129, v130, v131, v132, v133, v134, v135, v136, v137, v138, v139, v140, v141, v142, v143, v144, v145, v146, v147, v148, v149, v150, v151, v152, v153, v154, v155, v156, v157, v158, v159, v160, v161, v162, v163, v164, v165, v166, v167, v168, v169, v170, v171, v172, v173, v174, v175, v176, v177, v178, v179, v180, v181, v182, v183, v184, v185, v186, v187, v188, v189, v190, v191, v192, v193, v194, v195, v196, v197] := by
  kernel_rfl
def su6L (k n er : Int) (p9 p11 : Nat) (ε : Bool) (e1 : Hid ((er != 0) = ε)) (e2 : Hid (ε = true → (er != 20) = false)) (e3 : Hid (ε = true → (!sameV k n ⟨#[]⟩ 0 0 ⟨#[]⟩) = false)) : List (Value → World → Prop) := [IsV (vv k n ⟨#[]⟩), IsV (vv k n ⟨#[]⟩), IsV (.bool false), IsV (.bool false), IsV (.int .i64 er), IsV (.int .i64 er), IsV (.bool false), IsV (.bool false), IsV (.bool false), IsV (.int .i64 er), IsV (cond ε (.bool true) (.bool false)), IsV (cond ε (.bool true) (.bool false)), IsV (cond ε (.int .i64 er) (undef)), IsV (cond ε (.bool false) (undef)), IsV (cond ε (.bool false) (undef)), IsV (cond ε (vv k n ⟨#[]⟩) (undef)), IsV (cond ε (vv 0 0 ⟨#[]⟩) (undef)), IsV (cond ε (.bool false) (undef)), IsV (cond ε (.bool false) (undef)), IsV (.bool false), IsV (.bool false)]
def su6F (k n er : Int) (p9 p11 : Nat) (ε : Bool) (e1 : Hid ((er != 0) = ε)) (e2 : Hid (ε = true → (er != 20) = false)) (e3 : Hid (ε = true → (!sameV k n ⟨#[]⟩ 0 0 ⟨#[]⟩) = false)) (i : Nat) : Value → World → Prop := (su6L k n er p9 p11 ε e1 e2 e3).getD i AnyF
theorem su6F_mono (k n er : Int) (p9 p11 : Nat) (ε : Bool) (e1 : Hid ((er != 0) = ε)) (e2 : Hid (ε = true → (er != 20) = false)) (e3 : Hid (ε = true → (!sameV k n ⟨#[]⟩ 0 0 ⟨#[]⟩) = false)) (i : Nat) (v : Value) (w w' : World) (hp : (su6F k n er p9 p11 ε e1 e2 e3) i v w) (hb : Below w.heap.size w w') : (su6F k n er p9 p11 ε e1 e2 e3) i v w' := by
  refine monoL ?_ i v w w' hp hb
  unfold su6L
  simp only [List.forall_mem_cons]
  exact ⟨mono_isV _, mono_isV _, mono_isV _, mono_isV _, mono_isV _, mono_isV _, mono_isV _, mono_isV _, mono_isV _, mono_isV _, mono_isV _, mono_isV _, mono_isV _, mono_isV _, mono_isV _, mono_isV _, mono_isV _, mono_isV _, mono_isV _, mono_isV _, mono_isV _, fun _ h => by cases h⟩
theorem su6_s0 {Q : Exit → Act → World → Prop} {w0 : World} {xs : Nat → Value} (k n er : Int) (p9 p11 : Nat) (ε : Bool) (e1 : Hid ((er != 0) = ε)) (e2 : Hid (ε = true → (er != 20) = false)) (e3 : Hid (ε = true → (!sameV k n ⟨#[]⟩ 0 0 ⟨#[]⟩) = false)) (hb9 : BoxOn w0 p9 k n ⟨#[]⟩) (hb11 : BoxOn w0 p11 k n ⟨#[]⟩) (hx9 : xs 9 = .pointer (some ⟨p9, 0, none⟩)) (hx11 : xs 11 = .pointer (some ⟨p11, 0, none⟩)) (hx10 : xs 10 = .int .i64 er) (hx12 : xs 12 = .int .i64 er) : OpStep Tryz.prog su6Ops Q (su6F k n er p9 p11 ε e1 e2 e3) w0 198 xs 0 := by
  intro act w hb hk hF
  have g9 : act.eval (.tmp 9) = .pointer (some ⟨p9, 0, none⟩) := (hk 9 (by decide) (by kernel_rfl)).trans hx9
  exact step_loadB (show opO su6Ops 0 = some (.load 24 (.tmp 9)) by kernel_rfl) (.free (by kernel_rfl)) g9 (hb9 w hb) ⟨rfl, Below.refl _ _⟩

theorem su6_s1 {Q : Exit → Act → World → Prop} {w0 : World} {xs : Nat → Value} (k n er : Int) (p9 p11 : Nat) (ε : Bool) (e1 : Hid ((er != 0) = ε)) (e2 : Hid (ε = true → (er != 20) = false)) (e3 : Hid (ε = true → (!sameV k n ⟨#[]⟩ 0 0 ⟨#[]⟩) = false)) (hb9 : BoxOn w0 p9 k n ⟨#[]⟩) (hb11 : BoxOn w0 p11 k n ⟨#[]⟩) (hx9 : xs 9 = .pointer (some ⟨p9, 0, none⟩)) (hx11 : xs 11 = .pointer (some ⟨p11, 0, none⟩)) (hx10 : xs 10 = .int .i64 er) (hx12 : xs 12 = .int .i64 er) : OpStep Tryz.prog su6Ops Q (su6F k n er p9 p11 ε e1 e2 e3) w0 198 xs 1 := by
  intro act w hb hk hF
  have g11 : act.eval (.tmp 11) = .pointer (some ⟨p11, 0, none⟩) := (hk 11 (by decide) (by kernel_rfl)).trans hx11
  exact step_loadB (show opO su6Ops 1 = some (.load 24 (.tmp 11)) by kernel_rfl) (.free (by kernel_rfl)) g11 (hb11 w hb) ⟨rfl, Below.refl _ _⟩

theorem su6_s2 {Q : Exit → Act → World → Prop} {w0 : World} {xs : Nat → Value} (k n er : Int) (p9 p11 : Nat) (ε : Bool) (e1 : Hid ((er != 0) = ε)) (e2 : Hid (ε = true → (er != 20) = false)) (e3 : Hid (ε = true → (!sameV k n ⟨#[]⟩ 0 0 ⟨#[]⟩) = false)) (hb9 : BoxOn w0 p9 k n ⟨#[]⟩) (hb11 : BoxOn w0 p11 k n ⟨#[]⟩) (hx9 : xs 9 = .pointer (some ⟨p9, 0, none⟩)) (hx11 : xs 11 = .pointer (some ⟨p11, 0, none⟩)) (hx10 : xs 10 = .int .i64 er) (hx12 : xs 12 = .int .i64 er) : OpStep Tryz.prog su6Ops Q (su6F k n er p9 p11 ε e1 e2 e3) w0 198 xs 2 := by
  intro act w hb hk hF
  have g45 : act.eval (.tmp 45) = vv k n ⟨#[]⟩ := hF 0 (of_decide_eq_true (by kernel_rfl)) 45 (by kernel_rfl)
  have g46 : act.eval (.tmp 46) = vv k n ⟨#[]⟩ := hF 1 (of_decide_eq_true (by kernel_rfl)) 46 (by kernel_rfl)
  exact step_neV (show opO su6Ops 2 = some (.binOp .neq 24 (.tmp 45) (.tmp 46) 24) by kernel_rfl) (.free (by kernel_rfl)) g45 g46 (by rw [same_self]; rfl) ⟨rfl, Below.refl _ _⟩

theorem su6_s3 {Q : Exit → Act → World → Prop} {w0 : World} {xs : Nat → Value} (k n er : Int) (p9 p11 : Nat) (ε : Bool) (e1 : Hid ((er != 0) = ε)) (e2 : Hid (ε = true → (er != 20) = false)) (e3 : Hid (ε = true → (!sameV k n ⟨#[]⟩ 0 0 ⟨#[]⟩) = false)) (hb9 : BoxOn w0 p9 k n ⟨#[]⟩) (hb11 : BoxOn w0 p11 k n ⟨#[]⟩) (hx9 : xs 9 = .pointer (some ⟨p9, 0, none⟩)) (hx11 : xs 11 = .pointer (some ⟨p11, 0, none⟩)) (hx10 : xs 10 = .int .i64 er) (hx12 : xs 12 = .int .i64 er) : OpStep Tryz.prog su6Ops Q (su6F k n er p9 p11 ε e1 e2 e3) w0 198 xs 3 := by
  intro act w hb hk hF
  have g47 : act.eval (.tmp 47) = .bool false := hF 2 (of_decide_eq_true (by kernel_rfl)) 47 (by kernel_rfl)
  exact step_move (show opO su6Ops 3 = some (.move (.tmp 47)) by kernel_rfl) (.free (by kernel_rfl)) g47 ⟨rfl, Below.refl _ _⟩

theorem su6_s4 {Q : Exit → Act → World → Prop} {w0 : World} {xs : Nat → Value} (k n er : Int) (p9 p11 : Nat) (ε : Bool) (e1 : Hid ((er != 0) = ε)) (e2 : Hid (ε = true → (er != 20) = false)) (e3 : Hid (ε = true → (!sameV k n ⟨#[]⟩ 0 0 ⟨#[]⟩) = false)) (hb9 : BoxOn w0 p9 k n ⟨#[]⟩) (hb11 : BoxOn w0 p11 k n ⟨#[]⟩) (hx9 : xs 9 = .pointer (some ⟨p9, 0, none⟩)) (hx11 : xs 11 = .pointer (some ⟨p11, 0, none⟩)) (hx10 : xs 10 = .int .i64 er) (hx12 : xs 12 = .int .i64 er) : OpStep Tryz.prog su6Ops Q (su6F k n er p9 p11 ε e1 e2 e3) w0 198 xs 4 := by
  intro act w hb hk hF
  have g48 : act.eval (.tmp 48) = .bool false := hF 3 (of_decide_eq_true (by kernel_rfl)) 48 (by kernel_rfl)
  have g10 : act.eval (.tmp 10) = .int .i64 er := (hk 10 (by decide) (by kernel_rfl)).trans hx10
  exact step_move (show opO su6Ops 4 = some (.move (.tmp 10)) by kernel_rfl) (.told 3 false 48 (by kernel_rfl) (by kernel_rfl) g48) g10 ⟨rfl, Below.refl _ _⟩

theorem su6_s5 {Q : Exit → Act → World → Prop} {w0 : World} {xs : Nat → Value} (k n er : Int) (p9 p11 : Nat) (ε : Bool) (e1 : Hid ((er != 0) = ε)) (e2 : Hid (ε = true → (er != 20) = false)) (e3 : Hid (ε = true → (!sameV k n ⟨#[]⟩ 0 0 ⟨#[]⟩) = false)) (hb9 : BoxOn w0 p9 k n ⟨#[]⟩) (hb11 : BoxOn w0 p11 k n ⟨#[]⟩) (hx9 : xs 9 = .pointer (some ⟨p9, 0, none⟩)) (hx11 : xs 11 = .pointer (some ⟨p11, 0, none⟩)) (hx10 : xs 10 = .int .i64 er) (hx12 : xs 12 = .int .i64 er) : OpStep Tryz.prog su6Ops Q (su6F k n er p9 p11 ε e1 e2 e3) w0 198 xs 5 := by
  intro act w hb hk hF
  have g48 : act.eval (.tmp 48) = .bool false := hF 3 (of_decide_eq_true (by kernel_rfl)) 48 (by kernel_rfl)
  have g12 : act.eval (.tmp 12) = .int .i64 er := (hk 12 (by decide) (by kernel_rfl)).trans hx12
  exact step_move (show opO su6Ops 5 = some (.move (.tmp 12)) by kernel_rfl) (.told 3 false 48 (by kernel_rfl) (by kernel_rfl) g48) g12 ⟨rfl, Below.refl _ _⟩

theorem su6_s6 {Q : Exit → Act → World → Prop} {w0 : World} {xs : Nat → Value} (k n er : Int) (p9 p11 : Nat) (ε : Bool) (e1 : Hid ((er != 0) = ε)) (e2 : Hid (ε = true → (er != 20) = false)) (e3 : Hid (ε = true → (!sameV k n ⟨#[]⟩ 0 0 ⟨#[]⟩) = false)) (hb9 : BoxOn w0 p9 k n ⟨#[]⟩) (hb11 : BoxOn w0 p11 k n ⟨#[]⟩) (hx9 : xs 9 = .pointer (some ⟨p9, 0, none⟩)) (hx11 : xs 11 = .pointer (some ⟨p11, 0, none⟩)) (hx10 : xs 10 = .int .i64 er) (hx12 : xs 12 = .int .i64 er) : OpStep Tryz.prog su6Ops Q (su6F k n er p9 p11 ε e1 e2 e3) w0 198 xs 6 := by
  intro act w hb hk hF
  have g48 : act.eval (.tmp 48) = .bool false := hF 3 (of_decide_eq_true (by kernel_rfl)) 48 (by kernel_rfl)
  have g49 : act.eval (.tmp 49) = .int .i64 er := hF 4 (of_decide_eq_true (by kernel_rfl)) 49 (by kernel_rfl)
  have g50 : act.eval (.tmp 50) = .int .i64 er := hF 5 (of_decide_eq_true (by kernel_rfl)) 50 (by kernel_rfl)
  exact step_neI (show opO su6Ops 6 = some (.binOp .neq 28 (.tmp 49) (.tmp 50) 28) by kernel_rfl) (.told 3 false 48 (by kernel_rfl) (by kernel_rfl) g48) g49 g50 (by simp) ⟨rfl, Below.refl _ _⟩

theorem su6_s7 {Q : Exit → Act → World → Prop} {w0 : World} {xs : Nat → Value} (k n er : Int) (p9 p11 : Nat) (ε : Bool) (e1 : Hid ((er != 0) = ε)) (e2 : Hid (ε = true → (er != 20) = false)) (e3 : Hid (ε = true → (!sameV k n ⟨#[]⟩ 0 0 ⟨#[]⟩) = false)) (hb9 : BoxOn w0 p9 k n ⟨#[]⟩) (hb11 : BoxOn w0 p11 k n ⟨#[]⟩) (hx9 : xs 9 = .pointer (some ⟨p9, 0, none⟩)) (hx11 : xs 11 = .pointer (some ⟨p11, 0, none⟩)) (hx10 : xs 10 = .int .i64 er) (hx12 : xs 12 = .int .i64 er) : OpStep Tryz.prog su6Ops Q (su6F k n er p9 p11 ε e1 e2 e3) w0 198 xs 7 := by
  intro act w hb hk hF
  have g48 : act.eval (.tmp 48) = .bool false := hF 3 (of_decide_eq_true (by kernel_rfl)) 48 (by kernel_rfl)
  have g51 : act.eval (.tmp 51) = .bool false := hF 6 (of_decide_eq_true (by kernel_rfl)) 51 (by kernel_rfl)
  exact step_pickF (show opO su6Ops 7 = some (.pick (.tmp 48) (.const (.bool true)) (.tmp 51)) by kernel_rfl) (.free (by kernel_rfl)) g48 g51 ⟨rfl, Below.refl _ _⟩

theorem su6_s8 {Q : Exit → Act → World → Prop} {w0 : World} {xs : Nat → Value} (k n er : Int) (p9 p11 : Nat) (ε : Bool) (e1 : Hid ((er != 0) = ε)) (e2 : Hid (ε = true → (er != 20) = false)) (e3 : Hid (ε = true → (!sameV k n ⟨#[]⟩ 0 0 ⟨#[]⟩) = false)) (hb9 : BoxOn w0 p9 k n ⟨#[]⟩) (hb11 : BoxOn w0 p11 k n ⟨#[]⟩) (hx9 : xs 9 = .pointer (some ⟨p9, 0, none⟩)) (hx11 : xs 11 = .pointer (some ⟨p11, 0, none⟩)) (hx10 : xs 10 = .int .i64 er) (hx12 : xs 12 = .int .i64 er) : OpStep Tryz.prog su6Ops Q (su6F k n er p9 p11 ε e1 e2 e3) w0 198 xs 8 := by
  intro act w hb hk hF
  have g52 : act.eval (.tmp 52) = .bool false := hF 7 (of_decide_eq_true (by kernel_rfl)) 52 (by kernel_rfl)
  exact step_move (show opO su6Ops 8 = some (.move (.tmp 52)) by kernel_rfl) (.free (by kernel_rfl)) g52 ⟨rfl, Below.refl _ _⟩

theorem su6_s9 {Q : Exit → Act → World → Prop} {w0 : World} {xs : Nat → Value} (k n er : Int) (p9 p11 : Nat) (ε : Bool) (e1 : Hid ((er != 0) = ε)) (e2 : Hid (ε = true → (er != 20) = false)) (e3 : Hid (ε = true → (!sameV k n ⟨#[]⟩ 0 0 ⟨#[]⟩) = false)) (hb9 : BoxOn w0 p9 k n ⟨#[]⟩) (hb11 : BoxOn w0 p11 k n ⟨#[]⟩) (hx9 : xs 9 = .pointer (some ⟨p9, 0, none⟩)) (hx11 : xs 11 = .pointer (some ⟨p11, 0, none⟩)) (hx10 : xs 10 = .int .i64 er) (hx12 : xs 12 = .int .i64 er) : OpStep Tryz.prog su6Ops Q (su6F k n er p9 p11 ε e1 e2 e3) w0 198 xs 9 := by
  intro act w hb hk hF
  have g53 : act.eval (.tmp 53) = .bool false := hF 8 (of_decide_eq_true (by kernel_rfl)) 53 (by kernel_rfl)
  have g10 : act.eval (.tmp 10) = .int .i64 er := (hk 10 (by decide) (by kernel_rfl)).trans hx10
  exact step_move (show opO su6Ops 9 = some (.move (.tmp 10)) by kernel_rfl) (.told 8 false 53 (by kernel_rfl) (by kernel_rfl) g53) g10 ⟨rfl, Below.refl _ _⟩

theorem su6_s10 {Q : Exit → Act → World → Prop} {w0 : World} {xs : Nat → Value} (k n er : Int) (p9 p11 : Nat) (ε : Bool) (e1 : Hid ((er != 0) = ε)) (e2 : Hid (ε = true → (er != 20) = false)) (e3 : Hid (ε = true → (!sameV k n ⟨#[]⟩ 0 0 ⟨#[]⟩) = false)) (hb9 : BoxOn w0 p9 k n ⟨#[]⟩) (hb11 : BoxOn w0 p11 k n ⟨#[]⟩) (hx9 : xs 9 = .pointer (some ⟨p9, 0, none⟩)) (hx11 : xs 11 = .pointer (some ⟨p11, 0, none⟩)) (hx10 : xs 10 = .int .i64 er) (hx12 : xs 12 = .int .i64 er) : OpStep Tryz.prog su6Ops Q (su6F k n er p9 p11 ε e1 e2 e3) w0 198 xs 10 := by
  intro act w hb hk hF
  have g53 : act.eval (.tmp 53) = .bool false := hF 8 (of_decide_eq_true (by kernel_rfl)) 53 (by kernel_rfl)
  have g54 : act.eval (.tmp 54) = .int .i64 er := hF 9 (of_decide_eq_true (by kernel_rfl)) 54 (by kernel_rfl)
  cases ε
  · exact step_neI (show opO su6Ops 10 = some (.binOp .neq 28 (.tmp 54) (.const (.int .i64 0)) 28) by kernel_rfl) (.told 8 false 53 (by kernel_rfl) (by kernel_rfl) g53) g54 rfl e1.out ⟨rfl, Below.refl _ _⟩
  · exact step_neI (show opO su6Ops 10 = some (.binOp .neq 28 (.tmp 54) (.const (.int .i64 0)) 28) by kernel_rfl) (.told 8 false 53 (by kernel_rfl) (by kernel_rfl) g53) g54 rfl e1.out ⟨rfl, Below.refl _ _⟩

theorem su6_s11 {Q : Exit → Act → World → Prop} {w0 : World} {xs : Nat → Value} (k n er : Int) (p9 p11 : Nat) (ε : Bool) (e1 : Hid ((er != 0) = ε)) (e2 : Hid (ε = true → (er != 20) = false)) (e3 : Hid (ε = true → (!sameV k n ⟨#[]⟩ 0 0 ⟨#[]⟩) = false)) (hb9 : BoxOn w0 p9 k n ⟨#[]⟩) (hb11 : BoxOn w0 p11 k n ⟨#[]⟩) (hx9 : xs 9 = .pointer (some ⟨p9, 0, none⟩)) (hx11 : xs 11 = .pointer (some ⟨p11, 0, none⟩)) (hx10 : xs 10 = .int .i64 er) (hx12 : xs 12 = .int .i64 er) : OpStep Tryz.prog su6Ops Q (su6F k n er p9 p11 ε e1 e2 e3) w0 198 xs 11 := by
  intro act w hb hk hF
  have g53 : act.eval (.tmp 53) = .bool false := hF 8 (of_decide_eq_true (by kernel_rfl)) 53 (by kernel_rfl)
  have g55 : act.eval (.tmp 55) = cond ε (.bool true) (.bool false) := hF 10 (of_decide_eq_true (by kernel_rfl)) 55 (by kernel_rfl)
  exact step_move (show opO su6Ops 11 = some (.move (.tmp 55)) by kernel_rfl) (.told 8 false 53 (by kernel_rfl) (by kernel_rfl) g53) g55 ⟨rfl, Below.refl _ _⟩

theorem su6_s12 {Q : Exit → Act → World → Prop} {w0 : World} {xs : Nat → Value} (k n er : Int) (p9 p11 : Nat) (ε : Bool) (e1 : Hid ((er != 0) = ε)) (e2 : Hid (ε = true → (er != 20) = false)) (e3 : Hid (ε = true → (!sameV k n ⟨#[]⟩ 0 0 ⟨#[]⟩) = false)) (hb9 : BoxOn w0 p9 k n ⟨#[]⟩) (hb11 : BoxOn w0 p11 k n ⟨#[]⟩) (hx9 : xs 9 = .pointer (some ⟨p9, 0, none⟩)) (hx11 : xs 11 = .pointer (some ⟨p11, 0, none⟩)) (hx10 : xs 10 = .int .i64 er) (hx12 : xs 12 = .int .i64 er) : OpStep Tryz.prog su6Ops Q (su6F k n er p9 p11 ε e1 e2 e3) w0 198 xs 12 := by
  intro act w hb hk hF
  have g56 : act.eval (.tmp 56) = cond ε (.bool true) (.bool false) := hF 11 (of_decide_eq_true (by kernel_rfl)) 56 (by kernel_rfl)
  have g10 : act.eval (.tmp 10) = .int .i64 er := (hk 10 (by decide) (by kernel_rfl)).trans hx10
  cases ε
  · exact step_off (of_decide_eq_true (by kernel_rfl)) (.told 11 true 56 (by kernel_rfl) (by kernel_rfl) g56) ⟨rfl, Below.refl _ _⟩
  · exact step_move (show opO su6Ops 12 = some (.move (.tmp 10)) by kernel_rfl) (.told 11 true 56 (by kernel_rfl) (by kernel_rfl) g56) g10 ⟨rfl, Below.refl _ _⟩

theorem su6_s13 {Q : Exit → Act → World → Prop} {w0 : World} {xs : Nat → Value} (k n er : Int) (p9 p11 : Nat) (ε : Bool) (e1 : Hid ((er != 0) = ε)) (e2 : Hid (ε = true → (er != 20) = false)) (e3 : Hid (ε = true → (!sameV k n ⟨#[]⟩ 0 0 ⟨#[]⟩) = false)) (hb9 : BoxOn w0 p9 k n ⟨#[]⟩) (hb11 : BoxOn w0 p11 k n ⟨#[]⟩) (hx9 : xs 9 = .pointer (some ⟨p9, 0, none⟩)) (hx11 : xs 11 = .pointer (some ⟨p11, 0, none⟩)) (hx10 : xs 10 = .int .i64 er) (hx12 : xs 12 = .int .i64 er) : OpStep Tryz.prog su6Ops Q (su6F k n er p9 p11 ε e1 e2 e3) w0 198 xs 13 := by
  intro act w hb hk hF
  have g56 : act.eval (.tmp 56) = cond ε (.bool true) (.bool false) := hF 11 (of_decide_eq_true (by kernel_rfl)) 56 (by kernel_rfl)
  have g57 : act.eval (.tmp 57) = cond ε (.int .i64 er) (undef) := hF 12 (of_decide_eq_true (by kernel_rfl)) 57 (by kernel_rfl)
  cases ε
  · exact step_off (of_decide_eq_true (by kernel_rfl)) (.told 11 true 56 (by kernel_rfl) (by kernel_rfl) g56) ⟨rfl, Below.refl _ _⟩
  · exact step_neI (show opO su6Ops 13 = some (.binOp .neq 28 (.tmp 57) (.const (.int .i64 20)) 28) by kernel_rfl) (.told 11 true 56 (by kernel_rfl) (by kernel_rfl) g56) g57 rfl (e2.out rfl) ⟨rfl, Below.refl _ _⟩

theorem su6_s14 {Q : Exit → Act → World → Prop} {w0 : World} {xs : Nat → Value} (k n er : Int) (p9 p11 : Nat) (ε : Bool) (e1 : Hid ((er != 0) = ε)) (e2 : Hid (ε = true → (er != 20) = false)) (e3 : Hid (ε = true → (!sameV k n ⟨#[]⟩ 0 0 ⟨#[]⟩) = false)) (hb9 : BoxOn w0 p9 k n ⟨#[]⟩) (hb11 : BoxOn w0 p11 k n ⟨#[]⟩) (hx9 : xs 9 = .pointer (some ⟨p9, 0, none⟩)) (hx11 : xs 11 = .pointer (some ⟨p11, 0, none⟩)) (hx10 : xs 10 = .int .i64 er) (hx12 : xs 12 = .int .i64 er) : OpStep Tryz.prog su6Ops Q (su6F k n er p9 p11 ε e1 e2 e3) w0 198 xs 14 := by
  intro act w hb hk hF
  have g56 : act.eval (.tmp 56) = cond ε (.bool true) (.bool false) := hF 11 (of_decide_eq_true (by kernel_rfl)) 56 (by kernel_rfl)
  have g58 : act.eval (.tmp 58) = cond ε (.bool false) (undef) := hF 13 (of_decide_eq_true (by kernel_rfl)) 58 (by kernel_rfl)
  cases ε
  · exact step_off (of_decide_eq_true (by kernel_rfl)) (.told 11 true 56 (by kernel_rfl) (by kernel_rfl) g56) ⟨rfl, Below.refl _ _⟩
  · exact step_move (show opO su6Ops 14 = some (.move (.tmp 58)) by kernel_rfl) (.told 11 true 56 (by kernel_rfl) (by kernel_rfl) g56) g58 ⟨rfl, Below.refl _ _⟩

theorem su6_s15 {Q : Exit → Act → World → Prop} {w0 : World} {xs : Nat → Value} (k n er : Int) (p9 p11 : Nat) (ε : Bool) (e1 : Hid ((er != 0) = ε)) (e2 : Hid (ε = true → (er != 20) = false)) (e3 : Hid (ε = true → (!sameV k n ⟨#[]⟩ 0 0 ⟨#[]⟩) = false)) (hb9 : BoxOn w0 p9 k n ⟨#[]⟩) (hb11 : BoxOn w0 p11 k n ⟨#[]⟩) (hx9 : xs 9 = .pointer (some ⟨p9, 0, none⟩)) (hx11 : xs 11 = .pointer (some ⟨p11, 0, none⟩)) (hx10 : xs 10 = .int .i64 er) (hx12 : xs 12 = .int .i64 er) : OpStep Tryz.prog su6Ops Q (su6F k n er p9 p11 ε e1 e2 e3) w0 198 xs 15 := by
  intro act w hb hk hF
  have g59 : act.eval (.tmp 59) = cond ε (.bool false) (undef) := hF 14 (of_decide_eq_true (by kernel_rfl)) 59 (by kernel_rfl)
  have g9 : act.eval (.tmp 9) = .pointer (some ⟨p9, 0, none⟩) := (hk 9 (by decide) (by kernel_rfl)).trans hx9
  cases ε
  · exact step_off (of_decide_eq_true (by kernel_rfl)) (.off 14 false 59 (by kernel_rfl) (by kernel_rfl) g59) ⟨rfl, Below.refl _ _⟩
  · exact step_loadB (show opO su6Ops 15 = some (.load 24 (.tmp 9)) by kernel_rfl) (.told 14 false 59 (by kernel_rfl) (by kernel_rfl) g59) g9 (hb9 w hb) ⟨rfl, Below.refl _ _⟩

theorem su6_s16 {Q : Exit → Act → World → Prop} {w0 : World} {xs : Nat → Value} (k n er : Int) (p9 p11 : Nat) (ε : Bool) (e1 : Hid ((er != 0) = ε)) (e2 : Hid (ε = true → (er != 20) = false)) (e3 : Hid (ε = true → (!sameV k n ⟨#[]⟩ 0 0 ⟨#[]⟩) = false)) (hb9 : BoxOn w0 p9 k n ⟨#[]⟩) (hb11 : BoxOn w0 p11 k n ⟨#[]⟩) (hx9 : xs 9 = .pointer (some ⟨p9, 0, none⟩)) (hx11 : xs 11 = .pointer (some ⟨p11, 0, none⟩)) (hx10 : xs 10 = .int .i64 er) (hx12 : xs 12 = .int .i64 er) : OpStep Tryz.prog su6Ops Q (su6F k n er p9 p11 ε e1 e2 e3) w0 198 xs 16 := by
  intro act w hb hk hF
  have g59 : act.eval (.tmp 59) = cond ε (.bool false) (undef) := hF 14 (of_decide_eq_true (by kernel_rfl)) 59 (by kernel_rfl)
  cases ε
  · exact step_off (of_decide_eq_true (by kernel_rfl)) (.off 14 false 59 (by kernel_rfl) (by kernel_rfl) g59) ⟨rfl, Below.refl _ _⟩
  · exact step_nul (show opO su6Ops 16 = some (.build 24 #[]) by kernel_rfl) (.told 14 false 59 (by kernel_rfl) (by kernel_rfl) g59) ⟨rfl, Below.refl _ _⟩

theorem su6_s17 {Q : Exit → Act → World → Prop} {w0 : World} {xs : Nat → Value} (k n er : Int) (p9 p11 : Nat) (ε : Bool) (e1 : Hid ((er != 0) = ε)) (e2 : Hid (ε = true → (er != 20) = false)) (e3 : Hid (ε = true → (!sameV k n ⟨#[]⟩ 0 0 ⟨#[]⟩) = false)) (hb9 : BoxOn w0 p9 k n ⟨#[]⟩) (hb11 : BoxOn w0 p11 k n ⟨#[]⟩) (hx9 : xs 9 = .pointer (some ⟨p9, 0, none⟩)) (hx11 : xs 11 = .pointer (some ⟨p11, 0, none⟩)) (hx10 : xs 10 = .int .i64 er) (hx12 : xs 12 = .int .i64 er) : OpStep Tryz.prog su6Ops Q (su6F k n er p9 p11 ε e1 e2 e3) w0 198 xs 17 := by
  intro act w hb hk hF
  have g59 : act.eval (.tmp 59) = cond ε (.bool false) (undef) := hF 14 (of_decide_eq_true (by kernel_rfl)) 59 (by kernel_rfl)
  have g60 : act.eval (.tmp 60) = cond ε (vv k n ⟨#[]⟩) (undef) := hF 15 (of_decide_eq_true (by kernel_rfl)) 60 (by kernel_rfl)
  have g61 : act.eval (.tmp 61) = cond ε (vv 0 0 ⟨#[]⟩) (undef) := hF 16 (of_decide_eq_true (by kernel_rfl)) 61 (by kernel_rfl)
  cases ε
  · exact step_off (of_decide_eq_true (by kernel_rfl)) (.off 14 false 59 (by kernel_rfl) (by kernel_rfl) g59) ⟨rfl, Below.refl _ _⟩
  · exact step_neV (show opO su6Ops 17 = some (.binOp .neq 24 (.tmp 60) (.tmp 61) 24) by kernel_rfl) (.told 14 false 59 (by kernel_rfl) (by kernel_rfl) g59) g60 g61 (e3.out rfl) ⟨rfl, Below.refl _ _⟩

theorem su6_s18 {Q : Exit → Act → World → Prop} {w0 : World} {xs : Nat → Value} (k n er : Int) (p9 p11 : Nat) (ε : Bool) (e1 : Hid ((er != 0) = ε)) (e2 : Hid (ε = true → (er != 20) = false)) (e3 : Hid (ε = true → (!sameV k n ⟨#[]⟩ 0 0 ⟨#[]⟩) = false)) (hb9 : BoxOn w0 p9 k n ⟨#[]⟩) (hb11 : BoxOn w0 p11 k n ⟨#[]⟩) (hx9 : xs 9 = .pointer (some ⟨p9, 0, none⟩)) (hx11 : xs 11 = .pointer (some ⟨p11, 0, none⟩)) (hx10 : xs 10 = .int .i64 er) (hx12 : xs 12 = .int .i64 er) : OpStep Tryz.prog su6Ops Q (su6F k n er p9 p11 ε e1 e2 e3) w0 198 xs 18 := by
  intro act w hb hk hF
  have g56 : act.eval (.tmp 56) = cond ε (.bool true) (.bool false) := hF 11 (of_decide_eq_true (by kernel_rfl)) 56 (by kernel_rfl)
  have g59 : act.eval (.tmp 59) = cond ε (.bool false) (undef) := hF 14 (of_decide_eq_true (by kernel_rfl)) 59 (by kernel_rfl)
  have g62 : act.eval (.tmp 62) = cond ε (.bool false) (undef) := hF 17 (of_decide_eq_true (by kernel_rfl)) 62 (by kernel_rfl)
  cases ε
  · exact step_off (of_decide_eq_true (by kernel_rfl)) (.told 11 true 56 (by kernel_rfl) (by kernel_rfl) g56) ⟨rfl, Below.refl _ _⟩
  · exact step_pickF (show opO su6Ops 18 = some (.pick (.tmp 59) (.const (.bool true)) (.tmp 62)) by kernel_rfl) (.told 11 true 56 (by kernel_rfl) (by kernel_rfl) g56) g59 g62 ⟨rfl, Below.refl _ _⟩

theorem su6_s19 {Q : Exit → Act → World → Prop} {w0 : World} {xs : Nat → Value} (k n er : Int) (p9 p11 : Nat) (ε : Bool) (e1 : Hid ((er != 0) = ε)) (e2 : Hid (ε = true → (er != 20) = false)) (e3 : Hid (ε = true → (!sameV k n ⟨#[]⟩ 0 0 ⟨#[]⟩) = false)) (hb9 : BoxOn w0 p9 k n ⟨#[]⟩) (hb11 : BoxOn w0 p11 k n ⟨#[]⟩) (hx9 : xs 9 = .pointer (some ⟨p9, 0, none⟩)) (hx11 : xs 11 = .pointer (some ⟨p11, 0, none⟩)) (hx10 : xs 10 = .int .i64 er) (hx12 : xs 12 = .int .i64 er) : OpStep Tryz.prog su6Ops Q (su6F k n er p9 p11 ε e1 e2 e3) w0 198 xs 19 := by
  intro act w hb hk hF
  have g53 : act.eval (.tmp 53) = .bool false := hF 8 (of_decide_eq_true (by kernel_rfl)) 53 (by kernel_rfl)
  have g56 : act.eval (.tmp 56) = cond ε (.bool true) (.bool false) := hF 11 (of_decide_eq_true (by kernel_rfl)) 56 (by kernel_rfl)
  have g63 : act.eval (.tmp 63) = cond ε (.bool false) (undef) := hF 18 (of_decide_eq_true (by kernel_rfl)) 63 (by kernel_rfl)
  cases ε
  · exact step_pickF (show opO su6Ops 19 = some (.pick (.tmp 56) (.tmp 63) (.const (.bool false))) by kernel_rfl) (.told 8 false 53 (by kernel_rfl) (by kernel_rfl) g53) g56 rfl ⟨rfl, Below.refl _ _⟩
  · exact step_pickT (show opO su6Ops 19 = some (.pick (.tmp 56) (.tmp 63) (.const (.bool false))) by kernel_rfl) (.told 8 false 53 (by kernel_rfl) (by kernel_rfl) g53) g56 g63 ⟨rfl, Below.refl _ _⟩

theorem su6_s20 {Q : Exit → Act → World → Prop} {w0 : World} {xs : Nat → Value} (k n er : Int) (p9 p11 : Nat) (ε : Bool) (e1 : Hid ((er != 0) = ε)) (e2 : Hid (ε = true → (er != 20) = false)) (e3 : Hid (ε = true → (!sameV k n ⟨#[]⟩ 0 0 ⟨#[]⟩) = false)) (hb9 : BoxOn w0 p9 k n ⟨#[]⟩) (hb11 : BoxOn w0 p11 k n ⟨#[]⟩) (hx9 : xs 9 = .pointer (some ⟨p9, 0, none⟩)) (hx11 : xs 11 = .pointer (some ⟨p11, 0, none⟩)) (hx10 : xs 10 = .int .i64 er) (hx12 : xs 12 = .int .i64 er) : OpStep Tryz.prog su6Ops Q (su6F k n er p9 p11 ε e1 e2 e3) w0 198 xs 20 := by
  intro act w hb hk hF
  have g53 : act.eval (.tmp 53) = .bool false := hF 8 (of_decide_eq_true (by kernel_rfl)) 53 (by kernel_rfl)
  have g64 : act.eval (.tmp 64) = .bool false := hF 19 (of_decide_eq_true (by kernel_rfl)) 64 (by kernel_rfl)
  exact step_pickF (show opO su6Ops 20 = some (.pick (.tmp 53) (.const (.bool true)) (.tmp 64)) by kernel_rfl) (.free (by kernel_rfl)) g53 g64 ⟨rfl, Below.refl _ _⟩

theorem su6 {bb : Bool} {Q : Exit → Act → World → Prop} {a0 : Act} {w0 : World} (k n er : Int) (p9 p11 : Nat) (ε : Bool) (e1 : Hid ((er != 0) = ε)) (e2 : Hid (ε = true → (er != 20) = false)) (e3 : Hid (ε = true → (!sameV k n ⟨#[]⟩ 0 0 ⟨#[]⟩) = false)) (hb9 : BoxOn w0 p9 k n ⟨#[]⟩) (hb11 : BoxOn w0 p11 k n ⟨#[]⟩) (hx9 : a0.tmps.getD 9 undef = .pointer (some ⟨p9, 0, none⟩)) (hx11 : a0.tmps.getD 11 undef = .pointer (some ⟨p11, 0, none⟩)) (hx10 : a0.tmps.getD 10 undef = .int .i64 er) (hx12 : a0.tmps.getD 12 undef = .int .i64 er) (hs : a0.tmps.size = 198)
    (hend : ∀ (V : Nat → Value) (X : World), Below w0.heap.size w0 X → V 20 = .bool false → Q .normal ⟨fillT su6Ops a0.tmps V, a0.defers⟩ X) : (Code.region 6 su6Ops bb).wp Tryz.prog Q a0 w0 := by
  refine wp_region_both (by kernel_rfl) (su6F k n er p9 p11 ε e1 e2 e3) (su6F_mono k n er p9 p11 ε e1 e2 e3) (by rw [hs]; kernel_rfl) ?_ ?_
  · rw [hs]
    have size_is : su6Ops.size = 21 := by kernel_rfl
    rw [size_is]
    have u1 : ∀ i, i < 1 → OpStep Tryz.prog su6Ops Q (su6F k n er p9 p11 ε e1 e2 e3) w0 198 (fun t => a0.tmps.getD t undef) i := upto_succ upto_zero (su6_s0 k n er p9 p11 ε e1 e2 e3 hb9 hb11 hx9 hx11 hx10 hx12)
    have u2 : ∀ i, i < 2 → OpStep Tryz.prog su6Ops Q (su6F k n er p9 p11 ε e1 e2 e3) w0 198 (fun t => a0.tmps.getD t undef) i := upto_succ u1 (su6_s1 k n er p9 p11 ε e1 e2 e3 hb9 hb11 hx9 hx11 hx10 hx12)
    have u3 : ∀ i, i < 3 → OpStep Tryz.prog su6Ops Q (su6F k n er p9 p11 ε e1 e2 e3) w0 198 (fun t => a0.tmps.getD t undef) i := upto_succ u2 (su6_s2 k n er p9 p11 ε e1 e2 e3 hb9 hb11 hx9 hx11 hx10 hx12)
    have u4 : ∀ i, i < 4 → OpStep Tryz.prog su6Ops Q (su6F k n er p9 p11 ε e1 e2 e3) w0 198 (fun t => a0.tmps.getD t undef) i := upto_succ u3 (su6_s3 k n er p9 p11 ε e1 e2 e3 hb9 hb11 hx9 hx11 hx10 hx12)
    have u5 : ∀ i, i < 5 → OpStep Tryz.prog su6Ops Q (su6F k n er p9 p11 ε e1 e2 e3) w0 198 (fun t => a0.tmps.getD t undef) i := upto_succ u4 (su6_s4 k n er p9 p11 ε e1 e2 e3 hb9 hb11 hx9 hx11 hx10 hx12)
    have u6 : ∀ i, i < 6 → OpStep Tryz.prog su6Ops Q (su6F k n er p9 p11 ε e1 e2 e3) w0 198 (fun t => a0.tmps.getD t undef) i := upto_succ u5 (su6_s5 k n er p9 p11 ε e1 e2 e3 hb9 hb11 hx9 hx11 hx10 hx12)
    have u7 : ∀ i, i < 7 → OpStep Tryz.prog su6Ops Q (su6F k n er p9 p11 ε e1 e2 e3) w0 198 (fun t => a0.tmps.getD t undef) i := upto_succ u6 (su6_s6 k n er p9 p11 ε e1 e2 e3 hb9 hb11 hx9 hx11 hx10 hx12)
    have u8 : ∀ i, i < 8 → OpStep Tryz.prog su6Ops Q (su6F k n er p9 p11 ε e1 e2 e3) w0 198 (fun t => a0.tmps.getD t undef) i := upto_succ u7 (su6_s7 k n er p9 p11 ε e1 e2 e3 hb9 hb11 hx9 hx11 hx10 hx12)
    have u9 : ∀ i, i < 9 → OpStep Tryz.prog su6Ops Q (su6F k n er p9 p11 ε e1 e2 e3) w0 198 (fun t => a0.tmps.getD t undef) i := upto_succ u8 (su6_s8 k n er p9 p11 ε e1 e2 e3 hb9 hb11 hx9 hx11 hx10 hx12)
    have u10 : ∀ i, i < 10 → OpStep Tryz.prog su6Ops Q (su6F k n er p9 p11 ε e1 e2 e3) w0 198 (fun t => a0.tmps.getD t undef) i := upto_succ u9 (su6_s9 k n er p9 p11 ε e1 e2 e3 hb9 hb11 hx9 hx11 hx10 hx12)
    have u11 : ∀ i, i < 11 → OpStep Tryz.prog su6Ops Q (su6F k n er p9 p11 ε e1 e2 e3) w0 198 (fun t => a0.tmps.getD t undef) i := upto_succ u10 (su6_s10 k n er p9 p11 ε e1 e2 e3 hb9 hb11 hx9 hx11 hx10 hx12)
    have u12 : ∀ i, i < 12 → OpStep Tryz.prog su6Ops Q (su6F k n er p9 p11 ε e1 e2 e3) w0 198 (fun t => a0.tmps.getD t undef) i := upto_succ u11 (su6_s11 k n er p9 p11 ε e1 e2 e3 hb9 hb11 hx9 hx11 hx10 hx12)
    have u13 : ∀ i, i < 13 → OpStep Tryz.prog su6Ops Q (su6F k n er p9 p11 ε e1 e2 e3) w0 198 (fun t => a0.tmps.getD t undef) i := upto_succ u12 (su6_s12 k n er p9 p11 ε e1 e2 e3 hb9 hb11 hx9 hx11 hx10 hx12)
    have u14 : ∀ i, i < 14 → OpStep Tryz.prog su6Ops Q (su6F k n er p9 p11 ε e1 e2 e3) w0 198 (fun t => a0.tmps.getD t undef) i := upto_succ u13 (su6_s13 k n er p9 p11 ε e1 e2 e3 hb9 hb11 hx9 hx11 hx10 hx12)
    have u15 : ∀ i, i < 15 → OpStep Tryz.prog su6Ops Q (su6F k n er p9 p11 ε e1 e2 e3) w0 198 (fun t => a0.tmps.getD t undef) i := upto_succ u14 (su6_s14 k n er p9 p11 ε e1 e2 e3 hb9 hb11 hx9 hx11 hx10 hx12)
    have u16 : ∀ i, i < 16 → OpStep Tryz.prog su6Ops Q (su6F k n er p9 p11 ε e1 e2 e3) w0 198 (fun t => a0.tmps.getD t undef) i := upto_succ u15 (su6_s15 k n er p9 p11 ε e1 e2 e3 hb9 hb11 hx9 hx11 hx10 hx12)
    have u17 : ∀ i, i < 17 → OpStep Tryz.prog su6Ops Q (su6F k n er p9 p11 ε e1 e2 e3) w0 198 (fun t => a0.tmps.getD t undef) i := upto_succ u16 (su6_s16 k n er p9 p11 ε e1 e2 e3 hb9 hb11 hx9 hx11 hx10 hx12)
    have u18 : ∀ i, i < 18 → OpStep Tryz.prog su6Ops Q (su6F k n er p9 p11 ε e1 e2 e3) w0 198 (fun t => a0.tmps.getD t undef) i := upto_succ u17 (su6_s17 k n er p9 p11 ε e1 e2 e3 hb9 hb11 hx9 hx11 hx10 hx12)
    have u19 : ∀ i, i < 19 → OpStep Tryz.prog su6Ops Q (su6F k n er p9 p11 ε e1 e2 e3) w0 198 (fun t => a0.tmps.getD t undef) i := upto_succ u18 (su6_s18 k n er p9 p11 ε e1 e2 e3 hb9 hb11 hx9 hx11 hx10 hx12)
    have u20 : ∀ i, i < 20 → OpStep Tryz.prog su6Ops Q (su6F k n er p9 p11 ε e1 e2 e3) w0 198 (fun t => a0.tmps.getD t undef) i := upto_succ u19 (su6_s19 k n er p9 p11 ε e1 e2 e3 hb9 hb11 hx9 hx11 hx10 hx12)
    have u21 : ∀ i, i < 21 → OpStep Tryz.prog su6Ops Q (su6F k n er p9 p11 ε e1 e2 e3) w0 198 (fun t => a0.tmps.getD t undef) i := upto_succ u20 (su6_s20 k n er p9 p11 ε e1 e2 e3 hb9 hb11 hx9 hx11 hx10 hx12)
    exact u21
  · intro V X hb hV
    exact hend V X hb (hV 20 (of_decide_eq_true (by kernel_rfl)) (by kernel_rfl))
noncomputable def su10Ops : Array Oper := regOf Tryz.f6 10
theorem su10_fill {v0 v1 v2 v3 v4 v5 v6 v7 v8 v9 v10 v11 v12 v13 v14 v15 v16 v17 v18 v19 v20 v21 v22 v23 v24 v25 v26 v27 v28 v29 v30 v31 v32 v33 v34 v35 v36 v37 v38 v39 v40 v41 v42 v43 v44 v45 v46 v47 v48 v49 v50 v51 v52 v53 v54 v55 v56 v57 v58 v59 v60 v61 v62 v63 v64 v65 v66 v67 v68 v69 v70 v71 v72 v73 v74 v75 v76 v77 v78 v79 v80 v81 v82 v83 v84 v85 v86 v87 v88 v89 v90 v91 v92 v93 v94 v95 v96 v97 v98 v99 v100 v101 v102 v103 v104 v105 v106 v107 v108 v109 v110 v111 v112 v113 v114 v115 v116 v117 v118 v119 v120 v121 v122 v123 v124 v125 v126 v127 v128 v129 v130 v131 v132 v133 v134 v135 v136 v137 v138 v139 v140 v141 v142 v143 v144 v145 v146 v147 v148 v149 v150 v151 v152 v153 v154 v155 v156 v157 v158 v159 v160 v161 v162 v163 v164 v165 v166 v167 v168 v169 v170 v171 v172 v173 v174 v175 v176 v177 v178 v179 v180 v181 v182 v183 v184 v185 v186 v187 v188 v189 v190 v191 v192 v193 v194 v195 v196 v197 : Value} (V : Nat → Value) : fillT su10Ops #[v0, v1, v2, v3, v4, v5, v6, v7, v8, v9, v10, v11, v12, v13, v14, v15, v16, v17, v18, v19, v20, v21, v22, v23, v24, v25, v26, v27, v28, v29, v30, v31, v32, v33, v34, v35, v36, v37, v38, v39, v40, v41, v42, v43, v44, v45, v46, v47, v48, v49, v50, v51, v52, v53, v54, v55, v56, v57, v58, v59, v60, v61, v62, v63, v64, v65, v66, v67, v68, v69, v70, v71, v72, v73, v74, v75, v76, v77, v78, v79, v80, v81, v82, v83, v84, v85, v86, v87, v88, v89, v90, v91, v92, v93, v94, v95, v96, v97, v98, v99, v100, v101, v102, v103, v104, v105, v106, v107, v108, v109, v110, v111, v112, v113, v114, v115, v116, v117, v118, v119, v120, v121, v122, v123, v124, v125, v126, v127, v128, v129, v130, v131, v132, v133, v134, v135, v136, v137, v138, v139, v140, v141, v142, v143, v144, v145, v146, v147, v148, v149, v150, v151, v152, v153, v154, v155, v156, v157, v158, v159, v160, v161, v162, v163, v164, v165, v166, v167, v168, v169, v170, v171, v172, v173, v174, v175, v176, v177, v178, v179, v180, v181, v182, v183, v184, v185, v186, v187, v188, v189, v190, v191, v192, v193, v194, v195, v196, v197] V = #[v0, v1, v2, v3, v4, v5, v6, v7, v8, v9, v10, v11, v12, v13, v14, v15, v16, v17, v18, v19, v20, v21, v22, v23, v24, v25, v26, v27, v28, v29, v30, v31, v32, v33, v34, v35, v36, v37, v38, v39, v40, v41, v42, v43, v44, v45, v46, v47, v48, v49, v50, v51, v52, v53, v54, v55, v56, v57, v58, v59, v60, v61, v62, v63, v64, v65, v66, v67, v68, v69, v70, v71, v72, v73, v74, V 0, V 1, V 2, V 3, V 4, V 5, V 6, V 7, V 8, V 9, V 10, V 11, V 12, V 13, V 14, V 15, V 16, V 17, V 18, V 19, V 20, V 21, V 22, V 23, V 24, V 25, V 26, V 27, V 28, V 29, V 30, V 31, V 32, V 33, V 34, V 35, V 36, V 37, V 38, V 39, V 40, V 41, V 42, V 43, v119, v120, v121, v122, v123, v124, v125, v126, v127, v128, v129, v130, v131, v132, v133, v134, v135, v136, v137, v138, v139, v140, v141, v142, v143, v144, v145, v146, v147, v148, v149, v150, v151, v152, v153, v154, v155, v156, v157, v158, v159, v160, v161, v162, v163, v164, v165, v166, v167, v168, v169, v170, v171, v172, v173, v174, v175, v176, v177, v178, v179, v180, v181, v182, v183, v184, v185, v186, v187, v188, v189, v190, v191, v192, v193, v194, v195, v196, v197] := by
  kernel_rfl
def su10L (a b s mb lb k n er : Int) (p13 : Nat) (ε β : Bool) (e1 : Hid ((er == 0) = ε)) (hβ : Hid (decide (0 ≤ b) = β)) (hγ : Hid (decide (b < 0) = !β)) (hmx : Hid (β = true → max b 0 = b)) (hmb : Hid (β = true → IntKind.i64.wrap (9223372036854775807 - b) = mb)) (hle : Hid (β = true → decide (a ≤ mb) = ε)) (hmn : Hid (β = false → min b 0 = b)) (hlb : Hid (β = false → IntKind.i64.wrap (-9223372036854775808 - b) = lb)) (hge : Hid (β = false → decide (lb ≤ a) = ε)) (hsm : Hid (ε = true → IntKind.i64.wrap (a + b) = s)) (hv : Hid (ε = true → (!sameV k n ⟨#[]⟩ 1 s ⟨#[]⟩) = false)) (cm : Hid (ε = true → BothIs ⟨#[45]⟩ k n ⟨#[]⟩ 1 b ⟨#[]⟩ 1 a ⟨#[]⟩)) : List (Value → World → Prop) := [IsV (.int .i64 er), IsV (cond ε (.bool true) (.bool false)), IsV (.int .i64 b), IsV (cond β (.bool true) (.bool false)), IsV (cond β (.bool true) (.bool false)), IsV (cond β (.int .i64 a) (undef)), IsV (cond β (.int .i64 b) (undef)), IsV (cond β (.int .i64 b) (undef)), IsV (cond β (.int .i64 mb) (undef)), IsV (cond β (cond ε (.bool true) (.bool false)) (undef)), IsV (cond β (cond ε (.bool true) (.bool false)) (.bool false)), IsV (cond β (cond ε (.bool true) (.bool false)) (.bool false)), IsV (cond β (cond ε (undef) (.int .i64 b)) (.int .i64 b)), IsV (cond β (cond ε (undef) (.bool false)) (.bool true)), IsV (cond β (cond ε (undef) (.bool false)) (.bool true)), IsV (cond β (undef) (.int .i64 a)), IsV (cond β (undef) (.int .i64 b)), IsV (cond β (undef) (.int .i64 b)), IsV (cond β (undef) (.int .i64 lb)), IsV (cond β (undef) (cond ε (.bool true) (.bool false))), IsV (cond β (cond ε (undef) (.bool false)) (cond ε (.bool true) (.bool false))), IsV (cond ε (.bool true) (.bool false)), IsV (.bool false), IsV (.bool false), IsV (.int .i64 er), IsV (cond ε (.bool true) (.bool false)), IsV (cond ε (.bool true) (.bool false)), IsV (cond ε (vv k n ⟨#[]⟩) (undef)), IsV (cond ε (.int .i64 a) (undef)), IsV (cond ε (.int .i64 b) (undef)), IsV (cond ε (.int .i64 s) (undef)), IsV (cond ε (vv 1 s ⟨#[]⟩) (undef)), IsV (cond ε (.bool false) (undef)), IsV (cond ε (.bool false) (undef)), IsV (cond ε (vv k n ⟨#[]⟩) (undef)), IsV (cond ε (.int .i64 b) (undef)), IsV (cond ε (vv 1 b ⟨#[]⟩) (undef)), IsV (cond ε (vv 1 a ⟨#[]⟩) (undef)), IsV (cond ε (.int .i64 a) (undef)), IsV (cond ε (vv 1 a ⟨#[]⟩) (undef)), IsV (cond ε (.bool false) (undef)), IsV (cond ε (.bool false) (undef)), IsV (.bool false), IsV (.bool false)]
def su10F (a b s mb lb k n er : Int) (p13 : Nat) (ε β : Bool) (e1 : Hid ((er == 0) = ε)) (hβ : Hid (decide (0 ≤ b) = β)) (hγ : Hid (decide (b < 0) = !β)) (hmx : Hid (β = true → max b 0 = b)) (hmb : Hid (β = true → IntKind.i64.wrap (9223372036854775807 - b) = mb)) (hle : Hid (β = true → decide (a ≤ mb) = ε)) (hmn : Hid (β = false → min b 0 = b)) (hlb : Hid (β = false → IntKind.i64.wrap (-9223372036854775808 - b) = lb)) (hge : Hid (β = false → decide (lb ≤ a) = ε)) (hsm : Hid (ε = true → IntKind.i64.wrap (a + b) = s)) (hv : Hid (ε = true → (!sameV k n ⟨#[]⟩ 1 s ⟨#[]⟩) = false)) (cm : Hid (ε = true → BothIs ⟨#[45]⟩ k n ⟨#[]⟩ 1 b ⟨#[]⟩ 1 a ⟨#[]⟩)) (i : Nat) : Value → World → Prop := (su10L a b s mb lb k n er p13 ε β e1 hβ hγ hmx hmb hle hmn hlb hge hsm hv cm).getD i AnyF
theorem su10F_mono (a b s mb lb k n er : Int) (p13 : Nat) (ε β : Bool) (e1 : Hid ((er == 0) = ε)) (hβ : Hid (decide (0 ≤ b) = β)) (hγ : Hid (decide (b < 0) = !β)) (hmx : Hid (β = true → max b 0 = b)) (hmb : Hid (β = true → IntKind.i64.wrap (9223372036854775807 - b) = mb)) (hle : Hid (β = true → decide (a ≤ mb) = ε)) (hmn : Hid (β = false → min b 0 = b)) (hlb : Hid (β = false → IntKind.i64.wrap (-9223372036854775808 - b) = lb)) (hge : Hid (β = false → decide (lb ≤ a) = ε)) (hsm : Hid (ε = true → IntKind.i64.wrap (a + b) = s)) (hv : Hid (ε = true → (!sameV k n ⟨#[]⟩ 1 s ⟨#[]⟩) = false)) (cm : Hid (ε = true → BothIs ⟨#[45]⟩ k n ⟨#[]⟩ 1 b ⟨#[]⟩ 1 a ⟨#[]⟩)) (i : Nat) (v : Value) (w w' : World) (hp : (su10F a b s mb lb k n er p13 ε β e1 hβ hγ hmx hmb hle hmn hlb hge hsm hv cm) i v w) (hb : Below w.heap.size w w') : (su10F a b s mb lb k n er p13 ε β e1 hβ hγ hmx hmb hle hmn hlb hge hsm hv cm) i v w' := by
  refine monoL ?_ i v w w' hp hb
  unfold su10L
  simp only [List.forall_mem_cons]
  exact ⟨mono_isV _, mono_isV _, mono_isV _, mono_isV _, mono_isV _, mono_isV _, mono_isV _, mono_isV _, mono_isV _, mono_isV _, mono_isV _, mono_isV _, mono_isV _, mono_isV _, mono_isV _, mono_isV _, mono_isV _, mono_isV _, mono_isV _, mono_isV _, mono_isV _, mono_isV _, mono_isV _, mono_isV _, mono_isV _, mono_isV _, mono_isV _, mono_isV _, mono_isV _, mono_isV _, mono_isV _, mono_isV _, mono_isV _, mono_isV _, mono_isV _, mono_isV _, mono_isV _, mono_isV _, mono_isV _, mono_isV _, mono_isV _, mono_isV _, mono_isV _, mono_isV _, fun _ h => by cases h⟩
theorem su10_s0 {Q : Exit → Act → World → Prop} {w0 : World} {xs : Nat → Value} (a b s mb lb k n er : Int) (p13 : Nat) (ε β : Bool) (e1 : Hid ((er == 0) = ε)) (hβ : Hid (decide (0 ≤ b) = β)) (hγ : Hid (decide (b < 0) = !β)) (hmx : Hid (β = true → max b 0 = b)) (hmb : Hid (β = true → IntKind.i64.wrap (9223372036854775807 - b) = mb)) (hle : Hid (β = true → decide (a ≤ mb) = ε)) (hmn : Hid (β = false → min b 0 = b)) (hlb : Hid (β = false → IntKind.i64.wrap (-9223372036854775808 - b) = lb)) (hge : Hid (β = false → decide (lb ≤ a) = ε)) (hsm : Hid (ε = true → IntKind.i64.wrap (a + b) = s)) (hv : Hid (ε = true → (!sameV k n ⟨#[]⟩ 1 s ⟨#[]⟩) = false)) (cm : Hid (ε = true → BothIs ⟨#[45]⟩ k n ⟨#[]⟩ 1 b ⟨#[]⟩ 1 a ⟨#[]⟩)) (hb13 : BoxOn w0 p13 k n ⟨#[]⟩) (hx0 : xs 0 = .int .i64 a) (hx1 : xs 1 = .int .i64 b) (hx13 : xs 13 = .pointer (some ⟨p13, 0, none⟩)) (hx14 : xs 14 = .int .i64 er) : OpStep Tryz.prog su10Ops Q (su10F a b s mb lb k n er p13 ε β e1 hβ hγ hmx hmb hle hmn hlb hge hsm hv cm) w0 198 xs 0 := by
  intro act w hb hk hF
  have g14 : act.eval (.tmp 14) = .int .i64 er := (hk 14 (by decide) (by kernel_rfl)).trans hx14
  exact step_move (show opO su10Ops 0 = some (.move (.tmp 14)) by kernel_rfl) (.free (by kernel_rfl)) g14 ⟨rfl, Below.refl _ _⟩

theorem su10_s1 {Q : Exit → Act → World → Prop} {w0 : World} {xs : Nat → Value} (a b s mb lb k n er : Int) (p13 : Nat) (ε β : Bool) (e1 : Hid ((er == 0) = ε)) (hβ : Hid (decide (0 ≤ b) = β)) (hγ : Hid (decide (b < 0) = !β)) (hmx : Hid (β = true → max b 0 = b)) (hmb : Hid (β = true → IntKind.i64.wrap (9223372036854775807 - b) = mb)) (hle : Hid (β = true → decide (a ≤ mb) = ε)) (hmn : Hid (β = false → min b 0 = b)) (hlb : Hid (β = false → IntKind.i64.wrap (-9223372036854775808 - b) = lb)) (hge : Hid (β = false → decide (lb ≤ a) = ε)) (hsm : Hid (ε = true → IntKind.i64.wrap (a + b) = s)) (hv : Hid (ε = true → (!sameV k n ⟨#[]⟩ 1 s ⟨#[]⟩) = false)) (cm : Hid (ε = true → BothIs ⟨#[45]⟩ k n ⟨#[]⟩ 1 b ⟨#[]⟩ 1 a ⟨#[]⟩)) (hb13 : BoxOn w0 p13 k n ⟨#[]⟩) (hx0 : xs 0 = .int .i64 a) (hx1 : xs 1 = .int .i64 b) (hx13 : xs 13 = .pointer (some ⟨p13, 0, none⟩)) (hx14 : xs 14 = .int .i64 er) : OpStep Tryz.prog su10Ops Q (su10F a b s mb lb k n er p13 ε β e1 hβ hγ hmx hmb hle hmn hlb hge hsm hv cm) w0 198 xs 1 := by
  intro act w hb hk hF
  have g75 : act.eval (.tmp 75) = .int .i64 er := hF 0 (of_decide_eq_true (by kernel_rfl)) 75 (by kernel_rfl)
  cases ε
  · exact step_eqI (show opO su10Ops 1 = some (.binOp .eql 28 (.tmp 75) (.const (.int .i64 0)) 28) by kernel_rfl) (.free (by kernel_rfl)) g75 rfl e1.out ⟨rfl, Below.refl _ _⟩
  · exact step_eqI (show opO su10Ops 1 = some (.binOp .eql 28 (.tmp 75) (.const (.int .i64 0)) 28) by kernel_rfl) (.free (by kernel_rfl)) g75 rfl e1.out ⟨rfl, Below.refl _ _⟩

theorem su10_s2 {Q : Exit → Act → World → Prop} {w0 : World} {xs : Nat → Value} (a b s mb lb k n er : Int) (p13 : Nat) (ε β : Bool) (e1 : Hid ((er == 0) = ε)) (hβ : Hid (decide (0 ≤ b) = β)) (hγ : Hid (decide (b < 0) = !β)) (hmx : Hid (β = true → max b 0 = b)) (hmb : Hid (β = true → IntKind.i64.wrap (9223372036854775807 - b) = mb)) (hle : Hid (β = true → decide (a ≤ mb) = ε)) (hmn : Hid (β = false → min b 0 = b)) (hlb : Hid (β = false → IntKind.i64.wrap (-9223372036854775808 - b) = lb)) (hge : Hid (β = false → decide (lb ≤ a) = ε)) (hsm : Hid (ε = true → IntKind.i64.wrap (a + b) = s)) (hv : Hid (ε = true → (!sameV k n ⟨#[]⟩ 1 s ⟨#[]⟩) = false)) (cm : Hid (ε = true → BothIs ⟨#[45]⟩ k n ⟨#[]⟩ 1 b ⟨#[]⟩ 1 a ⟨#[]⟩)) (hb13 : BoxOn w0 p13 k n ⟨#[]⟩) (hx0 : xs 0 = .int .i64 a) (hx1 : xs 1 = .int .i64 b) (hx13 : xs 13 = .pointer (some ⟨p13, 0, none⟩)) (hx14 : xs 14 = .int .i64 er) : OpStep Tryz.prog su10Ops Q (su10F a b s mb lb k n er p13 ε β e1 hβ hγ hmx hmb hle hmn hlb hge hsm hv cm) w0 198 xs 2 := by
  intro act w hb hk hF
  have g1 : act.eval (.tmp 1) = .int .i64 b := (hk 1 (by decide) (by kernel_rfl)).trans hx1
  exact step_move (show opO su10Ops 2 = some (.move (.tmp 1)) by kernel_rfl) (.free (by kernel_rfl)) g1 ⟨rfl, Below.refl _ _⟩

theorem su10_s3 {Q : Exit → Act → World → Prop} {w0 : World} {xs : Nat → Value} (a b s mb lb k n er : Int) (p13 : Nat) (ε β : Bool) (e1 : Hid ((er == 0) = ε)) (hβ : Hid (decide (0 ≤ b) = β)) (hγ : Hid (decide (b < 0) = !β)) (hmx : Hid (β = true → max b 0 = b)) (hmb : Hid (β = true → IntKind.i64.wrap (9223372036854775807 - b) = mb)) (hle : Hid (β = true → decide (a ≤ mb) = ε)) (hmn : Hid (β = false → min b 0 = b)) (hlb : Hid (β = false → IntKind.i64.wrap (-9223372036854775808 - b) = lb)) (hge : Hid (β = false → decide (lb ≤ a) = ε)) (hsm : Hid (ε = true → IntKind.i64.wrap (a + b) = s)) (hv : Hid (ε = true → (!sameV k n ⟨#[]⟩ 1 s ⟨#[]⟩) = false)) (cm : Hid (ε = true → BothIs ⟨#[45]⟩ k n ⟨#[]⟩ 1 b ⟨#[]⟩ 1 a ⟨#[]⟩)) (hb13 : BoxOn w0 p13 k n ⟨#[]⟩) (hx0 : xs 0 = .int .i64 a) (hx1 : xs 1 = .int .i64 b) (hx13 : xs 13 = .pointer (some ⟨p13, 0, none⟩)) (hx14 : xs 14 = .int .i64 er) : OpStep Tryz.prog su10Ops Q (su10F a b s mb lb k n er p13 ε β e1 hβ hγ hmx hmb hle hmn hlb hge hsm hv cm) w0 198 xs 3 := by
  intro act w hb hk hF
  have g77 : act.eval (.tmp 77) = .int .i64 b := hF 2 (of_decide_eq_true (by kernel_rfl)) 77 (by kernel_rfl)
  cases β
  · exact step_geI (show opO su10Ops 3 = some (.binOp .geq 2 (.tmp 77) (.const (.int .i64 0)) 2) by kernel_rfl) (.free (by kernel_rfl)) g77 rfl hβ.out ⟨rfl, Below.refl _ _⟩
  · exact step_geI (show opO su10Ops 3 = some (.binOp .geq 2 (.tmp 77) (.const (.int .i64 0)) 2) by kernel_rfl) (.free (by kernel_rfl)) g77 rfl hβ.out ⟨rfl, Below.refl _ _⟩

theorem su10_s4 {Q : Exit → Act → World → Prop} {w0 : World} {xs : Nat → Value} (a b s mb lb k n er : Int) (p13 : Nat) (ε β : Bool) (e1 : Hid ((er == 0) = ε)) (hβ : Hid (decide (0 ≤ b) = β)) (hγ : Hid (decide (b < 0) = !β)) (hmx : Hid (β = true → max b 0 = b)) (hmb : Hid (β = true → IntKind.i64.wrap (9223372036854775807 - b) = mb)) (hle : Hid (β = true → decide (a ≤ mb) = ε)) (hmn : Hid (β = false → min b 0 = b)) (hlb : Hid (β = false → IntKind.i64.wrap (-9223372036854775808 - b) = lb)) (hge : Hid (β = false → decide (lb ≤ a) = ε)) (hsm : Hid (ε = true → IntKind.i64.wrap (a + b) = s)) (hv : Hid (ε = true → (!sameV k n ⟨#[]⟩ 1 s ⟨#[]⟩) = false)) (cm : Hid (ε = true → BothIs ⟨#[45]⟩ k n ⟨#[]⟩ 1 b ⟨#[]⟩ 1 a ⟨#[]⟩)) (hb13 : BoxOn w0 p13 k n ⟨#[]⟩) (hx0 : xs 0 = .int .i64 a) (hx1 : xs 1 = .int .i64 b) (hx13 : xs 13 = .pointer (some ⟨p13, 0, none⟩)) (hx14 : xs 14 = .int .i64 er) : OpStep Tryz.prog su10Ops Q (su10F a b s mb lb k n er p13 ε β e1 hβ hγ hmx hmb hle hmn hlb hge hsm hv cm) w0 198 xs 4 := by
  intro act w hb hk hF
  have g78 : act.eval (.tmp 78) = cond β (.bool true) (.bool false) := hF 3 (of_decide_eq_true (by kernel_rfl)) 78 (by kernel_rfl)
  exact step_move (show opO su10Ops 4 = some (.move (.tmp 78)) by kernel_rfl) (.free (by kernel_rfl)) g78 ⟨rfl, Below.refl _ _⟩

theorem su10_s5 {Q : Exit → Act → World → Prop} {w0 : World} {xs : Nat → Value} (a b s mb lb k n er : Int) (p13 : Nat) (ε β : Bool) (e1 : Hid ((er == 0) = ε)) (hβ : Hid (decide (0 ≤ b) = β)) (hγ : Hid (decide (b < 0) = !β)) (hmx : Hid (β = true → max b 0 = b)) (hmb : Hid (β = true → IntKind.i64.wrap (9223372036854775807 - b) = mb)) (hle : Hid (β = true → decide (a ≤ mb) = ε)) (hmn : Hid (β = false → min b 0 = b)) (hlb : Hid (β = false → IntKind.i64.wrap (-9223372036854775808 - b) = lb)) (hge : Hid (β = false → decide (lb ≤ a) = ε)) (hsm : Hid (ε = true → IntKind.i64.wrap (a + b) = s)) (hv : Hid (ε = true → (!sameV k n ⟨#[]⟩ 1 s ⟨#[]⟩) = false)) (cm : Hid (ε = true → BothIs ⟨#[45]⟩ k n ⟨#[]⟩ 1 b ⟨#[]⟩ 1 a ⟨#[]⟩)) (hb13 : BoxOn w0 p13 k n ⟨#[]⟩) (hx0 : xs 0 = .int .i64 a) (hx1 : xs 1 = .int .i64 b) (hx13 : xs 13 = .pointer (some ⟨p13, 0, none⟩)) (hx14 : xs 14 = .int .i64 er) : OpStep Tryz.prog su10Ops Q (su10F a b s mb lb k n er p13 ε β e1 hβ hγ hmx hmb hle hmn hlb hge hsm hv cm) w0 198 xs 5 := by
  intro act w hb hk hF
  have g79 : act.eval (.tmp 79) = cond β (.bool true) (.bool false) := hF 4 (of_decide_eq_true (by kernel_rfl)) 79 (by kernel_rfl)
  have g0 : act.eval (.tmp 0) = .int .i64 a := (hk 0 (by decide) (by kernel_rfl)).trans hx0
  cases β
  · exact step_off (of_decide_eq_true (by kernel_rfl)) (.told 4 true 79 (by kernel_rfl) (by kernel_rfl) g79) ⟨rfl, Below.refl _ _⟩
  · exact step_move (show opO su10Ops 5 = some (.move (.tmp 0)) by kernel_rfl) (.told 4 true 79 (by kernel_rfl) (by kernel_rfl) g79) g0 ⟨rfl, Below.refl _ _⟩

theorem su10_s6 {Q : Exit → Act → World → Prop} {w0 : World} {xs : Nat → Value} (a b s mb lb k n er : Int) (p13 : Nat) (ε β : Bool) (e1 : Hid ((er == 0) = ε)) (hβ : Hid (decide (0 ≤ b) = β)) (hγ : Hid (decide (b < 0) = !β)) (hmx : Hid (β = true → max b 0 = b)) (hmb : Hid (β = true → IntKind.i64.wrap (9223372036854775807 - b) = mb)) (hle : Hid (β = true → decide (a ≤ mb) = ε)) (hmn : Hid (β = false → min b 0 = b)) (hlb : Hid (β = false → IntKind.i64.wrap (-9223372036854775808 - b) = lb)) (hge : Hid (β = false → decide (lb ≤ a) = ε)) (hsm : Hid (ε = true → IntKind.i64.wrap (a + b) = s)) (hv : Hid (ε = true → (!sameV k n ⟨#[]⟩ 1 s ⟨#[]⟩) = false)) (cm : Hid (ε = true → BothIs ⟨#[45]⟩ k n ⟨#[]⟩ 1 b ⟨#[]⟩ 1 a ⟨#[]⟩)) (hb13 : BoxOn w0 p13 k n ⟨#[]⟩) (hx0 : xs 0 = .int .i64 a) (hx1 : xs 1 = .int .i64 b) (hx13 : xs 13 = .pointer (some ⟨p13, 0, none⟩)) (hx14 : xs 14 = .int .i64 er) : OpStep Tryz.prog su10Ops Q (su10F a b s mb lb k n er p13 ε β e1 hβ hγ hmx hmb hle hmn hlb hge hsm hv cm) w0 198 xs 6 := by
  intro act w hb hk hF
  have g79 : act.eval (.tmp 79) = cond β (.bool true) (.bool false) := hF 4 (of_decide_eq_true (by kernel_rfl)) 79 (by kernel_rfl)
  have g1 : act.eval (.tmp 1) = .int .i64 b := (hk 1 (by decide) (by kernel_rfl)).trans hx1
  cases β
  · exact step_off (of_decide_eq_true (by kernel_rfl)) (.told 4 true 79 (by kernel_rfl) (by kernel_rfl) g79) ⟨rfl, Below.refl _ _⟩
  · exact step_move (show opO su10Ops 6 = some (.move (.tmp 1)) by kernel_rfl) (.told 4 true 79 (by kernel_rfl) (by kernel_rfl) g79) g1 ⟨rfl, Below.refl _ _⟩

theorem su10_s7 {Q : Exit → Act → World → Prop} {w0 : World} {xs : Nat → Value} (a b s mb lb k n er : Int) (p13 : Nat) (ε β : Bool) (e1 : Hid ((er == 0) = ε)) (hβ : Hid (decide (0 ≤ b) = β)) (hγ : Hid (decide (b < 0) = !β)) (hmx : Hid (β = true → max b 0 = b)) (hmb : Hid (β = true → IntKind.i64.wrap (9223372036854775807 - b) = mb)) (hle : Hid (β = true → decide (a ≤ mb) = ε)) (hmn : Hid (β = false → min b 0 = b)) (hlb : Hid (β = false → IntKind.i64.wrap (-9223372036854775808 - b) = lb)) (hge : Hid (β = false → decide (lb ≤ a) = ε)) (hsm : Hid (ε = true → IntKind.i64.wrap (a + b) = s)) (hv : Hid (ε = true → (!sameV k n ⟨#[]⟩ 1 s ⟨#[]⟩) = false)) (cm : Hid (ε = true → BothIs ⟨#[45]⟩ k n ⟨#[]⟩ 1 b ⟨#[]⟩ 1 a ⟨#[]⟩)) (hb13 : BoxOn w0 p13 k n ⟨#[]⟩) (hx0 : xs 0 = .int .i64 a) (hx1 : xs 1 = .int .i64 b) (hx13 : xs 13 = .pointer (some ⟨p13, 0, none⟩)) (hx14 : xs 14 = .int .i64 er) : OpStep Tryz.prog su10Ops Q (su10F a b s mb lb k n er p13 ε β e1 hβ hγ hmx hmb hle hmn hlb hge hsm hv cm) w0 198 xs 7 := by
  intro act w hb hk hF
  have g79 : act.eval (.tmp 79) = cond β (.bool true) (.bool false) := hF 4 (of_decide_eq_true (by kernel_rfl)) 79 (by kernel_rfl)
  have g81 : act.eval (.tmp 81) = cond β (.int .i64 b) (undef) := hF 6 (of_decide_eq_true (by kernel_rfl)) 81 (by kernel_rfl)
  cases β
  · exact step_off (of_decide_eq_true (by kernel_rfl)) (.told 4 true 79 (by kernel_rfl) (by kernel_rfl) g79) ⟨rfl, Below.refl _ _⟩
  · exact step_max (show opO su10Ops 7 = some (.call { callee := .builtin .max, args := #[.tmp 81, .const (.int .i64 0)], argTypes := #[2, 2] }) by kernel_rfl) (.told 4 true 79 (by kernel_rfl) (by kernel_rfl) g79) g81 rfl (hmx.out rfl) ⟨rfl, Below.refl _ _⟩

theorem su10_s8 {Q : Exit → Act → World → Prop} {w0 : World} {xs : Nat → Value} (a b s mb lb k n er : Int) (p13 : Nat) (ε β : Bool) (e1 : Hid ((er == 0) = ε)) (hβ : Hid (decide (0 ≤ b) = β)) (hγ : Hid (decide (b < 0) = !β)) (hmx : Hid (β = true → max b 0 = b)) (hmb : Hid (β = true → IntKind.i64.wrap (9223372036854775807 - b) = mb)) (hle : Hid (β = true → decide (a ≤ mb) = ε)) (hmn : Hid (β = false → min b 0 = b)) (hlb : Hid (β = false → IntKind.i64.wrap (-9223372036854775808 - b) = lb)) (hge : Hid (β = false → decide (lb ≤ a) = ε)) (hsm : Hid (ε = true → IntKind.i64.wrap (a + b) = s)) (hv : Hid (ε = true → (!sameV k n ⟨#[]⟩ 1 s ⟨#[]⟩) = false)) (cm : Hid (ε = true → BothIs ⟨#[45]⟩ k n ⟨#[]⟩ 1 b ⟨#[]⟩ 1 a ⟨#[]⟩)) (hb13 : BoxOn w0 p13 k n ⟨#[]⟩) (hx0 : xs 0 = .int .i64 a) (hx1 : xs 1 = .int .i64 b) (hx13 : xs 13 = .pointer (some ⟨p13, 0, none⟩)) (hx14 : xs 14 = .int .i64 er) : OpStep Tryz.prog su10Ops Q (su10F a b s mb lb k n er p13 ε β e1 hβ hγ hmx hmb hle hmn hlb hge hsm hv cm) w0 198 xs 8 := by
  intro act w hb hk hF
  have g79 : act.eval (.tmp 79) = cond β (.bool true) (.bool false) := hF 4 (of_decide_eq_true (by kernel_rfl)) 79 (by kernel_rfl)
  have g82 : act.eval (.tmp 82) = cond β (.int .i64 b) (undef) := hF 7 (of_decide_eq_true (by kernel_rfl)) 82 (by kernel_rfl)
  cases β
  · exact step_off (of_decide_eq_true (by kernel_rfl)) (.told 4 true 79 (by kernel_rfl) (by kernel_rfl) g79) ⟨rfl, Below.refl _ _⟩
  · exact step_subI (show opO su10Ops 8 = some (.binOp .sub 2 (.const (.int .i64 9223372036854775807)) (.tmp 82) 2) by kernel_rfl) (.told 4 true 79 (by kernel_rfl) (by kernel_rfl) g79) rfl g82 (hmb.out rfl) ⟨rfl, Below.refl _ _⟩

theorem su10_s9 {Q : Exit → Act → World → Prop} {w0 : World} {xs : Nat → Value} (a b s mb lb k n er : Int) (p13 : Nat) (ε β : Bool) (e1 : Hid ((er == 0) = ε)) (hβ : Hid (decide (0 ≤ b) = β)) (hγ : Hid (decide (b < 0) = !β)) (hmx : Hid (β = true → max b 0 = b)) (hmb : Hid (β = true → IntKind.i64.wrap (9223372036854775807 - b) = mb)) (hle : Hid (β = true → decide (a ≤ mb) = ε)) (hmn : Hid (β = false → min b 0 = b)) (hlb : Hid (β = false → IntKind.i64.wrap (-9223372036854775808 - b) = lb)) (hge : Hid (β = false → decide (lb ≤ a) = ε)) (hsm : Hid (ε = true → IntKind.i64.wrap (a + b) = s)) (hv : Hid (ε = true → (!sameV k n ⟨#[]⟩ 1 s ⟨#[]⟩) = false)) (cm : Hid (ε = true → BothIs ⟨#[45]⟩ k n ⟨#[]⟩ 1 b ⟨#[]⟩ 1 a ⟨#[]⟩)) (hb13 : BoxOn w0 p13 k n ⟨#[]⟩) (hx0 : xs 0 = .int .i64 a) (hx1 : xs 1 = .int .i64 b) (hx13 : xs 13 = .pointer (some ⟨p13, 0, none⟩)) (hx14 : xs 14 = .int .i64 er) : OpStep Tryz.prog su10Ops Q (su10F a b s mb lb k n er p13 ε β e1 hβ hγ hmx hmb hle hmn hlb hge hsm hv cm) w0 198 xs 9 := by
  intro act w hb hk hF
  have g79 : act.eval (.tmp 79) = cond β (.bool true) (.bool false) := hF 4 (of_decide_eq_true (by kernel_rfl)) 79 (by kernel_rfl)
  have g80 : act.eval (.tmp 80) = cond β (.int .i64 a) (undef) := hF 5 (of_decide_eq_true (by kernel_rfl)) 80 (by kernel_rfl)
  have g83 : act.eval (.tmp 83) = cond β (.int .i64 mb) (undef) := hF 8 (of_decide_eq_true (by kernel_rfl)) 83 (by kernel_rfl)
  cases β
  · cases ε
    · exact step_off (of_decide_eq_true (by kernel_rfl)) (.told 4 true 79 (by kernel_rfl) (by kernel_rfl) g79) ⟨rfl, Below.refl _ _⟩
    · exact step_off (of_decide_eq_true (by kernel_rfl)) (.told 4 true 79 (by kernel_rfl) (by kernel_rfl) g79) ⟨rfl, Below.refl _ _⟩
  · cases ε
    · exact step_leI (show opO su10Ops 9 = some (.binOp .leq 2 (.tmp 80) (.tmp 83) 2) by kernel_rfl) (.told 4 true 79 (by kernel_rfl) (by kernel_rfl) g79) g80 g83 (hle.out rfl) ⟨rfl, Below.refl _ _⟩
    · exact step_leI (show opO su10Ops 9 = some (.binOp .leq 2 (.tmp 80) (.tmp 83) 2) by kernel_rfl) (.told 4 true 79 (by kernel_rfl) (by kernel_rfl) g79) g80 g83 (hle.out rfl) ⟨rfl, Below.refl _ _⟩

theorem su10_s10 {Q : Exit → Act → World → Prop} {w0 : World} {xs : Nat → Value} (a b s mb lb k n er : Int) (p13 : Nat) (ε β : Bool) (e1 : Hid ((er == 0) = ε)) (hβ : Hid (decide (0 ≤ b) = β)) (hγ : Hid (decide (b < 0) = !β)) (hmx : Hid (β = true → max b 0 = b)) (hmb : Hid (β = true → IntKind.i64.wrap (9223372036854775807 - b) = mb)) (hle : Hid (β = true → decide (a ≤ mb) = ε)) (hmn : Hid (β = false → min b 0 = b)) (hlb : Hid (β = false → IntKind.i64.wrap (-9223372036854775808 - b) = lb)) (hge : Hid (β = false → decide (lb ≤ a) = ε)) (hsm : Hid (ε = true → IntKind.i64.wrap (a + b) = s)) (hv : Hid (ε = true → (!sameV k n ⟨#[]⟩ 1 s ⟨#[]⟩) = false)) (cm : Hid (ε = true → BothIs ⟨#[45]⟩ k n ⟨#[]⟩ 1 b ⟨#[]⟩ 1 a ⟨#[]⟩)) (hb13 : BoxOn w0 p13 k n ⟨#[]⟩) (hx0 : xs 0 = .int .i64 a) (hx1 : xs 1 = .int .i64 b) (hx13 : xs 13 = .pointer (some ⟨p13, 0, none⟩)) (hx14 : xs 14 = .int .i64 er) : OpStep Tryz.prog su10Ops Q (su10F a b s mb lb k n er p13 ε β e1 hβ hγ hmx hmb hle hmn hlb hge hsm hv cm) w0 198 xs 10 := by
  intro act w hb hk hF
  have g79 : act.eval (.tmp 79) = cond β (.bool true) (.bool false) := hF 4 (of_decide_eq_true (by kernel_rfl)) 79 (by kernel_rfl)
  have g84 : act.eval (.tmp 84) = cond β (cond ε (.bool true) (.bool false)) (undef) := hF 9 (of_decide_eq_true (by kernel_rfl)) 84 (by kernel_rfl)
  cases β
  · cases ε
    · exact step_pickF (show opO su10Ops 10 = some (.pick (.tmp 79) (.tmp 84) (.const (.bool false))) by kernel_rfl) (.free (by kernel_rfl)) g79 rfl ⟨rfl, Below.refl _ _⟩
    · exact step_pickF (show opO su10Ops 10 = some (.pick (.tmp 79) (.tmp 84) (.const (.bool false))) by kernel_rfl) (.free (by kernel_rfl)) g79 rfl ⟨rfl, Below.refl _ _⟩
  · cases ε
    · exact step_pickT (show opO su10Ops 10 = some (.pick (.tmp 79) (.tmp 84) (.const (.bool false))) by kernel_rfl) (.free (by kernel_rfl)) g79 g84 ⟨rfl, Below.refl _ _⟩
    · exact step_pickT (show opO su10Ops 10 = some (.pick (.tmp 79) (.tmp 84) (.const (.bool false))) by kernel_rfl) (.free (by kernel_rfl)) g79 g84 ⟨rfl, Below.refl _ _⟩

theorem su10_s11 {Q : Exit → Act → World → Prop} {w0 : World} {xs : Nat → Value} (a b s mb lb k n er : Int) (p13 : Nat) (ε β : Bool) (e1 : Hid ((er == 0) = ε)) (hβ : Hid (decide (0 ≤ b) = β)) (hγ : Hid (decide (b < 0) = !β)) (hmx : Hid (β = true → max b 0 = b)) (hmb : Hid (β = true → IntKind.i64.wrap (9223372036854775807 - b) = mb)) (hle : Hid (β = true → decide (a ≤ mb) = ε)) (hmn : Hid (β = false → min b 0 = b)) (hlb : Hid (β = false → IntKind.i64.wrap (-9223372036854775808 - b) = lb)) (hge : Hid (β = false → decide (lb ≤ a) = ε)) (hsm : Hid (ε = true → IntKind.i64.wrap (a + b) = s)) (hv : Hid (ε = true → (!sameV k n ⟨#[]⟩ 1 s ⟨#[]⟩) = false)) (cm : Hid (ε = true → BothIs ⟨#[45]⟩ k n ⟨#[]⟩ 1 b ⟨#[]⟩ 1 a ⟨#[]⟩)) (hb13 : BoxOn w0 p13 k n ⟨#[]⟩) (hx0 : xs 0 = .int .i64 a) (hx1 : xs 1 = .int .i64 b) (hx13 : xs 13 = .pointer (some ⟨p13, 0, none⟩)) (hx14 : xs 14 = .int .i64 er) : OpStep Tryz.prog su10Ops Q (su10F a b s mb lb k n er p13 ε β e1 hβ hγ hmx hmb hle hmn hlb hge hsm hv cm) w0 198 xs 11 := by
  intro act w hb hk hF
  have g85 : act.eval (.tmp 85) = cond β (cond ε (.bool true) (.bool false)) (.bool false) := hF 10 (of_decide_eq_true (by kernel_rfl)) 85 (by kernel_rfl)
  exact step_move (show opO su10Ops 11 = some (.move (.tmp 85)) by kernel_rfl) (.free (by kernel_rfl)) g85 ⟨rfl, Below.refl _ _⟩

theorem su10_s12 {Q : Exit → Act → World → Prop} {w0 : World} {xs : Nat → Value} (a b s mb lb k n er : Int) (p13 : Nat) (ε β : Bool) (e1 : Hid ((er == 0) = ε)) (hβ : Hid (decide (0 ≤ b) = β)) (hγ : Hid (decide (b < 0) = !β)) (hmx : Hid (β = true → max b 0 = b)) (hmb : Hid (β = true → IntKind.i64.wrap (9223372036854775807 - b) = mb)) (hle : Hid (β = true → decide (a ≤ mb) = ε)) (hmn : Hid (β = false → min b 0 = b)) (hlb : Hid (β = false → IntKind.i64.wrap (-9223372036854775808 - b) = lb)) (hge : Hid (β = false → decide (lb ≤ a) = ε)) (hsm : Hid (ε = true → IntKind.i64.wrap (a + b) = s)) (hv : Hid (ε = true → (!sameV k n ⟨#[]⟩ 1 s ⟨#[]⟩) = false)) (cm : Hid (ε = true → BothIs ⟨#[45]⟩ k n ⟨#[]⟩ 1 b ⟨#[]⟩ 1 a ⟨#[]⟩)) (hb13 : BoxOn w0 p13 k n ⟨#[]⟩) (hx0 : xs 0 = .int .i64 a) (hx1 : xs 1 = .int .i64 b) (hx13 : xs 13 = .pointer (some ⟨p13, 0, none⟩)) (hx14 : xs 14 = .int .i64 er) : OpStep Tryz.prog su10Ops Q (su10F a b s mb lb k n er p13 ε β e1 hβ hγ hmx hmb hle hmn hlb hge hsm hv cm) w0 198 xs 12 := by
  intro act w hb hk hF
  have g86 : act.eval (.tmp 86) = cond β (cond ε (.bool true) (.bool false)) (.bool false) := hF 11 (of_decide_eq_true (by kernel_rfl)) 86 (by kernel_rfl)
  have g1 : act.eval (.tmp 1) = .int .i64 b := (hk 1 (by decide) (by kernel_rfl)).trans hx1
  cases β
  · cases ε
    · exact step_move (show opO su10Ops 12 = some (.move (.tmp 1)) by kernel_rfl) (.told 11 false 86 (by kernel_rfl) (by kernel_rfl) g86) g1 ⟨rfl, Below.refl _ _⟩
    · exact step_move (show opO su10Ops 12 = some (.move (.tmp 1)) by kernel_rfl) (.told 11 false 86 (by kernel_rfl) (by kernel_rfl) g86) g1 ⟨rfl, Below.refl _ _⟩
  · cases ε
    · exact step_move (show opO su10Ops 12 = some (.move (.tmp 1)) by kernel_rfl) (.told 11 false 86 (by kernel_rfl) (by kernel_rfl) g86) g1 ⟨rfl, Below.refl _ _⟩
    · exact step_off (of_decide_eq_true (by kernel_rfl)) (.told 11 false 86 (by kernel_rfl) (by kernel_rfl) g86) ⟨rfl, Below.refl _ _⟩

theorem su10_s13 {Q : Exit → Act → World → Prop} {w0 : World} {xs : Nat → Value} (a b s mb lb k n er : Int) (p13 : Nat) (ε β : Bool) (e1 : Hid ((er == 0) = ε)) (hβ : Hid (decide (0 ≤ b) = β)) (hγ : Hid (decide (b < 0) = !β)) (hmx : Hid (β = true → max b 0 = b)) (hmb : Hid (β = true → IntKind.i64.wrap (9223372036854775807 - b) = mb)) (hle : Hid (β = true → decide (a ≤ mb) = ε)) (hmn : Hid (β = false → min b 0 = b)) (hlb : Hid (β = false → IntKind.i64.wrap (-9223372036854775808 - b) = lb)) (hge : Hid (β = false → decide (lb ≤ a) = ε)) (hsm : Hid (ε = true → IntKind.i64.wrap (a + b) = s)) (hv : Hid (ε = true → (!sameV k n ⟨#[]⟩ 1 s ⟨#[]⟩) = false)) (cm : Hid (ε = true → BothIs ⟨#[45]⟩ k n ⟨#[]⟩ 1 b ⟨#[]⟩ 1 a ⟨#[]⟩)) (hb13 : BoxOn w0 p13 k n ⟨#[]⟩) (hx0 : xs 0 = .int .i64 a) (hx1 : xs 1 = .int .i64 b) (hx13 : xs 13 = .pointer (some ⟨p13, 0, none⟩)) (hx14 : xs 14 = .int .i64 er) : OpStep Tryz.prog su10Ops Q (su10F a b s mb lb k n er p13 ε β e1 hβ hγ hmx hmb hle hmn hlb hge hsm hv cm) w0 198 xs 13 := by
  intro act w hb hk hF
  have g86 : act.eval (.tmp 86) = cond β (cond ε (.bool true) (.bool false)) (.bool false) := hF 11 (of_decide_eq_true (by kernel_rfl)) 86 (by kernel_rfl)
  have g87 : act.eval (.tmp 87) = cond β (cond ε (undef) (.int .i64 b)) (.int .i64 b) := hF 12 (of_decide_eq_true (by kernel_rfl)) 87 (by kernel_rfl)
  cases β
  · cases ε
    · exact step_ltI (show opO su10Ops 13 = some (.binOp .lss 2 (.tmp 87) (.const (.int .i64 0)) 2) by kernel_rfl) (.told 11 false 86 (by kernel_rfl) (by kernel_rfl) g86) g87 rfl hγ.out ⟨rfl, Below.refl _ _⟩
    · exact step_ltI (show opO su10Ops 13 = some (.binOp .lss 2 (.tmp 87) (.const (.int .i64 0)) 2) by kernel_rfl) (.told 11 false 86 (by kernel_rfl) (by kernel_rfl) g86) g87 rfl hγ.out ⟨rfl, Below.refl _ _⟩
  · cases ε
    · exact step_ltI (show opO su10Ops 13 = some (.binOp .lss 2 (.tmp 87) (.const (.int .i64 0)) 2) by kernel_rfl) (.told 11 false 86 (by kernel_rfl) (by kernel_rfl) g86) g87 rfl hγ.out ⟨rfl, Below.refl _ _⟩
    · exact step_off (of_decide_eq_true (by kernel_rfl)) (.told 11 false 86 (by kernel_rfl) (by kernel_rfl) g86) ⟨rfl, Below.refl _ _⟩

theorem su10_s14 {Q : Exit → Act → World → Prop} {w0 : World} {xs : Nat → Value} (a b s mb lb k n er : Int) (p13 : Nat) (ε β : Bool) (e1 : Hid ((er == 0) = ε)) (hβ : Hid (decide (0 ≤ b) = β)) (hγ : Hid (decide (b < 0) = !β)) (hmx : Hid (β = true → max b 0 = b)) (hmb : Hid (β = true → IntKind.i64.wrap (9223372036854775807 - b) = mb)) (hle : Hid (β = true → decide (a ≤ mb) = ε)) (hmn : Hid (β = false → min b 0 = b)) (hlb : Hid (β = false → IntKind.i64.wrap (-9223372036854775808 - b) = lb)) (hge : Hid (β = false → decide (lb ≤ a) = ε)) (hsm : Hid (ε = true → IntKind.i64.wrap (a + b) = s)) (hv : Hid (ε = true → (!sameV k n ⟨#[]⟩ 1 s ⟨#[]⟩) = false)) (cm : Hid (ε = true → BothIs ⟨#[45]⟩ k n ⟨#[]⟩ 1 b ⟨#[]⟩ 1 a ⟨#[]⟩)) (hb13 : BoxOn w0 p13 k n ⟨#[]⟩) (hx0 : xs 0 = .int .i64 a) (hx1 : xs 1 = .int .i64 b) (hx13 : xs 13 = .pointer (some ⟨p13, 0, none⟩)) (hx14 : xs 14 = .int .i64 er) : OpStep Tryz.prog su10Ops Q (su10F a b s mb lb k n er p13 ε β e1 hβ hγ hmx hmb hle hmn hlb hge hsm hv cm) w0 198 xs 14 := by
  intro act w hb hk hF
  have g86 : act.eval (.tmp 86) = cond β (cond ε (.bool true) (.bool false)) (.bool false) := hF 11 (of_decide_eq_true (by kernel_rfl)) 86 (by kernel_rfl)
  have g88 : act.eval (.tmp 88) = cond β (cond ε (undef) (.bool false)) (.bool true) := hF 13 (of_decide_eq_true (by kernel_rfl)) 88 (by kernel_rfl)
  cases β
  · cases ε
    · exact step_move (show opO su10Ops 14 = some (.move (.tmp 88)) by kernel_rfl) (.told 11 false 86 (by kernel_rfl) (by kernel_rfl) g86) g88 ⟨rfl, Below.refl _ _⟩
    · exact step_move (show opO su10Ops 14 = some (.move (.tmp 88)) by kernel_rfl) (.told 11 false 86 (by kernel_rfl) (by kernel_rfl) g86) g88 ⟨rfl, Below.refl _ _⟩
  · cases ε
    · exact step_move (show opO su10Ops 14 = some (.move (.tmp 88)) by kernel_rfl) (.told 11 false 86 (by kernel_rfl) (by kernel_rfl) g86) g88 ⟨rfl, Below.refl _ _⟩
    · exact step_off (of_decide_eq_true (by kernel_rfl)) (.told 11 false 86 (by kernel_rfl) (by kernel_rfl) g86) ⟨rfl, Below.refl _ _⟩

theorem su10_s15 {Q : Exit → Act → World → Prop} {w0 : World} {xs : Nat → Value} (a b s mb lb k n er : Int) (p13 : Nat) (ε β : Bool) (e1 : Hid ((er == 0) = ε)) (hβ : Hid (decide (0 ≤ b) = β)) (hγ : Hid (decide (b < 0) = !β)) (hmx : Hid (β = true → max b 0 = b)) (hmb : Hid (β = true → IntKind.i64.wrap (9223372036854775807 - b) = mb)) (hle : Hid (β = true → decide (a ≤ mb) = ε)) (hmn : Hid (β = false → min b 0 = b)) (hlb : Hid (β = false → IntKind.i64.wrap (-9223372036854775808 - b) = lb)) (hge : Hid (β = false → decide (lb ≤ a) = ε)) (hsm : Hid (ε = true → IntKind.i64.wrap (a + b) = s)) (hv : Hid (ε = true → (!sameV k n ⟨#[]⟩ 1 s ⟨#[]⟩) = false)) (cm : Hid (ε = true → BothIs ⟨#[45]⟩ k n ⟨#[]⟩ 1 b ⟨#[]⟩ 1 a ⟨#[]⟩)) (hb13 : BoxOn w0 p13 k n ⟨#[]⟩) (hx0 : xs 0 = .int .i64 a) (hx1 : xs 1 = .int .i64 b) (hx13 : xs 13 = .pointer (some ⟨p13, 0, none⟩)) (hx14 : xs 14 = .int .i64 er) : OpStep Tryz.prog su10Ops Q (su10F a b s mb lb k n er p13 ε β e1 hβ hγ hmx hmb hle hmn hlb hge hsm hv cm) w0 198 xs 15 := by
  intro act w hb hk hF
  have g89 : act.eval (.tmp 89) = cond β (cond ε (undef) (.bool false)) (.bool true) := hF 14 (of_decide_eq_true (by kernel_rfl)) 89 (by kernel_rfl)
  have g0 : act.eval (.tmp 0) = .int .i64 a := (hk 0 (by decide) (by kernel_rfl)).trans hx0
  cases β
  · cases ε
    · exact step_move (show opO su10Ops 15 = some (.move (.tmp 0)) by kernel_rfl) (.told 14 true 89 (by kernel_rfl) (by kernel_rfl) g89) g0 ⟨rfl, Below.refl _ _⟩
    · exact step_move (show opO su10Ops 15 = some (.move (.tmp 0)) by kernel_rfl) (.told 14 true 89 (by kernel_rfl) (by kernel_rfl) g89) g0 ⟨rfl, Below.refl _ _⟩
  · cases ε
    · exact step_off (of_decide_eq_true (by kernel_rfl)) (.told 14 true 89 (by kernel_rfl) (by kernel_rfl) g89) ⟨rfl, Below.refl _ _⟩
    · exact step_off (of_decide_eq_true (by kernel_rfl)) (.off 14 true 89 (by kernel_rfl) (by kernel_rfl) g89) ⟨rfl, Below.refl _ _⟩

theorem su10_s16 {Q : Exit → Act → World → Prop} {w0 : World} {xs : Nat → Value} (a b s mb lb k n er : Int) (p13 : Nat) (ε β : Bool) (e1 : Hid ((er == 0) = ε)) (hβ : Hid (decide (0 ≤ b) = β)) (hγ : Hid (decide (b < 0) = !β)) (hmx : Hid (β = true → max b 0 = b)) (hmb : Hid (β = true → IntKind.i64.wrap (9223372036854775807 - b) = mb)) (hle : Hid (β = true → decide (a ≤ mb) = ε)) (hmn : Hid (β = false → min b 0 = b)) (hlb : Hid (β = false → IntKind.i64.wrap (-9223372036854775808 - b) = lb)) (hge : Hid (β = false → decide (lb ≤ a) = ε)) (hsm : Hid (ε = true → IntKind.i64.wrap (a + b) = s)) (hv : Hid (ε = true → (!sameV k n ⟨#[]⟩ 1 s ⟨#[]⟩) = false)) (cm : Hid (ε = true → BothIs ⟨#[45]⟩ k n ⟨#[]⟩ 1 b ⟨#[]⟩ 1 a ⟨#[]⟩)) (hb13 : BoxOn w0 p13 k n ⟨#[]⟩) (hx0 : xs 0 = .int .i64 a) (hx1 : xs 1 = .int .i64 b) (hx13 : xs 13 = .pointer (some ⟨p13, 0, none⟩)) (hx14 : xs 14 = .int .i64 er) : OpStep Tryz.prog su10Ops Q (su10F a b s mb lb k n er p13 ε β e1 hβ hγ hmx hmb hle hmn hlb hge hsm hv cm) w0 198 xs 16 := by
  intro act w hb hk hF
  have g89 : act.eval (.tmp 89) = cond β (cond ε (undef) (.bool false)) (.bool true) := hF 14 (of_decide_eq_true (by kernel_rfl)) 89 (by kernel_rfl)
  have g1 : act.eval (.tmp 1) = .int .i64 b := (hk 1 (by decide) (by kernel_rfl)).trans hx1
  cases β
  · cases ε
    · exact step_move (show opO su10Ops 16 = some (.move (.tmp 1)) by kernel_rfl) (.told 14 true 89 (by kernel_rfl) (by kernel_rfl) g89) g1 ⟨rfl, Below.refl _ _⟩
    · exact step_move (show opO su10Ops 16 = some (.move (.tmp 1)) by kernel_rfl) (.told 14 true 89 (by kernel_rfl) (by kernel_rfl) g89) g1 ⟨rfl, Below.refl _ _⟩
  · cases ε
    · exact step_off (of_decide_eq_true (by kernel_rfl)) (.told 14 true 89 (by kernel_rfl) (by kernel_rfl) g89) ⟨rfl, Below.refl _ _⟩
    · exact step_off (of_decide_eq_true (by kernel_rfl)) (.off 14 true 89 (by kernel_rfl) (by kernel_rfl) g89) ⟨rfl, Below.refl _ _⟩

theorem su10_s17 {Q : Exit → Act → World → Prop} {w0 : World} {xs : Nat → Value} (a b s mb lb k n er : Int) (p13 : Nat) (ε β : Bool) (e1 : Hid ((er == 0) = ε)) (hβ : Hid (decide (0 ≤ b) = β)) (hγ : Hid (decide (b < 0) = !β)) (hmx : Hid (β = true → max b 0 = b)) (hmb : Hid (β = true → IntKind.i64.wrap (9223372036854775807 - b) = mb)) (hle : Hid (β = true → decide (a ≤ mb) = ε)) (hmn : Hid (β = false → min b 0 = b)) (hlb : Hid (β = false → IntKind.i64.wrap (-9223372036854775808 - b) = lb)) (hge : Hid (β = false → decide (lb ≤ a) = ε)) (hsm : Hid (ε = true → IntKind.i64.wrap (a + b) = s)) (hv : Hid (ε = true → (!sameV k n ⟨#[]⟩ 1 s ⟨#[]⟩) = false)) (cm : Hid (ε = true → BothIs ⟨#[45]⟩ k n ⟨#[]⟩ 1 b ⟨#[]⟩ 1 a ⟨#[]⟩)) (hb13 : BoxOn w0 p13 k n ⟨#[]⟩) (hx0 : xs 0 = .int .i64 a) (hx1 : xs 1 = .int .i64 b) (hx13 : xs 13 = .pointer (some ⟨p13, 0, none⟩)) (hx14 : xs 14 = .int .i64 er) : OpStep Tryz.prog su10Ops Q (su10F a b s mb lb k n er p13 ε β e1 hβ hγ hmx hmb hle hmn hlb hge hsm hv cm) w0 198 xs 17 := by
  intro act w hb hk hF
  have g89 : act.eval (.tmp 89) = cond β (cond ε (undef) (.bool false)) (.bool true) := hF 14 (of_decide_eq_true (by kernel_rfl)) 89 (by kernel_rfl)
  have g91 : act.eval (.tmp 91) = cond β (undef) (.int .i64 b) := hF 16 (of_decide_eq_true (by kernel_rfl)) 91 (by kernel_rfl)
  cases β
  · cases ε
    · exact step_min (show opO su10Ops 17 = some (.call { callee := .builtin .min, args := #[.tmp 91, .const (.int .i64 0)], argTypes := #[2, 2] }) by kernel_rfl) (.told 14 true 89 (by kernel_rfl) (by kernel_rfl) g89) g91 rfl (hmn.out rfl) ⟨rfl, Below.refl _ _⟩
    · exact step_min (show opO su10Ops 17 = some (.call { callee := .builtin .min, args := #[.tmp 91, .const (.int .i64 0)], argTypes := #[2, 2] }) by kernel_rfl) (.told 14 true 89 (by kernel_rfl) (by kernel_rfl) g89) g91 rfl (hmn.out rfl) ⟨rfl, Below.refl _ _⟩
  · cases ε
    · exact step_off (of_decide_eq_true (by kernel_rfl)) (.told 14 true 89 (by kernel_rfl) (by kernel_rfl) g89) ⟨rfl, Below.refl _ _⟩
    · exact step_off (of_decide_eq_true (by kernel_rfl)) (.off 14 true 89 (by kernel_rfl) (by kernel_rfl) g89) ⟨rfl, Below.refl _ _⟩

theorem su10_s18 {Q : Exit → Act → World → Prop} {w0 : World} {xs : Nat → Value} (a b s mb lb k n er : Int) (p13 : Nat) (ε β : Bool) (e1 : Hid ((er == 0) = ε)) (hβ : Hid (decide (0 ≤ b) = β)) (hγ : Hid (decide (b < 0) = !β)) (hmx : Hid (β = true → max b 0 = b)) (hmb : Hid (β = true → IntKind.i64.wrap (9223372036854775807 - b) = mb)) (hle : Hid (β = true → decide (a ≤ mb) = ε)) (hmn : Hid (β = false → min b 0 = b)) (hlb : Hid (β = false → IntKind.i64.wrap (-9223372036854775808 - b) = lb)) (hge : Hid (β = false → decide (lb ≤ a) = ε)) (hsm : Hid (ε = true → IntKind.i64.wrap (a + b) = s)) (hv : Hid (ε = true → (!sameV k n ⟨#[]⟩ 1 s ⟨#[]⟩) = false)) (cm : Hid (ε = true → BothIs ⟨#[45]⟩ k n ⟨#[]⟩ 1 b ⟨#[]⟩ 1 a ⟨#[]⟩)) (hb13 : BoxOn w0 p13 k n ⟨#[]⟩) (hx0 : xs 0 = .int .i64 a) (hx1 : xs 1 = .int .i64 b) (hx13 : xs 13 = .pointer (some ⟨p13, 0, none⟩)) (hx14 : xs 14 = .int .i64 er) : OpStep Tryz.prog su10Ops Q (su10F a b s mb lb k n er p13 ε β e1 hβ hγ hmx hmb hle hmn hlb hge hsm hv cm) w0 198 xs 18 := by
  intro act w hb hk hF
  have g89 : act.eval (.tmp 89) = cond β (cond ε (undef) (.bool false)) (.bool true) := hF 14 (of_decide_eq_true (by kernel_rfl)) 89 (by kernel_rfl)
  have g92 : act.eval (.tmp 92) = cond β (undef) (.int .i64 b) := hF 17 (of_decide_eq_true (by kernel_rfl)) 92 (by kernel_rfl)
  cases β
  · cases ε
    · exact step_subI (show opO su10Ops 18 = some (.binOp .sub 2 (.const (.int .i64 (-9223372036854775808))) (.tmp 92) 2) by kernel_rfl) (.told 14 true 89 (by kernel_rfl) (by kernel_rfl) g89) rfl g92 (hlb.out rfl) ⟨rfl, Below.refl _ _⟩
    · exact step_subI (show opO su10Ops 18 = some (.binOp .sub 2 (.const (.int .i64 (-9223372036854775808))) (.tmp 92) 2) by kernel_rfl) (.told 14 true 89 (by kernel_rfl) (by kernel_rfl) g89) rfl g92 (hlb.out rfl) ⟨rfl, Below.refl _ _⟩
  · cases ε
    · exact step_off (of_decide_eq_true (by kernel_rfl)) (.told 14 true 89 (by kernel_rfl) (by kernel_rfl) g89) ⟨rfl, Below.refl _ _⟩
    · exact step_off (of_decide_eq_true (by kernel_rfl)) (.off 14 true 89 (by kernel_rfl) (by kernel_rfl) g89) ⟨rfl, Below.refl _ _⟩

theorem su10_s19 {Q : Exit → Act → World → Prop} {w0 : World} {xs : Nat → Value} (a b s mb lb k n er : Int) (p13 : Nat) (ε β : Bool) (e1 : Hid ((er == 0) = ε)) (hβ : Hid (decide (0 ≤ b) = β)) (hγ : Hid (decide (b < 0) = !β)) (hmx : Hid (β = true → max b 0 = b)) (hmb : Hid (β = true → IntKind.i64.wrap (9223372036854775807 - b) = mb)) (hle : Hid (β = true → decide (a ≤ mb) = ε)) (hmn : Hid (β = false → min b 0 = b)) (hlb : Hid (β = false → IntKind.i64.wrap (-9223372036854775808 - b) = lb)) (hge : Hid (β = false → decide (lb ≤ a) = ε)) (hsm : Hid (ε = true → IntKind.i64.wrap (a + b) = s)) (hv : Hid (ε = true → (!sameV k n ⟨#[]⟩ 1 s ⟨#[]⟩) = false)) (cm : Hid (ε = true → BothIs ⟨#[45]⟩ k n ⟨#[]⟩ 1 b ⟨#[]⟩ 1 a ⟨#[]⟩)) (hb13 : BoxOn w0 p13 k n ⟨#[]⟩) (hx0 : xs 0 = .int .i64 a) (hx1 : xs 1 = .int .i64 b) (hx13 : xs 13 = .pointer (some ⟨p13, 0, none⟩)) (hx14 : xs 14 = .int .i64 er) : OpStep Tryz.prog su10Ops Q (su10F a b s mb lb k n er p13 ε β e1 hβ hγ hmx hmb hle hmn hlb hge hsm hv cm) w0 198 xs 19 := by
  intro act w hb hk hF
  have g89 : act.eval (.tmp 89) = cond β (cond ε (undef) (.bool false)) (.bool true) := hF 14 (of_decide_eq_true (by kernel_rfl)) 89 (by kernel_rfl)
  have g90 : act.eval (.tmp 90) = cond β (undef) (.int .i64 a) := hF 15 (of_decide_eq_true (by kernel_rfl)) 90 (by kernel_rfl)
  have g93 : act.eval (.tmp 93) = cond β (undef) (.int .i64 lb) := hF 18 (of_decide_eq_true (by kernel_rfl)) 93 (by kernel_rfl)
  cases β
  · cases ε
    · exact step_geI (show opO su10Ops 19 = some (.binOp .geq 2 (.tmp 90) (.tmp 93) 2) by kernel_rfl) (.told 14 true 89 (by kernel_rfl) (by kernel_rfl) g89) g90 g93 (hge.out rfl) ⟨rfl, Below.refl _ _⟩
    · exact step_geI (show opO su10Ops 19 = some (.binOp .geq 2 (.tmp 90) (.tmp 93) 2) by kernel_rfl) (.told 14 true 89 (by kernel_rfl) (by kernel_rfl) g89) g90 g93 (hge.out rfl) ⟨rfl, Below.refl _ _⟩
  · cases ε
    · exact step_off (of_decide_eq_true (by kernel_rfl)) (.told 14 true 89 (by kernel_rfl) (by kernel_rfl) g89) ⟨rfl, Below.refl _ _⟩
    · exact step_off (of_decide_eq_true (by kernel_rfl)) (.off 14 true 89 (by kernel_rfl) (by kernel_rfl) g89) ⟨rfl, Below.refl _ _⟩

theorem su10_s20 {Q : Exit → Act → World → Prop} {w0 : World} {xs : Nat → Value} (a b s mb lb k n er : Int) (p13 : Nat) (ε β : Bool) (e1 : Hid ((er == 0) = ε)) (hβ : Hid (decide (0 ≤ b) = β)) (hγ : Hid (decide (b < 0) = !β)) (hmx : Hid (β = true → max b 0 = b)) (hmb : Hid (β = true → IntKind.i64.wrap (9223372036854775807 - b) = mb)) (hle : Hid (β = true → decide (a ≤ mb) = ε)) (hmn : Hid (β = false → min b 0 = b)) (hlb : Hid (β = false → IntKind.i64.wrap (-9223372036854775808 - b) = lb)) (hge : Hid (β = false → decide (lb ≤ a) = ε)) (hsm : Hid (ε = true → IntKind.i64.wrap (a + b) = s)) (hv : Hid (ε = true → (!sameV k n ⟨#[]⟩ 1 s ⟨#[]⟩) = false)) (cm : Hid (ε = true → BothIs ⟨#[45]⟩ k n ⟨#[]⟩ 1 b ⟨#[]⟩ 1 a ⟨#[]⟩)) (hb13 : BoxOn w0 p13 k n ⟨#[]⟩) (hx0 : xs 0 = .int .i64 a) (hx1 : xs 1 = .int .i64 b) (hx13 : xs 13 = .pointer (some ⟨p13, 0, none⟩)) (hx14 : xs 14 = .int .i64 er) : OpStep Tryz.prog su10Ops Q (su10F a b s mb lb k n er p13 ε β e1 hβ hγ hmx hmb hle hmn hlb hge hsm hv cm) w0 198 xs 20 := by
  intro act w hb hk hF
  have g86 : act.eval (.tmp 86) = cond β (cond ε (.bool true) (.bool false)) (.bool false) := hF 11 (of_decide_eq_true (by kernel_rfl)) 86 (by kernel_rfl)
  have g89 : act.eval (.tmp 89) = cond β (cond ε (undef) (.bool false)) (.bool true) := hF 14 (of_decide_eq_true (by kernel_rfl)) 89 (by kernel_rfl)
  have g94 : act.eval (.tmp 94) = cond β (undef) (cond ε (.bool true) (.bool false)) := hF 19 (of_decide_eq_true (by kernel_rfl)) 94 (by kernel_rfl)
  cases β
  · cases ε
    · exact step_pickT (show opO su10Ops 20 = some (.pick (.tmp 89) (.tmp 94) (.const (.bool false))) by kernel_rfl) (.told 11 false 86 (by kernel_rfl) (by kernel_rfl) g86) g89 g94 ⟨rfl, Below.refl _ _⟩
    · exact step_pickT (show opO su10Ops 20 = some (.pick (.tmp 89) (.tmp 94) (.const (.bool false))) by kernel_rfl) (.told 11 false 86 (by kernel_rfl) (by kernel_rfl) g86) g89 g94 ⟨rfl, Below.refl _ _⟩
  · cases ε
    · exact step_pickF (show opO su10Ops 20 = some (.pick (.tmp 89) (.tmp 94) (.const (.bool false))) by kernel_rfl) (.told 11 false 86 (by kernel_rfl) (by kernel_rfl) g86) g89 rfl ⟨rfl, Below.refl _ _⟩
    · exact step_off (of_decide_eq_true (by kernel_rfl)) (.told 11 false 86 (by kernel_rfl) (by kernel_rfl) g86) ⟨rfl, Below.refl _ _⟩

theorem su10_s21 {Q : Exit → Act → World → Prop} {w0 : World} {xs : Nat → Value} (a b s mb lb k n er : Int) (p13 : Nat) (ε β : Bool) (e1 : Hid ((er == 0) = ε)) (hβ : Hid (decide (0 ≤ b) = β)) (hγ : Hid (decide (b < 0) = !β)) (hmx : Hid (β = true → max b 0 = b)) (hmb : Hid (β = true → IntKind.i64.wrap (9223372036854775807 - b) = mb)) (hle : Hid (β = true → decide (a ≤ mb) = ε)) (hmn : Hid (β = false → min b 0 = b)) (hlb : Hid (β = false → IntKind.i64.wrap (-9223372036854775808 - b) = lb)) (hge : Hid (β = false → decide (lb ≤ a) = ε)) (hsm : Hid (ε = true → IntKind.i64.wrap (a + b) = s)) (hv : Hid (ε = true → (!sameV k n ⟨#[]⟩ 1 s ⟨#[]⟩) = false)) (cm : Hid (ε = true → BothIs ⟨#[45]⟩ k n ⟨#[]⟩ 1 b ⟨#[]⟩ 1 a ⟨#[]⟩)) (hb13 : BoxOn w0 p13 k n ⟨#[]⟩) (hx0 : xs 0 = .int .i64 a) (hx1 : xs 1 = .int .i64 b) (hx13 : xs 13 = .pointer (some ⟨p13, 0, none⟩)) (hx14 : xs 14 = .int .i64 er) : OpStep Tryz.prog su10Ops Q (su10F a b s mb lb k n er p13 ε β e1 hβ hγ hmx hmb hle hmn hlb hge hsm hv cm) w0 198 xs 21 := by
  intro act w hb hk hF
  have g86 : act.eval (.tmp 86) = cond β (cond ε (.bool true) (.bool false)) (.bool false) := hF 11 (of_decide_eq_true (by kernel_rfl)) 86 (by kernel_rfl)
  have g95 : act.eval (.tmp 95) = cond β (cond ε (undef) (.bool false)) (cond ε (.bool true) (.bool false)) := hF 20 (of_decide_eq_true (by kernel_rfl)) 95 (by kernel_rfl)
  cases β
  · cases ε
    · exact step_pickF (show opO su10Ops 21 = some (.pick (.tmp 86) (.const (.bool true)) (.tmp 95)) by kernel_rfl) (.free (by kernel_rfl)) g86 g95 ⟨rfl, Below.refl _ _⟩
    · exact step_pickF (show opO su10Ops 21 = some (.pick (.tmp 86) (.const (.bool true)) (.tmp 95)) by kernel_rfl) (.free (by kernel_rfl)) g86 g95 ⟨rfl, Below.refl _ _⟩
  · cases ε
    · exact step_pickF (show opO su10Ops 21 = some (.pick (.tmp 86) (.const (.bool true)) (.tmp 95)) by kernel_rfl) (.free (by kernel_rfl)) g86 g95 ⟨rfl, Below.refl _ _⟩
    · exact step_pickT (show opO su10Ops 21 = some (.pick (.tmp 86) (.const (.bool true)) (.tmp 95)) by kernel_rfl) (.free (by kernel_rfl)) g86 rfl ⟨rfl, Below.refl _ _⟩

theorem su10_s22 {Q : Exit → Act → World → Prop} {w0 : World} {xs : Nat → Value} (a b s mb lb k n er : Int) (p13 : Nat) (ε β : Bool) (e1 : Hid ((er == 0) = ε)) (hβ : Hid (decide (0 ≤ b) = β)) (hγ : Hid (decide (b < 0) = !β)) (hmx : Hid (β = true → max b 0 = b)) (hmb : Hid (β = true → IntKind.i64.wrap (9223372036854775807 - b) = mb)) (hle : Hid (β = true → decide (a ≤ mb) = ε)) (hmn : Hid (β = false → min b 0 = b)) (hlb : Hid (β = false → IntKind.i64.wrap (-9223372036854775808 - b) = lb)) (hge : Hid (β = false → decide (lb ≤ a) = ε)) (hsm : Hid (ε = true → IntKind.i64.wrap (a + b) = s)) (hv : Hid (ε = true → (!sameV k n ⟨#[]⟩ 1 s ⟨#[]⟩) = false)) (cm : Hid (ε = true → BothIs ⟨#[45]⟩ k n ⟨#[]⟩ 1 b ⟨#[]⟩ 1 a ⟨#[]⟩)) (hb13 : BoxOn w0 p13 k n ⟨#[]⟩) (hx0 : xs 0 = .int .i64 a) (hx1 : xs 1 = .int .i64 b) (hx13 : xs 13 = .pointer (some ⟨p13, 0, none⟩)) (hx14 : xs 14 = .int .i64 er) : OpStep Tryz.prog su10Ops Q (su10F a b s mb lb k n er p13 ε β e1 hβ hγ hmx hmb hle hmn hlb hge hsm hv cm) w0 198 xs 22 := by
  intro act w hb hk hF
  have g76 : act.eval (.tmp 76) = cond ε (.bool true) (.bool false) := hF 1 (of_decide_eq_true (by kernel_rfl)) 76 (by kernel_rfl)
  have g96 : act.eval (.tmp 96) = cond ε (.bool true) (.bool false) := hF 21 (of_decide_eq_true (by kernel_rfl)) 96 (by kernel_rfl)
  cases ε
  · exact step_neB (show opO su10Ops 22 = some (.binOp .neq 4 (.tmp 76) (.tmp 96) 4) by kernel_rfl) (.free (by kernel_rfl)) g76 g96 rfl ⟨rfl, Below.refl _ _⟩
  · exact step_neB (show opO su10Ops 22 = some (.binOp .neq 4 (.tmp 76) (.tmp 96) 4) by kernel_rfl) (.free (by kernel_rfl)) g76 g96 rfl ⟨rfl, Below.refl _ _⟩

theorem su10_s23 {Q : Exit → Act → World → Prop} {w0 : World} {xs : Nat → Value} (a b s mb lb k n er : Int) (p13 : Nat) (ε β : Bool) (e1 : Hid ((er == 0) = ε)) (hβ : Hid (decide (0 ≤ b) = β)) (hγ : Hid (decide (b < 0) = !β)) (hmx : Hid (β = true → max b 0 = b)) (hmb : Hid (β = true → IntKind.i64.wrap (9223372036854775807 - b) = mb)) (hle : Hid (β = true → decide (a ≤ mb) = ε)) (hmn : Hid (β = false → min b 0 = b)) (hlb : Hid (β = false → IntKind.i64.wrap (-9223372036854775808 - b) = lb)) (hge : Hid (β = false → decide (lb ≤ a) = ε)) (hsm : Hid (ε = true → IntKind.i64.wrap (a + b) = s)) (hv : Hid (ε = true → (!sameV k n ⟨#[]⟩ 1 s ⟨#[]⟩) = false)) (cm : Hid (ε = true → BothIs ⟨#[45]⟩ k n ⟨#[]⟩ 1 b ⟨#[]⟩ 1 a ⟨#[]⟩)) (hb13 : BoxOn w0 p13 k n ⟨#[]⟩) (hx0 : xs 0 = .int .i64 a) (hx1 : xs 1 = .int .i64 b) (hx13 : xs 13 = .pointer (some ⟨p13, 0, none⟩)) (hx14 : xs 14 = .int .i64 er) : OpStep Tryz.prog su10Ops Q (su10F a b s mb lb k n er p13 ε β e1 hβ hγ hmx hmb hle hmn hlb hge hsm hv cm) w0 198 xs 23 := by
  intro act w hb hk hF
  have g97 : act.eval (.tmp 97) = .bool false := hF 22 (of_decide_eq_true (by kernel_rfl)) 97 (by kernel_rfl)
  exact step_move (show opO su10Ops 23 = some (.move (.tmp 97)) by kernel_rfl) (.free (by kernel_rfl)) g97 ⟨rfl, Below.refl _ _⟩

theorem su10_s24 {Q : Exit → Act → World → Prop} {w0 : World} {xs : Nat → Value} (a b s mb lb k n er : Int) (p13 : Nat) (ε β : Bool) (e1 : Hid ((er == 0) = ε)) (hβ : Hid (decide (0 ≤ b) = β)) (hγ : Hid (decide (b < 0) = !β)) (hmx : Hid (β = true → max b 0 = b)) (hmb : Hid (β = true → IntKind.i64.wrap (9223372036854775807 - b) = mb)) (hle : Hid (β = true → decide (a ≤ mb) = ε)) (hmn : Hid (β = false → min b 0 = b)) (hlb : Hid (β = false → IntKind.i64.wrap (-9223372036854775808 - b) = lb)) (hge : Hid (β = false → decide (lb ≤ a) = ε)) (hsm : Hid (ε = true → IntKind.i64.wrap (a + b) = s)) (hv : Hid (ε = true → (!sameV k n ⟨#[]⟩ 1 s ⟨#[]⟩) = false)) (cm : Hid (ε = true → BothIs ⟨#[45]⟩ k n ⟨#[]⟩ 1 b ⟨#[]⟩ 1 a ⟨#[]⟩)) (hb13 : BoxOn w0 p13 k n ⟨#[]⟩) (hx0 : xs 0 = .int .i64 a) (hx1 : xs 1 = .int .i64 b) (hx13 : xs 13 = .pointer (some ⟨p13, 0, none⟩)) (hx14 : xs 14 = .int .i64 er) : OpStep Tryz.prog su10Ops Q (su10F a b s mb lb k n er p13 ε β e1 hβ hγ hmx hmb hle hmn hlb hge hsm hv cm) w0 198 xs 24 := by
  intro act w hb hk hF
  have g98 : act.eval (.tmp 98) = .bool false := hF 23 (of_decide_eq_true (by kernel_rfl)) 98 (by kernel_rfl)
  have g14 : act.eval (.tmp 14) = .int .i64 er := (hk 14 (by decide) (by kernel_rfl)).trans hx14
  exact step_move (show opO su10Ops 24 = some (.move (.tmp 14)) by kernel_rfl) (.told 23 false 98 (by kernel_rfl) (by kernel_rfl) g98) g14 ⟨rfl, Below.refl _ _⟩

theorem su10_s25 {Q : Exit → Act → World → Prop} {w0 : World} {xs : Nat → Value} (a b s mb lb k n er : Int) (p13 : Nat) (ε β : Bool) (e1 : Hid ((er == 0) = ε)) (hβ : Hid (decide (0 ≤ b) = β)) (hγ : Hid (decide (b < 0) = !β)) (hmx : Hid (β = true → max b 0 = b)) (hmb : Hid (β = true → IntKind.i64.wrap (9223372036854775807 - b) = mb)) (hle : Hid (β = true → decide (a ≤ mb) = ε)) (hmn : Hid (β = false → min b 0 = b)) (hlb : Hid (β = false → IntKind.i64.wrap (-9223372036854775808 - b) = lb)) (hge : Hid (β = false → decide (lb ≤ a) = ε)) (hsm : Hid (ε = true → IntKind.i64.wrap (a + b) = s)) (hv : Hid (ε = true → (!sameV k n ⟨#[]⟩ 1 s ⟨#[]⟩) = false)) (cm : Hid (ε = true → BothIs ⟨#[45]⟩ k n ⟨#[]⟩ 1 b ⟨#[]⟩ 1 a ⟨#[]⟩)) (hb13 : BoxOn w0 p13 k n ⟨#[]⟩) (hx0 : xs 0 = .int .i64 a) (hx1 : xs 1 = .int .i64 b) (hx13 : xs 13 = .pointer (some ⟨p13, 0, none⟩)) (hx14 : xs 14 = .int .i64 er) : OpStep Tryz.prog su10Ops Q (su10F a b s mb lb k n er p13 ε β e1 hβ hγ hmx hmb hle hmn hlb hge hsm hv cm) w0 198 xs 25 := by
  intro act w hb hk hF
  have g98 : act.eval (.tmp 98) = .bool false := hF 23 (of_decide_eq_true (by kernel_rfl)) 98 (by kernel_rfl)
  have g99 : act.eval (.tmp 99) = .int .i64 er := hF 24 (of_decide_eq_true (by kernel_rfl)) 99 (by kernel_rfl)
  cases ε
  · exact step_eqI (show opO su10Ops 25 = some (.binOp .eql 28 (.tmp 99) (.const (.int .i64 0)) 28) by kernel_rfl) (.told 23 false 98 (by kernel_rfl) (by kernel_rfl) g98) g99 rfl e1.out ⟨rfl, Below.refl _ _⟩
  · exact step_eqI (show opO su10Ops 25 = some (.binOp .eql 28 (.tmp 99) (.const (.int .i64 0)) 28) by kernel_rfl) (.told 23 false 98 (by kernel_rfl) (by kernel_rfl) g98) g99 rfl e1.out ⟨rfl, Below.refl _ _⟩

theorem su10_s26 {Q : Exit → Act → World → Prop} {w0 : World} {xs : Nat → Value} (a b s mb lb k n er : Int) (p13 : Nat) (ε β : Bool) (e1 : Hid ((er == 0) = ε)) (hβ : Hid (decide (0 ≤ b) = β)) (hγ : Hid (decide (b < 0) = !β)) (hmx : Hid (β = true → max b 0 = b)) (hmb : Hid (β = true → IntKind.i64.wrap (9223372036854775807 - b) = mb)) (hle : Hid (β = true → decide (a ≤ mb) = ε)) (hmn : Hid (β = false → min b 0 = b)) (hlb : Hid (β = false → IntKind.i64.wrap (-9223372036854775808 - b) = lb)) (hge : Hid (β = false → decide (lb ≤ a) = ε)) (hsm : Hid (ε = true → IntKind.i64.wrap (a + b) = s)) (hv : Hid (ε = true → (!sameV k n ⟨#[]⟩ 1 s ⟨#[]⟩) = false)) (cm : Hid (ε = true → BothIs ⟨#[45]⟩ k n ⟨#[]⟩ 1 b ⟨#[]⟩ 1 a ⟨#[]⟩)) (hb13 : BoxOn w0 p13 k n ⟨#[]⟩) (hx0 : xs 0 = .int .i64 a) (hx1 : xs 1 = .int .i64 b) (hx13 : xs 13 = .pointer (some ⟨p13, 0, none⟩)) (hx14 : xs 14 = .int .i64 er) : OpStep Tryz.prog su10Ops Q (su10F a b s mb lb k n er p13 ε β e1 hβ hγ hmx hmb hle hmn hlb hge hsm hv cm) w0 198 xs 26 := by
  intro act w hb hk hF
  have g98 : act.eval (.tmp 98) = .bool false := hF 23 (of_decide_eq_true (by kernel_rfl)) 98 (by kernel_rfl)
  have g100 : act.eval (.tmp 100) = cond ε (.bool true) (.bool false) := hF 25 (of_decide_eq_true (by kernel_rfl)) 100 (by kernel_rfl)
  exact step_move (show opO su10Ops 26 = some (.move (.tmp 100)) by kernel_rfl) (.told 23 false 98 (by kernel_rfl) (by kernel_rfl) g98) g100 ⟨rfl, Below.refl _ _⟩

theorem su10_s27 {Q : Exit → Act → World → Prop} {w0 : World} {xs : Nat → Value} (a b s mb lb k n er : Int) (p13 : Nat) (ε β : Bool) (e1 : Hid ((er == 0) = ε)) (hβ : Hid (decide (0 ≤ b) = β)) (hγ : Hid (decide (b < 0) = !β)) (hmx : Hid (β = true → max b 0 = b)) (hmb : Hid (β = true → IntKind.i64.wrap (9223372036854775807 - b) = mb)) (hle : Hid (β = true → decide (a ≤ mb) = ε)) (hmn : Hid (β = false → min b 0 = b)) (hlb : Hid (β = false → IntKind.i64.wrap (-9223372036854775808 - b) = lb)) (hge : Hid (β = false → decide (lb ≤ a) = ε)) (hsm : Hid (ε = true → IntKind.i64.wrap (a + b) = s)) (hv : Hid (ε = true → (!sameV k n ⟨#[]⟩ 1 s ⟨#[]⟩) = false)) (cm : Hid (ε = true → BothIs ⟨#[45]⟩ k n ⟨#[]⟩ 1 b ⟨#[]⟩ 1 a ⟨#[]⟩)) (hb13 : BoxOn w0 p13 k n ⟨#[]⟩) (hx0 : xs 0 = .int .i64 a) (hx1 : xs 1 = .int .i64 b) (hx13 : xs 13 = .pointer (some ⟨p13, 0, none⟩)) (hx14 : xs 14 = .int .i64 er) : OpStep Tryz.prog su10Ops Q (su10F a b s mb lb k n er p13 ε β e1 hβ hγ hmx hmb hle hmn hlb hge hsm hv cm) w0 198 xs 27 := by
  intro act w hb hk hF
  have g101 : act.eval (.tmp 101) = cond ε (.bool true) (.bool false) := hF 26 (of_decide_eq_true (by kernel_rfl)) 101 (by kernel_rfl)
  have g13 : act.eval (.tmp 13) = .pointer (some ⟨p13, 0, none⟩) := (hk 13 (by decide) (by kernel_rfl)).trans hx13
  cases ε
  · exact step_off (of_decide_eq_true (by kernel_rfl)) (.told 26 true 101 (by kernel_rfl) (by kernel_rfl) g101) ⟨rfl, Below.refl _ _⟩
  · exact step_loadB (show opO su10Ops 27 = some (.load 24 (.tmp 13)) by kernel_rfl) (.told 26 true 101 (by kernel_rfl) (by kernel_rfl) g101) g13 (hb13 w hb) ⟨rfl, Below.refl _ _⟩

theorem su10_s28 {Q : Exit → Act → World → Prop} {w0 : World} {xs : Nat → Value} (a b s mb lb k n er : Int) (p13 : Nat) (ε β : Bool) (e1 : Hid ((er == 0) = ε)) (hβ : Hid (decide (0 ≤ b) = β)) (hγ : Hid (decide (b < 0) = !β)) (hmx : Hid (β = true → max b 0 = b)) (hmb : Hid (β = true → IntKind.i64.wrap (9223372036854775807 - b) = mb)) (hle : Hid (β = true → decide (a ≤ mb) = ε)) (hmn : Hid (β = false → min b 0 = b)) (hlb : Hid (β = false → IntKind.i64.wrap (-9223372036854775808 - b) = lb)) (hge : Hid (β = false → decide (lb ≤ a) = ε)) (hsm : Hid (ε = true → IntKind.i64.wrap (a + b) = s)) (hv : Hid (ε = true → (!sameV k n ⟨#[]⟩ 1 s ⟨#[]⟩) = false)) (cm : Hid (ε = true → BothIs ⟨#[45]⟩ k n ⟨#[]⟩ 1 b ⟨#[]⟩ 1 a ⟨#[]⟩)) (hb13 : BoxOn w0 p13 k n ⟨#[]⟩) (hx0 : xs 0 = .int .i64 a) (hx1 : xs 1 = .int .i64 b) (hx13 : xs 13 = .pointer (some ⟨p13, 0, none⟩)) (hx14 : xs 14 = .int .i64 er) : OpStep Tryz.prog su10Ops Q (su10F a b s mb lb k n er p13 ε β e1 hβ hγ hmx hmb hle hmn hlb hge hsm hv cm) w0 198 xs 28 := by
  intro act w hb hk hF
  have g101 : act.eval (.tmp 101) = cond ε (.bool true) (.bool false) := hF 26 (of_decide_eq_true (by kernel_rfl)) 101 (by kernel_rfl)
  have g0 : act.eval (.tmp 0) = .int .i64 a := (hk 0 (by decide) (by kernel_rfl)).trans hx0
  cases ε
  · exact step_off (of_decide_eq_true (by kernel_rfl)) (.told 26 true 101 (by kernel_rfl) (by kernel_rfl) g101) ⟨rfl, Below.refl _ _⟩
  · exact step_move (show opO su10Ops 28 = some (.move (.tmp 0)) by kernel_rfl) (.told 26 true 101 (by kernel_rfl) (by kernel_rfl) g101) g0 ⟨rfl, Below.refl _ _⟩

theorem su10_s29 {Q : Exit → Act → World → Prop} {w0 : World} {xs : Nat → Value} (a b s mb lb k n er : Int) (p13 : Nat) (ε β : Bool) (e1 : Hid ((er == 0) = ε)) (hβ : Hid (decide (0 ≤ b) = β)) (hγ : Hid (decide (b < 0) = !β)) (hmx : Hid (β = true → max b 0 = b)) (hmb : Hid (β = true → IntKind.i64.wrap (9223372036854775807 - b) = mb)) (hle : Hid (β = true → decide (a ≤ mb) = ε)) (hmn : Hid (β = false → min b 0 = b)) (hlb : Hid (β = false → IntKind.i64.wrap (-9223372036854775808 - b) = lb)) (hge : Hid (β = false → decide (lb ≤ a) = ε)) (hsm : Hid (ε = true → IntKind.i64.wrap (a + b) = s)) (hv : Hid (ε = true → (!sameV k n ⟨#[]⟩ 1 s ⟨#[]⟩) = false)) (cm : Hid (ε = true → BothIs ⟨#[45]⟩ k n ⟨#[]⟩ 1 b ⟨#[]⟩ 1 a ⟨#[]⟩)) (hb13 : BoxOn w0 p13 k n ⟨#[]⟩) (hx0 : xs 0 = .int .i64 a) (hx1 : xs 1 = .int .i64 b) (hx13 : xs 13 = .pointer (some ⟨p13, 0, none⟩)) (hx14 : xs 14 = .int .i64 er) : OpStep Tryz.prog su10Ops Q (su10F a b s mb lb k n er p13 ε β e1 hβ hγ hmx hmb hle hmn hlb hge hsm hv cm) w0 198 xs 29 := by
  intro act w hb hk hF
  have g101 : act.eval (.tmp 101) = cond ε (.bool true) (.bool false) := hF 26 (of_decide_eq_true (by kernel_rfl)) 101 (by kernel_rfl)
  have g1 : act.eval (.tmp 1) = .int .i64 b := (hk 1 (by decide) (by kernel_rfl)).trans hx1
  cases ε
  · exact step_off (of_decide_eq_true (by kernel_rfl)) (.told 26 true 101 (by kernel_rfl) (by kernel_rfl) g101) ⟨rfl, Below.refl _ _⟩
  · exact step_move (show opO su10Ops 29 = some (.move (.tmp 1)) by kernel_rfl) (.told 26 true 101 (by kernel_rfl) (by kernel_rfl) g101) g1 ⟨rfl, Below.refl _ _⟩

theorem su10_s30 {Q : Exit → Act → World → Prop} {w0 : World} {xs : Nat → Value} (a b s mb lb k n er : Int) (p13 : Nat) (ε β : Bool) (e1 : Hid ((er == 0) = ε)) (hβ : Hid (decide (0 ≤ b) = β)) (hγ : Hid (decide (b < 0) = !β)) (hmx : Hid (β = true → max b 0 = b)) (hmb : Hid (β = true → IntKind.i64.wrap (9223372036854775807 - b) = mb)) (hle : Hid (β = true → decide (a ≤ mb) = ε)) (hmn : Hid (β = false → min b 0 = b)) (hlb : Hid (β = false → IntKind.i64.wrap (-9223372036854775808 - b) = lb)) (hge : Hid (β = false → decide (lb ≤ a) = ε)) (hsm : Hid (ε = true → IntKind.i64.wrap (a + b) = s)) (hv : Hid (ε = true → (!sameV k n ⟨#[]⟩ 1 s ⟨#[]⟩) = false)) (cm : Hid (ε = true → BothIs ⟨#[45]⟩ k n ⟨#[]⟩ 1 b ⟨#[]⟩ 1 a ⟨#[]⟩)) (hb13 : BoxOn w0 p13 k n ⟨#[]⟩) (hx0 : xs 0 = .int .i64 a) (hx1 : xs 1 = .int .i64 b) (hx13 : xs 13 = .pointer (some ⟨p13, 0, none⟩)) (hx14 : xs 14 = .int .i64 er) : OpStep Tryz.prog su10Ops Q (su10F a b s mb lb k n er p13 ε β e1 hβ hγ hmx hmb hle hmn hlb hge hsm hv cm) w0 198 xs 30 := by
  intro act w hb hk hF
  have g101 : act.eval (.tmp 101) = cond ε (.bool true) (.bool false) := hF 26 (of_decide_eq_true (by kernel_rfl)) 101 (by kernel_rfl)
  have g103 : act.eval (.tmp 103) = cond ε (.int .i64 a) (undef) := hF 28 (of_decide_eq_true (by kernel_rfl)) 103 (by kernel_rfl)
  have g104 : act.eval (.tmp 104) = cond ε (.int .i64 b) (undef) := hF 29 (of_decide_eq_true (by kernel_rfl)) 104 (by kernel_rfl)
  cases ε
  · exact step_off (of_decide_eq_true (by kernel_rfl)) (.told 26 true 101 (by kernel_rfl) (by kernel_rfl) g101) ⟨rfl, Below.refl _ _⟩
  · exact step_addI (show opO su10Ops 30 = some (.binOp .add 2 (.tmp 103) (.tmp 104) 2) by kernel_rfl) (.told 26 true 101 (by kernel_rfl) (by kernel_rfl) g101) g103 g104 (hsm.out rfl) ⟨rfl, Below.refl _ _⟩

theorem su10_s31 {Q : Exit → Act → World → Prop} {w0 : World} {xs : Nat → Value} (a b s mb lb k n er : Int) (p13 : Nat) (ε β : Bool) (e1 : Hid ((er == 0) = ε)) (hβ : Hid (decide (0 ≤ b) = β)) (hγ : Hid (decide (b < 0) = !β)) (hmx : Hid (β = true → max b 0 = b)) (hmb : Hid (β = true → IntKind.i64.wrap (9223372036854775807 - b) = mb)) (hle : Hid (β = true → decide (a ≤ mb) = ε)) (hmn : Hid (β = false → min b 0 = b)) (hlb : Hid (β = false → IntKind.i64.wrap (-9223372036854775808 - b) = lb)) (hge : Hid (β = false → decide (lb ≤ a) = ε)) (hsm : Hid (ε = true → IntKind.i64.wrap (a + b) = s)) (hv : Hid (ε = true → (!sameV k n ⟨#[]⟩ 1 s ⟨#[]⟩) = false)) (cm : Hid (ε = true → BothIs ⟨#[45]⟩ k n ⟨#[]⟩ 1 b ⟨#[]⟩ 1 a ⟨#[]⟩)) (hb13 : BoxOn w0 p13 k n ⟨#[]⟩) (hx0 : xs 0 = .int .i64 a) (hx1 : xs 1 = .int .i64 b) (hx13 : xs 13 = .pointer (some ⟨p13, 0, none⟩)) (hx14 : xs 14 = .int .i64 er) : OpStep Tryz.prog su10Ops Q (su10F a b s mb lb k n er p13 ε β e1 hβ hγ hmx hmb hle hmn hlb hge hsm hv cm) w0 198 xs 31 := by
  intro act w hb hk hF
  have g101 : act.eval (.tmp 101) = cond ε (.bool true) (.bool false) := hF 26 (of_decide_eq_true (by kernel_rfl)) 101 (by kernel_rfl)
  have g105 : act.eval (.tmp 105) = cond ε (.int .i64 s) (undef) := hF 30 (of_decide_eq_true (by kernel_rfl)) 105 (by kernel_rfl)
  cases ε
  · exact step_off (of_decide_eq_true (by kernel_rfl)) (.told 26 true 101 (by kernel_rfl) (by kernel_rfl) g101) ⟨rfl, Below.refl _ _⟩
  · exact step_call (f := 15) (xs := #[.tmp 105]) (by kernel_rfl) (.told 26 true 101 (by kernel_rfl) (by kernel_rfl) g101) (map1 g105) (enters_of Tryz.func15 (by kernel_rfl) rfl) ((num_any s w).mono fun e w' h => ⟨_, h.1, rfl, h.2⟩)

theorem su10_s32 {Q : Exit → Act → World → Prop} {w0 : World} {xs : Nat → Value} (a b s mb lb k n er : Int) (p13 : Nat) (ε β : Bool) (e1 : Hid ((er == 0) = ε)) (hβ : Hid (decide (0 ≤ b) = β)) (hγ : Hid (decide (b < 0) = !β)) (hmx : Hid (β = true → max b 0 = b)) (hmb : Hid (β = true → IntKind.i64.wrap (9223372036854775807 - b) = mb)) (hle : Hid (β = true → decide (a ≤ mb) = ε)) (hmn : Hid (β = false → min b 0 = b)) (hlb : Hid (β = false → IntKind.i64.wrap (-9223372036854775808 - b) = lb)) (hge : Hid (β = false → decide (lb ≤ a) = ε)) (hsm : Hid (ε = true → IntKind.i64.wrap (a + b) = s)) (hv : Hid (ε = true → (!sameV k n ⟨#[]⟩ 1 s ⟨#[]⟩) = false)) (cm : Hid (ε = true → BothIs ⟨#[45]⟩ k n ⟨#[]⟩ 1 b ⟨#[]⟩ 1 a ⟨#[]⟩)) (hb13 : BoxOn w0 p13 k n ⟨#[]⟩) (hx0 : xs 0 = .int .i64 a) (hx1 : xs 1 = .int .i64 b) (hx13 : xs 13 = .pointer (some ⟨p13, 0, none⟩)) (hx14 : xs 14 = .int .i64 er) : OpStep Tryz.prog su10Ops Q (su10F a b s mb lb k n er p13 ε β e1 hβ hγ hmx hmb hle hmn hlb hge hsm hv cm) w0 198 xs 32 := by
  intro act w hb hk hF
  have g101 : act.eval (.tmp 101) = cond ε (.bool true) (.bool false) := hF 26 (of_decide_eq_true (by kernel_rfl)) 101 (by kernel_rfl)
  have g102 : act.eval (.tmp 102) = cond ε (vv k n ⟨#[]⟩) (undef) := hF 27 (of_decide_eq_true (by kernel_rfl)) 102 (by kernel_rfl)
  have g106 : act.eval (.tmp 106) = cond ε (vv 1 s ⟨#[]⟩) (undef) := hF 31 (of_decide_eq_true (by kernel_rfl)) 106 (by kernel_rfl)
  cases ε
  · exact step_off (of_decide_eq_true (by kernel_rfl)) (.told 26 true 101 (by kernel_rfl) (by kernel_rfl) g101) ⟨rfl, Below.refl _ _⟩
  · exact step_neV (show opO su10Ops 32 = some (.binOp .neq 24 (.tmp 102) (.tmp 106) 24) by kernel_rfl) (.told 26 true 101 (by kernel_rfl) (by kernel_rfl) g101) g102 g106 (hv.out rfl) ⟨rfl, Below.refl _ _⟩

theorem su10_s33 {Q : Exit → Act → World → Prop} {w0 : World} {xs : Nat → Value} (a b s mb lb k n er : Int) (p13 : Nat) (ε β : Bool) (e1 : Hid ((er == 0) = ε)) (hβ : Hid (decide (0 ≤ b) = β)) (hγ : Hid (decide (b < 0) = !β)) (hmx : Hid (β = true → max b 0 = b)) (hmb : Hid (β = true → IntKind.i64.wrap (9223372036854775807 - b) = mb)) (hle : Hid (β = true → decide (a ≤ mb) = ε)) (hmn : Hid (β = false → min b 0 = b)) (hlb : Hid (β = false → IntKind.i64.wrap (-9223372036854775808 - b) = lb)) (hge : Hid (β = false → decide (lb ≤ a) = ε)) (hsm : Hid (ε = true → IntKind.i64.wrap (a + b) = s)) (hv : Hid (ε = true → (!sameV k n ⟨#[]⟩ 1 s ⟨#[]⟩) = false)) (cm : Hid (ε = true → BothIs ⟨#[45]⟩ k n ⟨#[]⟩ 1 b ⟨#[]⟩ 1 a ⟨#[]⟩)) (hb13 : BoxOn w0 p13 k n ⟨#[]⟩) (hx0 : xs 0 = .int .i64 a) (hx1 : xs 1 = .int .i64 b) (hx13 : xs 13 = .pointer (some ⟨p13, 0, none⟩)) (hx14 : xs 14 = .int .i64 er) : OpStep Tryz.prog su10Ops Q (su10F a b s mb lb k n er p13 ε β e1 hβ hγ hmx hmb hle hmn hlb hge hsm hv cm) w0 198 xs 33 := by
  intro act w hb hk hF
  have g101 : act.eval (.tmp 101) = cond ε (.bool true) (.bool false) := hF 26 (of_decide_eq_true (by kernel_rfl)) 101 (by kernel_rfl)
  have g107 : act.eval (.tmp 107) = cond ε (.bool false) (undef) := hF 32 (of_decide_eq_true (by kernel_rfl)) 107 (by kernel_rfl)
  cases ε
  · exact step_off (of_decide_eq_true (by kernel_rfl)) (.told 26 true 101 (by kernel_rfl) (by kernel_rfl) g101) ⟨rfl, Below.refl _ _⟩
  · exact step_move (show opO su10Ops 33 = some (.move (.tmp 107)) by kernel_rfl) (.told 26 true 101 (by kernel_rfl) (by kernel_rfl) g101) g107 ⟨rfl, Below.refl _ _⟩

theorem su10_s34 {Q : Exit → Act → World → Prop} {w0 : World} {xs : Nat → Value} (a b s mb lb k n er : Int) (p13 : Nat) (ε β : Bool) (e1 : Hid ((er == 0) = ε)) (hβ : Hid (decide (0 ≤ b) = β)) (hγ : Hid (decide (b < 0) = !β)) (hmx : Hid (β = true → max b 0 = b)) (hmb : Hid (β = true → IntKind.i64.wrap (9223372036854775807 - b) = mb)) (hle : Hid (β = true → decide (a ≤ mb) = ε)) (hmn : Hid (β = false → min b 0 = b)) (hlb : Hid (β = false → IntKind.i64.wrap (-9223372036854775808 - b) = lb)) (hge : Hid (β = false → decide (lb ≤ a) = ε)) (hsm : Hid (ε = true → IntKind.i64.wrap (a + b) = s)) (hv : Hid (ε = true → (!sameV k n ⟨#[]⟩ 1 s ⟨#[]⟩) = false)) (cm : Hid (ε = true → BothIs ⟨#[45]⟩ k n ⟨#[]⟩ 1 b ⟨#[]⟩ 1 a ⟨#[]⟩)) (hb13 : BoxOn w0 p13 k n ⟨#[]⟩) (hx0 : xs 0 = .int .i64 a) (hx1 : xs 1 = .int .i64 b) (hx13 : xs 13 = .pointer (some ⟨p13, 0, none⟩)) (hx14 : xs 14 = .int .i64 er) : OpStep Tryz.prog su10Ops Q (su10F a b s mb lb k n er p13 ε β e1 hβ hγ hmx hmb hle hmn hlb hge hsm hv cm) w0 198 xs 34 := by
  intro act w hb hk hF
  have g108 : act.eval (.tmp 108) = cond ε (.bool false) (undef) := hF 33 (of_decide_eq_true (by kernel_rfl)) 108 (by kernel_rfl)
  have g13 : act.eval (.tmp 13) = .pointer (some ⟨p13, 0, none⟩) := (hk 13 (by decide) (by kernel_rfl)).trans hx13
  cases ε
  · exact step_off (of_decide_eq_true (by kernel_rfl)) (.off 33 false 108 (by kernel_rfl) (by kernel_rfl) g108) ⟨rfl, Below.refl _ _⟩
  · exact step_loadB (show opO su10Ops 34 = some (.load 24 (.tmp 13)) by kernel_rfl) (.told 33 false 108 (by kernel_rfl) (by kernel_rfl) g108) g13 (hb13 w hb) ⟨rfl, Below.refl _ _⟩

theorem su10_s35 {Q : Exit → Act → World → Prop} {w0 : World} {xs : Nat → Value} (a b s mb lb k n er : Int) (p13 : Nat) (ε β : Bool) (e1 : Hid ((er == 0) = ε)) (hβ : Hid (decide (0 ≤ b) = β)) (hγ : Hid (decide (b < 0) = !β)) (hmx : Hid (β = true → max b 0 = b)) (hmb : Hid (β = true → IntKind.i64.wrap (9223372036854775807 - b) = mb)) (hle : Hid (β = true → decide (a ≤ mb) = ε)) (hmn : Hid (β = false → min b 0 = b)) (hlb : Hid (β = false → IntKind.i64.wrap (-9223372036854775808 - b) = lb)) (hge : Hid (β = false → decide (lb ≤ a) = ε)) (hsm : Hid (ε = true → IntKind.i64.wrap (a + b) = s)) (hv : Hid (ε = true → (!sameV k n ⟨#[]⟩ 1 s ⟨#[]⟩) = false)) (cm : Hid (ε = true → BothIs ⟨#[45]⟩ k n ⟨#[]⟩ 1 b ⟨#[]⟩ 1 a ⟨#[]⟩)) (hb13 : BoxOn w0 p13 k n ⟨#[]⟩) (hx0 : xs 0 = .int .i64 a) (hx1 : xs 1 = .int .i64 b) (hx13 : xs 13 = .pointer (some ⟨p13, 0, none⟩)) (hx14 : xs 14 = .int .i64 er) : OpStep Tryz.prog su10Ops Q (su10F a b s mb lb k n er p13 ε β e1 hβ hγ hmx hmb hle hmn hlb hge hsm hv cm) w0 198 xs 35 := by
  intro act w hb hk hF
  have g108 : act.eval (.tmp 108) = cond ε (.bool false) (undef) := hF 33 (of_decide_eq_true (by kernel_rfl)) 108 (by kernel_rfl)
  have g1 : act.eval (.tmp 1) = .int .i64 b := (hk 1 (by decide) (by kernel_rfl)).trans hx1
  cases ε
  · exact step_off (of_decide_eq_true (by kernel_rfl)) (.off 33 false 108 (by kernel_rfl) (by kernel_rfl) g108) ⟨rfl, Below.refl _ _⟩
  · exact step_move (show opO su10Ops 35 = some (.move (.tmp 1)) by kernel_rfl) (.told 33 false 108 (by kernel_rfl) (by kernel_rfl) g108) g1 ⟨rfl, Below.refl _ _⟩

theorem su10_s36 {Q : Exit → Act → World → Prop} {w0 : World} {xs : Nat → Value} (a b s mb lb k n er : Int) (p13 : Nat) (ε β : Bool) (e1 : Hid ((er == 0) = ε)) (hβ : Hid (decide (0 ≤ b) = β)) (hγ : Hid (decide (b < 0) = !β)) (hmx : Hid (β = true → max b 0 = b)) (hmb : Hid (β = true → IntKind.i64.wrap (9223372036854775807 - b) = mb)) (hle : Hid (β = true → decide (a ≤ mb) = ε)) (hmn : Hid (β = false → min b 0 = b)) (hlb : Hid (β = false → IntKind.i64.wrap (-9223372036854775808 - b) = lb)) (hge : Hid (β = false → decide (lb ≤ a) = ε)) (hsm : Hid (ε = true → IntKind.i64.wrap (a + b) = s)) (hv : Hid (ε = true → (!sameV k n ⟨#[]⟩ 1 s ⟨#[]⟩) = false)) (cm : Hid (ε = true → BothIs ⟨#[45]⟩ k n ⟨#[]⟩ 1 b ⟨#[]⟩ 1 a ⟨#[]⟩)) (hb13 : BoxOn w0 p13 k n ⟨#[]⟩) (hx0 : xs 0 = .int .i64 a) (hx1 : xs 1 = .int .i64 b) (hx13 : xs 13 = .pointer (some ⟨p13, 0, none⟩)) (hx14 : xs 14 = .int .i64 er) : OpStep Tryz.prog su10Ops Q (su10F a b s mb lb k n er p13 ε β e1 hβ hγ hmx hmb hle hmn hlb hge hsm hv cm) w0 198 xs 36 := by
  intro act w hb hk hF
  have g108 : act.eval (.tmp 108) = cond ε (.bool false) (undef) := hF 33 (of_decide_eq_true (by kernel_rfl)) 108 (by kernel_rfl)
  have g110 : act.eval (.tmp 110) = cond ε (.int .i64 b) (undef) := hF 35 (of_decide_eq_true (by kernel_rfl)) 110 (by kernel_rfl)
  cases ε
  · exact step_off (of_decide_eq_true (by kernel_rfl)) (.off 33 false 108 (by kernel_rfl) (by kernel_rfl) g108) ⟨rfl, Below.refl _ _⟩
  · exact step_call (f := 15) (xs := #[.tmp 110]) (by kernel_rfl) (.told 33 false 108 (by kernel_rfl) (by kernel_rfl) g108) (map1 g110) (enters_of Tryz.func15 (by kernel_rfl) rfl) ((num_any b w).mono fun e w' h => ⟨_, h.1, rfl, h.2⟩)

theorem su10_s37 {Q : Exit → Act → World → Prop} {w0 : World} {xs : Nat → Value} (a b s mb lb k n er : Int) (p13 : Nat) (ε β : Bool) (e1 : Hid ((er == 0) = ε)) (hβ : Hid (decide (0 ≤ b) = β)) (hγ : Hid (decide (b < 0) = !β)) (hmx : Hid (β = true → max b 0 = b)) (hmb : Hid (β = true → IntKind.i64.wrap (9223372036854775807 - b) = mb)) (hle : Hid (β = true → decide (a ≤ mb) = ε)) (hmn : Hid (β = false → min b 0 = b)) (hlb : Hid (β = false → IntKind.i64.wrap (-9223372036854775808 - b) = lb)) (hge : Hid (β = false → decide (lb ≤ a) = ε)) (hsm : Hid (ε = true → IntKind.i64.wrap (a + b) = s)) (hv : Hid (ε = true → (!sameV k n ⟨#[]⟩ 1 s ⟨#[]⟩) = false)) (cm : Hid (ε = true → BothIs ⟨#[45]⟩ k n ⟨#[]⟩ 1 b ⟨#[]⟩ 1 a ⟨#[]⟩)) (hb13 : BoxOn w0 p13 k n ⟨#[]⟩) (hx0 : xs 0 = .int .i64 a) (hx1 : xs 1 = .int .i64 b) (hx13 : xs 13 = .pointer (some ⟨p13, 0, none⟩)) (hx14 : xs 14 = .int .i64 er) : OpStep Tryz.prog su10Ops Q (su10F a b s mb lb k n er p13 ε β e1 hβ hγ hmx hmb hle hmn hlb hge hsm hv cm) w0 198 xs 37 := by
  intro act w hb hk hF
  have g108 : act.eval (.tmp 108) = cond ε (.bool false) (undef) := hF 33 (of_decide_eq_true (by kernel_rfl)) 108 (by kernel_rfl)
  have g109 : act.eval (.tmp 109) = cond ε (vv k n ⟨#[]⟩) (undef) := hF 34 (of_decide_eq_true (by kernel_rfl)) 109 (by kernel_rfl)
  have g111 : act.eval (.tmp 111) = cond ε (vv 1 b ⟨#[]⟩) (undef) := hF 36 (of_decide_eq_true (by kernel_rfl)) 111 (by kernel_rfl)
  cases ε
  · exact step_off (of_decide_eq_true (by kernel_rfl)) (.off 33 false 108 (by kernel_rfl) (by kernel_rfl) g108) ⟨rfl, Below.refl _ _⟩
  · exact step_call (f := 29) (xs := #[.const (.string ⟨#[45]⟩), .tmp 109, .tmp 111]) (by kernel_rfl) (.told 33 false 108 (by kernel_rfl) (by kernel_rfl) g108) (map3 rfl g109 g111) (enters_of Tryz.func29 (by kernel_rfl) rfl) ((cm.out rfl w).mono fun e w' h => ⟨_, h.1, rfl, h.2⟩)

theorem su10_s38 {Q : Exit → Act → World → Prop} {w0 : World} {xs : Nat → Value} (a b s mb lb k n er : Int) (p13 : Nat) (ε β : Bool) (e1 : Hid ((er == 0) = ε)) (hβ : Hid (decide (0 ≤ b) = β)) (hγ : Hid (decide (b < 0) = !β)) (hmx : Hid (β = true → max b 0 = b)) (hmb : Hid (β = true → IntKind.i64.wrap (9223372036854775807 - b) = mb)) (hle : Hid (β = true → decide (a ≤ mb) = ε)) (hmn : Hid (β = false → min b 0 = b)) (hlb : Hid (β = false → IntKind.i64.wrap (-9223372036854775808 - b) = lb)) (hge : Hid (β = false → decide (lb ≤ a) = ε)) (hsm : Hid (ε = true → IntKind.i64.wrap (a + b) = s)) (hv : Hid (ε = true → (!sameV k n ⟨#[]⟩ 1 s ⟨#[]⟩) = false)) (cm : Hid (ε = true → BothIs ⟨#[45]⟩ k n ⟨#[]⟩ 1 b ⟨#[]⟩ 1 a ⟨#[]⟩)) (hb13 : BoxOn w0 p13 k n ⟨#[]⟩) (hx0 : xs 0 = .int .i64 a) (hx1 : xs 1 = .int .i64 b) (hx13 : xs 13 = .pointer (some ⟨p13, 0, none⟩)) (hx14 : xs 14 = .int .i64 er) : OpStep Tryz.prog su10Ops Q (su10F a b s mb lb k n er p13 ε β e1 hβ hγ hmx hmb hle hmn hlb hge hsm hv cm) w0 198 xs 38 := by
  intro act w hb hk hF
  have g108 : act.eval (.tmp 108) = cond ε (.bool false) (undef) := hF 33 (of_decide_eq_true (by kernel_rfl)) 108 (by kernel_rfl)
  have g0 : act.eval (.tmp 0) = .int .i64 a := (hk 0 (by decide) (by kernel_rfl)).trans hx0
  cases ε
  · exact step_off (of_decide_eq_true (by kernel_rfl)) (.off 33 false 108 (by kernel_rfl) (by kernel_rfl) g108) ⟨rfl, Below.refl _ _⟩
  · exact step_move (show opO su10Ops 38 = some (.move (.tmp 0)) by kernel_rfl) (.told 33 false 108 (by kernel_rfl) (by kernel_rfl) g108) g0 ⟨rfl, Below.refl _ _⟩

theorem su10_s39 {Q : Exit → Act → World → Prop} {w0 : World} {xs : Nat → Value} (a b s mb lb k n er : Int) (p13 : Nat) (ε β : Bool) (e1 : Hid ((er == 0) = ε)) (hβ : Hid (decide (0 ≤ b) = β)) (hγ : Hid (decide (b < 0) = !β)) (hmx : Hid (β = true → max b 0 = b)) (hmb : Hid (β = true → IntKind.i64.wrap (9223372036854775807 - b) = mb)) (hle : Hid (β = true → decide (a ≤ mb) = ε)) (hmn : Hid (β = false → min b 0 = b)) (hlb : Hid (β = false → IntKind.i64.wrap (-9223372036854775808 - b) = lb)) (hge : Hid (β = false → decide (lb ≤ a) = ε)) (hsm : Hid (ε = true → IntKind.i64.wrap (a + b) = s)) (hv : Hid (ε = true → (!sameV k n ⟨#[]⟩ 1 s ⟨#[]⟩) = false)) (cm : Hid (ε = true → BothIs ⟨#[45]⟩ k n ⟨#[]⟩ 1 b ⟨#[]⟩ 1 a ⟨#[]⟩)) (hb13 : BoxOn w0 p13 k n ⟨#[]⟩) (hx0 : xs 0 = .int .i64 a) (hx1 : xs 1 = .int .i64 b) (hx13 : xs 13 = .pointer (some ⟨p13, 0, none⟩)) (hx14 : xs 14 = .int .i64 er) : OpStep Tryz.prog su10Ops Q (su10F a b s mb lb k n er p13 ε β e1 hβ hγ hmx hmb hle hmn hlb hge hsm hv cm) w0 198 xs 39 := by
  intro act w hb hk hF
  have g108 : act.eval (.tmp 108) = cond ε (.bool false) (undef) := hF 33 (of_decide_eq_true (by kernel_rfl)) 108 (by kernel_rfl)
  have g113 : act.eval (.tmp 113) = cond ε (.int .i64 a) (undef) := hF 38 (of_decide_eq_true (by kernel_rfl)) 113 (by kernel_rfl)
  cases ε
  · exact step_off (of_decide_eq_true (by kernel_rfl)) (.off 33 false 108 (by kernel_rfl) (by kernel_rfl) g108) ⟨rfl, Below.refl _ _⟩
  · exact step_call (f := 15) (xs := #[.tmp 113]) (by kernel_rfl) (.told 33 false 108 (by kernel_rfl) (by kernel_rfl) g108) (map1 g113) (enters_of Tryz.func15 (by kernel_rfl) rfl) ((num_any a w).mono fun e w' h => ⟨_, h.1, rfl, h.2⟩)

theorem su10_s40 {Q : Exit → Act → World → Prop} {w0 : World} {xs : Nat → Value} (a b s mb lb k n er : Int) (p13 : Nat) (ε β : Bool) (e1 : Hid ((er == 0) = ε)) (hβ : Hid (decide (0 ≤ b) = β)) (hγ : Hid (decide (b < 0) = !β)) (hmx : Hid (β = true → max b 0 = b)) (hmb : Hid (β = true → IntKind.i64.wrap (9223372036854775807 - b) = mb)) (hle : Hid (β = true → decide (a ≤ mb) = ε)) (hmn : Hid (β = false → min b 0 = b)) (hlb : Hid (β = false → IntKind.i64.wrap (-9223372036854775808 - b) = lb)) (hge : Hid (β = false → decide (lb ≤ a) = ε)) (hsm : Hid (ε = true → IntKind.i64.wrap (a + b) = s)) (hv : Hid (ε = true → (!sameV k n ⟨#[]⟩ 1 s ⟨#[]⟩) = false)) (cm : Hid (ε = true → BothIs ⟨#[45]⟩ k n ⟨#[]⟩ 1 b ⟨#[]⟩ 1 a ⟨#[]⟩)) (hb13 : BoxOn w0 p13 k n ⟨#[]⟩) (hx0 : xs 0 = .int .i64 a) (hx1 : xs 1 = .int .i64 b) (hx13 : xs 13 = .pointer (some ⟨p13, 0, none⟩)) (hx14 : xs 14 = .int .i64 er) : OpStep Tryz.prog su10Ops Q (su10F a b s mb lb k n er p13 ε β e1 hβ hγ hmx hmb hle hmn hlb hge hsm hv cm) w0 198 xs 40 := by
  intro act w hb hk hF
  have g108 : act.eval (.tmp 108) = cond ε (.bool false) (undef) := hF 33 (of_decide_eq_true (by kernel_rfl)) 108 (by kernel_rfl)
  have g112 : act.eval (.tmp 112) = cond ε (vv 1 a ⟨#[]⟩) (undef) := hF 37 (of_decide_eq_true (by kernel_rfl)) 112 (by kernel_rfl)
  have g114 : act.eval (.tmp 114) = cond ε (vv 1 a ⟨#[]⟩) (undef) := hF 39 (of_decide_eq_true (by kernel_rfl)) 114 (by kernel_rfl)
  cases ε
  · exact step_off (of_decide_eq_true (by kernel_rfl)) (.off 33 false 108 (by kernel_rfl) (by kernel_rfl) g108) ⟨rfl, Below.refl _ _⟩
  · exact step_neV (show opO su10Ops 40 = some (.binOp .neq 24 (.tmp 112) (.tmp 114) 24) by kernel_rfl) (.told 33 false 108 (by kernel_rfl) (by kernel_rfl) g108) g112 g114 (by rw [same_self]; rfl) ⟨rfl, Below.refl _ _⟩

theorem su10_s41 {Q : Exit → Act → World → Prop} {w0 : World} {xs : Nat → Value} (a b s mb lb k n er : Int) (p13 : Nat) (ε β : Bool) (e1 : Hid ((er == 0) = ε)) (hβ : Hid (decide (0 ≤ b) = β)) (hγ : Hid (decide (b < 0) = !β)) (hmx : Hid (β = true → max b 0 = b)) (hmb : Hid (β = true → IntKind.i64.wrap (9223372036854775807 - b) = mb)) (hle : Hid (β = true → decide (a ≤ mb) = ε)) (hmn : Hid (β = false → min b 0 = b)) (hlb : Hid (β = false → IntKind.i64.wrap (-9223372036854775808 - b) = lb)) (hge : Hid (β = false → decide (lb ≤ a) = ε)) (hsm : Hid (ε = true → IntKind.i64.wrap (a + b) = s)) (hv : Hid (ε = true → (!sameV k n ⟨#[]⟩ 1 s ⟨#[]⟩) = false)) (cm : Hid (ε = true → BothIs ⟨#[45]⟩ k n ⟨#[]⟩ 1 b ⟨#[]⟩ 1 a ⟨#[]⟩)) (hb13 : BoxOn w0 p13 k n ⟨#[]⟩) (hx0 : xs 0 = .int .i64 a) (hx1 : xs 1 = .int .i64 b) (hx13 : xs 13 = .pointer (some ⟨p13, 0, none⟩)) (hx14 : xs 14 = .int .i64 er) : OpStep Tryz.prog su10Ops Q (su10F a b s mb lb k n er p13 ε β e1 hβ hγ hmx hmb hle hmn hlb hge hsm hv cm) w0 198 xs 41 := by
  intro act w hb hk hF
  have g101 : act.eval (.tmp 101) = cond ε (.bool true) (.bool false) := hF 26 (of_decide_eq_true (by kernel_rfl)) 101 (by kernel_rfl)
  have g108 : act.eval (.tmp 108) = cond ε (.bool false) (undef) := hF 33 (of_decide_eq_true (by kernel_rfl)) 108 (by kernel_rfl)
  have g115 : act.eval (.tmp 115) = cond ε (.bool false) (undef) := hF 40 (of_decide_eq_true (by kernel_rfl)) 115 (by kernel_rfl)
  cases ε
  · exact step_off (of_decide_eq_true (by kernel_rfl)) (.told 26 true 101 (by kernel_rfl) (by kernel_rfl) g101) ⟨rfl, Below.refl _ _⟩
  · exact step_pickF (show opO su10Ops 41 = some (.pick (.tmp 108) (.const (.bool true)) (.tmp 115)) by kernel_rfl) (.told 26 true 101 (by kernel_rfl) (by kernel_rfl) g101) g108 g115 ⟨rfl, Below.refl _ _⟩

theorem su10_s42 {Q : Exit → Act → World → Prop} {w0 : World} {xs : Nat → Value} (a b s mb lb k n er : Int) (p13 : Nat) (ε β : Bool) (e1 : Hid ((er == 0) = ε)) (hβ : Hid (decide (0 ≤ b) = β)) (hγ : Hid (decide (b < 0) = !β)) (hmx : Hid (β = true → max b 0 = b)) (hmb : Hid (β = true → IntKind.i64.wrap (9223372036854775807 - b) = mb)) (hle : Hid (β = true → decide (a ≤ mb) = ε)) (hmn : Hid (β = false → min b 0 = b)) (hlb : Hid (β = false → IntKind.i64.wrap (-9223372036854775808 - b) = lb)) (hge : Hid (β = false → decide (lb ≤ a) = ε)) (hsm : Hid (ε = true → IntKind.i64.wrap (a + b) = s)) (hv : Hid (ε = true → (!sameV k n ⟨#[]⟩ 1 s ⟨#[]⟩) = false)) (cm : Hid (ε = true → BothIs ⟨#[45]⟩ k n ⟨#[]⟩ 1 b ⟨#[]⟩ 1 a ⟨#[]⟩)) (hb13 : BoxOn w0 p13 k n ⟨#[]⟩) (hx0 : xs 0 = .int .i64 a) (hx1 : xs 1 = .int .i64 b) (hx13 : xs 13 = .pointer (some ⟨p13, 0, none⟩)) (hx14 : xs 14 = .int .i64 er) : OpStep Tryz.prog su10Ops Q (su10F a b s mb lb k n er p13 ε β e1 hβ hγ hmx hmb hle hmn hlb hge hsm hv cm) w0 198 xs 42 := by
  intro act w hb hk hF
  have g98 : act.eval (.tmp 98) = .bool false := hF 23 (of_decide_eq_true (by kernel_rfl)) 98 (by kernel_rfl)
  have g101 : act.eval (.tmp 101) = cond ε (.bool true) (.bool false) := hF 26 (of_decide_eq_true (by kernel_rfl)) 101 (by kernel_rfl)
  have g116 : act.eval (.tmp 116) = cond ε (.bool false) (undef) := hF 41 (of_decide_eq_true (by kernel_rfl)) 116 (by kernel_rfl)
  cases ε
  · exact step_pickF (show opO su10Ops 42 = some (.pick (.tmp 101) (.tmp 116) (.const (.bool false))) by kernel_rfl) (.told 23 false 98 (by kernel_rfl) (by kernel_rfl) g98) g101 rfl ⟨rfl, Below.refl _ _⟩
  · exact step_pickT (show opO su10Ops 42 = some (.pick (.tmp 101) (.tmp 116) (.const (.bool false))) by kernel_rfl) (.told 23 false 98 (by kernel_rfl) (by kernel_rfl) g98) g101 g116 ⟨rfl, Below.refl _ _⟩

theorem su10_s43 {Q : Exit → Act → World → Prop} {w0 : World} {xs : Nat → Value} (a b s mb lb k n er : Int) (p13 : Nat) (ε β : Bool) (e1 : Hid ((er == 0) = ε)) (hβ : Hid (decide (0 ≤ b) = β)) (hγ : Hid (decide (b < 0) = !β)) (hmx : Hid (β = true → max b 0 = b)) (hmb : Hid (β = true → IntKind.i64.wrap (9223372036854775807 - b) = mb)) (hle : Hid (β = true → decide (a ≤ mb) = ε)) (hmn : Hid (β = false → min b 0 = b)) (hlb : Hid (β = false → IntKind.i64.wrap (-9223372036854775808 - b) = lb)) (hge : Hid (β = false → decide (lb ≤ a) = ε)) (hsm : Hid (ε = true → IntKind.i64.wrap (a + b) = s)) (hv : Hid (ε = true → (!sameV k n ⟨#[]⟩ 1 s ⟨#[]⟩) = false)) (cm : Hid (ε = true → BothIs ⟨#[45]⟩ k n ⟨#[]⟩ 1 b ⟨#[]⟩ 1 a ⟨#[]⟩)) (hb13 : BoxOn w0 p13 k n ⟨#[]⟩) (hx0 : xs 0 = .int .i64 a) (hx1 : xs 1 = .int .i64 b) (hx13 : xs 13 = .pointer (some ⟨p13, 0, none⟩)) (hx14 : xs 14 = .int .i64 er) : OpStep Tryz.prog su10Ops Q (su10F a b s mb lb k n er p13 ε β e1 hβ hγ hmx hmb hle hmn hlb hge hsm hv cm) w0 198 xs 43 := by
  intro act w hb hk hF
  have g98 : act.eval (.tmp 98) = .bool false := hF 23 (of_decide_eq_true (by kernel_rfl)) 98 (by kernel_rfl)
  have g117 : act.eval (.tmp 117) = .bool false := hF 42 (of_decide_eq_true (by kernel_rfl)) 117 (by kernel_rfl)
  exact step_pickF (show opO su10Ops 43 = some (.pick (.tmp 98) (.const (.bool true)) (.tmp 117)) by kernel_rfl) (.free (by kernel_rfl)) g98 g117 ⟨rfl, Below.refl _ _⟩

theorem su10 {bb : Bool} {Q : Exit → Act → World → Prop} {a0 : Act} {w0 : World} (a b s mb lb k n er : Int) (p13 : Nat) (ε β : Bool) (e1 : Hid ((er == 0) = ε)) (hβ : Hid (decide (0 ≤ b) = β)) (hγ : Hid (decide (b < 0) = !β)) (hmx : Hid (β = true → max b 0 = b)) (hmb : Hid (β = true → IntKind.i64.wrap (9223372036854775807 - b) = mb)) (hle : Hid (β = true → decide (a ≤ mb) = ε)) (hmn : Hid (β = false → min b 0 = b)) (hlb : Hid (β = false → IntKind.i64.wrap (-9223372036854775808 - b) = lb)) (hge : Hid (β = false → decide (lb ≤ a) = ε)) (hsm : Hid (ε = true → IntKind.i64.wrap (a + b) = s)) (hv : Hid (ε = true → (!sameV k n ⟨#[]⟩ 1 s ⟨#[]⟩) = false)) (cm : Hid (ε = true → BothIs ⟨#[45]⟩ k n ⟨#[]⟩ 1 b ⟨#[]⟩ 1 a ⟨#[]⟩)) (hb13 : BoxOn w0 p13 k n ⟨#[]⟩) (hx0 : a0.tmps.getD 0 undef = .int .i64 a) (hx1 : a0.tmps.getD 1 undef = .int .i64 b) (hx13 : a0.tmps.getD 13 undef = .pointer (some ⟨p13, 0, none⟩)) (hx14 : a0.tmps.getD 14 undef = .int .i64 er) (hs : a0.tmps.size = 198)
    (hend : ∀ (V : Nat → Value) (X : World), Below w0.heap.size w0 X → V 43 = .bool false → Q .normal ⟨fillT su10Ops a0.tmps V, a0.defers⟩ X) : (Code.region 10 su10Ops bb).wp Tryz.prog Q a0 w0 := by
  refine wp_region_both (by kernel_rfl) (su10F a b s mb lb k n er p13 ε β e1 hβ hγ hmx hmb hle hmn hlb hge hsm hv cm) (su10F_mono a b s mb lb k n er p13 ε β e1 hβ hγ hmx hmb hle hmn hlb hge hsm hv cm) (by rw [hs]; kernel_rfl) ?_ ?_
  · rw [hs]
    have size_is : su10Ops.size = 44 := by kernel_rfl
    rw [size_is]
    have u1 : ∀ i, i < 1 → OpStep Tryz.prog su10Ops Q (su10F a b s mb lb k n er p13 ε β e1 hβ hγ hmx hmb hle hmn hlb hge hsm hv cm) w0 198 (fun t => a0.tmps.getD t undef) i := upto_succ upto_zero (su10_s0 a b s mb lb k n er p13 ε β e1 hβ hγ hmx hmb hle hmn hlb hge hsm hv cm hb13 hx0 hx1 hx13 hx14)
    have u2 : ∀ i, i < 2 → OpStep Tryz.prog su10Ops Q (su10F a b s mb lb k n er p13 ε β e1 hβ hγ hmx hmb hle hmn hlb hge hsm hv cm) w0 198 (fun t => a0.tmps.getD t undef) i := upto_succ u1 (su10_s1 a b s mb lb k n er p13 ε β e1 hβ hγ hmx hmb hle hmn hlb hge hsm hv cm hb13 hx0 hx1 hx13 hx14)
    have u3 : ∀ i, i < 3 → OpStep Tryz.prog su10Ops Q (su10F a b s mb lb k n er p13 ε β e1 hβ hγ hmx hmb hle hmn hlb hge hsm hv cm) w0 198 (fun t => a0.tmps.getD t undef) i := upto_succ u2 (su10_s2 a b s mb lb k n er p13 ε β e1 hβ hγ hmx hmb hle hmn hlb hge hsm hv cm hb13 hx0 hx1 hx13 hx14)
    have u4 : ∀ i, i < 4 → OpStep Tryz.prog su10Ops Q (su10F a b s mb lb k n er p13 ε β e1 hβ hγ hmx hmb hle hmn hlb hge hsm hv cm) w0 198 (fun t => a0.tmps.getD t undef) i := upto_succ u3 (su10_s3 a b s mb lb k n er p13 ε β e1 hβ hγ hmx hmb hle hmn hlb hge hsm hv cm hb13 hx0 hx1 hx13 hx14)
    have u5 : ∀ i, i < 5 → OpStep Tryz.prog su10Ops Q (su10F a b s mb lb k n er p13 ε β e1 hβ hγ hmx hmb hle hmn hlb hge hsm hv cm) w0 198 (fun t => a0.tmps.getD t undef) i := upto_succ u4 (su10_s4 a b s mb lb k n er p13 ε β e1 hβ hγ hmx hmb hle hmn hlb hge hsm hv cm hb13 hx0 hx1 hx13 hx14)
    have u6 : ∀ i, i < 6 → OpStep Tryz.prog su10Ops Q (su10F a b s mb lb k n er p13 ε β e1 hβ hγ hmx hmb hle hmn hlb hge hsm hv cm) w0 198 (fun t => a0.tmps.getD t undef) i := upto_succ u5 (su10_s5 a b s mb lb k n er p13 ε β e1 hβ hγ hmx hmb hle hmn hlb hge hsm hv cm hb13 hx0 hx1 hx13 hx14)
    have u7 : ∀ i, i < 7 → OpStep Tryz.prog su10Ops Q (su10F a b s mb lb k n er p13 ε β e1 hβ hγ hmx hmb hle hmn hlb hge hsm hv cm) w0 198 (fun t => a0.tmps.getD t undef) i := upto_succ u6 (su10_s6 a b s mb lb k n er p13 ε β e1 hβ hγ hmx hmb hle hmn hlb hge hsm hv cm hb13 hx0 hx1 hx13 hx14)
    have u8 : ∀ i, i < 8 → OpStep Tryz.prog su10Ops Q (su10F a b s mb lb k n er p13 ε β e1 hβ hγ hmx hmb hle hmn hlb hge hsm hv cm) w0 198 (fun t => a0.tmps.getD t undef) i := upto_succ u7 (su10_s7 a b s mb lb k n er p13 ε β e1 hβ hγ hmx hmb hle hmn hlb hge hsm hv cm hb13 hx0 hx1 hx13 hx14)
    have u9 : ∀ i, i < 9 → OpStep Tryz.prog su10Ops Q (su10F a b s mb lb k n er p13 ε β e1 hβ hγ hmx hmb hle hmn hlb hge hsm hv cm) w0 198 (fun t => a0.tmps.getD t undef) i := upto_succ u8 (su10_s8 a b s mb lb k n er p13 ε β e1 hβ hγ hmx hmb hle hmn hlb hge hsm hv cm hb13 hx0 hx1 hx13 hx14)
    have u10 : ∀ i, i < 10 → OpStep Tryz.prog su10Ops Q (su10F a b s mb lb k n er p13 ε β e1 hβ hγ hmx hmb hle hmn hlb hge hsm hv cm) w0 198 (fun t => a0.tmps.getD t undef) i := upto_succ u9 (su10_s9 a b s mb lb k n er p13 ε β e1 hβ hγ hmx hmb hle hmn hlb hge hsm hv cm hb13 hx0 hx1 hx13 hx14)
    have u11 : ∀ i, i < 11 → OpStep Tryz.prog su10Ops Q (su10F a b s mb lb k n er p13 ε β e1 hβ hγ hmx hmb hle hmn hlb hge hsm hv cm) w0 198 (fun t => a0.tmps.getD t undef) i := upto_succ u10 (su10_s10 a b s mb lb k n er p13 ε β e1 hβ hγ hmx hmb hle hmn hlb hge hsm hv cm hb13 hx0 hx1 hx13 hx14)
    have u12 : ∀ i, i < 12 → OpStep Tryz.prog su10Ops Q (su10F a b s mb lb k n er p13 ε β e1 hβ hγ hmx hmb hle hmn hlb hge hsm hv cm) w0 198 (fun t => a0.tmps.getD t undef) i := upto_succ u11 (su10_s11 a b s mb lb k n er p13 ε β e1 hβ hγ hmx hmb hle hmn hlb hge hsm hv cm hb13 hx0 hx1 hx13 hx14)
    have u13 : ∀ i, i < 13 → OpStep Tryz.prog su10Ops Q (su10F a b s mb lb k n er p13 ε β e1 hβ hγ hmx hmb hle hmn hlb hge hsm hv cm) w0 198 (fun t => a0.tmps.getD t undef) i := upto_succ u12 (su10_s12 a b s mb lb k n er p13 ε β e1 hβ hγ hmx hmb hle hmn hlb hge hsm hv cm hb13 hx0 hx1 hx13 hx14)
    have u14 : ∀ i, i < 14 → OpStep Tryz.prog su10Ops Q (su10F a b s mb lb k n er p13 ε β e1 hβ hγ hmx hmb hle hmn hlb hge hsm hv cm) w0 198 (fun t => a0.tmps.getD t undef) i := upto_succ u13 (su10_s13 a b s mb lb k n er p13 ε β e1 hβ hγ hmx hmb hle hmn hlb hge hsm hv cm hb13 hx0 hx1 hx13 hx14)
    have u15 : ∀ i, i < 15 → OpStep Tryz.prog su10Ops Q (su10F a b s mb lb k n er p13 ε β e1 hβ hγ hmx hmb hle hmn hlb hge hsm hv cm) w0 198 (fun t => a0.tmps.getD t undef) i := upto_succ u14 (su10_s14 a b s mb lb k n er p13 ε β e1 hβ hγ hmx hmb hle hmn hlb hge hsm hv cm hb13 hx0 hx1 hx13 hx14)
    have u16 : ∀ i, i < 16 → OpStep Tryz.prog su10Ops Q (su10F a b s mb lb k n er p13 ε β e1 hβ hγ hmx hmb hle hmn hlb hge hsm hv cm) w0 198 (fun t => a0.tmps.getD t undef) i := upto_succ u15 (su10_s15 a b s mb lb k n er p13 ε β e1 hβ hγ hmx hmb hle hmn hlb hge hsm hv cm hb13 hx0 hx1 hx13 hx14)
    have u17 : ∀ i, i < 17 → OpStep Tryz.prog su10Ops Q (su10F a b s mb lb k n er p13 ε β e1 hβ hγ hmx hmb hle hmn hlb hge hsm hv cm) w0 198 (fun t => a0.tmps.getD t undef) i := upto_succ u16 (su10_s16 a b s mb lb k n er p13 ε β e1 hβ hγ hmx hmb hle hmn hlb hge hsm hv cm hb13 hx0 hx1 hx13 hx14)
    have u18 : ∀ i, i < 18 → OpStep Tryz.prog su10Ops Q (su10F a b s mb lb k n er p13 ε β e1 hβ hγ hmx hmb hle hmn hlb hge hsm hv cm) w0 198 (fun t => a0.tmps.getD t undef) i := upto_succ u17 (su10_s17 a b s mb lb k n er p13 ε β e1 hβ hγ hmx hmb hle hmn hlb hge hsm hv cm hb13 hx0 hx1 hx13 hx14)
    have u19 : ∀ i, i < 19 → OpStep Tryz.prog su10Ops Q (su10F a b s mb lb k n er p13 ε β e1 hβ hγ hmx hmb hle hmn hlb hge hsm hv cm) w0 198 (fun t => a0.tmps.getD t undef) i := upto_succ u18 (su10_s18 a b s mb lb k n er p13 ε β e1 hβ hγ hmx hmb hle hmn hlb hge hsm hv cm hb13 hx0 hx1 hx13 hx14)
    have u20 : ∀ i, i < 20 → OpStep Tryz.prog su10Ops Q (su10F a b s mb lb k n er p13 ε β e1 hβ hγ hmx hmb hle hmn hlb hge hsm hv cm) w0 198 (fun t => a0.tmps.getD t undef) i := upto_succ u19 (su10_s19 a b s mb lb k n er p13 ε β e1 hβ hγ hmx hmb hle hmn hlb hge hsm hv cm hb13 hx0 hx1 hx13 hx14)
    have u21 : ∀ i, i < 21 → OpStep Tryz.prog su10Ops Q (su10F a b s mb lb k n er p13 ε β e1 hβ hγ hmx hmb hle hmn hlb hge hsm hv cm) w0 198 (fun t => a0.tmps.getD t undef) i := upto_succ u20 (su10_s20 a b s mb lb k n er p13 ε β e1 hβ hγ hmx hmb hle hmn hlb hge hsm hv cm hb13 hx0 hx1 hx13 hx14)
    have u22 : ∀ i, i < 22 → OpStep Tryz.prog su10Ops Q (su10F a b s mb lb k n er p13 ε β e1 hβ hγ hmx hmb hle hmn hlb hge hsm hv cm) w0 198 (fun t => a0.tmps.getD t undef) i := upto_succ u21 (su10_s21 a b s mb lb k n er p13 ε β e1 hβ hγ hmx hmb hle hmn hlb hge hsm hv cm hb13 hx0 hx1 hx13 hx14)
    have u23 : ∀ i, i < 23 → OpStep Tryz.prog su10Ops Q (su10F a b s mb lb k n er p13 ε β e1 hβ hγ hmx hmb hle hmn hlb hge hsm hv cm) w0 198 (fun t => a0.tmps.getD t undef) i := upto_succ u22 (su10_s22 a b s mb lb k n er p13 ε β e1 hβ hγ hmx hmb hle hmn hlb hge hsm hv cm hb13 hx0 hx1 hx13 hx14)
    have u24 : ∀ i, i < 24 → OpStep Tryz.prog su10Ops Q (su10F a b s mb lb k n er p13 ε β e1 hβ hγ hmx hmb hle hmn hlb hge hsm hv cm) w0 198 (fun t => a0.tmps.getD t undef) i := upto_succ u23 (su10_s23 a b s mb lb k n er p13 ε β e1 hβ hγ hmx hmb hle hmn hlb hge hsm hv cm hb13 hx0 hx1 hx13 hx14)
    have u25 : ∀ i, i < 25 → OpStep Tryz.prog su10Ops Q (su10F a b s mb lb k n er p13 ε β e1 hβ hγ hmx hmb hle hmn hlb hge hsm hv cm) w0 198 (fun t => a0.tmps.getD t undef) i := upto_succ u24 (su10_s24 a b s mb lb k n er p13 ε β e1 hβ hγ hmx hmb hle hmn hlb hge hsm hv cm hb13 hx0 hx1 hx13 hx14)
    have u26 : ∀ i, i < 26 → OpStep Tryz.prog su10Ops Q (su10F a b s mb lb k n er p13 ε β e1 hβ hγ hmx hmb hle hmn hlb hge hsm hv cm) w0 198 (fun t => a0.tmps.getD t undef) i := upto_succ u25 (su10_s25 a b s mb lb k n er p13 ε β e1 hβ hγ hmx hmb hle hmn hlb hge hsm hv cm hb13 hx0 hx1 hx13 hx14)
    have u27 : ∀ i, i < 27 → OpStep Tryz.prog su10Ops Q (su10F a b s mb lb k n er p13 ε β e1 hβ hγ hmx hmb hle hmn hlb hge hsm hv cm) w0 198 (fun t => a0.tmps.getD t undef) i := upto_succ u26 (su10_s26 a b s mb lb k n er p13 ε β e1 hβ hγ hmx hmb hle hmn hlb hge hsm hv cm hb13 hx0 hx1 hx13 hx14)
    have u28 : ∀ i, i < 28 → OpStep Tryz.prog su10Ops Q (su10F a b s mb lb k n er p13 ε β e1 hβ hγ hmx hmb hle hmn hlb hge hsm hv cm) w0 198 (fun t => a0.tmps.getD t undef) i := upto_succ u27 (su10_s27 a b s mb lb k n er p13 ε β e1 hβ hγ hmx hmb hle hmn hlb hge hsm hv cm hb13 hx0 hx1 hx13 hx14)
    have u29 : ∀ i, i < 29 → OpStep Tryz.prog su10Ops Q (su10F a b s mb lb k n er p13 ε β e1 hβ hγ hmx hmb hle hmn hlb hge hsm hv cm) w0 198 (fun t => a0.tmps.getD t undef) i := upto_succ u28 (su10_s28 a b s mb lb k n er p13 ε β e1 hβ hγ hmx hmb hle hmn hlb hge hsm hv cm hb13 hx0 hx1 hx13 hx14)
    have u30 : ∀ i, i < 30 → OpStep Tryz.prog su10Ops Q (su10F a b s mb lb k n er p13 ε β e1 hβ hγ hmx hmb hle hmn hlb hge hsm hv cm) w0 198 (fun t => a0.tmps.getD t undef) i := upto_succ u29 (su10_s29 a b s mb lb k n er p13 ε β e1 hβ hγ hmx hmb hle hmn hlb hge hsm hv cm hb13 hx0 hx1 hx13 hx14)
    have u31 : ∀ i, i < 31 → OpStep Tryz.prog su10Ops Q (su10F a b s mb lb k n er p13 ε β e1 hβ hγ hmx hmb hle hmn hlb hge hsm hv cm) w0 198 (fun t => a0.tmps.getD t undef) i := upto_succ u30 (su10_s30 a b s mb lb k n er p13 ε β e1 hβ hγ hmx hmb hle hmn hlb hge hsm hv cm hb13 hx0 hx1 hx13 hx14)
    have u32 : ∀ i, i < 32 → OpStep Tryz.prog su10Ops Q (su10F a b s mb lb k n er p13 ε β e1 hβ hγ hmx hmb hle hmn hlb hge hsm hv cm) w0 198 (fun t => a0.tmps.getD t undef) i := upto_succ u31 (su10_s31 a b s mb lb k n er p13 ε β e1 hβ hγ hmx hmb hle hmn hlb hge hsm hv cm hb13 hx0 hx1 hx13 hx14)
    have u33 : ∀ i, i < 33 → OpStep Tryz.prog su10Ops Q (su10F a b s mb lb k n er p13 ε β e1 hβ hγ hmx hmb hle hmn hlb hge hsm hv cm) w0 198 (fun t => a0.tmps.getD t undef) i := upto_succ u32 (su10_s32 a b s mb lb k n er p13 ε β e1 hβ hγ hmx hmb hle hmn hlb hge hsm hv cm hb13 hx0 hx1 hx13 hx14)
    have u34 : ∀ i, i < 34 → OpStep Tryz.prog su10Ops Q (su10F a b s mb lb k n er p13 ε β e1 hβ hγ hmx hmb hle hmn hlb hge hsm hv cm) w0 198 (fun t => a0.tmps.getD t undef) i := upto_succ u33 (su10_s33 a b s mb lb k n er p13 ε β e1 hβ hγ hmx hmb hle hmn hlb hge hsm hv cm hb13 hx0 hx1 hx13 hx14)
    have u35 : ∀ i, i < 35 → OpStep Tryz.prog su10Ops Q (su10F a b s mb lb k n er p13 ε β e1 hβ hγ hmx hmb hle hmn hlb hge hsm hv cm) w0 198 (fun t => a0.tmps.getD t undef) i := upto_succ u34 (su10_s34 a b s mb lb k n er p13 ε β e1 hβ hγ hmx hmb hle hmn hlb hge hsm hv cm hb13 hx0 hx1 hx13 hx14)
    have u36 : ∀ i, i < 36 → OpStep Tryz.prog su10Ops Q (su10F a b s mb lb k n er p13 ε β e1 hβ hγ hmx hmb hle hmn hlb hge hsm hv cm) w0 198 (fun t => a0.tmps.getD t undef) i := upto_succ u35 (su10_s35 a b s mb lb k n er p13 ε β e1 hβ hγ hmx hmb hle hmn hlb hge hsm hv cm hb13 hx0 hx1 hx13 hx14)
    have u37 : ∀ i, i < 37 → OpStep Tryz.prog su10Ops Q (su10F a b s mb lb k n er p13 ε β e1 hβ hγ hmx hmb hle hmn hlb hge hsm hv cm) w0 198 (fun t => a0.tmps.getD t undef) i := upto_succ u36 (su10_s36 a b s mb lb k n er p13 ε β e1 hβ hγ hmx hmb hle hmn hlb hge hsm hv cm hb13 hx0 hx1 hx13 hx14)
    have u38 : ∀ i, i < 38 → OpStep Tryz.prog su10Ops Q (su10F a b s mb lb k n er p13 ε β e1 hβ hγ hmx hmb hle hmn hlb hge hsm hv cm) w0 198 (fun t => a0.tmps.getD t undef) i := upto_succ u37 (su10_s37 a b s mb lb k n er p13 ε β e1 hβ hγ hmx hmb hle hmn hlb hge hsm hv cm hb13 hx0 hx1 hx13 hx14)
    have u39 : ∀ i, i < 39 → OpStep Tryz.prog su10Ops Q (su10F a b s mb lb k n er p13 ε β e1 hβ hγ hmx hmb hle hmn hlb hge hsm hv cm) w0 198 (fun t => a0.tmps.getD t undef) i := upto_succ u38 (su10_s38 a b s mb lb k n er p13 ε β e1 hβ hγ hmx hmb hle hmn hlb hge hsm hv cm hb13 hx0 hx1 hx13 hx14)
    have u40 : ∀ i, i < 40 → OpStep Tryz.prog su10Ops Q (su10F a b s mb lb k n er p13 ε β e1 hβ hγ hmx hmb hle hmn hlb hge hsm hv cm) w0 198 (fun t => a0.tmps.getD t undef) i := upto_succ u39 (su10_s39 a b s mb lb k n er p13 ε β e1 hβ hγ hmx hmb hle hmn hlb hge hsm hv cm hb13 hx0 hx1 hx13 hx14)
    have u41 : ∀ i, i < 41 → OpStep Tryz.prog su10Ops Q (su10F a b s mb lb k n er p13 ε β e1 hβ hγ hmx hmb hle hmn hlb hge hsm hv cm) w0 198 (fun t => a0.tmps.getD t undef) i := upto_succ u40 (su10_s40 a b s mb lb k n er p13 ε β e1 hβ hγ hmx hmb hle hmn hlb hge hsm hv cm hb13 hx0 hx1 hx13 hx14)
    have u42 : ∀ i, i < 42 → OpStep Tryz.prog su10Ops Q (su10F a b s mb lb k n er p13 ε β e1 hβ hγ hmx hmb hle hmn hlb hge hsm hv cm) w0 198 (fun t => a0.tmps.getD t undef) i := upto_succ u41 (su10_s41 a b s mb lb k n er p13 ε β e1 hβ hγ hmx hmb hle hmn hlb hge hsm hv cm hb13 hx0 hx1 hx13 hx14)
    have u43 : ∀ i, i < 43 → OpStep Tryz.prog su10Ops Q (su10F a b s mb lb k n er p13 ε β e1 hβ hγ hmx hmb hle hmn hlb hge hsm hv cm) w0 198 (fun t => a0.tmps.getD t undef) i := upto_succ u42 (su10_s42 a b s mb lb k n er p13 ε β e1 hβ hγ hmx hmb hle hmn hlb hge hsm hv cm hb13 hx0 hx1 hx13 hx14)
    have u44 : ∀ i, i < 44 → OpStep Tryz.prog su10Ops Q (su10F a b s mb lb k n er p13 ε β e1 hβ hγ hmx hmb hle hmn hlb hge hsm hv cm) w0 198 (fun t => a0.tmps.getD t undef) i := upto_succ u43 (su10_s43 a b s mb lb k n er p13 ε β e1 hβ hγ hmx hmb hle hmn hlb hge hsm hv cm hb13 hx0 hx1 hx13 hx14)
    exact u44
  · intro V X hb hV
    exact hend V X hb (hV 43 (of_decide_eq_true (by kernel_rfl)) (by kernel_rfl))
noncomputable def su15Ops : Array Oper := regOf Tryz.f6 15
theorem su15_fill {v0 v1 v2 v3 v4 v5 v6 v7 v8 v9 v10 v11 v12 v13 v14 v15 v16 v17 v18 v19 v20 v21 v22 v23 v24 v25 v26 v27 v28 v29 v30 v31 v32 v33 v34 v35 v36 v37 v38 v39 v40 v41 v42 v43 v44 v45 v46 v47 v48 v49 v50 v51 v52 v53 v54 v55 v56 v57 v58 v59 v60 v61 v62 v63 v64 v65 v66 v67 v68 v69 v70 v71 v72 v73 v74 v75 v76 v77 v78 v79 v80 v81 v82 v83 v84 v85 v86 v87 v88 v89 v90 v91 v92 v93 v94 v95 v96 v97 v98 v99 v100 v101 v102 v103 v104 v105 v106 v107 v108 v109 v110 v111 v112 v113 v114 v115 v116 v117 v118 v119 v120 v121 v122 v123 v124 v125 v126 v127 v128 v129 v130 v131 v132 v133 v134 v135 v136 v137 v138 v139 v140 v141 v142 v143 v144 v145 v146 v147 v148 v149 v150 v151 v152 v153 v154 v155 v156 v157 v158 v159 v160 v161 v162 v163 v164 v165 v166 v167 v168 v169 v170 v171 v172 v173 v174 v175 v176 v177 v178 v179 v180 v181 v182 v183 v184 v185 v186 v187 v188 v189 v190 v191 v192 v193 v194 v195 v196 v197 : Value} (V : Nat → Value) : fillT su15Ops #[v0, v1, v2, v3, v4, v5, v6, v7, v8, v9, v10, v11, v12, v13, v14, v15, v16, v17, v18, v19, v20, v21, v22, v23, v24, v25, v26, v27, v28, v29, v30, v31, v32, v33, v34, v35, v36, v37, v38, v39, v40, v41, v42, v43, v44, v45, v46, v47, v48, v49, v50, v51, v52, v53, v54, v55, v56, v57, v58, v59, v60, v61, v62, v63, v64, v65, v66, v67, v68, v69, v70, v71, v72, v73, v74, v75, v76, v77, v78, v79, v80, v81, v82, v83, v84, v85, v86, v87, v88, v89, v90, v91, v92, v93, v94, v95, v96, v97, v98, v99, v100, v101, v102, v103, v104, v105, v106, v107, v108, v109, v110, v111, v112, v113, v114, v115, v116, v117, v118, v119, v120, v121, v122, v123, v124, v125, v126, v127, v128, v129, v130, v131, v132, v133, v134, v135, v136, v137, v138, v139, v140, v141, v142, v143, v144, v145, v146, v147, v148, v149, v150, v151, v152, v153, v154, v155, v156, v157, v158, v159, v160, v161, v162, v163, v164, v165, v166, v167, v168, v169, v170, v171, v172, v173, v174, v175, v176, v177, v178, v179, v180, v181, v182, v183, v184, v185, v186, v187, v188, v189, v190, v191, v192, v193, v194, v195, v196, v197] V = #[v0, v1, v2, v3, v4, v5, v6, v7, v8, v9, v10, v11, v12, v13, v14, v15, v16, v17, v18, V 7, V 9, v21, v22, v23, v24, v25, v26, v27, v28, v29, v30, v31, v32, v33, v34, v35, v36, v37, v38, v39, v40, v41, v42, v43, v44, v45, v46, v47, v48, v49, v50, v51, v52, v53, v54, v55, v56, v57, v58, v59, v60, v61, v62, v63, v64, v65, v66, v67, v68, v69, v70, v71, v72, v73, v74, v75, v76, v77, v78, v79, v80, v81, v82, v83, v84, v85, v86, v87, v88, v89, v90, v91, v92, v93, v94, v95, v96, v97, v98, v99, v100, v101, v102, v103, v104, v105, v106, v107, v108, v109, v110, v111, v112, v113, v114, v115, v116, v117, v118, v119, v120, v121, v122, v123, v124, v125, v126, v127, v128, v129, v130, v131, v132, v133, v134, V 4, V 0, V 1, V 2, V 3, V 5, V 6, v142, v143, v144, v145, v146, v147, v148, v149, v150, v151, v152, v153, v154, v155, v156, v157, v158, v159, v160, v161, v162, v163, v164, v165, v166, v167, v168, v169, v170, v171, v172, v173, v174, v175, v176, v177, v178, v179, v180, v181, v182, v183, v184, v185, v186, v187, v188, v189, v190, v191, v192, v193, v194, v195, v196, v197] := by
  kernel_rfl
def su15L (a kn nn kd nd rd : Int) (p17 : Nat) (d2 : OpRet ⟨#[43]⟩ 1 a ⟨#[]⟩ kn nn ⟨#[]⟩ kd nd rd) : List (Value → World → Prop) := [IsV (.int .i64 a), IsV (vv 1 a ⟨#[]⟩), IsV (vv kn nn ⟨#[]⟩), IsV (.tuple #[vv kd nd ⟨#[]⟩, .int .i64 rd]), IsV (.tuple #[vv kd nd ⟨#[]⟩, .int .i64 rd]), IsV (vv kd nd ⟨#[]⟩), IsV (.int .i64 rd), AnyF, AnyF, IsV (.int .i64 rd)]
def su15F (a kn nn kd nd rd : Int) (p17 : Nat) (d2 : OpRet ⟨#[43]⟩ 1 a ⟨#[]⟩ kn nn ⟨#[]⟩ kd nd rd) (i : Nat) : Value → World → Prop := (su15L a kn nn kd nd rd p17 d2).getD i AnyF
theorem su15F_mono (a kn nn kd nd rd : Int) (p17 : Nat) (d2 : OpRet ⟨#[43]⟩ 1 a ⟨#[]⟩ kn nn ⟨#[]⟩ kd nd rd) (i : Nat) (v : Value) (w w' : World) (hp : (su15F a kn nn kd nd rd p17 d2) i v w) (hb : Below w.heap.size w w') : (su15F a kn nn kd nd rd p17 d2) i v w' := by
  refine monoL ?_ i v w w' hp hb
  unfold su15L
  simp only [List.forall_mem_cons]
  exact ⟨mono_isV _, mono_isV _, mono_isV _, mono_isV _, mono_isV _, mono_isV _, mono_isV _, mono_any, mono_any, mono_isV _, fun _ h => by cases h⟩
theorem su15_s0 {Q : Exit → Act → World → Prop} {w0 : World} {xs : Nat → Value} (a kn nn kd nd rd : Int) (p17 : Nat) (d2 : OpRet ⟨#[43]⟩ 1 a ⟨#[]⟩ kn nn ⟨#[]⟩ kd nd rd) (hb17 : BoxOn w0 p17 kn nn ⟨#[]⟩) (hx0 : xs 0 = .int .i64 a) (hx17 : xs 17 = .pointer (some ⟨p17, 0, none⟩)) : OpStep Tryz.prog su15Ops Q (su15F a kn nn kd nd rd p17 d2) w0 198 xs 0 := by
  intro act w hb hk hF
  have g0 : act.eval (.tmp 0) = .int .i64 a := (hk 0 (by decide) (by kernel_rfl)).trans hx0
  exact step_move (show opO su15Ops 0 = some (.move (.tmp 0)) by kernel_rfl) (.free (by kernel_rfl)) g0 ⟨rfl, Below.refl _ _⟩

theorem su15_s1 {Q : Exit → Act → World → Prop} {w0 : World} {xs : Nat → Value} (a kn nn kd nd rd : Int) (p17 : Nat) (d2 : OpRet ⟨#[43]⟩ 1 a ⟨#[]⟩ kn nn ⟨#[]⟩ kd nd rd) (hb17 : BoxOn w0 p17 kn nn ⟨#[]⟩) (hx0 : xs 0 = .int .i64 a) (hx17 : xs 17 = .pointer (some ⟨p17, 0, none⟩)) : OpStep Tryz.prog su15Ops Q (su15F a kn nn kd nd rd p17 d2) w0 198 xs 1 := by
  intro act w hb hk hF
  have g136 : act.eval (.tmp 136) = .int .i64 a := hF 0 (of_decide_eq_true (by kernel_rfl)) 136 (by kernel_rfl)
  exact step_call (f := 15) (xs := #[.tmp 136]) (by kernel_rfl) (.free (by kernel_rfl)) (map1 g136) (enters_of Tryz.func15 (by kernel_rfl) rfl) ((num_any a w).mono fun e w' h => ⟨_, h.1, rfl, h.2⟩)

theorem su15_s2 {Q : Exit → Act → World → Prop} {w0 : World} {xs : Nat → Value} (a kn nn kd nd rd : Int) (p17 : Nat) (d2 : OpRet ⟨#[43]⟩ 1 a ⟨#[]⟩ kn nn ⟨#[]⟩ kd nd rd) (hb17 : BoxOn w0 p17 kn nn ⟨#[]⟩) (hx0 : xs 0 = .int .i64 a) (hx17 : xs 17 = .pointer (some ⟨p17, 0, none⟩)) : OpStep Tryz.prog su15Ops Q (su15F a kn nn kd nd rd p17 d2) w0 198 xs 2 := by
  intro act w hb hk hF
  have g17 : act.eval (.tmp 17) = .pointer (some ⟨p17, 0, none⟩) := (hk 17 (by decide) (by kernel_rfl)).trans hx17
  exact step_loadB (show opO su15Ops 2 = some (.load 24 (.tmp 17)) by kernel_rfl) (.free (by kernel_rfl)) g17 (hb17 w hb) ⟨rfl, Below.refl _ _⟩

theorem su15_s3 {Q : Exit → Act → World → Prop} {w0 : World} {xs : Nat → Value} (a kn nn kd nd rd : Int) (p17 : Nat) (d2 : OpRet ⟨#[43]⟩ 1 a ⟨#[]⟩ kn nn ⟨#[]⟩ kd nd rd) (hb17 : BoxOn w0 p17 kn nn ⟨#[]⟩) (hx0 : xs 0 = .int .i64 a) (hx17 : xs 17 = .pointer (some ⟨p17, 0, none⟩)) : OpStep Tryz.prog su15Ops Q (su15F a kn nn kd nd rd p17 d2) w0 198 xs 3 := by
  intro act w hb hk hF
  have g137 : act.eval (.tmp 137) = vv 1 a ⟨#[]⟩ := hF 1 (of_decide_eq_true (by kernel_rfl)) 137 (by kernel_rfl)
  have g138 : act.eval (.tmp 138) = vv kn nn ⟨#[]⟩ := hF 2 (of_decide_eq_true (by kernel_rfl)) 138 (by kernel_rfl)
  exact step_call (f := 14) (xs := #[.const (.string ⟨#[43]⟩), .tmp 137, .tmp 138]) (by kernel_rfl) (.free (by kernel_rfl)) (map3 rfl g137 g138) (enters_of Tryz.func14 (by kernel_rfl) rfl) ((d2 w).mono fun e w' h => ⟨_, h.1, rfl, h.2⟩)

theorem su15_s4 {Q : Exit → Act → World → Prop} {w0 : World} {xs : Nat → Value} (a kn nn kd nd rd : Int) (p17 : Nat) (d2 : OpRet ⟨#[43]⟩ 1 a ⟨#[]⟩ kn nn ⟨#[]⟩ kd nd rd) (hb17 : BoxOn w0 p17 kn nn ⟨#[]⟩) (hx0 : xs 0 = .int .i64 a) (hx17 : xs 17 = .pointer (some ⟨p17, 0, none⟩)) : OpStep Tryz.prog su15Ops Q (su15F a kn nn kd nd rd p17 d2) w0 198 xs 4 := by
  intro act w hb hk hF
  have g139 : act.eval (.tmp 139) = .tuple #[vv kd nd ⟨#[]⟩, .int .i64 rd] := hF 3 (of_decide_eq_true (by kernel_rfl)) 139 (by kernel_rfl)
  exact step_move (show opO su15Ops 4 = some (.move (.tmp 139)) by kernel_rfl) (.free (by kernel_rfl)) g139 ⟨rfl, Below.refl _ _⟩

theorem su15_s5 {Q : Exit → Act → World → Prop} {w0 : World} {xs : Nat → Value} (a kn nn kd nd rd : Int) (p17 : Nat) (d2 : OpRet ⟨#[43]⟩ 1 a ⟨#[]⟩ kn nn ⟨#[]⟩ kd nd rd) (hb17 : BoxOn w0 p17 kn nn ⟨#[]⟩) (hx0 : xs 0 = .int .i64 a) (hx17 : xs 17 = .pointer (some ⟨p17, 0, none⟩)) : OpStep Tryz.prog su15Ops Q (su15F a kn nn kd nd rd p17 d2) w0 198 xs 5 := by
  intro act w hb hk hF
  have g135 : act.eval (.tmp 135) = .tuple #[vv kd nd ⟨#[]⟩, .int .i64 rd] := hF 4 (of_decide_eq_true (by kernel_rfl)) 135 (by kernel_rfl)
  exact step_extract (show opO su15Ops 5 = some (.extract (.tmp 135) 0) by kernel_rfl) (.free (by kernel_rfl)) g135 rfl ⟨rfl, Below.refl _ _⟩

theorem su15_s6 {Q : Exit → Act → World → Prop} {w0 : World} {xs : Nat → Value} (a kn nn kd nd rd : Int) (p17 : Nat) (d2 : OpRet ⟨#[43]⟩ 1 a ⟨#[]⟩ kn nn ⟨#[]⟩ kd nd rd) (hb17 : BoxOn w0 p17 kn nn ⟨#[]⟩) (hx0 : xs 0 = .int .i64 a) (hx17 : xs 17 = .pointer (some ⟨p17, 0, none⟩)) : OpStep Tryz.prog su15Ops Q (su15F a kn nn kd nd rd p17 d2) w0 198 xs 6 := by
  intro act w hb hk hF
  have g135 : act.eval (.tmp 135) = .tuple #[vv kd nd ⟨#[]⟩, .int .i64 rd] := hF 4 (of_decide_eq_true (by kernel_rfl)) 135 (by kernel_rfl)
  exact step_extract (show opO su15Ops 6 = some (.extract (.tmp 135) 1) by kernel_rfl) (.free (by kernel_rfl)) g135 rfl ⟨rfl, Below.refl _ _⟩

theorem su15_s9 {Q : Exit → Act → World → Prop} {w0 : World} {xs : Nat → Value} (a kn nn kd nd rd : Int) (p17 : Nat) (d2 : OpRet ⟨#[43]⟩ 1 a ⟨#[]⟩ kn nn ⟨#[]⟩ kd nd rd) (hb17 : BoxOn w0 p17 kn nn ⟨#[]⟩) (hx0 : xs 0 = .int .i64 a) (hx17 : xs 17 = .pointer (some ⟨p17, 0, none⟩)) : OpStep Tryz.prog su15Ops Q (su15F a kn nn kd nd rd p17 d2) w0 198 xs 9 := by
  intro act w hb hk hF
  have g141 : act.eval (.tmp 141) = .int .i64 rd := hF 6 (of_decide_eq_true (by kernel_rfl)) 141 (by kernel_rfl)
  exact step_assign (show opO su15Ops 9 = some (.assign (.tmp 141)) by kernel_rfl) (.free (by kernel_rfl)) g141 ⟨rfl, Below.refl _ _⟩

theorem su15F_flat (a kn nn kd nd rd : Int) (p17 : Nat) (d2 : OpRet ⟨#[43]⟩ 1 a ⟨#[]⟩ kn nn ⟨#[]⟩ kd nd rd) (i : Nat) (v : Value) (w w' : World) (hp : (su15F a kn nn kd nd rd p17 d2) i v w) : (su15F a kn nn kd nd rd p17 d2) i v w' := by
  refine flatL ?_ i v w w' hp
  unfold su15L
  simp only [List.forall_mem_cons]
  exact ⟨flat_isV _, flat_isV _, flat_isV _, flat_isV _, flat_isV _, flat_isV _, flat_isV _, flat_any, flat_any, flat_isV _, fun _ h => by cases h⟩
theorem su15 {Q : Exit → Act → World → Prop} {a0 : Act} {w0 : World} (a kn nn kd nd rd : Int) (p17 : Nat) (d2 : OpRet ⟨#[43]⟩ 1 a ⟨#[]⟩ kn nn ⟨#[]⟩ kd nd rd) (hb17 : BoxOn w0 p17 kn nn ⟨#[]⟩) (hx0 : a0.tmps.getD 0 undef = .int .i64 a) (hx17 : a0.tmps.getD 17 undef = .pointer (some ⟨p17, 0, none⟩)) (hs : a0.tmps.size = 198)
    (hend : ∀ (V : Nat → Value) (p : Nat) (X : World), Below w0.heap.size w0 X → V 7 = .pointer (some ⟨p, 0, none⟩) → w0.heap.size ≤ p → p < X.heap.size → BoxAt p kd nd ⟨#[]⟩ X → V 9 = .int .i64 rd → Q .normal ⟨fillT su15Ops a0.tmps V, a0.defers⟩ X) : (Code.region 15 su15Ops true).wp Tryz.prog Q a0 w0 := by
  refine wp_region_box (by kernel_rfl) (su15F a kn nn kd nd rd p17 d2) 7 8 19 NewAt (fun p w => BoxAt p kd nd ⟨#[]⟩ w) (su15F_flat a kn nn kd nd rd p17 d2) (by kernel_rfl) (by kernel_rfl) (of_decide_eq_true (by kernel_rfl)) (of_decide_eq_true (by kernel_rfl)) (by decide) new_keep boxAt_keep (by rw [hs]; kernel_rfl) ?_ ?_ ?_ ?_
  · rw [hs]
    have size_is : su15Ops.size = 10 := by kernel_rfl
    rw [size_is]
    intro i hi h1 h2
    have u1 : ∀ i, i < 1 → i ≠ 7 → i ≠ 8 → OpStep Tryz.prog su15Ops Q (su15F a kn nn kd nd rd p17 d2) w0 198 (fun t => a0.tmps.getD t undef) i := by
      intro i hi h1 h2
      by_cases hij : i = 0
      · subst hij; exact su15_s0 a kn nn kd nd rd p17 d2 hb17 hx0 hx17
      · exact absurd hi (by omega)
    have u2 : ∀ i, i < 2 → i ≠ 7 → i ≠ 8 → OpStep Tryz.prog su15Ops Q (su15F a kn nn kd nd rd p17 d2) w0 198 (fun t => a0.tmps.getD t undef) i := by
      intro i hi h1 h2
      by_cases hij : i = 1
      · subst hij; exact su15_s1 a kn nn kd nd rd p17 d2 hb17 hx0 hx17
      · exact u1 i (by omega) h1 h2
    have u3 : ∀ i, i < 3 → i ≠ 7 → i ≠ 8 → OpStep Tryz.prog su15Ops Q (su15F a kn nn kd nd rd p17 d2) w0 198 (fun t => a0.tmps.getD t undef) i := by
      intro i hi h1 h2
      by_cases hij : i = 2
      · subst hij; exact su15_s2 a kn nn kd nd rd p17 d2 hb17 hx0 hx17
      · exact u2 i (by omega) h1 h2
    have u4 : ∀ i, i < 4 → i ≠ 7 → i ≠ 8 → OpStep Tryz.prog su15Ops Q (su15F a kn nn kd nd rd p17 d2) w0 198 (fun t => a0.tmps.getD t undef) i := by
      intro i hi h1 h2
      by_cases hij : i = 3
      · subst hij; exact su15_s3 a kn nn kd nd rd p17 d2 hb17 hx0 hx17
      · exact u3 i (by omega) h1 h2
    have u5 : ∀ i, i < 5 → i ≠ 7 → i ≠ 8 → OpStep Tryz.prog su15Ops Q (su15F a kn nn kd nd rd p17 d2) w0 198 (fun t => a0.tmps.getD t undef) i := by
      intro i hi h1 h2
      by_cases hij : i = 4
      · subst hij; exact su15_s4 a kn nn kd nd rd p17 d2 hb17 hx0 hx17
      · exact u4 i (by omega) h1 h2
    have u6 : ∀ i, i < 6 → i ≠ 7 → i ≠ 8 → OpStep Tryz.prog su15Ops Q (su15F a kn nn kd nd rd p17 d2) w0 198 (fun t => a0.tmps.getD t undef) i := by
      intro i hi h1 h2
      by_cases hij : i = 5
      · subst hij; exact su15_s5 a kn nn kd nd rd p17 d2 hb17 hx0 hx17
      · exact u5 i (by omega) h1 h2
    have u7 : ∀ i, i < 7 → i ≠ 7 → i ≠ 8 → OpStep Tryz.prog su15Ops Q (su15F a kn nn kd nd rd p17 d2) w0 198 (fun t => a0.tmps.getD t undef) i := by
      intro i hi h1 h2
      by_cases hij : i = 6
      · subst hij; exact su15_s6 a kn nn kd nd rd p17 d2 hb17 hx0 hx17
      · exact u6 i (by omega) h1 h2
    have u8 : ∀ i, i < 8 → i ≠ 7 → i ≠ 8 → OpStep Tryz.prog su15Ops Q (su15F a kn nn kd nd rd p17 d2) w0 198 (fun t => a0.tmps.getD t undef) i := fun i hi h1 h2 => u7 i (by omega) h1 h2
    have u9 : ∀ i, i < 9 → i ≠ 7 → i ≠ 8 → OpStep Tryz.prog su15Ops Q (su15F a kn nn kd nd rd p17 d2) w0 198 (fun t => a0.tmps.getD t undef) i := fun i hi h1 h2 => u8 i (by omega) h1 h2
    have u10 : ∀ i, i < 10 → i ≠ 7 → i ≠ 8 → OpStep Tryz.prog su15Ops Q (su15F a kn nn kd nd rd p17 d2) w0 198 (fun t => a0.tmps.getD t undef) i := by
      intro i hi h1 h2
      by_cases hij : i = 9
      · subst hij; exact su15_s9 a kn nn kd nd rd p17 d2 hb17 hx0 hx17
      · exact u9 i (by omega) h1 h2
    exact u10 i hi h1 h2
  · intro a w hb
    exact step_allocV (by kernel_rfl) (.free (by kernel_rfl)) (by kernel_rfl) (fun _ _ => trivial)
  · intro act w p hb hp0 hp1 hp hn hF
    have gy : act.eval (.tmp 140) = vv kd nd ⟨#[]⟩ := hF 5 (of_decide_eq_true (by kernel_rfl)) 140 (by kernel_rfl)
    exact step_storeV (show opO su15Ops 8 = some (.store 24 (.tmp 19) (.tmp 140)) by kernel_rfl) (.free (by kernel_rfl)) (by kernel_rfl) hp gy hb hp0 hp1 hn
  · intro V p X hb hp hp0 hp1 hB hV
    exact hend V p X hb hp hp0 hp1 hB (hV 9 (of_decide_eq_true (by kernel_rfl)) (by kernel_rfl))
noncomputable def su16Ops : Array Oper := regOf Tryz.f6 16
theorem su16_fill {v0 v1 v2 v3 v4 v5 v6 v7 v8 v9 v10 v11 v12 v13 v14 v15 v16 v17 v18 v19 v20 v21 v22 v23 v24 v25 v26 v27 v28 v29 v30 v31 v32 v33 v34 v35 v36 v37 v38 v39 v40 v41 v42 v43 v44 v45 v46 v47 v48 v49 v50 v51 v52 v53 v54 v55 v56 v57 v58 v59 v60 v61 v62 v63 v64 v65 v66 v67 v68 v69 v70 v71 v72 v73 v74 v75 v76 v77 v78 v79 v80 v81 v82 v83 v84 v85 v86 v87 v88 v89 v90 v91 v92 v93 v94 v95 v96 v97 v98 v99 v100 v101 v102 v103 v104 v105 v106 v107 v108 v109 v110 v111 v112 v113 v114 v115 v116 v117 v118 v119 v120 v121 v122 v123 v124 v125 v126 v127 v128 v129 v130 v131 v132 v133 v134 v135 v136 v137 v138 v139 v140 v141 v142 v143 v144 v145 v146 v147 v148 v149 v150 v151 v152 v153 v154 v155 v156 v157 v158 v159 v160 v161 v162 v163 v164 v165 v166 v167 v168 v169 v170 v171 v172 v173 v174 v175 v176 v177 v178 v179 v180 v181 v182 v183 v184 v185 v186 v187 v188 v189 v190 v191 v192 v193 v194 v195 v196 v197 : Value} (V : Nat → Value) : fillT su16Ops #[v0, v1, v2, v3, v4, v5, v6, v7, v8, v9, v10, v11, v12, v13, v14, v15, v16, v17, v18, v19, v20, v21, v22, v23, v24, v25, v26, v27, v28, v29, v30, v31, v32, v33, v34, v35, v36, v37, v38, v39, v40, v41, v42, v43, v44, v45, v46, v47, v48, v49, v50, v51, v52, v53, v54, v55, v56, v57, v58, v59, v60, v61, v62, v63, v64, v65, v66, v67, v68, v69, v70, v71, v72, v73, v74, v75, v76, v77, v78, v79, v80, v81, v82, v83, v84, v85, v86, v87, v88, v89, v90, v91, v92, v93, v94, v95, v96, v97, v98, v99, v100, v101, v102, v103, v104, v105, v106, v107, v108, v109, v110, v111, v112, v113, v114, v115, v116, v117, v118, v119, v120, v121, v122, v123, v124, v125, v126, v127, v128, v129, v130, v131, v132, v133, v134, v135, v136, v137, v138, v139, v140, v141, v142, v143, v144, v145, v146, v147, v148, v149, v150, v151, v152, v153, v154, v155, v156, v157, v158, v159, v160, v161, v162, v163, v164, v165, v166, v167, v168, v169, v170, v171, v172, v173, v174, v175, v176, v177, v178, v179, v180, v181, v182, v183, v184, v185, v186, v187, v188, v189, v190, v191, v192, v193, v194, v195, v196, v197] V = #[v0, v1, v2, v3, v4, v5, v6, v7, v8, v9, v10, v11, v12, v13, v14, v15, v16, v17, v18, v19, v20, v21, v22, v23, v24, v25, v26, v27, v28, v29, v30, v31, v32, v33, v34, v35, v36, v37, v38, v39, v40, v41, v42, v43, v44, v45, v46, v47, v48, v49, v50, v51, v52, v53, v54, v55, v56, v57, v58, v59, v60, v61, v62, v63, v64, v65, v66, v67, v68, v69, v70, v71, v72, v73, v74, v75, v76, v77, v78, v79, v80, v81, v82, v83, v84, v85, v86, v87, v88, v89, v90, v91, v92, v93, v94, v95, v96, v97, v98, v99, v100, v101, v102, v103, v104, v105, v106, v107, v108, v109, v110, v111, v112, v113, v114, v115, v116, v117, v118, v119, v120, v121, v122, v123, v124, v125, v126, v127, v128, v129, v130, v131, v132, v133, v134, v135, v136, v137, v138, v139, v140, v141, V 0, V 1, V 2, V 3, V 4, V 5, V 6, V 7, v150, v151, v152, v153, v154, v155, v156, v157, v158, v159, v160, v161, v162, v163, v164, v165, v166, v167, v168, v169, v170, v171, v172, v173, v174, v175, v176, v177, v178, v179, v180, v181, v182, v183, v184, v185, v186, v187, v188, v189, v190, v191, v192, v193, v194, v195, v196, v197] := by
  kernel_rfl
def su16L (k n er : Int) (p19 p15 : Nat) : List (Value → World → Prop) := [IsV (vv k n ⟨#[]⟩), IsV (vv k n ⟨#[]⟩), IsV (.bool false), IsV (.bool false), IsV (.int .i64 er), IsV (.int .i64 er), IsV (.bool false), IsV (.bool false)]
def su16F (k n er : Int) (p19 p15 : Nat) (i : Nat) : Value → World → Prop := (su16L k n er p19 p15).getD i AnyF
theorem su16F_mono (k n er : Int) (p19 p15 : Nat) (i : Nat) (v : Value) (w w' : World) (hp : (su16F k n er p19 p15) i v w) (hb : Below w.heap.size w w') : (su16F k n er p19 p15) i v w' := by
  refine monoL ?_ i v w w' hp hb
  unfold su16L
  simp only [List.forall_mem_cons]
  exact ⟨mono_isV _, mono_isV _, mono_isV _, mono_isV _, mono_isV _, mono_isV _, mono_isV _, mono_isV _, fun _ h => by cases h⟩
theorem su16_s0 {Q : Exit → Act → World → Prop} {w0 : World} {xs : Nat → Value} (k n er : Int) (p19 p15 : Nat) (hb19 : BoxOn w0 p19 k n ⟨#[]⟩) (hb15 : BoxOn w0 p15 k n ⟨#[]⟩) (hx19 : xs 19 = .pointer (some ⟨p19, 0, none⟩)) (hx15 : xs 15 = .pointer (some ⟨p15, 0, none⟩)) (hx20 : xs 20 = .int .i64 er) (hx16 : xs 16 = .int .i64 er) : OpStep Tryz.prog su16Ops Q (su16F k n er p19 p15) w0 198 xs 0 := by
  intro act w hb hk hF
  have g19 : act.eval (.tmp 19) = .pointer (some ⟨p19, 0, none⟩) := (hk 19 (by decide) (by kernel_rfl)).trans hx19
  exact step_loadB (show opO su16Ops 0 = some (.load 24 (.tmp 19)) by kernel_rfl) (.free (by kernel_rfl)) g19 (hb19 w hb) ⟨rfl, Below.refl _ _⟩

theorem su16_s1 {Q : Exit → Act → World → Prop} {w0 : World} {xs : Nat → Value} (k n er : Int) (p19 p15 : Nat) (hb19 : BoxOn w0 p19 k n ⟨#[]⟩) (hb15 : BoxOn w0 p15 k n ⟨#[]⟩) (hx19 : xs 19 = .pointer (some ⟨p19, 0, none⟩)) (hx15 : xs 15 = .pointer (some ⟨p15, 0, none⟩)) (hx20 : xs 20 = .int .i64 er) (hx16 : xs 16 = .int .i64 er) : OpStep Tryz.prog su16Ops Q (su16F k n er p19 p15) w0 198 xs 1 := by
  intro act w hb hk hF
  have g15 : act.eval (.tmp 15) = .pointer (some ⟨p15, 0, none⟩) := (hk 15 (by decide) (by kernel_rfl)).trans hx15
  exact step_loadB (show opO su16Ops 1 = some (.load 24 (.tmp 15)) by kernel_rfl) (.free (by kernel_rfl)) g15 (hb15 w hb) ⟨rfl, Below.refl _ _⟩

theorem su16_s2 {Q : Exit → Act → World → Prop} {w0 : World} {xs : Nat → Value} (k n er : Int) (p19 p15 : Nat) (hb19 : BoxOn w0 p19 k n ⟨#[]⟩) (hb15 : BoxOn w0 p15 k n ⟨#[]⟩) (hx19 : xs 19 = .pointer (some ⟨p19, 0, none⟩)) (hx15 : xs 15 = .pointer (some ⟨p15, 0, none⟩)) (hx20 : xs 20 = .int .i64 er) (hx16 : xs 16 = .int .i64 er) : OpStep Tryz.prog su16Ops Q (su16F k n er p19 p15) w0 198 xs 2 := by
  intro act w hb hk hF
  have g142 : act.eval (.tmp 142) = vv k n ⟨#[]⟩ := hF 0 (of_decide_eq_true (by kernel_rfl)) 142 (by kernel_rfl)
  have g143 : act.eval (.tmp 143) = vv k n ⟨#[]⟩ := hF 1 (of_decide_eq_true (by kernel_rfl)) 143 (by kernel_rfl)
  exact step_neV (show opO su16Ops 2 = some (.binOp .neq 24 (.tmp 142) (.tmp 143) 24) by kernel_rfl) (.free (by kernel_rfl)) g142 g143 (by rw [same_self]; rfl) ⟨rfl, Below.refl _ _⟩

theorem su16_s3 {Q : Exit → Act → World → Prop} {w0 : World} {xs : Nat → Value} (k n er : Int) (p19 p15 : Nat) (hb19 : BoxOn w0 p19 k n ⟨#[]⟩) (hb15 : BoxOn w0 p15 k n ⟨#[]⟩) (hx19 : xs 19 = .pointer (some ⟨p19, 0, none⟩)) (hx15 : xs 15 = .pointer (some ⟨p15, 0, none⟩)) (hx20 : xs 20 = .int .i64 er) (hx16 : xs 16 = .int .i64 er) : OpStep Tryz.prog su16Ops Q (su16F k n er p19 p15) w0 198 xs 3 := by
  intro act w hb hk hF
  have g144 : act.eval (.tmp 144) = .bool false := hF 2 (of_decide_eq_true (by kernel_rfl)) 144 (by kernel_rfl)
  exact step_move (show opO su16Ops 3 = some (.move (.tmp 144)) by kernel_rfl) (.free (by kernel_rfl)) g144 ⟨rfl, Below.refl _ _⟩

theorem su16_s4 {Q : Exit → Act → World → Prop} {w0 : World} {xs : Nat → Value} (k n er : Int) (p19 p15 : Nat) (hb19 : BoxOn w0 p19 k n ⟨#[]⟩) (hb15 : BoxOn w0 p15 k n ⟨#[]⟩) (hx19 : xs 19 = .pointer (some ⟨p19, 0, none⟩)) (hx15 : xs 15 = .pointer (some ⟨p15, 0, none⟩)) (hx20 : xs 20 = .int .i64 er) (hx16 : xs 16 = .int .i64 er) : OpStep Tryz.prog su16Ops Q (su16F k n er p19 p15) w0 198 xs 4 := by
  intro act w hb hk hF
  have g145 : act.eval (.tmp 145) = .bool false := hF 3 (of_decide_eq_true (by kernel_rfl)) 145 (by kernel_rfl)
  have g20 : act.eval (.tmp 20) = .int .i64 er := (hk 20 (by decide) (by kernel_rfl)).trans hx20
  exact step_move (show opO su16Ops 4 = some (.move (.tmp 20)) by kernel_rfl) (.told 3 false 145 (by kernel_rfl) (by kernel_rfl) g145) g20 ⟨rfl, Below.refl _ _⟩

theorem su16_s5 {Q : Exit → Act → World → Prop} {w0 : World} {xs : Nat → Value} (k n er : Int) (p19 p15 : Nat) (hb19 : BoxOn w0 p19 k n ⟨#[]⟩) (hb15 : BoxOn w0 p15 k n ⟨#[]⟩) (hx19 : xs 19 = .pointer (some ⟨p19, 0, none⟩)) (hx15 : xs 15 = .pointer (some ⟨p15, 0, none⟩)) (hx20 : xs 20 = .int .i64 er) (hx16 : xs 16 = .int .i64 er) : OpStep Tryz.prog su16Ops Q (su16F k n er p19 p15) w0 198 xs 5 := by
  intro act w hb hk hF
  have g145 : act.eval (.tmp 145) = .bool false := hF 3 (of_decide_eq_true (by kernel_rfl)) 145 (by kernel_rfl)
  have g16 : act.eval (.tmp 16) = .int .i64 er := (hk 16 (by decide) (by kernel_rfl)).trans hx16
  exact step_move (show opO su16Ops 5 = some (.move (.tmp 16)) by kernel_rfl) (.told 3 false 145 (by kernel_rfl) (by kernel_rfl) g145) g16 ⟨rfl, Below.refl _ _⟩

theorem su16_s6 {Q : Exit → Act → World → Prop} {w0 : World} {xs : Nat → Value} (k n er : Int) (p19 p15 : Nat) (hb19 : BoxOn w0 p19 k n ⟨#[]⟩) (hb15 : BoxOn w0 p15 k n ⟨#[]⟩) (hx19 : xs 19 = .pointer (some ⟨p19, 0, none⟩)) (hx15 : xs 15 = .pointer (some ⟨p15, 0, none⟩)) (hx20 : xs 20 = .int .i64 er) (hx16 : xs 16 = .int .i64 er) : OpStep Tryz.prog su16Ops Q (su16F k n er p19 p15) w0 198 xs 6 := by
  intro act w hb hk hF
  have g145 : act.eval (.tmp 145) = .bool false := hF 3 (of_decide_eq_true (by kernel_rfl)) 145 (by kernel_rfl)
  have g146 : act.eval (.tmp 146) = .int .i64 er := hF 4 (of_decide_eq_true (by kernel_rfl)) 146 (by kernel_rfl)
  have g147 : act.eval (.tmp 147) = .int .i64 er := hF 5 (of_decide_eq_true (by kernel_rfl)) 147 (by kernel_rfl)
  exact step_neI (show opO su16Ops 6 = some (.binOp .neq 28 (.tmp 146) (.tmp 147) 28) by kernel_rfl) (.told 3 false 145 (by kernel_rfl) (by kernel_rfl) g145) g146 g147 (by simp) ⟨rfl, Below.refl _ _⟩

theorem su16_s7 {Q : Exit → Act → World → Prop} {w0 : World} {xs : Nat → Value} (k n er : Int) (p19 p15 : Nat) (hb19 : BoxOn w0 p19 k n ⟨#[]⟩) (hb15 : BoxOn w0 p15 k n ⟨#[]⟩) (hx19 : xs 19 = .pointer (some ⟨p19, 0, none⟩)) (hx15 : xs 15 = .pointer (some ⟨p15, 0, none⟩)) (hx20 : xs 20 = .int .i64 er) (hx16 : xs 16 = .int .i64 er) : OpStep Tryz.prog su16Ops Q (su16F k n er p19 p15) w0 198 xs 7 := by
  intro act w hb hk hF
  have g145 : act.eval (.tmp 145) = .bool false := hF 3 (of_decide_eq_true (by kernel_rfl)) 145 (by kernel_rfl)
  have g148 : act.eval (.tmp 148) = .bool false := hF 6 (of_decide_eq_true (by kernel_rfl)) 148 (by kernel_rfl)
  exact step_pickF (show opO su16Ops 7 = some (.pick (.tmp 145) (.const (.bool true)) (.tmp 148)) by kernel_rfl) (.free (by kernel_rfl)) g145 g148 ⟨rfl, Below.refl _ _⟩

theorem su16 {bb : Bool} {Q : Exit → Act → World → Prop} {a0 : Act} {w0 : World} (k n er : Int) (p19 p15 : Nat) (hb19 : BoxOn w0 p19 k n ⟨#[]⟩) (hb15 : BoxOn w0 p15 k n ⟨#[]⟩) (hx19 : a0.tmps.getD 19 undef = .pointer (some ⟨p19, 0, none⟩)) (hx15 : a0.tmps.getD 15 undef = .pointer (some ⟨p15, 0, none⟩)) (hx20 : a0.tmps.getD 20 undef = .int .i64 er) (hx16 : a0.tmps.getD 16 undef = .int .i64 er) (hs : a0.tmps.size = 198)
    (hend : ∀ (V : Nat → Value) (X : World), Below w0.heap.size w0 X → V 7 = .bool false → Q .normal ⟨fillT su16Ops a0.tmps V, a0.defers⟩ X) : (Code.region 16 su16Ops bb).wp Tryz.prog Q a0 w0 := by
  refine wp_region_both (by kernel_rfl) (su16F k n er p19 p15) (su16F_mono k n er p19 p15) (by rw [hs]; kernel_rfl) ?_ ?_
  · rw [hs]
    have size_is : su16Ops.size = 8 := by kernel_rfl
    rw [size_is]
    have u1 : ∀ i, i < 1 → OpStep Tryz.prog su16Ops Q (su16F k n er p19 p15) w0 198 (fun t => a0.tmps.getD t undef) i := upto_succ upto_zero (su16_s0 k n er p19 p15 hb19 hb15 hx19 hx15 hx20 hx16)
    have u2 : ∀ i, i < 2 → OpStep Tryz.prog su16Ops Q (su16F k n er p19 p15) w0 198 (fun t => a0.tmps.getD t undef) i := upto_succ u1 (su16_s1 k n er p19 p15 hb19 hb15 hx19 hx15 hx20 hx16)
    have u3 : ∀ i, i < 3 → OpStep Tryz.prog su16Ops Q (su16F k n er p19 p15) w0 198 (fun t => a0.tmps.getD t undef) i := upto_succ u2 (su16_s2 k n er p19 p15 hb19 hb15 hx19 hx15 hx20 hx16)
    have u4 : ∀ i, i < 4 → OpStep Tryz.prog su16Ops Q (su16F k n er p19 p15) w0 198 (fun t => a0.tmps.getD t undef) i := upto_succ u3 (su16_s3 k n er p19 p15 hb19 hb15 hx19 hx15 hx20 hx16)
    have u5 : ∀ i, i < 5 → OpStep Tryz.prog su16Ops Q (su16F k n er p19 p15) w0 198 (fun t => a0.tmps.getD t undef) i := upto_succ u4 (su16_s4 k n er p19 p15 hb19 hb15 hx19 hx15 hx20 hx16)
    have u6 : ∀ i, i < 6 → OpStep Tryz.prog su16Ops Q (su16F k n er p19 p15) w0 198 (fun t => a0.tmps.getD t undef) i := upto_succ u5 (su16_s5 k n er p19 p15 hb19 hb15 hx19 hx15 hx20 hx16)
    have u7 : ∀ i, i < 7 → OpStep Tryz.prog su16Ops Q (su16F k n er p19 p15) w0 198 (fun t => a0.tmps.getD t undef) i := upto_succ u6 (su16_s6 k n er p19 p15 hb19 hb15 hx19 hx15 hx20 hx16)
    have u8 : ∀ i, i < 8 → OpStep Tryz.prog su16Ops Q (su16F k n er p19 p15) w0 198 (fun t => a0.tmps.getD t undef) i := upto_succ u7 (su16_s7 k n er p19 p15 hb19 hb15 hx19 hx15 hx20 hx16)
    exact u8
  · intro V X hb hV
    exact hend V X hb (hV 7 (of_decide_eq_true (by kernel_rfl)) (by kernel_rfl))
noncomputable def su20Ops : Array Oper := regOf Tryz.f6 20
theorem su20_fill {v0 v1 v2 v3 v4 v5 v6 v7 v8 v9 v10 v11 v12 v13 v14 v15 v16 v17 v18 v19 v20 v21 v22 v23 v24 v25 v26 v27 v28 v29 v30 v31 v32 v33 v34 v35 v36 v37 v38 v39 v40 v41 v42 v43 v44 v45 v46 v47 v48 v49 v50 v51 v52 v53 v54 v55 v56 v57 v58 v59 v60 v61 v62 v63 v64 v65 v66 v67 v68 v69 v70 v71 v72 v73 v74 v75 v76 v77 v78 v79 v80 v81 v82 v83 v84 v85 v86 v87 v88 v89 v90 v91 v92 v93 v94 v95 v96 v97 v98 v99 v100 v101 v102 v103 v104 v105 v106 v107 v108 v109 v110 v111 v112 v113 v114 v115 v116 v117 v118 v119 v120 v121 v122 v123 v124 v125 v126 v127 v128 v129 v130 v131 v132 v133 v134 v135 v136 v137 v138 v139 v140 v141 v142 v143 v144 v145 v146 v147 v148 v149 v150 v151 v152 v153 v154 v155 v156 v157 v158 v159 v160 v161 v162 v163 v164 v165 v166 v167 v168 v169 v170 v171 v172 v173 v174 v175 v176 v177 v178 v179 v180 v181 v182 v183 v184 v185 v186 v187 v188 v189 v190 v191 v192 v193 v194 v195 v196 v197 : Value} (V : Nat → Value) : fillT su20Ops #[v0, v1, v2, v3, v4, v5, v6, v7, v8, v9, v10, v11, v12, v13, v14, v15, v16, v17, v18, v19, v20, v21, v22, v23, v24, v25, v26, v27, v28, v29, v30, v31, v32, v33, v34, v35, v36, v37, v38, v39, v40, v41, v42, v43, v44, v45, v46, v47, v48, v49, v50, v51, v52, v53, v54, v55, v56, v57, v58, v59, v60, v61, v62, v63, v64, v65, v66, v67, v68, v69, v70, v71, v72, v73, v74, v75, v76, v77, v78, v79, v80, v81, v82, v83, v84, v85, v86, v87, v88, v89, v90, v91, v92, v93, v94, v95, v96, v97, v98, v99, v100, v101, v102, v103, v104, v105, v106, v107, v108, v109, v110, v111, v112, v113, v114, v115, v116, v117, v118, v119, v120, v121, v122, v123, v124, v125, v126, v127, v128, v129, v130, v131, v132, v133, v134, v135, v136, v137, v138, v139, v140, v141, v142, v143, v144, v145, v146, v147, v148, v149, v150, v151, v152, v153, v154, v155, v156, v157, v158, v159, v160, v161, v162, v163, v164, v165, v166, v167, v168, v169, v170, v171, v172, v173, v174, v175, v176, v177, v178, v179, v180, v181, v182, v183, v184, v185, v186, v187, v188, v189, v190, v191, v192, v193, v194, v195, v196, v197] V = #[v0, v1, v2, v3, v4, v5, v6, v7, v8, v9, v10, v11, v12, v13, v14, v15, v16, v17, v18, v19, v20, v21, v22, v23, v24, v25, v26, v27, v28, v29, v30, v31, v32, v33, v34, v35, v36, v37, v38, v39, v40, v41, v42, v43, v44, v45, v46, v47, v48, v49, v50, v51, v52, v53, v54, v55, v56, v57, v58, v59, v60, v61, v62, v63, v64, v65, v66, v67, v68, v69, v70, v71, v72, v73, v74, v75, v76, v77, v78, v79, v80, v81, v82, v83, v84, v85, v86, v87, v88, v89, v90, v91, v92, v93, v94, v95, v96, v97, v98, v99, v100, v101, v102, v103, v104, v105, v106, v107, v108, v109, v110, v111, v112, v113, v114, v115, v116, v117, v118, v119, v120, v121, v122, v123, v124, v125, v126, v127, v128, v129, v130, v131, v132, v133, v134, v135, v136, v137, v138, v139, v140, v141, v142, v143, v144, v145, v146, v147, v148, v149, v150, v151, V 0, V 1, V 2, V 3, V 4, V 5, V 6, V 7, V 8, V 9, V 10, V 11, V 12, V 13, V 14, V 15, V 16, V 17, V 18, V 19, V 20, V 21, v174, v175, v176, v177, v178, v179, v180, v181, v182, v183, v184, v185, v186, v187, v188, v189, v190, v191, v192, v193, v194, v195, v196, v197] := by
  kernel_rfl
def su20L (a b c : Int) (β1 β2 β3 β4 β5 β6 : Bool) (hβ1 : Hid (decide (-1048576 < a) = β1)) (hβ2 : Hid (decide (a < 1048576) = β2)) (hβ3 : Hid (decide (-1048576 < b) = β3)) (hβ4 : Hid (decide (b < 1048576) = β4)) (hβ5 : Hid (decide (-1048576 < c) = β5)) (hβ6 : Hid (decide (c < 1048576) = β6)) : List (Value → World → Prop) := [IsV (.int .i64 a), IsV (cond β1 (.bool true) (.bool false)), IsV (cond β1 (.bool true) (.bool false)), IsV (cond β1 (.int .i64 a) (undef)), IsV (cond β1 (cond β2 (.bool true) (.bool false)) (undef)), IsV (cond β1 (cond β2 (.bool true) (.bool false)) (.bool false)), IsV (cond β1 (cond β2 (.bool true) (.bool false)) (.bool false)), IsV (cond β1 (cond β2 (.int .i64 b) (undef)) (undef)), IsV (cond β1 (cond β2 (cond β3 (.bool true) (.bool false)) (undef)) (undef)), IsV (cond β1 (cond β2 (cond β3 (.bool true) (.bool false)) (.bool false)) (.bool false)), IsV (cond β1 (cond β2 (cond β3 (.bool true) (.bool false)) (.bool false)) (.bool false)), IsV (cond β1 (cond β2 (cond β3 (.int .i64 b) (undef)) (undef)) (undef)), IsV (cond β1 (cond β2 (cond β3 (cond β4 (.bool true) (.bool false)) (undef)) (undef)) (undef)), IsV (cond β1 (cond β2 (cond β3 (cond β4 (.bool true) (.bool false)) (.bool false)) (.bool false)) (.bool false)), IsV (cond β1 (cond β2 (cond β3 (cond β4 (.bool true) (.bool false)) (.bool false)) (.bool false)) (.bool false)), IsV (cond β1 (cond β2 (cond β3 (cond β4 (.int .i64 c) (undef)) (undef)) (undef)) (undef)), IsV (cond β1 (cond β2 (cond β3 (cond β4 (cond β5 (.bool true) (.bool false)) (undef)) (undef)) (undef)) (undef)), IsV (cond β1 (cond β2 (cond β3 (cond β4 (cond β5 (.bool true) (.bool false)) (.bool false)) (.bool false)) (.bool false)) (.bool false)), IsV (cond β1 (cond β2 (cond β3 (cond β4 (cond β5 (.bool true) (.bool false)) (.bool false)) (.bool false)) (.bool false)) (.bool false)), IsV (cond β1 (cond β2 (cond β3 (cond β4 (cond β5 (.int .i64 c) (undef)) (undef)) (undef)) (undef)) (undef)), IsV (cond β1 (cond β2 (cond β3 (cond β4 (cond β5 (cond β6 (.bool true) (.bool false)) (undef)) (undef)) (undef)) (undef)) (undef)), IsV (cond β1 (cond β2 (cond β3 (cond β4 (cond β5 (cond β6 (.bool true) (.bool false)) (.bool false)) (.bool false)) (.bool false)) (.bool false)) (.bool false))]
def su20F (a b c : Int) (β1 β2 β3 β4 β5 β6 : Bool) (hβ1 : Hid (decide (-1048576 < a) = β1)) (hβ2 : Hid (decide (a < 1048576) = β2)) (hβ3 : Hid (decide (-1048576 < b) = β3)) (hβ4 : Hid (decide (b < 1048576) = β4)) (hβ5 : Hid (decide (-1048576 < c) = β5)) (hβ6 : Hid (decide (c < 1048576) = β6)) (i : Nat) : Value → World → Prop := (su20L a b c β1 β2 β3 β4 β5 β6 hβ1 hβ2 hβ3 hβ4 hβ5 hβ6).getD i AnyF
theorem su20F_mono (a b c : Int) (β1 β2 β3 β4 β5 β6 : Bool) (hβ1 : Hid (decide (-1048576 < a) = β1)) (hβ2 : Hid (decide (a < 1048576) = β2)) (hβ3 : Hid (decide (-1048576 < b) = β3)) (hβ4 : Hid (decide (b < 1048576) = β4)) (hβ5 : Hid (decide (-1048576 < c) = β5)) (hβ6 : Hid (decide (c < 1048576) = β6)) (i : Nat) (v : Value) (w w' : World) (hp : (su20F a b c β1 β2 β3 β4 β5 β6 hβ1 hβ2 hβ3 hβ4 hβ5 hβ6) i v w) (hb : Below w.heap.size w w') : (su20F a b c β1 β2 β3 β4 β5 β6 hβ1 hβ2 hβ3 hβ4 hβ5 hβ6) i v w' := by
  refine monoL ?_ i v w w' hp hb
  unfold su20L
  simp only [List.forall_mem_cons]
  exact ⟨mono_isV _, mono_isV _, mono_isV _, mono_isV _, mono_isV _, mono_isV _, mono_isV _, mono_isV _, mono_isV _, mono_isV _, mono_isV _, mono_isV _, mono_isV _, mono_isV _, mono_isV _, mono_isV _, mono_isV _, mono_isV _, mono_isV _, mono_isV _, mono_isV _, mono_isV _, fun _ h => by cases h⟩
theorem su20_s0 {Q : Exit → Act → World → Prop} {w0 : World} {xs : Nat → Value} (a b c : Int) (β1 β2 β3 β4 β5 β6 : Bool) (hβ1 : Hid (decide (-1048576 < a) = β1)) (hβ2 : Hid (decide (a < 1048576) = β2)) (hβ3 : Hid (decide (-1048576 < b) = β3)) (hβ4 : Hid (decide (b < 1048576) = β4)) (hβ5 : Hid (decide (-1048576 < c) = β5)) (hβ6 : Hid (decide (c < 1048576) = β6)) (hx0 : xs 0 = .int .i64 a) (hx1 : xs 1 = .int .i64 b) (hx2 : xs 2 = .int .i64 c) : OpStep Tryz.prog su20Ops Q (su20F a b c β1 β2 β3 β4 β5 β6 hβ1 hβ2 hβ3 hβ4 hβ5 hβ6) w0 198 xs 0 := by
  intro act w hb hk hF
  have g0 : act.eval (.tmp 0) = .int .i64 a := (hk 0 (by decide) (by kernel_rfl)).trans hx0
  exact step_move (show opO su20Ops 0 = some (.move (.tmp 0)) by kernel_rfl) (.free (by kernel_rfl)) g0 ⟨rfl, Below.refl _ _⟩

theorem su20_s1 {Q : Exit → Act → World → Prop} {w0 : World} {xs : Nat → Value} (a b c : Int) (β1 β2 β3 β4 β5 β6 : Bool) (hβ1 : Hid (decide (-1048576 < a) = β1)) (hβ2 : Hid (decide (a < 1048576) = β2)) (hβ3 : Hid (decide (-1048576 < b) = β3)) (hβ4 : Hid (decide (b < 1048576) = β4)) (hβ5 : Hid (decide (-1048576 < c) = β5)) (hβ6 : Hid (decide (c < 1048576) = β6)) (hx0 : xs 0 = .int .i64 a) (hx1 : xs 1 = .int .i64 b) (hx2 : xs 2 = .int .i64 c) : OpStep Tryz.prog su20Ops Q (su20F a b c β1 β2 β3 β4 β5 β6 hβ1 hβ2 hβ3 hβ4 hβ5 hβ6) w0 198 xs 1 := by
  intro act w hb hk hF
  have g152 : act.eval (.tmp 152) = .int .i64 a := hF 0 (of_decide_eq_true (by kernel_rfl)) 152 (by kernel_rfl)
  cases β1
  · exact step_gtI (show opO su20Ops 1 = some (.binOp .gtr 2 (.tmp 152) (.const (.int .i64 (-1048576))) 2) by kernel_rfl) (.free (by kernel_rfl)) g152 rfl hβ1.out ⟨rfl, Below.refl _ _⟩
  · exact step_gtI (show opO su20Ops 1 = some (.binOp .gtr 2 (.tmp 152) (.const (.int .i64 (-1048576))) 2) by kernel_rfl) (.free (by kernel_rfl)) g152 rfl hβ1.out ⟨rfl, Below.refl _ _⟩

theorem su20_s2 {Q : Exit → Act → World → Prop} {w0 : World} {xs : Nat → Value} (a b c : Int) (β1 β2 β3 β4 β5 β6 : Bool) (hβ1 : Hid (decide (-1048576 < a) = β1)) (hβ2 : Hid (decide (a < 1048576) = β2)) (hβ3 : Hid (decide (-1048576 < b) = β3)) (hβ4 : Hid (decide (b < 1048576) = β4)) (hβ5 : Hid (decide (-1048576 < c) = β5)) (hβ6 : Hid (decide (c < 1048576) = β6)) (hx0 : xs 0 = .int .i64 a) (hx1 : xs 1 = .int .i64 b) (hx2 : xs 2 = .int .i64 c) : OpStep Tryz.prog su20Ops Q (su20F a b c β1 β2 β3 β4 β5 β6 hβ1 hβ2 hβ3 hβ4 hβ5 hβ6) w0 198 xs 2 := by
  intro act w hb hk hF
  have g153 : act.eval (.tmp 153) = cond β1 (.bool true) (.bool false) := hF 1 (of_decide_eq_true (by kernel_rfl)) 153 (by kernel_rfl)
  exact step_move (show opO su20Ops 2 = some (.move (.tmp 153)) by kernel_rfl) (.free (by kernel_rfl)) g153 ⟨rfl, Below.refl _ _⟩

theorem su20_s3 {Q : Exit → Act → World → Prop} {w0 : World} {xs : Nat → Value} (a b c : Int) (β1 β2 β3 β4 β5 β6 : Bool) (hβ1 : Hid (decide (-1048576 < a) = β1)) (hβ2 : Hid (decide (a < 1048576) = β2)) (hβ3 : Hid (decide (-1048576 < b) = β3)) (hβ4 : Hid (decide (b < 1048576) = β4)) (hβ5 : Hid (decide (-1048576 < c) = β5)) (hβ6 : Hid (decide (c < 1048576) = β6)) (hx0 : xs 0 = .int .i64 a) (hx1 : xs 1 = .int .i64 b) (hx2 : xs 2 = .int .i64 c) : OpStep Tryz.prog su20Ops Q (su20F a b c β1 β2 β3 β4 β5 β6 hβ1 hβ2 hβ3 hβ4 hβ5 hβ6) w0 198 xs 3 := by
  intro act w hb hk hF
  have g154 : act.eval (.tmp 154) = cond β1 (.bool true) (.bool false) := hF 2 (of_decide_eq_true (by kernel_rfl)) 154 (by kernel_rfl)
  have g0 : act.eval (.tmp 0) = .int .i64 a := (hk 0 (by decide) (by kernel_rfl)).trans hx0
  cases β1
  · exact step_off (of_decide_eq_true (by kernel_rfl)) (.told 2 true 154 (by kernel_rfl) (by kernel_rfl) g154) ⟨rfl, Below.refl _ _⟩
  · exact step_move (show opO su20Ops 3 = some (.move (.tmp 0)) by kernel_rfl) (.told 2 true 154 (by kernel_rfl) (by kernel_rfl) g154) g0 ⟨rfl, Below.refl _ _⟩

theorem su20_s4 {Q : Exit → Act → World → Prop} {w0 : World} {xs : Nat → Value} (a b c : Int) (β1 β2 β3 β4 β5 β6 : Bool) (hβ1 : Hid (decide (-1048576 < a) = β1)) (hβ2 : Hid (decide (a < 1048576) = β2)) (hβ3 : Hid (decide (-1048576 < b) = β3)) (hβ4 : Hid (decide (b < 1048576) = β4)) (hβ5 : Hid (decide (-1048576 < c) = β5)) (hβ6 : Hid (decide (c < 1048576) = β6)) (hx0 : xs 0 = .int .i64 a) (hx1 : xs 1 = .int .i64 b) (hx2 : xs 2 = .int .i64 c) : OpStep Tryz.prog su20Ops Q (su20F a b c β1 β2 β3 β4 β5 β6 hβ1 hβ2 hβ3 hβ4 hβ5 hβ6) w0 198 xs 4 := by
  intro act w hb hk hF
  have g154 : act.eval (.tmp 154) = cond β1 (.bool true) (.bool false) := hF 2 (of_decide_eq_true (by kernel_rfl)) 154 (by kernel_rfl)
  have g155 : act.eval (.tmp 155) = cond β1 (.int .i64 a) (undef) := hF 3 (of_decide_eq_true (by kernel_rfl)) 155 (by kernel_rfl)
  cases β1
  · cases β2
    · exact step_off (of_decide_eq_true (by kernel_rfl)) (.told 2 true 154 (by kernel_rfl) (by kernel_rfl) g154) ⟨rfl, Below.refl _ _⟩
    · exact step_off (of_decide_eq_true (by kernel_rfl)) (.told 2 true 154 (by kernel_rfl) (by kernel_rfl) g154) ⟨rfl, Below.refl _ _⟩
  · cases β2
    · exact step_ltI (show opO su20Ops 4 = some (.binOp .lss 2 (.tmp 155) (.const (.int .i64 1048576)) 2) by kernel_rfl) (.told 2 true 154 (by kernel_rfl) (by kernel_rfl) g154) g155 rfl hβ2.out ⟨rfl, Below.refl _ _⟩
    · exact step_ltI (show opO su20Ops 4 = some (.binOp .lss 2 (.tmp 155) (.const (.int .i64 1048576)) 2) by kernel_rfl) (.told 2 true 154 (by kernel_rfl) (by kernel_rfl) g154) g155 rfl hβ2.out ⟨rfl, Below.refl _ _⟩

theorem su20_s5 {Q : Exit → Act → World → Prop} {w0 : World} {xs : Nat → Value} (a b c : Int) (β1 β2 β3 β4 β5 β6 : Bool) (hβ1 : Hid (decide (-1048576 < a) = β1)) (hβ2 : Hid (decide (a < 1048576) = β2)) (hβ3 : Hid (decide (-1048576 < b) = β3)) (hβ4 : Hid (decide (b < 1048576) = β4)) (hβ5 : Hid (decide (-1048576 < c) = β5)) (hβ6 : Hid (decide (c < 1048576) = β6)) (hx0 : xs 0 = .int .i64 a) (hx1 : xs 1 = .int .i64 b) (hx2 : xs 2 = .int .i64 c) : OpStep Tryz.prog su20Ops Q (su20F a b c β1 β2 β3 β4 β5 β6 hβ1 hβ2 hβ3 hβ4 hβ5 hβ6) w0 198 xs 5 := by
  intro act w hb hk hF
  have g154 : act.eval (.tmp 154) = cond β1 (.bool true) (.bool false) := hF 2 (of_decide_eq_true (by kernel_rfl)) 154 (by kernel_rfl)
  have g156 : act.eval (.tmp 156) = cond β1 (cond β2 (.bool true) (.bool false)) (undef) := hF 4 (of_decide_eq_true (by kernel_rfl)) 156 (by kernel_rfl)
  cases β1
  · cases β2
    · exact step_pickF (show opO su20Ops 5 = some (.pick (.tmp 154) (.tmp 156) (.const (.bool false))) by kernel_rfl) (.free (by kernel_rfl)) g154 rfl ⟨rfl, Below.refl _ _⟩
    · exact step_pickF (show opO su20Ops 5 = some (.pick (.tmp 154) (.tmp 156) (.const (.bool false))) by kernel_rfl) (.free (by kernel_rfl)) g154 rfl ⟨rfl, Below.refl _ _⟩
  · cases β2
    · exact step_pickT (show opO su20Ops 5 = some (.pick (.tmp 154) (.tmp 156) (.const (.bool false))) by kernel_rfl) (.free (by kernel_rfl)) g154 g156 ⟨rfl, Below.refl _ _⟩
    · exact step_pickT (show opO su20Ops 5 = some (.pick (.tmp 154) (.tmp 156) (.const (.bool false))) by kernel_rfl) (.free (by kernel_rfl)) g154 g156 ⟨rfl, Below.refl _ _⟩

theorem su20_s6 {Q : Exit → Act → World → Prop} {w0 : World} {xs : Nat → Value} (a b c : Int) (β1 β2 β3 β4 β5 β6 : Bool) (hβ1 : Hid (decide (-1048576 < a) = β1)) (hβ2 : Hid (decide (a < 1048576) = β2)) (hβ3 : Hid (decide (-1048576 < b) = β3)) (hβ4 : Hid (decide (b < 1048576) = β4)) (hβ5 : Hid (decide (-1048576 < c) = β5)) (hβ6 : Hid (decide (c < 1048576) = β6)) (hx0 : xs 0 = .int .i64 a) (hx1 : xs 1 = .int .i64 b) (hx2 : xs 2 = .int .i64 c) : OpStep Tryz.prog su20Ops Q (su20F a b c β1 β2 β3 β4 β5 β6 hβ1 hβ2 hβ3 hβ4 hβ5 hβ6) w0 198 xs 6 := by
  intro act w hb hk hF
  have g157 : act.eval (.tmp 157) = cond β1 (cond β2 (.bool true) (.bool false)) (.bool false) := hF 5 (of_decide_eq_true (by kernel_rfl)) 157 (by kernel_rfl)
  exact step_move (show opO su20Ops 6 = some (.move (.tmp 157)) by kernel_rfl) (.free (by kernel_rfl)) g157 ⟨rfl, Below.refl _ _⟩

theorem su20_s7 {Q : Exit → Act → World → Prop} {w0 : World} {xs : Nat → Value} (a b c : Int) (β1 β2 β3 β4 β5 β6 : Bool) (hβ1 : Hid (decide (-1048576 < a) = β1)) (hβ2 : Hid (decide (a < 1048576) = β2)) (hβ3 : Hid (decide (-1048576 < b) = β3)) (hβ4 : Hid (decide (b < 1048576) = β4)) (hβ5 : Hid (decide (-1048576 < c) = β5)) (hβ6 : Hid (decide (c < 1048576) = β6)) (hx0 : xs 0 = .int .i64 a) (hx1 : xs 1 = .int .i64 b) (hx2 : xs 2 = .int .i64 c) : OpStep Tryz.prog su20Ops Q (su20F a b c β1 β2 β3 β4 β5 β6 hβ1 hβ2 hβ3 hβ4 hβ5 hβ6) w0 198 xs 7 := by
  intro act w hb hk hF
  have g158 : act.eval (.tmp 158) = cond β1 (cond β2 (.bool true) (.bool false)) (.bool false) := hF 6 (of_decide_eq_true (by kernel_rfl)) 158 (by kernel_rfl)
  have g1 : act.eval (.tmp 1) = .int .i64 b := (hk 1 (by decide) (by kernel_rfl)).trans hx1
  cases β1
  · cases β2
    · exact step_off (of_decide_eq_true (by kernel_rfl)) (.told 6 true 158 (by kernel_rfl) (by kernel_rfl) g158) ⟨rfl, Below.refl _ _⟩
    · exact step_off (of_decide_eq_true (by kernel_rfl)) (.told 6 true 158 (by kernel_rfl) (by kernel_rfl) g158) ⟨rfl, Below.refl _ _⟩
  · cases β2
    · exact step_off (of_decide_eq_true (by kernel_rfl)) (.told 6 true 158 (by kernel_rfl) (by kernel_rfl) g158) ⟨rfl, Below.refl _ _⟩
    · exact step_move (show opO su20Ops 7 = some (.move (.tmp 1)) by kernel_rfl) (.told 6 true 158 (by kernel_rfl) (by kernel_rfl) g158) g1 ⟨rfl, Below.refl _ _⟩

theorem su20_s8 {Q : Exit → Act → World → Prop} {w0 : World} {xs : Nat → Value} (a b c : Int) (β1 β2 β3 β4 β5 β6 : Bool) (hβ1 : Hid (decide (-1048576 < a) = β1)) (hβ2 : Hid (decide (a < 1048576) = β2)) (hβ3 : Hid (decide (-1048576 < b) = β3)) (hβ4 : Hid (decide (b < 1048576) = β4)) (hβ5 : Hid (decide (-1048576 < c) = β5)) (hβ6 : Hid (decide (c < 1048576) = β6)) (hx0 : xs 0 = .int .i64 a) (hx1 : xs 1 = .int .i64 b) (hx2 : xs 2 = .int .i64 c) : OpStep Tryz.prog su20Ops Q (su20F a b c β1 β2 β3 β4 β5 β6 hβ1 hβ2 hβ3 hβ4 hβ5 hβ6) w0 198 xs 8 := by
  intro act w hb hk hF
  have g158 : act.eval (.tmp 158) = cond β1 (cond β2 (.bool true) (.bool false)) (.bool false) := hF 6 (of_decide_eq_true (by kernel_rfl)) 158 (by kernel_rfl)
  have g159 : act.eval (.tmp 159) = cond β1 (cond β2 (.int .i64 b) (undef)) (undef) := hF 7 (of_decide_eq_true (by kernel_rfl)) 159 (by kernel_rfl)
  cases β1
  · cases β2
    · cases β3
      · exact step_off (of_decide_eq_true (by kernel_rfl)) (.told 6 true 158 (by kernel_rfl) (by kernel_rfl) g158) ⟨rfl, Below.refl _ _⟩
      · exact step_off (of_decide_eq_true (by kernel_rfl)) (.told 6 true 158 (by kernel_rfl) (by kernel_rfl) g158) ⟨rfl, Below.refl _ _⟩
    · cases β3
      · exact step_off (of_decide_eq_true (by kernel_rfl)) (.told 6 true 158 (by kernel_rfl) (by kernel_rfl) g158) ⟨rfl, Below.refl _ _⟩
      · exact step_off (of_decide_eq_true (by kernel_rfl)) (.told 6 true 158 (by kernel_rfl) (by kernel_rfl) g158) ⟨rfl, Below.refl _ _⟩
  · cases β2
    · cases β3
      · exact step_off (of_decide_eq_true (by kernel_rfl)) (.told 6 true 158 (by kernel_rfl) (by kernel_rfl) g158) ⟨rfl, Below.refl _ _⟩
      · exact step_off (of_decide_eq_true (by kernel_rfl)) (.told 6 true 158 (by kernel_rfl) (by kernel_rfl) g158) ⟨rfl, Below.refl _ _⟩
    · cases β3
      · exact step_gtI (show opO su20Ops 8 = some (.binOp .gtr 2 (.tmp 159) (.const (.int .i64 (-1048576))) 2) by kernel_rfl) (.told 6 true 158 (by kernel_rfl) (by kernel_rfl) g158) g159 rfl hβ3.out ⟨rfl, Below.refl _ _⟩
      · exact step_gtI (show opO su20Ops 8 = some (.binOp .gtr 2 (.tmp 159) (.const (.int .i64 (-1048576))) 2) by kernel_rfl) (.told 6 true 158 (by kernel_rfl) (by kernel_rfl) g158) g159 rfl hβ3.out ⟨rfl, Below.refl _ _⟩

theorem su20_s9 {Q : Exit → Act → World → Prop} {w0 : World} {xs : Nat → Value} (a b c : Int) (β1 β2 β3 β4 β5 β6 : Bool) (hβ1 : Hid (decide (-1048576 < a) = β1)) (hβ2 : Hid (decide (a < 1048576) = β2)) (hβ3 : Hid (decide (-1048576 < b) = β3)) (hβ4 : Hid (decide (b < 1048576) = β4)) (hβ5 : Hid (decide (-1048576 < c) = β5)) (hβ6 : Hid (decide (c < 1048576) = β6)) (hx0 : xs 0 = .int .i64 a) (hx1 : xs 1 = .int .i64 b) (hx2 : xs 2 = .int .i64 c) : OpStep Tryz.prog su20Ops Q (su20F a b c β1 β2 β3 β4 β5 β6 hβ1 hβ2 hβ3 hβ4 hβ5 hβ6) w0 198 xs 9 := by
  intro act w hb hk hF
  have g158 : act.eval (.tmp 158) = cond β1 (cond β2 (.bool true) (.bool false)) (.bool false) := hF 6 (of_decide_eq_true (by kernel_rfl)) 158 (by kernel_rfl)
  have g160 : act.eval (.tmp 160) = cond β1 (cond β2 (cond β3 (.bool true) (.bool false)) (undef)) (undef) := hF 8 (of_decide_eq_true (by kernel_rfl)) 160 (by kernel_rfl)
  cases β1
  · cases β2
    · cases β3
      · exact step_pickF (show opO su20Ops 9 = some (.pick (.tmp 158) (.tmp 160) (.const (.bool false))) by kernel_rfl) (.free (by kernel_rfl)) g158 rfl ⟨rfl, Below.refl _ _⟩
      · exact step_pickF (show opO su20Ops 9 = some (.pick (.tmp 158) (.tmp 160) (.const (.bool false))) by kernel_rfl) (.free (by kernel_rfl)) g158 rfl ⟨rfl, Below.refl _ _⟩
    · cases β3
      · exact step_pickF (show opO su20Ops 9 = some (.pick (.tmp 158) (.tmp 160) (.const (.bool false))) by kernel_rfl) (.free (by kernel_rfl)) g158 rfl ⟨rfl, Below.refl _ _⟩
      · exact step_pickF (show opO su20Ops 9 = some (.pick (.tmp 158) (.tmp 160) (.const (.bool false))) by kernel_rfl) (.free (by kernel_rfl)) g158 rfl ⟨rfl, Below.refl _ _⟩
  · cases β2
    · cases β3
      · exact step_pickF (show opO su20Ops 9 = some (.pick (.tmp 158) (.tmp 160) (.const (.bool false))) by kernel_rfl) (.free (by kernel_rfl)) g158 rfl ⟨rfl, Below.refl _ _⟩
      · exact step_pickF (show opO su20Ops 9 = some (.pick (.tmp 158) (.tmp 160) (.const (.bool false))) by kernel_rfl) (.free (by kernel_rfl)) g158 rfl ⟨rfl, Below.refl _ _⟩
    · cases β3
      · exact step_pickT (show opO su20Ops 9 = some (.pick (.tmp 158) (.tmp 160) (.const (.bool false))) by kernel_rfl) (.free (by kernel_rfl)) g158 g160 ⟨rfl, Below.refl _ _⟩
      · exact step_pickT (show opO su20Ops 9 = some (.pick (.tmp 158) (.tmp 160) (.const (.bool false))) by kernel_rfl) (.free (by kernel_rfl)) g158 g160 ⟨rfl, Below.refl _ _⟩

theorem su20_s10 {Q : Exit → Act → World → Prop} {w0 : World} {xs : Nat → Value} (a b c : Int) (β1 β2 β3 β4 β5 β6 : Bool) (hβ1 : Hid (decide (-1048576 < a) = β1)) (hβ2 : Hid (decide (a < 1048576) = β2)) (hβ3 : Hid (decide (-1048576 < b) = β3)) (hβ4 : Hid (decide (b < 1048576) = β4)) (hβ5 : Hid (decide (-1048576 < c) = β5)) (hβ6 : Hid (decide (c < 1048576) = β6)) (hx0 : xs 0 = .int .i64 a) (hx1 : xs 1 = .int .i64 b) (hx2 : xs 2 = .int .i64 c) : OpStep Tryz.prog su20Ops Q (su20F a b c β1 β2 β3 β4 β5 β6 hβ1 hβ2 hβ3 hβ4 hβ5 hβ6) w0 198 xs 10 := by
  intro act w hb hk hF
  have g161 : act.eval (.tmp 161) = cond β1 (cond β2 (cond β3 (.bool true) (.bool false)) (.bool false)) (.bool false) := hF 9 (of_decide_eq_true (by kernel_rfl)) 161 (by kernel_rfl)
  exact step_move (show opO su20Ops 10 = some (.move (.tmp 161)) by kernel_rfl) (.free (by kernel_rfl)) g161 ⟨rfl, Below.refl _ _⟩

theorem su20_s11 {Q : Exit → Act → World → Prop} {w0 : World} {xs : Nat → Value} (a b c : Int) (β1 β2 β3 β4 β5 β6 : Bool) (hβ1 : Hid (decide (-1048576 < a) = β1)) (hβ2 : Hid (decide (a < 1048576) = β2)) (hβ3 : Hid (decide (-1048576 < b) = β3)) (hβ4 : Hid (decide (b < 1048576) = β4)) (hβ5 : Hid (decide (-1048576 < c) = β5)) (hβ6 : Hid (decide (c < 1048576) = β6)) (hx0 : xs 0 = .int .i64 a) (hx1 : xs 1 = .int .i64 b) (hx2 : xs 2 = .int .i64 c) : OpStep Tryz.prog su20Ops Q (su20F a b c β1 β2 β3 β4 β5 β6 hβ1 hβ2 hβ3 hβ4 hβ5 hβ6) w0 198 xs 11 := by
  intro act w hb hk hF
  have g162 : act.eval (.tmp 162) = cond β1 (cond β2 (cond β3 (.bool true) (.bool false)) (.bool false)) (.bool false) := hF 10 (of_decide_eq_true (by kernel_rfl)) 162 (by kernel_rfl)
  have g1 : act.eval (.tmp 1) = .int .i64 b := (hk 1 (by decide) (by kernel_rfl)).trans hx1
  cases β1
  · cases β2
    · cases β3
      · exact step_off (of_decide_eq_true (by kernel_rfl)) (.told 10 true 162 (by kernel_rfl) (by kernel_rfl) g162) ⟨rfl, Below.refl _ _⟩
      · exact step_off (of_decide_eq_true (by kernel_rfl)) (.told 10 true 162 (by kernel_rfl) (by kernel_rfl) g162) ⟨rfl, Below.refl _ _⟩
    · cases β3
      · exact step_off (of_decide_eq_true (by kernel_rfl)) (.told 10 true 162 (by kernel_rfl) (by kernel_rfl) g162) ⟨rfl, Below.refl _ _⟩
      · exact step_off (of_decide_eq_true (by kernel_rfl)) (.told 10 true 162 (by kernel_rfl) (by kernel_rfl) g162) ⟨rfl, Below.refl _ _⟩
  · cases β2
    · cases β3
      · exact step_off (of_decide_eq_true (by kernel_rfl)) (.told 10 true 162 (by kernel_rfl) (by kernel_rfl) g162) ⟨rfl, Below.refl _ _⟩
      · exact step_off (of_decide_eq_true (by kernel_rfl)) (.told 10 true 162 (by kernel_rfl) (by kernel_rfl) g162) ⟨rfl, Below.refl _ _⟩
    · cases β3
      · exact step_off (of_decide_eq_true (by kernel_rfl)) (.told 10 true 162 (by kernel_rfl) (by kernel_rfl) g162) ⟨rfl, Below.refl _ _⟩
      · exact step_move (show opO su20Ops 11 = some (.move (.tmp 1)) by kernel_rfl) (.told 10 true 162 (by kernel_rfl) (by kernel_rfl) g162) g1 ⟨rfl, Below.refl _ _⟩

theorem su20_s12 {Q : Exit → Act → World → Prop} {w0 : World} {xs : Nat → Value} (a b c : Int) (β1 β2 β3 β4 β5 β6 : Bool) (hβ1 : Hid (decide (-1048576 < a) = β1)) (hβ2 : Hid (decide (a < 1048576) = β2)) (hβ3 : Hid (decide (-1048576 < b) = β3)) (hβ4 : Hid (decide (b < 1048576) = β4)) (hβ5 : Hid (decide (-1048576 < c) = β5)) (hβ6 : Hid (decide (c < 1048576) = β6)) (hx0 : xs 0 = .int .i64 a) (hx1 : xs 1 = .int .i64 b) (hx2 : xs 2 = .int .i64 c) : OpStep Tryz.prog su20Ops Q (su20F a b c β1 β2 β3 β4 β5 β6 hβ1 hβ2 hβ3 hβ4 hβ5 hβ6) w0 198 xs 12 := by
  intro act w hb hk hF
  have g162 : act.eval (.tmp 162) = cond β1 (cond β2 (cond β3 (.bool true) (.bool false)) (.bool false)) (.bool false) := hF 10 (of_decide_eq_true (by kernel_rfl)) 162 (by kernel_rfl)
  have g163 : act.eval (.tmp 163) = cond β1 (cond β2 (cond β3 (.int .i64 b) (undef)) (undef)) (undef) := hF 11 (of_decide_eq_true (by kernel_rfl)) 163 (by kernel_rfl)
  cases β1
  · cases β2
    · cases β3
      · cases β4
        · exact step_off (of_decide_eq_true (by kernel_rfl)) (.told 10 true 162 (by kernel_rfl) (by kernel_rfl) g162) ⟨rfl, Below.refl _ _⟩
        · exact step_off (of_decide_eq_true (by kernel_rfl)) (.told 10 true 162 (by kernel_rfl) (by kernel_rfl) g162) ⟨rfl, Below.refl _ _⟩
      · cases β4
        · exact step_off (of_decide_eq_true (by kernel_rfl)) (.told 10 true 162 (by kernel_rfl) (by kernel_rfl) g162) ⟨rfl, Below.refl _ _⟩
        · exact step_off (of_decide_eq_true (by kernel_rfl)) (.told 10 true 162 (by kernel_rfl) (by kernel_rfl) g162) ⟨rfl, Below.refl _ _⟩
    · cases β3
      · cases β4
        · exact step_off (of_decide_eq_true (by kernel_rfl)) (.told 10 true 162 (by kernel_rfl) (by kernel_rfl) g162) ⟨rfl, Below.refl _ _⟩
        · exact step_off (of_decide_eq_true (by kernel_rfl)) (.told 10 true 162 (by kernel_rfl) (by kernel_rfl) g162) ⟨rfl, Below.refl _ _⟩
      · cases β4
        · exact step_off (of_decide_eq_true (by kernel_rfl)) (.told 10 true 162 (by kernel_rfl) (by kernel_rfl) g162) ⟨rfl, Below.refl _ _⟩
        · exact step_off (of_decide_eq_true (by kernel_rfl)) (.told 10 true 162 (by kernel_rfl) (by kernel_rfl) g162) ⟨rfl, Below.refl _ _⟩
  · cases β2
    · cases β3
      · cases β4
        · exact step_off (of_decide_eq_true (by kernel_rfl)) (.told 10 true 162 (by kernel_rfl) (by kernel_rfl) g162) ⟨rfl, Below.refl _ _⟩
        · exact step_off (of_decide_eq_true (by kernel_rfl)) (.told 10 true 162 (by kernel_rfl) (by kernel_rfl) g162) ⟨rfl, Below.refl _ _⟩
      · cases β4
        · exact step_off (of_decide_eq_true (by kernel_rfl)) (.told 10 true 162 (by kernel_rfl) (by kernel_rfl) g162) ⟨rfl, Below.refl _ _⟩
        · exact step_off (of_decide_eq_true (by kernel_rfl)) (.told 10 true 162 (by kernel_rfl) (by kernel_rfl) g162) ⟨rfl, Below.refl _ _⟩
    · cases β3
      · cases β4
        · exact step_off (of_decide_eq_true (by kernel_rfl)) (.told 10 true 162 (by kernel_rfl) (by kernel_rfl) g162) ⟨rfl, Below.refl _ _⟩
        · exact step_off (of_decide_eq_true (by kernel_rfl)) (.told 10 true 162 (by kernel_rfl) (by kernel_rfl) g162) ⟨rfl, Below.refl _ _⟩
      · cases β4
        · exact step_ltI (show opO su20Ops 12 = some (.binOp .lss 2 (.tmp 163) (.const (.int .i64 1048576)) 2) by kernel_rfl) (.told 10 true 162 (by kernel_rfl) (by kernel_rfl) g162) g163 rfl hβ4.out ⟨rfl, Below.refl _ _⟩
        · exact step_ltI (show opO su20Ops 12 = some (.binOp .lss 2 (.tmp 163) (.const (.int .i64 1048576)) 2) by kernel_rfl) (.told 10 true 162 (by kernel_rfl) (by kernel_rfl) g162) g163 rfl hβ4.out ⟨rfl, Below.refl _ _⟩

theorem su20_s13 {Q : Exit → Act → World → Prop} {w0 : World} {xs : Nat → Value} (a b c : Int) (β1 β2 β3 β4 β5 β6 : Bool) (hβ1 : Hid (decide (-1048576 < a) = β1)) (hβ2 : Hid (decide (a < 1048576) = β2)) (hβ3 : Hid (decide (-1048576 < b) = β3)) (hβ4 : Hid (decide (b < 1048576) = β4)) (hβ5 : Hid (decide (-1048576 < c) = β5)) (hβ6 : Hid (decide (c < 1048576) = β6)) (hx0 : xs 0 = .int .i64 a) (hx1 : xs 1 = .int .i64 b) (hx2 : xs 2 = .int .i64 c) : OpStep Tryz.prog su20Ops Q (su20F a b c β1 β2 β3 β4 β5 β6 hβ1 hβ2 hβ3 hβ4 hβ5 hβ6) w0 198 xs 13 := by
  intro act w hb hk hF
  have g162 : act.eval (.tmp 162) = cond β1 (cond β2 (cond β3 (.bool true) (.bool false)) (.bool false)) (.bool false) := hF 10 (of_decide_eq_true (by kernel_rfl)) 162 (by kernel_rfl)
  have g164 : act.eval (.tmp 164) = cond β1 (cond β2 (cond β3 (cond β4 (.bool true) (.bool false)) (undef)) (undef)) (undef) := hF 12 (of_decide_eq_true (by kernel_rfl)) 164 (by kernel_rfl)
  cases β1
  · cases β2
    · cases β3
      · cases β4
        · exact step_pickF (show opO su20Ops 13 = some (.pick (.tmp 162) (.tmp 164) (.const (.bool false))) by kernel_rfl) (.free (by kernel_rfl)) g162 rfl ⟨rfl, Below.refl _ _⟩
        · exact step_pickF (show opO su20Ops 13 = some (.pick (.tmp 162) (.tmp 164) (.const (.bool false))) by kernel_rfl) (.free (by kernel_rfl)) g162 rfl ⟨rfl, Below.refl _ _⟩
      · cases β4
        · exact step_pickF (show opO su20Ops 13 = some (.pick (.tmp 162) (.tmp 164) (.const (.bool false))) by kernel_rfl) (.free (by kernel_rfl)) g162 rfl ⟨rfl, Below.refl _ _⟩
        · exact step_pickF (show opO su20Ops 13 = some (.pick (.tmp 162) (.tmp 164) (.const (.bool false))) by kernel_rfl) (.free (by kernel_rfl)) g162 rfl ⟨rfl, Below.refl _ _⟩
    · cases β3
      · cases β4
        · exact step_pickF (show opO su20Ops 13 = some (.pick (.tmp 162) (.tmp 164) (.const (.bool false))) by kernel_rfl) (.free (by kernel_rfl)) g162 rfl ⟨rfl, Below.refl _ _⟩
        · exact step_pickF (show opO su20Ops 13 = some (.pick (.tmp 162) (.tmp 164) (.const (.bool false))) by kernel_rfl) (.free (by kernel_rfl)) g162 rfl ⟨rfl, Below.refl _ _⟩
      · cases β4
        · exact step_pickF (show opO su20Ops 13 = some (.pick (.tmp 162) (.tmp 164) (.const (.bool false))) by kernel_rfl) (.free (by kernel_rfl)) g162 rfl ⟨rfl, Below.refl _ _⟩
        · exact step_pickF (show opO su20Ops 13 = some (.pick (.tmp 162) (.tmp 164) (.const (.bool false))) by kernel_rfl) (.free (by kernel_rfl)) g162 rfl ⟨rfl, Below.refl _ _⟩
  · cases β2
    · cases β3
      · cases β4
        · exact step_pickF (show opO su20Ops 13 = some (.pick (.tmp 162) (.tmp 164) (.const (.bool false))) by kernel_rfl) (.free (by kernel_rfl)) g162 rfl ⟨rfl, Below.refl _ _⟩
        · exact step_pickF (show opO su20Ops 13 = some (.pick (.tmp 162) (.tmp 164) (.const (.bool false))) by kernel_rfl) (.free (by kernel_rfl)) g162 rfl ⟨rfl, Below.refl _ _⟩
      · cases β4
        · exact step_pickF (show opO su20Ops 13 = some (.pick (.tmp 162) (.tmp 164) (.const (.bool false))) by kernel_rfl) (.free (by kernel_rfl)) g162 rfl ⟨rfl, Below.refl _ _⟩
        · exact step_pickF (show opO su20Ops 13 = some (.pick (.tmp 162) (.tmp 164) (.const (.bool false))) by kernel_rfl) (.free (by kernel_rfl)) g162 rfl ⟨rfl, Below.refl _ _⟩
    · cases β3
      · cases β4
        · exact step_pickF (show opO su20Ops 13 = some (.pick (.tmp 162) (.tmp 164) (.const (.bool false))) by kernel_rfl) (.free (by kernel_rfl)) g162 rfl ⟨rfl, Below.refl _ _⟩
        · exact step_pickF (show opO su20Ops 13 = some (.pick (.tmp 162) (.tmp 164) (.const (.bool false))) by kernel_rfl) (.free (by kernel_rfl)) g162 rfl ⟨rfl, Below.refl _ _⟩
      · cases β4
        · exact step_pickT (show opO su20Ops 13 = some (.pick (.tmp 162) (.tmp 164) (.const (.bool false))) by kernel_rfl) (.free (by kernel_rfl)) g162 g164 ⟨rfl, Below.refl _ _⟩
        · exact step_pickT (show opO su20Ops 13 = some (.pick (.tmp 162) (.tmp 164) (.const (.bool false))) by kernel_rfl) (.free (by kernel_rfl)) g162 g164 ⟨rfl, Below.refl _ _⟩

theorem su20_s14 {Q : Exit → Act → World → Prop} {w0 : World} {xs : Nat → Value} (a b c : Int) (β1 β2 β3 β4 β5 β6 : Bool) (hβ1 : Hid (decide (-1048576 < a) = β1)) (hβ2 : Hid (decide (a < 1048576) = β2)) (hβ3 : Hid (decide (-1048576 < b) = β3)) (hβ4 : Hid (decide (b < 1048576) = β4)) (hβ5 : Hid (decide (-1048576 < c) = β5)) (hβ6 : Hid (decide (c < 1048576) = β6)) (hx0 : xs 0 = .int .i64 a) (hx1 : xs 1 = .int .i64 b) (hx2 : xs 2 = .int .i64 c) : OpStep Tryz.prog su20Ops Q (su20F a b c β1 β2 β3 β4 β5 β6 hβ1 hβ2 hβ3 hβ4 hβ5 hβ6) w0 198 xs 14 := by
  intro act w hb hk hF
  have g165 : act.eval (.tmp 165) = cond β1 (cond β2 (cond β3 (cond β4 (.bool true) (.bool false)) (.bool false)) (.bool false)) (.bool false) := hF 13 (of_decide_eq_true (by kernel_rfl)) 165 (by kernel_rfl)
  exact step_move (show opO su20Ops 14 = some (.move (.tmp 165)) by kernel_rfl) (.free (by kernel_rfl)) g165 ⟨rfl, Below.refl _ _⟩

theorem su20_s15 {Q : Exit → Act → World → Prop} {w0 : World} {xs : Nat → Value} (a b c : Int) (β1 β2 β3 β4 β5 β6 : Bool) (hβ1 : Hid (decide (-1048576 < a) = β1)) (hβ2 : Hid (decide (a < 1048576) = β2)) (hβ3 : Hid (decide (-1048576 < b) = β3)) (hβ4 : Hid (decide (b < 1048576) = β4)) (hβ5 : Hid (decide (-1048576 < c) = β5)) (hβ6 : Hid (decide (c < 1048576) = β6)) (hx0 : xs 0 = .int .i64 a) (hx1 : xs 1 = .int .i64 b) (hx2 : xs 2 = .int .i64 c) : OpStep Tryz.prog su20Ops Q (su20F a b c β1 β2 β3 β4 β5 β6 hβ1 hβ2 hβ3 hβ4 hβ5 hβ6) w0 198 xs 15 := by
  intro act w hb hk hF
  have g166 : act.eval (.tmp 166) = cond β1 (cond β2 (cond β3 (cond β4 (.bool true) (.bool false)) (.bool false)) (.bool false)) (.bool false) := hF 14 (of_decide_eq_true (by kernel_rfl)) 166 (by kernel_rfl)
  have g2 : act.eval (.tmp 2) = .int .i64 c := (hk 2 (by decide) (by kernel_rfl)).trans hx2
  cases β1
  · cases β2
    · cases β3
      · cases β4
        · exact step_off (of_decide_eq_true (by kernel_rfl)) (.told 14 true 166 (by kernel_rfl) (by kernel_rfl) g166) ⟨rfl, Below.refl _ _⟩
        · exact step_off (of_decide_eq_true (by kernel_rfl)) (.told 14 true 166 (by kernel_rfl) (by kernel_rfl) g166) ⟨rfl, Below.refl _ _⟩
      · cases β4
        · exact step_off (of_decide_eq_true (by kernel_rfl)) (.told 14 true 166 (by kernel_rfl) (by kernel_rfl) g166) ⟨rfl, Below.refl _ _⟩
        · exact step_off (of_decide_eq_true (by kernel_rfl)) (.told 14 true 166 (by kernel_rfl) (by kernel_rfl) g166) ⟨rfl, Below.refl _ _⟩
    · cases β3
      · cases β4
        · exact step_off (of_decide_eq_true (by kernel_rfl)) (.told 14 true 166 (by kernel_rfl) (by kernel_rfl) g166) ⟨rfl, Below.refl _ _⟩
        · exact step_off (of_decide_eq_true (by kernel_rfl)) (.told 14 true 166 (by kernel_rfl) (by kernel_rfl) g166) ⟨rfl, Below.refl _ _⟩
      · cases β4
        · exact step_off (of_decide_eq_true (by kernel_rfl)) (.told 14 true 166 (by kernel_rfl) (by kernel_rfl) g166) ⟨rfl, Below.refl _ _⟩
        · exact step_off (of_decide_eq_true (by kernel_rfl)) (.told 14 true 166 (by kernel_rfl) (by kernel_rfl) g166) ⟨rfl, Below.refl _ _⟩
  · cases β2
    · cases β3
      · cases β4
        · exact step_off (of_decide_eq_true (by kernel_rfl)) (.told 14 true 166 (by kernel_rfl) (by kernel_rfl) g166) ⟨rfl, Below.refl _ _⟩
        · exact step_off (of_decide_eq_true (by kernel_rfl)) (.told 14 true 166 (by kernel_rfl) (by kernel_rfl) g166) ⟨rfl, Below.refl _ _⟩
      · cases β4
        · exact step_off (of_decide_eq_true (by kernel_rfl)) (.told 14 true 166 (by kernel_rfl) (by kernel_rfl) g166) ⟨rfl, Below.refl _ _⟩
        · exact step_off (of_decide_eq_true (by kernel_rfl)) (.told 14 true 166 (by kernel_rfl) (by kernel_rfl) g166) ⟨rfl, Below.refl _ _⟩
    · cases β3
      · cases β4
        · exact step_off (of_decide_eq_true (by kernel_rfl)) (.told 14 true 166 (by kernel_rfl) (by kernel_rfl) g166) ⟨rfl, Below.refl _ _⟩
        · exact step_off (of_decide_eq_true (by kernel_rfl)) (.told 14 true 166 (by kernel_rfl) (by kernel_rfl) g166) ⟨rfl, Below.refl _ _⟩
      · cases β4
        · exact step_off (of_decide_eq_true (by kernel_rfl)) (.told 14 true 166 (by kernel_rfl) (by kernel_rfl) g166) ⟨rfl, Below.refl _ _⟩
        · exact step_move (show opO su20Ops 15 = some (.move (.tmp 2)) by kernel_rfl) (.told 14 true 166 (by kernel_rfl) (by kernel_rfl) g166) g2 ⟨rfl, Below.refl _ _⟩

theorem su20_s16 {Q : Exit → Act → World → Prop} {w0 : World} {xs : Nat → Value} (a b c : Int) (β1 β2 β3 β4 β5 β6 : Bool) (hβ1 : Hid (decide (-1048576 < a) = β1)) (hβ2 : Hid (decide (a < 1048576) = β2)) (hβ3 : Hid (decide (-1048576 < b) = β3)) (hβ4 : Hid (decide (b < 1048576) = β4)) (hβ5 : Hid (decide (-1048576 < c) = β5)) (hβ6 : Hid (decide (c < 1048576) = β6)) (hx0 : xs 0 = .int .i64 a) (hx1 : xs 1 = .int .i64 b) (hx2 : xs 2 = .int .i64 c) : OpStep Tryz.prog su20Ops Q (su20F a b c β1 β2 β3 β4 β5 β6 hβ1 hβ2 hβ3 hβ4 hβ5 hβ6) w0 198 xs 16 := by
  intro act w hb hk hF
  have g166 : act.eval (.tmp 166) = cond β1 (cond β2 (cond β3 (cond β4 (.bool true) (.bool false)) (.bool false)) (.bool false)) (.bool false) := hF 14 (of_decide_eq_true (by kernel_rfl)) 166 (by kernel_rfl)
  have g167 : act.eval (.tmp 167) = cond β1 (cond β2 (cond β3 (cond β4 (.int .i64 c) (undef)) (undef)) (undef)) (undef) := hF 15 (of_decide_eq_true (by kernel_rfl)) 167 (by kernel_rfl)
  cases β1
  · cases β2
    · cases β3
      · cases β4
        · cases β5
          · exact step_off (of_decide_eq_true (by kernel_rfl)) (.told 14 true 166 (by kernel_rfl) (by kernel_rfl) g166) ⟨rfl, Below.refl _ _⟩
          · exact step_off (of_decide_eq_true (by kernel_rfl)) (.told 14 true 166 (by kernel_rfl) (by kernel_rfl) g166) ⟨rfl, Below.refl _ _⟩
        · cases β5
          · exact step_off (of_decide_eq_true (by kernel_rfl)) (.told 14 true 166 (by kernel_rfl) (by kernel_rfl) g166) ⟨rfl, Below.refl _ _⟩
          · exact step_off (of_decide_eq_true (by kernel_rfl)) (.told 14 true 166 (by kernel_rfl) (by kernel_rfl) g166) ⟨rfl, Below.refl _ _⟩
      · cases β4
        · cases β5
          · exact step_off (of_decide_eq_true (by kernel_rfl)) (.told 14 true 166 (by kernel_rfl) (by kernel_rfl) g166) ⟨rfl, Below.refl _ _⟩
          · exact step_off (of_decide_eq_true (by kernel_rfl)) (.told 14 true 166 (by kernel_rfl) (by kernel_rfl) g166) ⟨rfl, Below.refl _ _⟩
        · cases β5
          · exact step_off (of_decide_eq_true (by kernel_rfl)) (.told 14 true 166 (by kernel_rfl) (by kernel_rfl) g166) ⟨rfl, Below.refl _ _⟩
          · exact step_off (of_decide_eq_true (by kernel_rfl)) (.told 14 true 166 (by kernel_rfl) (by kernel_rfl) g166) ⟨rfl, Below.refl _ _⟩
    · cases β3
      · cases β4
        · cases β5
          · exact step_off (of_decide_eq_true (by kernel_rfl)) (.told 14 true 166 (by kernel_rfl) (by kernel_rfl) g166) ⟨rfl, Below.refl _ _⟩
          · exact step_off (of_decide_eq_true (by kernel_rfl)) (.told 14 true 166 (by kernel_rfl) (by kernel_rfl) g166) ⟨rfl, Below.refl _ _⟩
        · cases β5
          · exact step_off (of_decide_eq_true (by kernel_rfl)) (.told 14 true 166 (by kernel_rfl) (by kernel_rfl) g166) ⟨rfl, Below.refl _ _⟩
          · exact step_off (of_decide_eq_true (by kernel_rfl)) (.told 14 true 166 (by kernel_rfl) (by kernel_rfl) g166) ⟨rfl, Below.refl _ _⟩
      · cases β4
        · cases β5
          · exact step_off (of_decide_eq_true (by kernel_rfl)) (.told 14 true 166 (by kernel_rfl) (by kernel_rfl) g166) ⟨rfl, Below.refl _ _⟩
          · exact step_off (of_decide_eq_true (by kernel_rfl)) (.told 14 true 166 (by kernel_rfl) (by kernel_rfl) g166) ⟨rfl, Below.refl _ _⟩
        · cases β5
          · exact step_off (of_decide_eq_true (by kernel_rfl)) (.told 14 true 166 (by kernel_rfl) (by kernel_rfl) g166) ⟨rfl, Below.refl _ _⟩
          · exact step_off (of_decide_eq_true (by kernel_rfl)) (.told 14 true 166 (by kernel_rfl) (by kernel_rfl) g166) ⟨rfl, Below.refl _ _⟩
  · cases β2
    · cases β3
      · cases β4
        · cases β5
          · exact step_off (of_decide_eq_true (by kernel_rfl)) (.told 14 true 166 (by kernel_rfl) (by kernel_rfl) g166) ⟨rfl, Below.refl _ _⟩
          · exact step_off (of_decide_eq_true (by kernel_rfl)) (.told 14 true 166 (by kernel_rfl) (by kernel_rfl) g166) ⟨rfl, Below.refl _ _⟩
        · cases β5
          · exact step_off (of_decide_eq_true (by kernel_rfl)) (.told 14 true 166 (by kernel_rfl) (by kernel_rfl) g166) ⟨rfl, Below.refl _ _⟩
          · exact step_off (of_decide_eq_true (by kernel_rfl)) (.told 14 true 166 (by kernel_rfl) (by kernel_rfl) g166) ⟨rfl, Below.refl _ _⟩
      · cases β4
        · cases β5
          · exact step_off (of_decide_eq_true (by kernel_rfl)) (.told 14 true 166 (by kernel_rfl) (by kernel_rfl) g166) ⟨rfl, Below.refl _ _⟩
          · exact step_off (of_decide_eq_true (by kernel_rfl)) (.told 14 true 166 (by kernel_rfl) (by kernel_rfl) g166) ⟨rfl, Below.refl _ _⟩
        · cases β5
          · exact step_off (of_decide_eq_true (by kernel_rfl)) (.told 14 true 166 (by kernel_rfl) (by kernel_rfl) g166) ⟨rfl, Below.refl _ _⟩
          · exact step_off (of_decide_eq_true (by kernel_rfl)) (.told 14 true 166 (by kernel_rfl) (by kernel_rfl) g166) ⟨rfl, Below.refl _ _⟩
    · cases β3
      · cases β4
        · cases β5
          · exact step_off (of_decide_eq_true (by kernel_rfl)) (.told 14 true 166 (by kernel_rfl) (by kernel_rfl) g166) ⟨rfl, Below.refl _ _⟩
          · exact step_off (of_decide_eq_true (by kernel_rfl)) (.told 14 true 166 (by kernel_rfl) (by kernel_rfl) g166) ⟨rfl, Below.refl _ _⟩
        · cases β5
          · exact step_off (of_decide_eq_true (by kernel_rfl)) (.told 14 true 166 (by kernel_rfl) (by kernel_rfl) g166) ⟨rfl, Below.refl _ _⟩
          · exact step_off (of_decide_eq_true (by kernel_rfl)) (.told 14 true 166 (by kernel_rfl) (by kernel_rfl) g166) ⟨rfl, Below.refl _ _⟩
      · cases β4
        · cases β5
          · exact step_off (of_decide_eq_true (by kernel_rfl)) (.told 14 true 166 (by kernel_rfl) (by kernel_rfl) g166) ⟨rfl, Below.refl _ _⟩
          · exact step_off (of_decide_eq_true (by kernel_rfl)) (.told 14 true 166 (by kernel_rfl) (by kernel_rfl) g166) ⟨rfl, Below.refl _ _⟩
        · cases β5
          · exact step_gtI (show opO su20Ops 16 = some (.binOp .gtr 2 (.tmp 167) (.const (.int .i64 (-1048576))) 2) by kernel_rfl) (.told 14 true 166 (by kernel_rfl) (by kernel_rfl) g166) g167 rfl hβ5.out ⟨rfl, Below.refl _ _⟩
          · exact step_gtI (show opO su20Ops 16 = some (.binOp .gtr 2 (.tmp 167) (.const (.int .i64 (-1048576))) 2) by kernel_rfl) (.told 14 true 166 (by kernel_rfl) (by kernel_rfl) g166) g167 rfl hβ5.out ⟨rfl, Below.refl _ _⟩

theorem su20_s17 {Q : Exit → Act → World → Prop} {w0 : World} {xs : Nat → Value} (a b c : Int) (β1 β2 β3 β4 β5 β6 : Bool) (hβ1 : Hid (decide (-1048576 < a) = β1)) (hβ2 : Hid (decide (a < 1048576) = β2)) (hβ3 : Hid (decide (-1048576 < b) = β3)) (hβ4 : Hid (decide (b < 1048576) = β4)) (hβ5 : Hid (decide (-1048576 < c) = β5)) (hβ6 : Hid (decide (c < 1048576) = β6)) (hx0 : xs 0 = .int .i64 a) (hx1 : xs 1 = .int .i64 b) (hx2 : xs 2 = .int .i64 c) : OpStep Tryz.prog su20Ops Q (su20F a b c β1 β2 β3 β4 β5 β6 hβ1 hβ2 hβ3 hβ4 hβ5 hβ6) w0 198 xs 17 := by
  intro act w hb hk hF
  have g166 : act.eval (.tmp 166) = cond β1 (cond β2 (cond β3 (cond β4 (.bool true) (.bool false)) (.bool false)) (.bool false)) (.bool false) := hF 14 (of_decide_eq_true (by kernel_rfl)) 166 (by kernel_rfl)
  have g168 : act.eval (.tmp 168) = cond β1 (cond β2 (cond β3 (cond β4 (cond β5 (.bool true) (.bool false)) (undef)) (undef)) (undef)) (undef) := hF 16 (of_decide_eq_true (by kernel_rfl)) 168 (by kernel_rfl)
  cases β1
  · cases β2
    · cases β3
      · cases β4
        · cases β5
          · exact step_pickF (show opO su20Ops 17 = some (.pick (.tmp 166) (.tmp 168) (.const (.bool false))) by kernel_rfl) (.free (by kernel_rfl)) g166 rfl ⟨rfl, Below.refl _ _⟩
          · exact step_pickF (show opO su20Ops 17 = some (.pick (.tmp 166) (.tmp 168) (.const (.bool false))) by kernel_rfl) (.free (by kernel_rfl)) g166 rfl ⟨rfl, Below.refl _ _⟩
        · cases β5
          · exact step_pickF (show opO su20Ops 17 = some (.pick (.tmp 166) (.tmp 168) (.const (.bool false))) by kernel_rfl) (.free (by kernel_rfl)) g166 rfl ⟨rfl, Below.refl _ _⟩
          · exact step_pickF (show opO su20Ops 17 = some (.pick (.tmp 166) (.tmp 168) (.const (.bool false))) by kernel_rfl) (.free (by kernel_rfl)) g166 rfl ⟨rfl, Below.refl _ _⟩
      · cases β4
        · cases β5
          · exact step_pickF (show opO su20Ops 17 = some (.pick (.tmp 166) (.tmp 168) (.const (.bool false))) by kernel_rfl) (.free (by kernel_rfl)) g166 rfl ⟨rfl, Below.refl _ _⟩
          · exact step_pickF (show opO su20Ops 17 = some (.pick (.tmp 166) (.tmp 168) (.const (.bool false))) by kernel_rfl) (.free (by kernel_rfl)) g166 rfl ⟨rfl, Below.refl _ _⟩
        · cases β5
          · exact step_pickF (show opO su20Ops 17 = some (.pick (.tmp 166) (.tmp 168) (.const (.bool false))) by kernel_rfl) (.free (by kernel_rfl)) g166 rfl ⟨rfl, Below.refl _ _⟩
          · exact step_pickF (show opO su20Ops 17 = some (.pick (.tmp 166) (.tmp 168) (.const (.bool false))) by kernel_rfl) (.free (by kernel_rfl)) g166 rfl ⟨rfl, Below.refl _ _⟩
    · cases β3
      · cases β4
        · cases β5
          · exact step_pickF (show opO su20Ops 17 = some (.pick (.tmp 166) (.tmp 168) (.const (.bool false))) by kernel_rfl) (.free (by kernel_rfl)) g166 rfl ⟨rfl, Below.refl _ _⟩
          · exact step_pickF (show opO su20Ops 17 = some (.pick (.tmp 166) (.tmp 168) (.const (.bool false))) by kernel_rfl) (.free (by kernel_rfl)) g166 rfl ⟨rfl, Below.refl _ _⟩
        · cases β5
          · exact step_pickF (show opO su20Ops 17 = some (.pick (.tmp 166) (.tmp 168) (.const (.bool false))) by kernel_rfl) (.free (by kernel_rfl)) g166 rfl ⟨rfl, Below.refl _ _⟩
          · exact step_pickF (show opO su20Ops 17 = some (.pick (.tmp 166) (.tmp 168) (.const (.bool false))) by kernel_rfl) (.free (by kernel_rfl)) g166 rfl ⟨rfl, Below.refl _ _⟩
      · cases β4
        · cases β5
          · exact step_pickF (show opO su20Ops 17 = some (.pick (.tmp 166) (.tmp 168) (.const (.bool false))) by kernel_rfl) (.free (by kernel_rfl)) g166 rfl ⟨rfl, Below.refl _ _⟩
          · exact step_pickF (show opO su20Ops 17 = some (.pick (.tmp 166) (.tmp 168) (.const (.bool false))) by kernel_rfl) (.free (by kernel_rfl)) g166 rfl ⟨rfl, Below.refl _ _⟩
        · cases β5
          · exact step_pickF (show opO su20Ops 17 = some (.pick (.tmp 166) (.tmp 168) (.const (.bool false))) by kernel_rfl) (.free (by kernel_rfl)) g166 rfl ⟨rfl, Below.refl _ _⟩
          · exact step_pickF (show opO su20Ops 17 = some (.pick (.tmp 166) (.tmp 168) (.const (.bool false))) by kernel_rfl) (.free (by kernel_rfl)) g166 rfl ⟨rfl, Below.refl _ _⟩
  · cases β2
    · cases β3
      · cases β4
        · cases β5
          · exact step_pickF (show opO su20Ops 17 = some (.pick (.tmp 166) (.tmp 168) (.const (.bool false))) by kernel_rfl) (.free (by kernel_rfl)) g166 rfl ⟨rfl, Below.refl _ _⟩
          · exact step_pickF (show opO su20Ops 17 = some (.pick (.tmp 166) (.tmp 168) (.const (.bool false))) by kernel_rfl) (.free (by kernel_rfl)) g166 rfl ⟨rfl, Below.refl _ _⟩
        · cases β5
          · exact step_pickF (show opO su20Ops 17 = some (.pick (.tmp 166) (.tmp 168) (.const (.bool false))) by kernel_rfl) (.free (by kernel_rfl)) g166 rfl ⟨rfl, Below.refl _ _⟩
          · exact step_pickF (show opO su20Ops 17 = some (.pick (.tmp 166) (.tmp 168) (.const (.bool false))) by kernel_rfl) (.free (by kernel_rfl)) g166 rfl ⟨rfl, Below.refl _ _⟩
      · cases β4
        · cases β5
          · exact step_pickF (show opO su20Ops 17 = some (.pick (.tmp 166) (.tmp 168) (.const (.bool false))) by kernel_rfl) (.free (by kernel_rfl)) g166 rfl ⟨rfl, Below.refl _ _⟩
          · exact step_pickF (show opO su20Ops 17 = some (.pick (.tmp 166) (.tmp 168) (.const (.bool false))) by kernel_rfl) (.free (by kernel_rfl)) g166 rfl ⟨rfl, Below.refl _ _⟩
        · cases β5
          · exact step_pickF (show opO su20Ops 17 = some (.pick (.tmp 166) (.tmp 168) (.const (.bool false))) by kernel_rfl) (.free (by kernel_rfl)) g166 rfl ⟨rfl, Below.refl _ _⟩
          · exact step_pickF (show opO su20Ops 17 = some (.pick (.tmp 166) (.tmp 168) (.const (.bool false))) by kernel_rfl) (.free (by kernel_rfl)) g166 rfl ⟨rfl, Below.refl _ _⟩
    · cases β3
      · cases β4
        · cases β5
          · exact step_pickF (show opO su20Ops 17 = some (.pick (.tmp 166) (.tmp 168) (.const (.bool false))) by kernel_rfl) (.free (by kernel_rfl)) g166 rfl ⟨rfl, Below.refl _ _⟩
          · exact step_pickF (show opO su20Ops 17 = some (.pick (.tmp 166) (.tmp 168) (.const (.bool false))) by kernel_rfl) (.free (by kernel_rfl)) g166 rfl ⟨rfl, Below.refl _ _⟩
        · cases β5
          · exact step_pickF (show opO su20Ops 17 = some (.pick (.tmp 166) (.tmp 168) (.const (.bool false))) by kernel_rfl) (.free (by kernel_rfl)) g166 rfl ⟨rfl, Below.refl _ _⟩
          · exact step_pickF (show opO su20Ops 17 = some (.pick (.tmp 166) (.tmp 168) (.const (.bool false))) by kernel_rfl) (.free (by kernel_rfl)) g166 rfl ⟨rfl, Below.refl _ _⟩
      · cases β4
        · cases β5
          · exact step_pickF (show opO su20Ops 17 = some (.pick (.tmp 166) (.tmp 168) (.const (.bool false))) by kernel_rfl) (.free (by kernel_rfl)) g166 rfl ⟨rfl, Below.refl _ _⟩
          · exact step_pickF (show opO su20Ops 17 = some (.pick (.tmp 166) (.tmp 168) (.const (.bool false))) by kernel_rfl) (.free (by kernel_rfl)) g166 rfl ⟨rfl, Below.refl _ _⟩
        · cases β5
          · exact step_pickT (show opO su20Ops 17 = some (.pick (.tmp 166) (.tmp 168) (.const (.bool false))) by kernel_rfl) (.free (by kernel_rfl)) g166 g168 ⟨rfl, Below.refl _ _⟩
          · exact step_pickT (show opO su20Ops 17 = some (.pick (.tmp 166) (.tmp 168) (.const (.bool false))) by kernel_rfl) (.free (by kernel_rfl)) g166 g168 ⟨rfl, Below.refl _ _⟩

theorem su20_s18 {Q : Exit → Act → World → Prop} {w0 : World} {xs : Nat → Value} (a b c : Int) (β1 β2 β3 β4 β5 β6 : Bool) (hβ1 : Hid (decide (-1048576 < a) = β1)) (hβ2 : Hid (decide (a < 1048576) = β2)) (hβ3 : Hid (decide (-1048576 < b) = β3)) (hβ4 : Hid (decide (b < 1048576) = β4)) (hβ5 : Hid (decide (-1048576 < c) = β5)) (hβ6 : Hid (decide (c < 1048576) = β6)) (hx0 : xs 0 = .int .i64 a) (hx1 : xs 1 = .int .i64 b) (hx2 : xs 2 = .int .i64 c) : OpStep Tryz.prog su20Ops Q (su20F a b c β1 β2 β3 β4 β5 β6 hβ1 hβ2 hβ3 hβ4 hβ5 hβ6) w0 198 xs 18 := by
  intro act w hb hk hF
  have g169 : act.eval (.tmp 169) = cond β1 (cond β2 (cond β3 (cond β4 (cond β5 (.bool true) (.bool false)) (.bool false)) (.bool false)) (.bool false)) (.bool false) := hF 17 (of_decide_eq_true (by kernel_rfl)) 169 (by kernel_rfl)
  exact step_move (show opO su20Ops 18 = some (.move (.tmp 169)) by kernel_rfl) (.free (by kernel_rfl)) g169 ⟨rfl, Below.refl _ _⟩

theorem su20_s19 {Q : Exit → Act → World → Prop} {w0 : World} {xs : Nat → Value} (a b c : Int) (β1 β2 β3 β4 β5 β6 : Bool) (hβ1 : Hid (decide (-1048576 < a) = β1)) (hβ2 : Hid (decide (a < 1048576) = β2)) (hβ3 : Hid (decide (-1048576 < b) = β3)) (hβ4 : Hid (decide (b < 1048576) = β4)) (hβ5 : Hid (decide (-1048576 < c) = β5)) (hβ6 : Hid (decide (c < 1048576) = β6)) (hx0 : xs 0 = .int .i64 a) (hx1 : xs 1 = .int .i64 b) (hx2 : xs 2 = .int .i64 c) : OpStep Tryz.prog su20Ops Q (su20F a b c β1 β2 β3 β4 β5 β6 hβ1 hβ2 hβ3 hβ4 hβ5 hβ6) w0 198 xs 19 := by
  intro act w hb hk hF
  have g170 : act.eval (.tmp 170) = cond β1 (cond β2 (cond β3 (cond β4 (cond β5 (.bool true) (.bool false)) (.bool false)) (.bool false)) (.bool false)) (.bool false) := hF 18 (of_decide_eq_true (by kernel_rfl)) 170 (by kernel_rfl)
  have g2 : act.eval (.tmp 2) = .int .i64 c := (hk 2 (by decide) (by kernel_rfl)).trans hx2
  cases β1
  · cases β2
    · cases β3
      · cases β4
        · cases β5
          · exact step_off (of_decide_eq_true (by kernel_rfl)) (.told 18 true 170 (by kernel_rfl) (by kernel_rfl) g170) ⟨rfl, Below.refl _ _⟩
          · exact step_off (of_decide_eq_true (by kernel_rfl)) (.told 18 true 170 (by kernel_rfl) (by kernel_rfl) g170) ⟨rfl, Below.refl _ _⟩
        · cases β5
          · exact step_off (of_decide_eq_true (by kernel_rfl)) (.told 18 true 170 (by kernel_rfl) (by kernel_rfl) g170) ⟨rfl, Below.refl _ _⟩
          · exact step_off (of_decide_eq_true (by kernel_rfl)) (.told 18 true 170 (by kernel_rfl) (by kernel_rfl) g170) ⟨rfl, Below.refl _ _⟩
      · cases β4
        · cases β5
          · exact step_off (of_decide_eq_true (by kernel_rfl)) (.told 18 true 170 (by kernel_rfl) (by kernel_rfl) g170) ⟨rfl, Below.refl _ _⟩
          · exact step_off (of_decide_eq_true (by kernel_rfl)) (.told 18 true 170 (by kernel_rfl) (by kernel_rfl) g170) ⟨rfl, Below.refl _ _⟩
        · cases β5
          · exact step_off (of_decide_eq_true (by kernel_rfl)) (.told 18 true 170 (by kernel_rfl) (by kernel_rfl) g170) ⟨rfl, Below.refl _ _⟩
          · exact step_off (of_decide_eq_true (by kernel_rfl)) (.told 18 true 170 (by kernel_rfl) (by kernel_rfl) g170) ⟨rfl, Below.refl _ _⟩
    · cases β3
      · cases β4
        · cases β5
          · exact step_off (of_decide_eq_true (by kernel_rfl)) (.told 18 true 170 (by kernel_rfl) (by kernel_rfl) g170) ⟨rfl, Below.refl _ _⟩
          · exact step_off (of_decide_eq_true (by kernel_rfl)) (.told 18 true 170 (by kernel_rfl) (by kernel_rfl) g170) ⟨rfl, Below.refl _ _⟩
        · cases β5
          · exact step_off (of_decide_eq_true (by kernel_rfl)) (.told 18 true 170 (by kernel_rfl) (by kernel_rfl) g170) ⟨rfl, Below.refl _ _⟩
          · exact step_off (of_decide_eq_true (by kernel_rfl)) (.told 18 true 170 (by kernel_rfl) (by kernel_rfl) g170) ⟨rfl, Below.refl _ _⟩
      · cases β4
        · cases β5
          · exact step_off (of_decide_eq_true (by kernel_rfl)) (.told 18 true 170 (by kernel_rfl) (by kernel_rfl) g170) ⟨rfl, Below.refl _ _⟩
          · exact step_off (of_decide_eq_true (by kernel_rfl)) (.told 18 true 170 (by kernel_rfl) (by kernel_rfl) g170) ⟨rfl, Below.refl _ _⟩
        · cases β5
          · exact step_off (of_decide_eq_true (by kernel_rfl)) (.told 18 true 170 (by kernel_rfl) (by kernel_rfl) g170) ⟨rfl, Below.refl _ _⟩
          · exact step_off (of_decide_eq_true (by kernel_rfl)) (.told 18 true 170 (by kernel_rfl) (by kernel_rfl) g170) ⟨rfl, Below.refl _ _⟩
  · cases β2
    · cases β3
      · cases β4
        · cases β5
          · exact step_off (of_decide_eq_true (by kernel_rfl)) (.told 18 true 170 (by kernel_rfl) (by kernel_rfl) g170) ⟨rfl, Below.refl _ _⟩
          · exact step_off (of_decide_eq_true (by kernel_rfl)) (.told 18 true 170 (by kernel_rfl) (by kernel_rfl) g170) ⟨rfl, Below.refl _ _⟩
        · cases β5
          · exact step_off (of_decide_eq_true (by kernel_rfl)) (.told 18 true 170 (by kernel_rfl) (by kernel_rfl) g170) ⟨rfl, Below.refl _ _⟩
          · exact step_off (of_decide_eq_true (by kernel_rfl)) (.told 18 true 170 (by kernel_rfl) (by kernel_rfl) g170) ⟨rfl, Below.refl _ _⟩
      · cases β4
        · cases β5
          · exact step_off (of_decide_eq_true (by kernel_rfl)) (.told 18 true 170 (by kernel_rfl) (by kernel_rfl) g170) ⟨rfl, Below.refl _ _⟩
          · exact step_off (of_decide_eq_true (by kernel_rfl)) (.told 18 true 170 (by kernel_rfl) (by kernel_rfl) g170) ⟨rfl, Below.refl _ _⟩
        · cases β5
          · exact step_off (of_decide_eq_true (by kernel_rfl)) (.told 18 true 170 (by kernel_rfl) (by kernel_rfl) g170) ⟨rfl, Below.refl _ _⟩
          · exact step_off (of_decide_eq_true (by kernel_rfl)) (.told 18 true 170 (by kernel_rfl) (by kernel_rfl) g170) ⟨rfl, Below.refl _ _⟩
    · cases β3
      · cases β4
        · cases β5
          · exact step_off (of_decide_eq_true (by kernel_rfl)) (.told 18 true 170 (by kernel_rfl) (by kernel_rfl) g170) ⟨rfl, Below.refl _ _⟩
          · exact step_off (of_decide_eq_true (by kernel_rfl)) (.told 18 true 170 (by kernel_rfl) (by kernel_rfl) g170) ⟨rfl, Below.refl _ _⟩
        · cases β5
          · exact step_off (of_decide_eq_true (by kernel_rfl)) (.told 18 true 170 (by kernel_rfl) (by kernel_rfl) g170) ⟨rfl, Below.refl _ _⟩
          · exact step_off (of_decide_eq_true (by kernel_rfl)) (.told 18 true 170 (by kernel_rfl) (by kernel_rfl) g170) ⟨rfl, Below.refl _ _⟩
      · cases β4
        · cases β5
          · exact step_off (of_decide_eq_true (by kernel_rfl)) (.told 18 true 170 (by kernel_rfl) (by kernel_rfl) g170) ⟨rfl, Below.refl _ _⟩
          · exact step_off (of_decide_eq_true (by kernel_rfl)) (.told 18 true 170 (by kernel_rfl) (by kernel_rfl) g170) ⟨rfl, Below.refl _ _⟩
        · cases β5
          · exact step_off (of_decide_eq_true (by kernel_rfl)) (.told 18 true 170 (by kernel_rfl) (by kernel_rfl) g170) ⟨rfl, Below.refl _ _⟩
          · exact step_move (show opO su20Ops 19 = some (.move (.tmp 2)) by kernel_rfl) (.told 18 true 170 (by kernel_rfl) (by kernel_rfl) g170) g2 ⟨rfl, Below.refl _ _⟩

theorem su20_s20 {Q : Exit → Act → World → Prop} {w0 : World} {xs : Nat → Value} (a b c : Int) (β1 β2 β3 β4 β5 β6 : Bool) (hβ1 : Hid (decide (-1048576 < a) = β1)) (hβ2 : Hid (decide (a < 1048576) = β2)) (hβ3 : Hid (decide (-1048576 < b) = β3)) (hβ4 : Hid (decide (b < 1048576) = β4)) (hβ5 : Hid (decide (-1048576 < c) = β5)) (hβ6 : Hid (decide (c < 1048576) = β6)) (hx0 : xs 0 = .int .i64 a) (hx1 : xs 1 = .int .i64 b) (hx2 : xs 2 = .int .i64 c) : OpStep Tryz.prog su20Ops Q (su20F a b c β1 β2 β3 β4 β5 β6 hβ1 hβ2 hβ3 hβ4 hβ5 hβ6) w0 198 xs 20 := by
  intro act w hb hk hF
  have g170 : act.eval (.tmp 170) = cond β1 (cond β2 (cond β3 (cond β4 (cond β5 (.bool true) (.bool false)) (.bool false)) (.bool false)) (.bool false)) (.bool false) := hF 18 (of_decide_eq_true (by kernel_rfl)) 170 (by kernel_rfl)
  have g171 : act.eval (.tmp 171) = cond β1 (cond β2 (cond β3 (cond β4 (cond β5 (.int .i64 c) (undef)) (undef)) (undef)) (undef)) (undef) := hF 19 (of_decide_eq_true (by kernel_rfl)) 171 (by kernel_rfl)
  cases β1
  · cases β2
    · cases β3
      · cases β4
        · cases β5
          · cases β6
            · exact step_off (of_decide_eq_true (by kernel_rfl)) (.told 18 true 170 (by kernel_rfl) (by kernel_rfl) g170) ⟨rfl, Below.refl _ _⟩
            · exact step_off (of_decide_eq_true (by kernel_rfl)) (.told 18 true 170 (by kernel_rfl) (by kernel_rfl) g170) ⟨rfl, Below.refl _ _⟩
          · cases β6
            · exact step_off (of_decide_eq_true (by kernel_rfl)) (.told 18 true 170 (by kernel_rfl) (by kernel_rfl) g170) ⟨rfl, Below.refl _ _⟩
            · exact step_off (of_decide_eq_true (by kernel_rfl)) (.told 18 true 170 (by kernel_rfl) (by kernel_rfl) g170) ⟨rfl, Below.refl _ _⟩
        · cases β5
          · cases β6
            · exact step_off (of_decide_eq_true (by kernel_rfl)) (.told 18 true 170 (by kernel_rfl) (by kernel_rfl) g170) ⟨rfl, Below.refl _ _⟩
            · exact step_off (of_decide_eq_true (by kernel_rfl)) (.told 18 true 170 (by kernel_rfl) (by kernel_rfl) g170) ⟨rfl, Below.refl _ _⟩
          · cases β6
            · exact step_off (of_decide_eq_true (by kernel_rfl)) (.told 18 true 170 (by kernel_rfl) (by kernel_rfl) g170) ⟨rfl, Below.refl _ _⟩
            · exact step_off (of_decide_eq_true (by kernel_rfl)) (.told 18 true 170 (by kernel_rfl) (by kernel_rfl) g170) ⟨rfl, Below.refl _ _⟩
      · cases β4
        · cases β5
          · cases β6
            · exact step_off (of_decide_eq_true (by kernel_rfl)) (.told 18 true 170 (by kernel_rfl) (by kernel_rfl) g170) ⟨rfl, Below.refl _ _⟩
            · exact step_off (of_decide_eq_true (by kernel_rfl)) (.told 18 true 170 (by kernel_rfl) (by kernel_rfl) g170) ⟨rfl, Below.refl _ _⟩
          · cases β6
            · exact step_off (of_decide_eq_true (by kernel_rfl)) (.told 18 true 170 (by kernel_rfl) (by kernel_rfl) g170) ⟨rfl, Below.refl _ _⟩
            · exact step_off (of_decide_eq_true (by kernel_rfl)) (.told 18 true 170 (by kernel_rfl) (by kernel_rfl) g170) ⟨rfl, Below.refl _ _⟩
        · cases β5
          · cases β6
            · exact step_off (of_decide_eq_true (by kernel_rfl)) (.told 18 true 170 (by kernel_rfl) (by kernel_rfl) g170) ⟨rfl, Below.refl _ _⟩
            · exact step_off (of_decide_eq_true (by kernel_rfl)) (.told 18 true 170 (by kernel_rfl) (by kernel_rfl) g170) ⟨rfl, Below.refl _ _⟩
          · cases β6
            · exact step_off (of_decide_eq_true (by kernel_rfl)) (.told 18 true 170 (by kernel_rfl) (by kernel_rfl) g170) ⟨rfl, Below.refl _ _⟩
            · exact step_off (of_decide_eq_true (by kernel_rfl)) (.told 18 true 170 (by kernel_rfl) (by kernel_rfl) g170) ⟨rfl, Below.refl _ _⟩
    · cases β3
      · cases β4
        · cases β5
          · cases β6
            · exact step_off (of_decide_eq_true (by kernel_rfl)) (.told 18 true 170 (by kernel_rfl) (by kernel_rfl) g170) ⟨rfl, Below.refl _ _⟩
            · exact step_off (of_decide_eq_true (by kernel_rfl)) (.told 18 true 170 (by kernel_rfl) (by kernel_rfl) g170) ⟨rfl, Below.refl _ _⟩
          · cases β6
            · exact step_off (of_decide_eq_true (by kernel_rfl)) (.told 18 true 170 (by kernel_rfl) (by kernel_rfl) g170) ⟨rfl, Below.refl _ _⟩
            · exact step_off (of_decide_eq_true (by kernel_rfl)) (.told 18 true 170 (by kernel_rfl) (by kernel_rfl) g170) ⟨rfl, Below.refl _ _⟩
        · cases β5
          · cases β6
            · exact step_off (of_decide_eq_true (by kernel_rfl)) (.told 18 true 170 (by kernel_rfl) (by kernel_rfl) g170) ⟨rfl, Below.refl _ _⟩
            · exact step_off (of_decide_eq_true (by kernel_rfl)) (.told 18 true 170 (by kernel_rfl) (by kernel_rfl) g170) ⟨rfl, Below.refl _ _⟩
          · cases β6
            · exact step_off (of_decide_eq_true (by kernel_rfl)) (.told 18 true 170 (by kernel_rfl) (by kernel_rfl) g170) ⟨rfl, Below.refl _ _⟩
            · exact step_off (of_decide_eq_true (by kernel_rfl)) (.told 18 true 170 (by kernel_rfl) (by kernel_rfl) g170) ⟨rfl, Below.refl _ _⟩
      · cases β4
        · cases β5
          · cases β6
            · exact step_off (of_decide_eq_true (by kernel_rfl)) (.told 18 true 170 (by kernel_rfl) (by kernel_rfl) g170) ⟨rfl, Below.refl _ _⟩
            · exact step_off (of_decide_eq_true (by kernel_rfl)) (.told 18 true 170 (by kernel_rfl) (by kernel_rfl) g170) ⟨rfl, Below.refl _ _⟩
          · cases β6
            · exact step_off (of_decide_eq_true (by kernel_rfl)) (.told 18 true 170 (by kernel_rfl) (by kernel_rfl) g170) ⟨rfl, Below.refl _ _⟩
            · exact step_off (of_decide_eq_true (by kernel_rfl)) (.told 18 true 170 (by kernel_rfl) (by kernel_rfl) g170) ⟨rfl, Below.refl _ _⟩
        · cases β5
          · cases β6
            · exact step_off (of_decide_eq_true (by kernel_rfl)) (.told 18 true 170 (by kernel_rfl) (by kernel_rfl) g170) ⟨rfl, Below.refl _ _⟩
            · exact step_off (of_decide_eq_true (by kernel_rfl)) (.told 18 true 170 (by kernel_rfl) (by kernel_rfl) g170) ⟨rfl, Below.refl _ _⟩
          · cases β6
            · exact step_off (of_decide_eq_true (by kernel_rfl)) (.told 18 true 170 (by kernel_rfl) (by kernel_rfl) g170) ⟨rfl, Below.refl _ _⟩
            · exact step_off (of_decide_eq_true (by kernel_rfl)) (.told 18 true 170 (by kernel_rfl) (by kernel_rfl) g170) ⟨rfl, Below.refl _ _⟩
  · cases β2
    · cases β3
      · cases β4
        · cases β5
          · cases β6
            · exact step_off (of_decide_eq_true (by kernel_rfl)) (.told 18 true 170 (by kernel_rfl) (by kernel_rfl) g170) ⟨rfl, Below.refl _ _⟩
            · exact step_off (of_decide_eq_true (by kernel_rfl)) (.told 18 true 170 (by kernel_rfl) (by kernel_rfl) g170) ⟨rfl, Below.refl _ _⟩
          · cases β6
            · exact step_off (of_decide_eq_true (by kernel_rfl)) (.told 18 true 170 (by kernel_rfl) (by kernel_rfl) g170) ⟨rfl, Below.refl _ _⟩
            · exact step_off (of_decide_eq_true (by kernel_rfl)) (.told 18 true 170 (by kernel_rfl) (by kernel_rfl) g170) ⟨rfl, Below.refl _ _⟩
        · cases β5
          · cases β6
            · exact step_off (of_decide_eq_true (by kernel_rfl)) (.told 18 true 170 (by kernel_rfl) (by kernel_rfl) g170) ⟨rfl, Below.refl _ _⟩
            · exact step_off (of_decide_eq_true (by kernel_rfl)) (.told 18 true 170 (by kernel_rfl) (by kernel_rfl) g170) ⟨rfl, Below.refl _ _⟩
          · cases β6
            · exact step_off (of_decide_eq_true (by kernel_rfl)) (.told 18 true 170 (by kernel_rfl) (by kernel_rfl) g170) ⟨rfl, Below.refl _ _⟩
            · exact step_off (of_decide_eq_true (by kernel_rfl)) (.told 18 true 170 (by kernel_rfl) (by kernel_rfl) g170) ⟨rfl, Below.refl _ _⟩
      · cases β4
        · cases β5
          · cases β6
            · exact step_off (of_decide_eq_true (by kernel_rfl)) (.told 18 true 170 (by kernel_rfl) (by kernel_rfl) g170) ⟨rfl, Below.refl _ _⟩
            · exact step_off (of_decide_eq_true (by kernel_rfl)) (.told 18 true 170 (by kernel_rfl) (by kernel_rfl) g170) ⟨rfl, Below.refl _ _⟩
          · cases β6
            · exact step_off (of_decide_eq_true (by kernel_rfl)) (.told 18 true 170 (by kernel_rfl) (by kernel_rfl) g170) ⟨rfl, Below.refl _ _⟩
            · exact step_off (of_decide_eq_true (by kernel_rfl)) (.told 18 true 170 (by kernel_rfl) (by kernel_rfl) g170) ⟨rfl, Below.refl _ _⟩
        · cases β5
          · cases β6
            · exact step_off (of_decide_eq_true (by kernel_rfl)) (.told 18 true 170 (by kernel_rfl) (by kernel_rfl) g170) ⟨rfl, Below.refl _ _⟩
            · exact step_off (of_decide_eq_true (by kernel_rfl)) (.told 18 true 170 (by kernel_rfl) (by kernel_rfl) g170) ⟨rfl, Below.refl _ _⟩
          · cases β6
            · exact step_off (of_decide_eq_true (by kernel_rfl)) (.told 18 true 170 (by kernel_rfl) (by kernel_rfl) g170) ⟨rfl, Below.refl _ _⟩
            · exact step_off (of_decide_eq_true (by kernel_rfl)) (.told 18 true 170 (by kernel_rfl) (by kernel_rfl) g170) ⟨rfl, Below.refl _ _⟩
    · cases β3
      · cases β4
        · cases β5
          · cases β6
            · exact step_off (of_decide_eq_true (by kernel_rfl)) (.told 18 true 170 (by kernel_rfl) (by kernel_rfl) g170) ⟨rfl, Below.refl _ _⟩
            · exact step_off (of_decide_eq_true (by kernel_rfl)) (.told 18 true 170 (by kernel_rfl) (by kernel_rfl) g170) ⟨rfl, Below.refl _ _⟩
          · cases β6
            · exact step_off (of_decide_eq_true (by kernel_rfl)) (.told 18 true 170 (by kernel_rfl) (by kernel_rfl) g170) ⟨rfl, Below.refl _ _⟩
            · exact step_off (of_decide_eq_true (by kernel_rfl)) (.told 18 true 170 (by kernel_rfl) (by kernel_rfl) g170) ⟨rfl, Below.refl _ _⟩
        · cases β5
          · cases β6
            · exact step_off (of_decide_eq_true (by kernel_rfl)) (.told 18 true 170 (by kernel_rfl) (by kernel_rfl) g170) ⟨rfl, Below.refl _ _⟩
            · exact step_off (of_decide_eq_true (by kernel_rfl)) (.told 18 true 170 (by kernel_rfl) (by kernel_rfl) g170) ⟨rfl, Below.refl _ _⟩
          · cases β6
            · exact step_off (of_decide_eq_true (by kernel_rfl)) (.told 18 true 170 (by kernel_rfl) (by kernel_rfl) g170) ⟨rfl, Below.refl _ _⟩
            · exact step_off (of_decide_eq_true (by kernel_rfl)) (.told 18 true 170 (by kernel_rfl) (by kernel_rfl) g170) ⟨rfl, Below.refl _ _⟩
      · cases β4
        · cases β5
          · cases β6
            · exact step_off (of_decide_eq_true (by kernel_rfl)) (.told 18 true 170 (by kernel_rfl) (by kernel_rfl) g170) ⟨rfl, Below.refl _ _⟩
            · exact step_off (of_decide_eq_true (by kernel_rfl)) (.told 18 true 170 (by kernel_rfl) (by kernel_rfl) g170) ⟨rfl, Below.refl _ _⟩
          · cases β6
            · exact step_off (of_decide_eq_true (by kernel_rfl)) (.told 18 true 170 (by kernel_rfl) (by kernel_rfl) g170) ⟨rfl, Below.refl _ _⟩
            · exact step_off (of_decide_eq_true (by kernel_rfl)) (.told 18 true 170 (by kernel_rfl) (by kernel_rfl) g170) ⟨rfl, Below.refl _ _⟩
        · cases β5
          · cases β6
            · exact step_off (of_decide_eq_true (by kernel_rfl)) (.told 18 true 170 (by kernel_rfl) (by kernel_rfl) g170) ⟨rfl, Below.refl _ _⟩
            · exact step_off (of_decide_eq_true (by kernel_rfl)) (.told 18 true 170 (by kernel_rfl) (by kernel_rfl) g170) ⟨rfl, Below.refl _ _⟩
          · cases β6
            · exact step_ltI (show opO su20Ops 20 = some (.binOp .lss 2 (.tmp 171) (.const (.int .i64 1048576)) 2) by kernel_rfl) (.told 18 true 170 (by kernel_rfl) (by kernel_rfl) g170) g171 rfl hβ6.out ⟨rfl, Below.refl _ _⟩
            · exact step_ltI (show opO su20Ops 20 = some (.binOp .lss 2 (.tmp 171) (.const (.int .i64 1048576)) 2) by kernel_rfl) (.told 18 true 170 (by kernel_rfl) (by kernel_rfl) g170) g171 rfl hβ6.out ⟨rfl, Below.refl _ _⟩

theorem su20_s21 {Q : Exit → Act → World → Prop} {w0 : World} {xs : Nat → Value} (a b c : Int) (β1 β2 β3 β4 β5 β6 : Bool) (hβ1 : Hid (decide (-1048576 < a) = β1)) (hβ2 : Hid (decide (a < 1048576) = β2)) (hβ3 : Hid (decide (-1048576 < b) = β3)) (hβ4 : Hid (decide (b < 1048576) = β4)) (hβ5 : Hid (decide (-1048576 < c) = β5)) (hβ6 : Hid (decide (c < 1048576) = β6)) (hx0 : xs 0 = .int .i64 a) (hx1 : xs 1 = .int .i64 b) (hx2 : xs 2 = .int .i64 c) : OpStep Tryz.prog su20Ops Q (su20F a b c β1 β2 β3 β4 β5 β6 hβ1 hβ2 hβ3 hβ4 hβ5 hβ6) w0 198 xs 21 := by
  intro act w hb hk hF
  have g170 : act.eval (.tmp 170) = cond β1 (cond β2 (cond β3 (cond β4 (cond β5 (.bool true) (.bool false)) (.bool false)) (.bool false)) (.bool false)) (.bool false) := hF 18 (of_decide_eq_true (by kernel_rfl)) 170 (by kernel_rfl)
  have g172 : act.eval (.tmp 172) = cond β1 (cond β2 (cond β3 (cond β4 (cond β5 (cond β6 (.bool true) (.bool false)) (undef)) (undef)) (undef)) (undef)) (undef) := hF 20 (of_decide_eq_true (by kernel_rfl)) 172 (by kernel_rfl)
  cases β1
  · cases β2
    · cases β3
      · cases β4
        · cases β5
          · cases β6
            · exact step_pickF (show opO su20Ops 21 = some (.pick (.tmp 170) (.tmp 172) (.const (.bool false))) by kernel_rfl) (.free (by kernel_rfl)) g170 rfl ⟨rfl, Below.refl _ _⟩
            · exact step_pickF (show opO su20Ops 21 = some (.pick (.tmp 170) (.tmp 172) (.const (.bool false))) by kernel_rfl) (.free (by kernel_rfl)) g170 rfl ⟨rfl, Below.refl _ _⟩
          · cases β6
            · exact step_pickF (show opO su20Ops 21 = some (.pick (.tmp 170) (.tmp 172) (.const (.bool false))) by kernel_rfl) (.free (by kernel_rfl)) g170 rfl ⟨rfl, Below.refl _ _⟩
            · exact step_pickF (show opO su20Ops 21 = some (.pick (.tmp 170) (.tmp 172) (.const (.bool false))) by kernel_rfl) (.free (by kernel_rfl)) g170 rfl ⟨rfl, Below.refl _ _⟩
        · cases β5
          · cases β6
            · exact step_pickF (show opO su20Ops 21 = some (.pick (.tmp 170) (.tmp 172) (.const (.bool false))) by kernel_rfl) (.free (by kernel_rfl)) g170 rfl ⟨rfl, Below.refl _ _⟩
            · exact step_pickF (show opO su20Ops 21 = some (.pick (.tmp 170) (.tmp 172) (.const (.bool false))) by kernel_rfl) (.free (by kernel_rfl)) g170 rfl ⟨rfl, Below.refl _ _⟩
          · cases β6
            · exact step_pickF (show opO su20Ops 21 = some (.pick (.tmp 170) (.tmp 172) (.const (.bool false))) by kernel_rfl) (.free (by kernel_rfl)) g170 rfl ⟨rfl, Below.refl _ _⟩
            · exact step_pickF (show opO su20Ops 21 = some (.pick (.tmp 170) (.tmp 172) (.const (.bool false))) by kernel_rfl) (.free (by kernel_rfl)) g170 rfl ⟨rfl, Below.refl _ _⟩
      · cases β4
        · cases β5
          · cases β6
            · exact step_pickF (show opO su20Ops 21 = some (.pick (.tmp 170) (.tmp 172) (.const (.bool false))) by kernel_rfl) (.free (by kernel_rfl)) g170 rfl ⟨rfl, Below.refl _ _⟩
            · exact step_pickF (show opO su20Ops 21 = some (.pick (.tmp 170) (.tmp 172) (.const (.bool false))) by kernel_rfl) (.free (by kernel_rfl)) g170 rfl ⟨rfl, Below.refl _ _⟩
          · cases β6
            · exact step_pickF (show opO su20Ops 21 = some (.pick (.tmp 170) (.tmp 172) (.const (.bool false))) by kernel_rfl) (.free (by kernel_rfl)) g170 rfl ⟨rfl, Below.refl _ _⟩
            · exact step_pickF (show opO su20Ops 21 = some (.pick (.tmp 170) (.tmp 172) (.const (.bool false))) by kernel_rfl) (.free (by kernel_rfl)) g170 rfl ⟨rfl, Below.refl _ _⟩
        · cases β5
          · cases β6
            · exact step_pickF (show opO su20Ops 21 = some (.pick (.tmp 170) (.tmp 172) (.const (.bool false))) by kernel_rfl) (.free (by kernel_rfl)) g170 rfl ⟨rfl, Below.refl _ _⟩
            · exact step_pickF (show opO su20Ops 21 = some (.pick (.tmp 170) (.tmp 172) (.const (.bool false))) by kernel_rfl) (.free (by kernel_rfl)) g170 rfl ⟨rfl, Below.refl _ _⟩
          · cases β6
            · exact step_pickF (show opO su20Ops 21 = some (.pick (.tmp 170) (.tmp 172) (.const (.bool false))) by kernel_rfl) (.free (by kernel_rfl)) g170 rfl ⟨rfl, Below.refl _ _⟩
            · exact step_pickF (show opO su20Ops 21 = some (.pick (.tmp 170) (.tmp 172) (.const (.bool false))) by kernel_rfl) (.free (by kernel_rfl)) g170 rfl ⟨rfl, Below.refl _ _⟩
    · cases β3
      · cases β4
        · cases β5
          · cases β6
            · exact step_pickF (show opO su20Ops 21 = some (.pick (.tmp 170) (.tmp 172) (.const (.bool false))) by kernel_rfl) (.free (by kernel_rfl)) g170 rfl ⟨rfl, Below.refl _ _⟩
            · exact step_pickF (show opO su20Ops 21 = some (.pick (.tmp 170) (.tmp 172) (.const (.bool false))) by kernel_rfl) (.free (by kernel_rfl)) g170 rfl ⟨rfl, Below.refl _ _⟩
          · cases β6
            · exact step_pickF (show opO su20Ops 21 = some (.pick (.tmp 170) (.tmp 172) (.const (.bool false))) by kernel_rfl) (.free (by kernel_rfl)) g170 rfl ⟨rfl, Below.refl _ _⟩
            · exact step_pickF (show opO su20Ops 21 = some (.pick (.tmp 170) (.tmp 172) (.const (.bool false))) by kernel_rfl) (.free (by kernel_rfl)) g170 rfl ⟨rfl, Below.refl _ _⟩
        · cases β5
          · cases β6
            · exact step_pickF (show opO su20Ops 21 = some (.pick (.tmp 170) (.tmp 172) (.const (.bool false))) by kernel_rfl) (.free (by kernel_rfl)) g170 rfl ⟨rfl, Below.refl _ _⟩
            · exact step_pickF (show opO su20Ops 21 = some (.pick (.tmp 170) (.tmp 172) (.const (.bool false))) by kernel_rfl) (.free (by kernel_rfl)) g170 rfl ⟨rfl, Below.refl _ _⟩
          · cases β6
            · exact step_pickF (show opO su20Ops 21 = some (.pick (.tmp 170) (.tmp 172) (.const (.bool false))) by kernel_rfl) (.free (by kernel_rfl)) g170 rfl ⟨rfl, Below.refl _ _⟩
            · exact step_pickF (show opO su20Ops 21 = some (.pick (.tmp 170) (.tmp 172) (.const (.bool false))) by kernel_rfl) (.free (by kernel_rfl)) g170 rfl ⟨rfl, Below.refl _ _⟩
      · cases β4
        · cases β5
          · cases β6
            · exact step_pickF (show opO su20Ops 21 = some (.pick (.tmp 170) (.tmp 172) (.const (.bool false))) by kernel_rfl) (.free (by kernel_rfl)) g170 rfl ⟨rfl, Below.refl _ _⟩
            · exact step_pickF (show opO su20Ops 21 = some (.pick (.tmp 170) (.tmp 172) (.const (.bool false))) by kernel_rfl) (.free (by kernel_rfl)) g170 rfl ⟨rfl, Below.refl _ _⟩
          · cases β6
            · exact step_pickF (show opO su20Ops 21 = some (.pick (.tmp 170) (.tmp 172) (.const (.bool false))) by kernel_rfl) (.free (by kernel_rfl)) g170 rfl ⟨rfl, Below.refl _ _⟩
            · exact step_pickF (show opO su20Ops 21 = some (.pick (.tmp 170) (.tmp 172) (.const (.bool false))) by kernel_rfl) (.free (by kernel_rfl)) g170 rfl ⟨rfl, Below.refl _ _⟩
        · cases β5
          · cases β6
            · exact step_pickF (show opO su20Ops 21 = some (.pick (.tmp 170) (.tmp 172) (.const (.bool false))) by kernel_rfl) (.free (by kernel_rfl)) g170 rfl ⟨rfl, Below.refl _ _⟩
            · exact step_pickF (show opO su20Ops 21 = some (.pick (.tmp 170) (.tmp 172) (.const (.bool false))) by kernel_rfl) (.free (by kernel_rfl)) g170 rfl ⟨rfl, Below.refl _ _⟩
          · cases β6
            · exact step_pickF (show opO su20Ops 21 = some (.pick (.tmp 170) (.tmp 172) (.const (.bool false))) by kernel_rfl) (.free (by kernel_rfl)) g170 rfl ⟨rfl, Below.refl _ _⟩
            · exact step_pickF (show opO su20Ops 21 = some (.pick (.tmp 170) (.tmp 172) (.const (.bool false))) by kernel_rfl) (.free (by kernel_rfl)) g170 rfl ⟨rfl, Below.refl _ _⟩
  · cases β2
    · cases β3
      · cases β4
        · cases β5
          · cases β6
            · exact step_pickF (show opO su20Ops 21 = some (.pick (.tmp 170) (.tmp 172) (.const (.bool false))) by kernel_rfl) (.free (by kernel_rfl)) g170 rfl ⟨rfl, Below.refl _ _⟩
            · exact step_pickF (show opO su20Ops 21 = some (.pick (.tmp 170) (.tmp 172) (.const (.bool false))) by kernel_rfl) (.free (by kernel_rfl)) g170 rfl ⟨rfl, Below.refl _ _⟩
          · cases β6
            · exact step_pickF (show opO su20Ops 21 = some (.pick (.tmp 170) (.tmp 172) (.const (.bool false))) by kernel_rfl) (.free (by kernel_rfl)) g170 rfl ⟨rfl, Below.refl _ _⟩
            · exact step_pickF (show opO su20Ops 21 = some (.pick (.tmp 170) (.tmp 172) (.const (.bool false))) by kernel_rfl) (.free (by kernel_rfl)) g170 rfl ⟨rfl, Below.refl _ _⟩
        · cases β5
          · cases β6
            · exact step_pickF (show opO su20Ops 21 = some (.pick (.tmp 170) (.tmp 172) (.const (.bool false))) by kernel_rfl) (.free (by kernel_rfl)) g170 rfl ⟨rfl, Below.refl _ _⟩
            · exact step_pickF (show opO su20Ops 21 = some (.pick (.tmp 170) (.tmp 172) (.const (.bool false))) by kernel_rfl) (.free (by kernel_rfl)) g170 rfl ⟨rfl, Below.refl _ _⟩
          · cases β6
            · exact step_pickF (show opO su20Ops 21 = some (.pick (.tmp 170) (.tmp 172) (.const (.bool false))) by kernel_rfl) (.free (by kernel_rfl)) g170 rfl ⟨rfl, Below.refl _ _⟩
            · exact step_pickF (show opO su20Ops 21 = some (.pick (.tmp 170) (.tmp 172) (.const (.bool false))) by kernel_rfl) (.free (by kernel_rfl)) g170 rfl ⟨rfl, Below.refl _ _⟩
      · cases β4
        · cases β5
          · cases β6
            · exact step_pickF (show opO su20Ops 21 = some (.pick (.tmp 170) (.tmp 172) (.const (.bool false))) by kernel_rfl) (.free (by kernel_rfl)) g170 rfl ⟨rfl, Below.refl _ _⟩
            · exact step_pickF (show opO su20Ops 21 = some (.pick (.tmp 170) (.tmp 172) (.const (.bool false))) by kernel_rfl) (.free (by kernel_rfl)) g170 rfl ⟨rfl, Below.refl _ _⟩
          · cases β6
            · exact step_pickF (show opO su20Ops 21 = some (.pick (.tmp 170) (.tmp 172) (.const (.bool false))) by kernel_rfl) (.free (by kernel_rfl)) g170 rfl ⟨rfl, Below.refl _ _⟩
            · exact step_pickF (show opO su20Ops 21 = some (.pick (.tmp 170) (.tmp 172) (.const (.bool false))) by kernel_rfl) (.free (by kernel_rfl)) g170 rfl ⟨rfl, Below.refl _ _⟩
        · cases β5
          · cases β6
            · exact step_pickF (show opO su20Ops 21 = some (.pick (.tmp 170) (.tmp 172) (.const (.bool false))) by kernel_rfl) (.free (by kernel_rfl)) g170 rfl ⟨rfl, Below.refl _ _⟩
            · exact step_pickF (show opO su20Ops 21 = some (.pick (.tmp 170) (.tmp 172) (.const (.bool false))) by kernel_rfl) (.free (by kernel_rfl)) g170 rfl ⟨rfl, Below.refl _ _⟩
          · cases β6
            · exact step_pickF (show opO su20Ops 21 = some (.pick (.tmp 170) (.tmp 172) (.const (.bool false))) by kernel_rfl) (.free (by kernel_rfl)) g170 rfl ⟨rfl, Below.refl _ _⟩
            · exact step_pickF (show opO su20Ops 21 = some (.pick (.tmp 170) (.tmp 172) (.const (.bool false))) by kernel_rfl) (.free (by kernel_rfl)) g170 rfl ⟨rfl, Below.refl _ _⟩
    · cases β3
      · cases β4
        · cases β5
          · cases β6
            · exact step_pickF (show opO su20Ops 21 = some (.pick (.tmp 170) (.tmp 172) (.const (.bool false))) by kernel_rfl) (.free (by kernel_rfl)) g170 rfl ⟨rfl, Below.refl _ _⟩
            · exact step_pickF (show opO su20Ops 21 = some (.pick (.tmp 170) (.tmp 172) (.const (.bool false))) by kernel_rfl) (.free (by kernel_rfl)) g170 rfl ⟨rfl, Below.refl _ _⟩
          · cases β6
            · exact step_pickF (show opO su20Ops 21 = some (.pick (.tmp 170) (.tmp 172) (.const (.bool false))) by kernel_rfl) (.free (by kernel_rfl)) g170 rfl ⟨rfl, Below.refl _ _⟩
            · exact step_pickF (show opO su20Ops 21 = some (.pick (.tmp 170) (.tmp 172) (.const (.bool false))) by kernel_rfl) (.free (by kernel_rfl)) g170 rfl ⟨rfl, Below.refl _ _⟩
        · cases β5
          · cases β6
            · exact step_pickF (show opO su20Ops 21 = some (.pick (.tmp 170) (.tmp 172) (.const (.bool false))) by kernel_rfl) (.free (by kernel_rfl)) g170 rfl ⟨rfl, Below.refl _ _⟩
            · exact step_pickF (show opO su20Ops 21 = some (.pick (.tmp 170) (.tmp 172) (.const (.bool false))) by kernel_rfl) (.free (by kernel_rfl)) g170 rfl ⟨rfl, Below.refl _ _⟩
          · cases β6
            · exact step_pickF (show opO su20Ops 21 = some (.pick (.tmp 170) (.tmp 172) (.const (.bool false))) by kernel_rfl) (.free (by kernel_rfl)) g170 rfl ⟨rfl, Below.refl _ _⟩
            · exact step_pickF (show opO su20Ops 21 = some (.pick (.tmp 170) (.tmp 172) (.const (.bool false))) by kernel_rfl) (.free (by kernel_rfl)) g170 rfl ⟨rfl, Below.refl _ _⟩
      · cases β4
        · cases β5
          · cases β6
            · exact step_pickF (show opO su20Ops 21 = some (.pick (.tmp 170) (.tmp 172) (.const (.bool false))) by kernel_rfl) (.free (by kernel_rfl)) g170 rfl ⟨rfl, Below.refl _ _⟩
            · exact step_pickF (show opO su20Ops 21 = some (.pick (.tmp 170) (.tmp 172) (.const (.bool false))) by kernel_rfl) (.free (by kernel_rfl)) g170 rfl ⟨rfl, Below.refl _ _⟩
          · cases β6
            · exact step_pickF (show opO su20Ops 21 = some (.pick (.tmp 170) (.tmp 172) (.const (.bool false))) by kernel_rfl) (.free (by kernel_rfl)) g170 rfl ⟨rfl, Below.refl _ _⟩
            · exact step_pickF (show opO su20Ops 21 = some (.pick (.tmp 170) (.tmp 172) (.const (.bool false))) by kernel_rfl) (.free (by kernel_rfl)) g170 rfl ⟨rfl, Below.refl _ _⟩
        · cases β5
          · cases β6
            · exact step_pickF (show opO su20Ops 21 = some (.pick (.tmp 170) (.tmp 172) (.const (.bool false))) by kernel_rfl) (.free (by kernel_rfl)) g170 rfl ⟨rfl, Below.refl _ _⟩
            · exact step_pickF (show opO su20Ops 21 = some (.pick (.tmp 170) (.tmp 172) (.const (.bool false))) by kernel_rfl) (.free (by kernel_rfl)) g170 rfl ⟨rfl, Below.refl _ _⟩
          · cases β6
            · exact step_pickT (show opO su20Ops 21 = some (.pick (.tmp 170) (.tmp 172) (.const (.bool false))) by kernel_rfl) (.free (by kernel_rfl)) g170 g172 ⟨rfl, Below.refl _ _⟩
            · exact step_pickT (show opO su20Ops 21 = some (.pick (.tmp 170) (.tmp 172) (.const (.bool false))) by kernel_rfl) (.free (by kernel_rfl)) g170 g172 ⟨rfl, Below.refl _ _⟩

theorem su20 {bb : Bool} {Q : Exit → Act → World → Prop} {a0 : Act} {w0 : World} (a b c : Int) (β1 β2 β3 β4 β5 β6 : Bool) (hβ1 : Hid (decide (-1048576 < a) = β1)) (hβ2 : Hid (decide (a < 1048576) = β2)) (hβ3 : Hid (decide (-1048576 < b) = β3)) (hβ4 : Hid (decide (b < 1048576) = β4)) (hβ5 : Hid (decide (-1048576 < c) = β5)) (hβ6 : Hid (decide (c < 1048576) = β6)) (hx0 : a0.tmps.getD 0 undef = .int .i64 a) (hx1 : a0.tmps.getD 1 undef = .int .i64 b) (hx2 : a0.tmps.getD 2 undef = .int .i64 c) (hs : a0.tmps.size = 198)
    (hend : ∀ (V : Nat → Value) (X : World), Below w0.heap.size w0 X → V 21 = cond β1 (cond β2 (cond β3 (cond β4 (cond β5 (cond β6 (.bool true) (.bool false)) (.bool false)) (.bool false)) (.bool false)) (.bool false)) (.bool false) → Q .normal ⟨fillT su20Ops a0.tmps V, a0.defers⟩ X) : (Code.region 20 su20Ops bb).wp Tryz.prog Q a0 w0 := by
  refine wp_region_both (by kernel_rfl) (su20F a b c β1 β2 β3 β4 β5 β6 hβ1 hβ2 hβ3 hβ4 hβ5 hβ6) (su20F_mono a b c β1 β2 β3 β4 β5 β6 hβ1 hβ2 hβ3 hβ4 hβ5 hβ6) (by rw [hs]; kernel_rfl) ?_ ?_
  · rw [hs]
    have size_is : su20Ops.size = 22 := by kernel_rfl
    rw [size_is]
    have u1 : ∀ i, i < 1 → OpStep Tryz.prog su20Ops Q (su20F a b c β1 β2 β3 β4 β5 β6 hβ1 hβ2 hβ3 hβ4 hβ5 hβ6) w0 198 (fun t => a0.tmps.getD t undef) i := upto_succ upto_zero (su20_s0 a b c β1 β2 β3 β4 β5 β6 hβ1 hβ2 hβ3 hβ4 hβ5 hβ6 hx0 hx1 hx2)
    have u2 : ∀ i, i < 2 → OpStep Tryz.prog su20Ops Q (su20F a b c β1 β2 β3 β4 β5 β6 hβ1 hβ2 hβ3 hβ4 hβ5 hβ6) w0 198 (fun t => a0.tmps.getD t undef) i := upto_succ u1 (su20_s1 a b c β1 β2 β3 β4 β5 β6 hβ1 hβ2 hβ3 hβ4 hβ5 hβ6 hx0 hx1 hx2)
    have u3 : ∀ i, i < 3 → OpStep Tryz.prog su20Ops Q (su20F a b c β1 β2 β3 β4 β5 β6 hβ1 hβ2 hβ3 hβ4 hβ5 hβ6) w0 198 (fun t => a0.tmps.getD t undef) i := upto_succ u2 (su20_s2 a b c β1 β2 β3 β4 β5 β6 hβ1 hβ2 hβ3 hβ4 hβ5 hβ6 hx0 hx1 hx2)
    have u4 : ∀ i, i < 4 → OpStep Tryz.prog su20Ops Q (su20F a b c β1 β2 β3 β4 β5 β6 hβ1 hβ2 hβ3 hβ4 hβ5 hβ6) w0 198 (fun t => a0.tmps.getD t undef) i := upto_succ u3 (su20_s3 a b c β1 β2 β3 β4 β5 β6 hβ1 hβ2 hβ3 hβ4 hβ5 hβ6 hx0 hx1 hx2)
    have u5 : ∀ i, i < 5 → OpStep Tryz.prog su20Ops Q (su20F a b c β1 β2 β3 β4 β5 β6 hβ1 hβ2 hβ3 hβ4 hβ5 hβ6) w0 198 (fun t => a0.tmps.getD t undef) i := upto_succ u4 (su20_s4 a b c β1 β2 β3 β4 β5 β6 hβ1 hβ2 hβ3 hβ4 hβ5 hβ6 hx0 hx1 hx2)
    have u6 : ∀ i, i < 6 → OpStep Tryz.prog su20Ops Q (su20F a b c β1 β2 β3 β4 β5 β6 hβ1 hβ2 hβ3 hβ4 hβ5 hβ6) w0 198 (fun t => a0.tmps.getD t undef) i := upto_succ u5 (su20_s5 a b c β1 β2 β3 β4 β5 β6 hβ1 hβ2 hβ3 hβ4 hβ5 hβ6 hx0 hx1 hx2)
    have u7 : ∀ i, i < 7 → OpStep Tryz.prog su20Ops Q (su20F a b c β1 β2 β3 β4 β5 β6 hβ1 hβ2 hβ3 hβ4 hβ5 hβ6) w0 198 (fun t => a0.tmps.getD t undef) i := upto_succ u6 (su20_s6 a b c β1 β2 β3 β4 β5 β6 hβ1 hβ2 hβ3 hβ4 hβ5 hβ6 hx0 hx1 hx2)
    have u8 : ∀ i, i < 8 → OpStep Tryz.prog su20Ops Q (su20F a b c β1 β2 β3 β4 β5 β6 hβ1 hβ2 hβ3 hβ4 hβ5 hβ6) w0 198 (fun t => a0.tmps.getD t undef) i := upto_succ u7 (su20_s7 a b c β1 β2 β3 β4 β5 β6 hβ1 hβ2 hβ3 hβ4 hβ5 hβ6 hx0 hx1 hx2)
    have u9 : ∀ i, i < 9 → OpStep Tryz.prog su20Ops Q (su20F a b c β1 β2 β3 β4 β5 β6 hβ1 hβ2 hβ3 hβ4 hβ5 hβ6) w0 198 (fun t => a0.tmps.getD t undef) i := upto_succ u8 (su20_s8 a b c β1 β2 β3 β4 β5 β6 hβ1 hβ2 hβ3 hβ4 hβ5 hβ6 hx0 hx1 hx2)
    have u10 : ∀ i, i < 10 → OpStep Tryz.prog su20Ops Q (su20F a b c β1 β2 β3 β4 β5 β6 hβ1 hβ2 hβ3 hβ4 hβ5 hβ6) w0 198 (fun t => a0.tmps.getD t undef) i := upto_succ u9 (su20_s9 a b c β1 β2 β3 β4 β5 β6 hβ1 hβ2 hβ3 hβ4 hβ5 hβ6 hx0 hx1 hx2)
    have u11 : ∀ i, i < 11 → OpStep Tryz.prog su20Ops Q (su20F a b c β1 β2 β3 β4 β5 β6 hβ1 hβ2 hβ3 hβ4 hβ5 hβ6) w0 198 (fun t => a0.tmps.getD t undef) i := upto_succ u10 (su20_s10 a b c β1 β2 β3 β4 β5 β6 hβ1 hβ2 hβ3 hβ4 hβ5 hβ6 hx0 hx1 hx2)
    have u12 : ∀ i, i < 12 → OpStep Tryz.prog su20Ops Q (su20F a b c β1 β2 β3 β4 β5 β6 hβ1 hβ2 hβ3 hβ4 hβ5 hβ6) w0 198 (fun t => a0.tmps.getD t undef) i := upto_succ u11 (su20_s11 a b c β1 β2 β3 β4 β5 β6 hβ1 hβ2 hβ3 hβ4 hβ5 hβ6 hx0 hx1 hx2)
    have u13 : ∀ i, i < 13 → OpStep Tryz.prog su20Ops Q (su20F a b c β1 β2 β3 β4 β5 β6 hβ1 hβ2 hβ3 hβ4 hβ5 hβ6) w0 198 (fun t => a0.tmps.getD t undef) i := upto_succ u12 (su20_s12 a b c β1 β2 β3 β4 β5 β6 hβ1 hβ2 hβ3 hβ4 hβ5 hβ6 hx0 hx1 hx2)
    have u14 : ∀ i, i < 14 → OpStep Tryz.prog su20Ops Q (su20F a b c β1 β2 β3 β4 β5 β6 hβ1 hβ2 hβ3 hβ4 hβ5 hβ6) w0 198 (fun t => a0.tmps.getD t undef) i := upto_succ u13 (su20_s13 a b c β1 β2 β3 β4 β5 β6 hβ1 hβ2 hβ3 hβ4 hβ5 hβ6 hx0 hx1 hx2)
    have u15 : ∀ i, i < 15 → OpStep Tryz.prog su20Ops Q (su20F a b c β1 β2 β3 β4 β5 β6 hβ1 hβ2 hβ3 hβ4 hβ5 hβ6) w0 198 (fun t => a0.tmps.getD t undef) i := upto_succ u14 (su20_s14 a b c β1 β2 β3 β4 β5 β6 hβ1 hβ2 hβ3 hβ4 hβ5 hβ6 hx0 hx1 hx2)
    have u16 : ∀ i, i < 16 → OpStep Tryz.prog su20Ops Q (su20F a b c β1 β2 β3 β4 β5 β6 hβ1 hβ2 hβ3 hβ4 hβ5 hβ6) w0 198 (fun t => a0.tmps.getD t undef) i := upto_succ u15 (su20_s15 a b c β1 β2 β3 β4 β5 β6 hβ1 hβ2 hβ3 hβ4 hβ5 hβ6 hx0 hx1 hx2)
    have u17 : ∀ i, i < 17 → OpStep Tryz.prog su20Ops Q (su20F a b c β1 β2 β3 β4 β5 β6 hβ1 hβ2 hβ3 hβ4 hβ5 hβ6) w0 198 (fun t => a0.tmps.getD t undef) i := upto_succ u16 (su20_s16 a b c β1 β2 β3 β4 β5 β6 hβ1 hβ2 hβ3 hβ4 hβ5 hβ6 hx0 hx1 hx2)
    have u18 : ∀ i, i < 18 → OpStep Tryz.prog su20Ops Q (su20F a b c β1 β2 β3 β4 β5 β6 hβ1 hβ2 hβ3 hβ4 hβ5 hβ6) w0 198 (fun t => a0.tmps.getD t undef) i := upto_succ u17 (su20_s17 a b c β1 β2 β3 β4 β5 β6 hβ1 hβ2 hβ3 hβ4 hβ5 hβ6 hx0 hx1 hx2)
    have u19 : ∀ i, i < 19 → OpStep Tryz.prog su20Ops Q (su20F a b c β1 β2 β3 β4 β5 β6 hβ1 hβ2 hβ3 hβ4 hβ5 hβ6) w0 198 (fun t => a0.tmps.getD t undef) i := upto_succ u18 (su20_s18 a b c β1 β2 β3 β4 β5 β6 hβ1 hβ2 hβ3 hβ4 hβ5 hβ6 hx0 hx1 hx2)
    have u20 : ∀ i, i < 20 → OpStep Tryz.prog su20Ops Q (su20F a b c β1 β2 β3 β4 β5 β6 hβ1 hβ2 hβ3 hβ4 hβ5 hβ6) w0 198 (fun t => a0.tmps.getD t undef) i := upto_succ u19 (su20_s19 a b c β1 β2 β3 β4 β5 β6 hβ1 hβ2 hβ3 hβ4 hβ5 hβ6 hx0 hx1 hx2)
    have u21 : ∀ i, i < 21 → OpStep Tryz.prog su20Ops Q (su20F a b c β1 β2 β3 β4 β5 β6 hβ1 hβ2 hβ3 hβ4 hβ5 hβ6) w0 198 (fun t => a0.tmps.getD t undef) i := upto_succ u20 (su20_s20 a b c β1 β2 β3 β4 β5 β6 hβ1 hβ2 hβ3 hβ4 hβ5 hβ6 hx0 hx1 hx2)
    have u22 : ∀ i, i < 22 → OpStep Tryz.prog su20Ops Q (su20F a b c β1 β2 β3 β4 β5 β6 hβ1 hβ2 hβ3 hβ4 hβ5 hβ6) w0 198 (fun t => a0.tmps.getD t undef) i := upto_succ u21 (su20_s21 a b c β1 β2 β3 β4 β5 β6 hβ1 hβ2 hβ3 hβ4 hβ5 hβ6 hx0 hx1 hx2)
    exact u22
  · intro V X hb hV
    exact hend V X hb (hV 21 (of_decide_eq_true (by kernel_rfl)) (by kernel_rfl))
noncomputable def su21Ops : Array Oper := regOf Tryz.f6 21
theorem su21_fill {v0 v1 v2 v3 v4 v5 v6 v7 v8 v9 v10 v11 v12 v13 v14 v15 v16 v17 v18 v19 v20 v21 v22 v23 v24 v25 v26 v27 v28 v29 v30 v31 v32 v33 v34 v35 v36 v37 v38 v39 v40 v41 v42 v43 v44 v45 v46 v47 v48 v49 v50 v51 v52 v53 v54 v55 v56 v57 v58 v59 v60 v61 v62 v63 v64 v65 v66 v67 v68 v69 v70 v71 v72 v73 v74 v75 v76 v77 v78 v79 v80 v81 v82 v83 v84 v85 v86 v87 v88 v89 v90 v91 v92 v93 v94 v95 v96 v97 v98 v99 v100 v101 v102 v103 v104 v105 v106 v107 v108 v109 v110 v111 v112 v113 v114 v115 v116 v117 v118 v119 v120 v121 v122 v123 v124 v125 v126 v127 v128 v129 v130 v131 v132 v133 v134 v135 v136 v137 v138 v139 v140 v141 v142 v143 v144 v145 v146 v147 v148 v149 v150 v151 v152 v153 v154 v155 v156 v157 v158 v159 v160 v161 v162 v163 v164 v165 v166 v167 v168 v169 v170 v171 v172 v173 v174 v175 v176 v177 v178 v179 v180 v181 v182 v183 v184 v185 v186 v187 v188 v189 v190 v191 v192 v193 v194 v195 v196 v197 : Value} (V : Nat → Value) : fillT su21Ops #[v0, v1, v2, v3, v4, v5, v6, v7, v8, v9, v10, v11, v12, v13, v14, v15, v16, v17, v18, v19, v20, v21, v22, v23, v24, v25, v26, v27, v28, v29, v30, v31, v32, v33, v34, v35, v36, v37, v38, v39, v40, v41, v42, v43, v44, v45, v46, v47, v48, v49, v50, v51, v52, v53, v54, v55, v56, v57, v58, v59, v60, v61, v62, v63, v64, v65, v66, v67, v68, v69, v70, v71, v72, v73, v74, v75, v76, v77, v78, v79, v80, v81, v82, v83, v84, v85, v86, v87, v88, v89, v90, v91, v92, v93, v94, v95, v96, v97, v98, v99, v100, v101, v102, v103, v104, v105, v106, v107, v108, v109, v110, v111, v112, v113, v114, v115, v116, v117, v118, v119, v120, v121, v122, v123, v124, v125, v126, v127, v128, v129, v130, v131, v132, v133, v134, v135, v136, v137, v138, v139, v140, v141, v142, v143, v144, v145, v146, v147, v148, v149, v150, v151, v152, v153, v154, v155, v156, v157, v158, v159, v160, v161, v162, v163, v164, v165, v166, v167, v168, v169, v170, v171, v172, v173, v174, v175, v176, v177, v178, v179, v180, v181, v182, v183, v184, v185, v186, v187, v188, v189, v190, v191, v192, v193, v194, v195, v196, v197] V = #[v0, v1, v2, v3, v4, v5, V 23, v7, v8, v9, v10, v11, v12, v13, v14, v15, v16, v17, v18, v19, v20, v21, v22, v23, v24, v25, v26, v27, v28, v29, v30, v31, v32, v33, v34, v35, v36, v37, v38, v39, v40, v41, v42, v43, v44, v45, v46, v47, v48, v49, v50, v51, v52, v53, v54, v55, v56, v57, v58, v59, v60, v61, v62, v63, v64, v65, v66, v67, v68, v69, v70, v71, v72, v73, v74, v75, v76, v77, v78, v79, v80, v81, v82, v83, v84, v85, v86, v87, v88, v89, v90, v91, v92, v93, v94, v95, v96, v97, v98, v99, v100, v101, v102, v103, v104, v105, v106, v107, v108, v109, v110, v111, v112, v113, v114, v115, v116, v117, v118, v119, v120, v121, v122, v123, v124, v125, v126, v127, v128, v129, v130, v131, v132, v133, v134, v135, v136, v137, v138, v139, v140, v141, v142, v143, v144, v145, v146, v147, v148, v149, v150, v151, v152, v153, v154, v155, v156, v157, v158, v159, v160, v161, v162, v163, v164, v165, v166, v167, v168, v169, v170, v171, v172, v173, V 0, V 1, V 2, V 3, V 4, V 5, V 6, V 7, V 8, V 9, V 10, V 11, V 12, V 13, V 14, V 15, V 16, V 17, V 18, V 19, V 20, V 21, V 22, v197] := by
  kernel_rfl
def su21L (a b c s t u y : Int) (c1 : BothIs ⟨#[43]⟩ 1 b ⟨#[]⟩ 1 c ⟨#[]⟩ 1 s ⟨#[]⟩) (c2 : BothIs ⟨#[42]⟩ 1 a ⟨#[]⟩ 1 s ⟨#[]⟩ 1 t ⟨#[]⟩) (c3 : BothIs ⟨#[42]⟩ 1 a ⟨#[]⟩ 1 b ⟨#[]⟩ 1 u ⟨#[]⟩) (c4 : BothIs ⟨#[42]⟩ 1 a ⟨#[]⟩ 1 c ⟨#[]⟩ 1 y ⟨#[]⟩) (c5 : BothIs ⟨#[43]⟩ 1 u ⟨#[]⟩ 1 y ⟨#[]⟩ 1 t ⟨#[]⟩) : List (Value → World → Prop) := [IsV (.int .i64 a), IsV (vv 1 a ⟨#[]⟩), IsV (.int .i64 b), IsV (vv 1 b ⟨#[]⟩), IsV (.int .i64 c), IsV (vv 1 c ⟨#[]⟩), IsV (vv 1 s ⟨#[]⟩), IsV (vv 1 t ⟨#[]⟩), IsV (.int .i64 a), IsV (vv 1 a ⟨#[]⟩), IsV (.int .i64 b), IsV (vv 1 b ⟨#[]⟩), IsV (vv 1 u ⟨#[]⟩), IsV (.int .i64 a), IsV (vv 1 a ⟨#[]⟩), IsV (.int .i64 c), IsV (vv 1 c ⟨#[]⟩), IsV (vv 1 y ⟨#[]⟩), IsV (vv 1 t ⟨#[]⟩), IsV (.bool true), IsV (.bool true), IsV (.bool true), IsV (.bool true), IsV (.bool true)]
def su21F (a b c s t u y : Int) (c1 : BothIs ⟨#[43]⟩ 1 b ⟨#[]⟩ 1 c ⟨#[]⟩ 1 s ⟨#[]⟩) (c2 : BothIs ⟨#[42]⟩ 1 a ⟨#[]⟩ 1 s ⟨#[]⟩ 1 t ⟨#[]⟩) (c3 : BothIs ⟨#[42]⟩ 1 a ⟨#[]⟩ 1 b ⟨#[]⟩ 1 u ⟨#[]⟩) (c4 : BothIs ⟨#[42]⟩ 1 a ⟨#[]⟩ 1 c ⟨#[]⟩ 1 y ⟨#[]⟩) (c5 : BothIs ⟨#[43]⟩ 1 u ⟨#[]⟩ 1 y ⟨#[]⟩ 1 t ⟨#[]⟩) (i : Nat) : Value → World → Prop := (su21L a b c s t u y c1 c2 c3 c4 c5).getD i AnyF
theorem su21F_mono (a b c s t u y : Int) (c1 : BothIs ⟨#[43]⟩ 1 b ⟨#[]⟩ 1 c ⟨#[]⟩ 1 s ⟨#[]⟩) (c2 : BothIs ⟨#[42]⟩ 1 a ⟨#[]⟩ 1 s ⟨#[]⟩ 1 t ⟨#[]⟩) (c3 : BothIs ⟨#[42]⟩ 1 a ⟨#[]⟩ 1 b ⟨#[]⟩ 1 u ⟨#[]⟩) (c4 : BothIs ⟨#[42]⟩ 1 a ⟨#[]⟩ 1 c ⟨#[]⟩ 1 y ⟨#[]⟩) (c5 : BothIs ⟨#[43]⟩ 1 u ⟨#[]⟩ 1 y ⟨#[]⟩ 1 t ⟨#[]⟩) (i : Nat) (v : Value) (w w' : World) (hp : (su21F a b c s t u y c1 c2 c3 c4 c5) i v w) (hb : Below w.heap.size w w') : (su21F a b c s t u y c1 c2 c3 c4 c5) i v w' := by
  refine monoL ?_ i v w w' hp hb
  unfold su21L
  simp only [List.forall_mem_cons]
  exact ⟨mono_isV _, mono_isV _, mono_isV _, mono_isV _, mono_isV _, mono_isV _, mono_isV _, mono_isV _, mono_isV _, mono_isV _, mono_isV _, mono_isV _, mono_isV _, mono_isV _, mono_isV _, mono_isV _, mono_isV _, mono_isV _, mono_isV _, mono_isV _, mono_isV _, mono_isV _, mono_isV _, mono_isV _, fun _ h => by cases h⟩
theorem su21_s0 {Q : Exit → Act → World → Prop} {w0 : World} {xs : Nat → Value} (a b c s t u y : Int) (c1 : BothIs ⟨#[43]⟩ 1 b ⟨#[]⟩ 1 c ⟨#[]⟩ 1 s ⟨#[]⟩) (c2 : BothIs ⟨#[42]⟩ 1 a ⟨#[]⟩ 1 s ⟨#[]⟩ 1 t ⟨#[]⟩) (c3 : BothIs ⟨#[42]⟩ 1 a ⟨#[]⟩ 1 b ⟨#[]⟩ 1 u ⟨#[]⟩) (c4 : BothIs ⟨#[42]⟩ 1 a ⟨#[]⟩ 1 c ⟨#[]⟩ 1 y ⟨#[]⟩) (c5 : BothIs ⟨#[43]⟩ 1 u ⟨#[]⟩ 1 y ⟨#[]⟩ 1 t ⟨#[]⟩) (aw : AwIs w0) (hx0 : xs 0 = .int .i64 a) (hx1 : xs 1 = .int .i64 b) (hx2 : xs 2 = .int .i64 c) : OpStep Tryz.prog su21Ops Q (su21F a b c s t u y c1 c2 c3 c4 c5) w0 198 xs 0 := by
  intro act w hb hk hF
  have g0 : act.eval (.tmp 0) = .int .i64 a := (hk 0 (by decide) (by kernel_rfl)).trans hx0
  exact step_move (show opO su21Ops 0 = some (.move (.tmp 0)) by kernel_rfl) (.free (by kernel_rfl)) g0 ⟨rfl, Below.refl _ _⟩

theorem su21_s1 {Q : Exit → Act → World → Prop} {w0 : World} {xs : Nat → Value} (a b c s t u y : Int) (c1 : BothIs ⟨#[43]⟩ 1 b ⟨#[]⟩ 1 c ⟨#[]⟩ 1 s ⟨#[]⟩) (c2 : BothIs ⟨#[42]⟩ 1 a ⟨#[]⟩ 1 s ⟨#[]⟩ 1 t ⟨#[]⟩) (c3 : BothIs ⟨#[42]⟩ 1 a ⟨#[]⟩ 1 b ⟨#[]⟩ 1 u ⟨#[]⟩) (c4 : BothIs ⟨#[42]⟩ 1 a ⟨#[]⟩ 1 c ⟨#[]⟩ 1 y ⟨#[]⟩) (c5 : BothIs ⟨#[43]⟩ 1 u ⟨#[]⟩ 1 y ⟨#[]⟩ 1 t ⟨#[]⟩) (aw : AwIs w0) (hx0 : xs 0 = .int .i64 a) (hx1 : xs 1 = .int .i64 b) (hx2 : xs 2 = .int .i64 c) : OpStep Tryz.prog su21Ops Q (su21F a b c s t u y c1 c2 c3 c4 c5) w0 198 xs 1 := by
  intro act w hb hk hF
  have g174 : act.eval (.tmp 174) = .int .i64 a := hF 0 (of_decide_eq_true (by kernel_rfl)) 174 (by kernel_rfl)
  exact step_call (f := 15) (xs := #[.tmp 174]) (by kernel_rfl) (.free (by kernel_rfl)) (map1 g174) (enters_of Tryz.func15 (by kernel_rfl) rfl) ((num_any a w).mono fun e w' h => ⟨_, h.1, rfl, h.2⟩)

theorem su21_s2 {Q : Exit → Act → World → Prop} {w0 : World} {xs : Nat → Value} (a b c s t u y : Int) (c1 : BothIs ⟨#[43]⟩ 1 b ⟨#[]⟩ 1 c ⟨#[]⟩ 1 s ⟨#[]⟩) (c2 : BothIs ⟨#[42]⟩ 1 a ⟨#[]⟩ 1 s ⟨#[]⟩ 1 t ⟨#[]⟩) (c3 : BothIs ⟨#[42]⟩ 1 a ⟨#[]⟩ 1 b ⟨#[]⟩ 1 u ⟨#[]⟩) (c4 : BothIs ⟨#[42]⟩ 1 a ⟨#[]⟩ 1 c ⟨#[]⟩ 1 y ⟨#[]⟩) (c5 : BothIs ⟨#[43]⟩ 1 u ⟨#[]⟩ 1 y ⟨#[]⟩ 1 t ⟨#[]⟩) (aw : AwIs w0) (hx0 : xs 0 = .int .i64 a) (hx1 : xs 1 = .int .i64 b) (hx2 : xs 2 = .int .i64 c) : OpStep Tryz.prog su21Ops Q (su21F a b c s t u y c1 c2 c3 c4 c5) w0 198 xs 2 := by
  intro act w hb hk hF
  have g1 : act.eval (.tmp 1) = .int .i64 b := (hk 1 (by decide) (by kernel_rfl)).trans hx1
  exact step_move (show opO su21Ops 2 = some (.move (.tmp 1)) by kernel_rfl) (.free (by kernel_rfl)) g1 ⟨rfl, Below.refl _ _⟩

theorem su21_s3 {Q : Exit → Act → World → Prop} {w0 : World} {xs : Nat → Value} (a b c s t u y : Int) (c1 : BothIs ⟨#[43]⟩ 1 b ⟨#[]⟩ 1 c ⟨#[]⟩ 1 s ⟨#[]⟩) (c2 : BothIs ⟨#[42]⟩ 1 a ⟨#[]⟩ 1 s ⟨#[]⟩ 1 t ⟨#[]⟩) (c3 : BothIs ⟨#[42]⟩ 1 a ⟨#[]⟩ 1 b ⟨#[]⟩ 1 u ⟨#[]⟩) (c4 : BothIs ⟨#[42]⟩ 1 a ⟨#[]⟩ 1 c ⟨#[]⟩ 1 y ⟨#[]⟩) (c5 : BothIs ⟨#[43]⟩ 1 u ⟨#[]⟩ 1 y ⟨#[]⟩ 1 t ⟨#[]⟩) (aw : AwIs w0) (hx0 : xs 0 = .int .i64 a) (hx1 : xs 1 = .int .i64 b) (hx2 : xs 2 = .int .i64 c) : OpStep Tryz.prog su21Ops Q (su21F a b c s t u y c1 c2 c3 c4 c5) w0 198 xs 3 := by
  intro act w hb hk hF
  have g176 : act.eval (.tmp 176) = .int .i64 b := hF 2 (of_decide_eq_true (by kernel_rfl)) 176 (by kernel_rfl)
  exact step_call (f := 15) (xs := #[.tmp 176]) (by kernel_rfl) (.free (by kernel_rfl)) (map1 g176) (enters_of Tryz.func15 (by kernel_rfl) rfl) ((num_any b w).mono fun e w' h => ⟨_, h.1, rfl, h.2⟩)

theorem su21_s4 {Q : Exit → Act → World → Prop} {w0 : World} {xs : Nat → Value} (a b c s t u y : Int) (c1 : BothIs ⟨#[43]⟩ 1 b ⟨#[]⟩ 1 c ⟨#[]⟩ 1 s ⟨#[]⟩) (c2 : BothIs ⟨#[42]⟩ 1 a ⟨#[]⟩ 1 s ⟨#[]⟩ 1 t ⟨#[]⟩) (c3 : BothIs ⟨#[42]⟩ 1 a ⟨#[]⟩ 1 b ⟨#[]⟩ 1 u ⟨#[]⟩) (c4 : BothIs ⟨#[42]⟩ 1 a ⟨#[]⟩ 1 c ⟨#[]⟩ 1 y ⟨#[]⟩) (c5 : BothIs ⟨#[43]⟩ 1 u ⟨#[]⟩ 1 y ⟨#[]⟩ 1 t ⟨#[]⟩) (aw : AwIs w0) (hx0 : xs 0 = .int .i64 a) (hx1 : xs 1 = .int .i64 b) (hx2 : xs 2 = .int .i64 c) : OpStep Tryz.prog su21Ops Q (su21F a b c s t u y c1 c2 c3 c4 c5) w0 198 xs 4 := by
  intro act w hb hk hF
  have g2 : act.eval (.tmp 2) = .int .i64 c := (hk 2 (by decide) (by kernel_rfl)).trans hx2
  exact step_move (show opO su21Ops 4 = some (.move (.tmp 2)) by kernel_rfl) (.free (by kernel_rfl)) g2 ⟨rfl, Below.refl _ _⟩

theorem su21_s5 {Q : Exit → Act → World → Prop} {w0 : World} {xs : Nat → Value} (a b c s t u y : Int) (c1 : BothIs ⟨#[43]⟩ 1 b ⟨#[]⟩ 1 c ⟨#[]⟩ 1 s ⟨#[]⟩) (c2 : BothIs ⟨#[42]⟩ 1 a ⟨#[]⟩ 1 s ⟨#[]⟩ 1 t ⟨#[]⟩) (c3 : BothIs ⟨#[42]⟩ 1 a ⟨#[]⟩ 1 b ⟨#[]⟩ 1 u ⟨#[]⟩) (c4 : BothIs ⟨#[42]⟩ 1 a ⟨#[]⟩ 1 c ⟨#[]⟩ 1 y ⟨#[]⟩) (c5 : BothIs ⟨#[43]⟩ 1 u ⟨#[]⟩ 1 y ⟨#[]⟩ 1 t ⟨#[]⟩) (aw : AwIs w0) (hx0 : xs 0 = .int .i64 a) (hx1 : xs 1 = .int .i64 b) (hx2 : xs 2 = .int .i64 c) : OpStep Tryz.prog su21Ops Q (su21F a b c s t u y c1 c2 c3 c4 c5) w0 198 xs 5 := by
  intro act w hb hk hF
  have g178 : act.eval (.tmp 178) = .int .i64 c := hF 4 (of_decide_eq_true (by kernel_rfl)) 178 (by kernel_rfl)
  exact step_call (f := 15) (xs := #[.tmp 178]) (by kernel_rfl) (.free (by kernel_rfl)) (map1 g178) (enters_of Tryz.func15 (by kernel_rfl) rfl) ((num_any c w).mono fun e w' h => ⟨_, h.1, rfl, h.2⟩)

theorem su21_s6 {Q : Exit → Act → World → Prop} {w0 : World} {xs : Nat → Value} (a b c s t u y : Int) (c1 : BothIs ⟨#[43]⟩ 1 b ⟨#[]⟩ 1 c ⟨#[]⟩ 1 s ⟨#[]⟩) (c2 : BothIs ⟨#[42]⟩ 1 a ⟨#[]⟩ 1 s ⟨#[]⟩ 1 t ⟨#[]⟩) (c3 : BothIs ⟨#[42]⟩ 1 a ⟨#[]⟩ 1 b ⟨#[]⟩ 1 u ⟨#[]⟩) (c4 : BothIs ⟨#[42]⟩ 1 a ⟨#[]⟩ 1 c ⟨#[]⟩ 1 y ⟨#[]⟩) (c5 : BothIs ⟨#[43]⟩ 1 u ⟨#[]⟩ 1 y ⟨#[]⟩ 1 t ⟨#[]⟩) (aw : AwIs w0) (hx0 : xs 0 = .int .i64 a) (hx1 : xs 1 = .int .i64 b) (hx2 : xs 2 = .int .i64 c) : OpStep Tryz.prog su21Ops Q (su21F a b c s t u y c1 c2 c3 c4 c5) w0 198 xs 6 := by
  intro act w hb hk hF
  have g177 : act.eval (.tmp 177) = vv 1 b ⟨#[]⟩ := hF 3 (of_decide_eq_true (by kernel_rfl)) 177 (by kernel_rfl)
  have g179 : act.eval (.tmp 179) = vv 1 c ⟨#[]⟩ := hF 5 (of_decide_eq_true (by kernel_rfl)) 179 (by kernel_rfl)
  exact step_call (f := 29) (xs := #[.const (.string ⟨#[43]⟩), .tmp 177, .tmp 179]) (by kernel_rfl) (.free (by kernel_rfl)) (map3 rfl g177 g179) (enters_of Tryz.func29 (by kernel_rfl) rfl) ((c1 w).mono fun e w' h => ⟨_, h.1, rfl, h.2⟩)

theorem su21_s7 {Q : Exit → Act → World → Prop} {w0 : World} {xs : Nat → Value} (a b c s t u y : Int) (c1 : BothIs ⟨#[43]⟩ 1 b ⟨#[]⟩ 1 c ⟨#[]⟩ 1 s ⟨#[]⟩) (c2 : BothIs ⟨#[42]⟩ 1 a ⟨#[]⟩ 1 s ⟨#[]⟩ 1 t ⟨#[]⟩) (c3 : BothIs ⟨#[42]⟩ 1 a ⟨#[]⟩ 1 b ⟨#[]⟩ 1 u ⟨#[]⟩) (c4 : BothIs ⟨#[42]⟩ 1 a ⟨#[]⟩ 1 c ⟨#[]⟩ 1 y ⟨#[]⟩) (c5 : BothIs ⟨#[43]⟩ 1 u ⟨#[]⟩ 1 y ⟨#[]⟩ 1 t ⟨#[]⟩) (aw : AwIs w0) (hx0 : xs 0 = .int .i64 a) (hx1 : xs 1 = .int .i64 b) (hx2 : xs 2 = .int .i64 c) : OpStep Tryz.prog su21Ops Q (su21F a b c s t u y c1 c2 c3 c4 c5) w0 198 xs 7 := by
  intro act w hb hk hF
  have g175 : act.eval (.tmp 175) = vv 1 a ⟨#[]⟩ := hF 1 (of_decide_eq_true (by kernel_rfl)) 175 (by kernel_rfl)
  have g180 : act.eval (.tmp 180) = vv 1 s ⟨#[]⟩ := hF 6 (of_decide_eq_true (by kernel_rfl)) 180 (by kernel_rfl)
  exact step_call (f := 29) (xs := #[.const (.string ⟨#[42]⟩), .tmp 175, .tmp 180]) (by kernel_rfl) (.free (by kernel_rfl)) (map3 rfl g175 g180) (enters_of Tryz.func29 (by kernel_rfl) rfl) ((c2 w).mono fun e w' h => ⟨_, h.1, rfl, h.2⟩)

theorem su21_s8 {Q : Exit → Act → World → Prop} {w0 : World} {xs : Nat → Value} (a b c s t u y : Int) (c1 : BothIs ⟨#[43]⟩ 1 b ⟨#[]⟩ 1 c ⟨#[]⟩ 1 s ⟨#[]⟩) (c2 : BothIs ⟨#[42]⟩ 1 a ⟨#[]⟩ 1 s ⟨#[]⟩ 1 t ⟨#[]⟩) (c3 : BothIs ⟨#[42]⟩ 1 a ⟨#[]⟩ 1 b ⟨#[]⟩ 1 u ⟨#[]⟩) (c4 : BothIs ⟨#[42]⟩ 1 a ⟨#[]⟩ 1 c ⟨#[]⟩ 1 y ⟨#[]⟩) (c5 : BothIs ⟨#[43]⟩ 1 u ⟨#[]⟩ 1 y ⟨#[]⟩ 1 t ⟨#[]⟩) (aw : AwIs w0) (hx0 : xs 0 = .int .i64 a) (hx1 : xs 1 = .int .i64 b) (hx2 : xs 2 = .int .i64 c) : OpStep Tryz.prog su21Ops Q (su21F a b c s t u y c1 c2 c3 c4 c5) w0 198 xs 8 := by
  intro act w hb hk hF
  have g0 : act.eval (.tmp 0) = .int .i64 a := (hk 0 (by decide) (by kernel_rfl)).trans hx0
  exact step_move (show opO su21Ops 8 = some (.move (.tmp 0)) by kernel_rfl) (.free (by kernel_rfl)) g0 ⟨rfl, Below.refl _ _⟩

theorem su21_s9 {Q : Exit → Act → World → Prop} {w0 : World} {xs : Nat → Value} (a b c s t u y : Int) (c1 : BothIs ⟨#[43]⟩ 1 b ⟨#[]⟩ 1 c ⟨#[]⟩ 1 s ⟨#[]⟩) (c2 : BothIs ⟨#[42]⟩ 1 a ⟨#[]⟩ 1 s ⟨#[]⟩ 1 t ⟨#[]⟩) (c3 : BothIs ⟨#[42]⟩ 1 a ⟨#[]⟩ 1 b ⟨#[]⟩ 1 u ⟨#[]⟩) (c4 : BothIs ⟨#[42]⟩ 1 a ⟨#[]⟩ 1 c ⟨#[]⟩ 1 y ⟨#[]⟩) (c5 : BothIs ⟨#[43]⟩ 1 u ⟨#[]⟩ 1 y ⟨#[]⟩ 1 t ⟨#[]⟩) (aw : AwIs w0) (hx0 : xs 0 = .int .i64 a) (hx1 : xs 1 = .int .i64 b) (hx2 : xs 2 = .int .i64 c) : OpStep Tryz.prog su21Ops Q (su21F a b c s t u y c1 c2 c3 c4 c5) w0 198 xs 9 := by
  intro act w hb hk hF
  have g182 : act.eval (.tmp 182) = .int .i64 a := hF 8 (of_decide_eq_true (by kernel_rfl)) 182 (by kernel_rfl)
  exact step_call (f := 15) (xs := #[.tmp 182]) (by kernel_rfl) (.free (by kernel_rfl)) (map1 g182) (enters_of Tryz.func15 (by kernel_rfl) rfl) ((num_any a w).mono fun e w' h => ⟨_, h.1, rfl, h.2⟩)

theorem su21_s10 {Q : Exit → Act → World → Prop} {w0 : World} {xs : Nat → Value} (a b c s t u y : Int) (c1 : BothIs ⟨#[43]⟩ 1 b ⟨#[]⟩ 1 c ⟨#[]⟩ 1 s ⟨#[]⟩) (c2 : BothIs ⟨#[42]⟩ 1 a ⟨#[]⟩ 1 s ⟨#[]⟩ 1 t ⟨#[]⟩) (c3 : BothIs ⟨#[42]⟩ 1 a ⟨#[]⟩ 1 b ⟨#[]⟩ 1 u ⟨#[]⟩) (c4 : BothIs ⟨#[42]⟩ 1 a ⟨#[]⟩ 1 c ⟨#[]⟩ 1 y ⟨#[]⟩) (c5 : BothIs ⟨#[43]⟩ 1 u ⟨#[]⟩ 1 y ⟨#[]⟩ 1 t ⟨#[]⟩) (aw : AwIs w0) (hx0 : xs 0 = .int .i64 a) (hx1 : xs 1 = .int .i64 b) (hx2 : xs 2 = .int .i64 c) : OpStep Tryz.prog su21Ops Q (su21F a b c s t u y c1 c2 c3 c4 c5) w0 198 xs 10 := by
  intro act w hb hk hF
  have g1 : act.eval (.tmp 1) = .int .i64 b := (hk 1 (by decide) (by kernel_rfl)).trans hx1
  exact step_move (show opO su21Ops 10 = some (.move (.tmp 1)) by kernel_rfl) (.free (by kernel_rfl)) g1 ⟨rfl, Below.refl _ _⟩

theorem su21_s11 {Q : Exit → Act → World → Prop} {w0 : World} {xs : Nat → Value} (a b c s t u y : Int) (c1 : BothIs ⟨#[43]⟩ 1 b ⟨#[]⟩ 1 c ⟨#[]⟩ 1 s ⟨#[]⟩) (c2 : BothIs ⟨#[42]⟩ 1 a ⟨#[]⟩ 1 s ⟨#[]⟩ 1 t ⟨#[]⟩) (c3 : BothIs ⟨#[42]⟩ 1 a ⟨#[]⟩ 1 b ⟨#[]⟩ 1 u ⟨#[]⟩) (c4 : BothIs ⟨#[42]⟩ 1 a ⟨#[]⟩ 1 c ⟨#[]⟩ 1 y ⟨#[]⟩) (c5 : BothIs ⟨#[43]⟩ 1 u ⟨#[]⟩ 1 y ⟨#[]⟩ 1 t ⟨#[]⟩) (aw : AwIs w0) (hx0 : xs 0 = .int .i64 a) (hx1 : xs 1 = .int .i64 b) (hx2 : xs 2 = .int .i64 c) : OpStep Tryz.prog su21Ops Q (su21F a b c s t u y c1 c2 c3 c4 c5) w0 198 xs 11 := by
  intro act w hb hk hF
  have g184 : act.eval (.tmp 184) = .int .i64 b := hF 10 (of_decide_eq_true (by kernel_rfl)) 184 (by kernel_rfl)
  exact step_call (f := 15) (xs := #[.tmp 184]) (by kernel_rfl) (.free (by kernel_rfl)) (map1 g184) (enters_of Tryz.func15 (by kernel_rfl) rfl) ((num_any b w).mono fun e w' h => ⟨_, h.1, rfl, h.2⟩)

theorem su21_s12 {Q : Exit → Act → World → Prop} {w0 : World} {xs : Nat → Value} (a b c s t u y : Int) (c1 : BothIs ⟨#[43]⟩ 1 b ⟨#[]⟩ 1 c ⟨#[]⟩ 1 s ⟨#[]⟩) (c2 : BothIs ⟨#[42]⟩ 1 a ⟨#[]⟩ 1 s ⟨#[]⟩ 1 t ⟨#[]⟩) (c3 : BothIs ⟨#[42]⟩ 1 a ⟨#[]⟩ 1 b ⟨#[]⟩ 1 u ⟨#[]⟩) (c4 : BothIs ⟨#[42]⟩ 1 a ⟨#[]⟩ 1 c ⟨#[]⟩ 1 y ⟨#[]⟩) (c5 : BothIs ⟨#[43]⟩ 1 u ⟨#[]⟩ 1 y ⟨#[]⟩ 1 t ⟨#[]⟩) (aw : AwIs w0) (hx0 : xs 0 = .int .i64 a) (hx1 : xs 1 = .int .i64 b) (hx2 : xs 2 = .int .i64 c) : OpStep Tryz.prog su21Ops Q (su21F a b c s t u y c1 c2 c3 c4 c5) w0 198 xs 12 := by
  intro act w hb hk hF
  have g183 : act.eval (.tmp 183) = vv 1 a ⟨#[]⟩ := hF 9 (of_decide_eq_true (by kernel_rfl)) 183 (by kernel_rfl)
  have g185 : act.eval (.tmp 185) = vv 1 b ⟨#[]⟩ := hF 11 (of_decide_eq_true (by kernel_rfl)) 185 (by kernel_rfl)
  exact step_call (f := 29) (xs := #[.const (.string ⟨#[42]⟩), .tmp 183, .tmp 185]) (by kernel_rfl) (.free (by kernel_rfl)) (map3 rfl g183 g185) (enters_of Tryz.func29 (by kernel_rfl) rfl) ((c3 w).mono fun e w' h => ⟨_, h.1, rfl, h.2⟩)

theorem su21_s13 {Q : Exit → Act → World → Prop} {w0 : World} {xs : Nat → Value} (a b c s t u y : Int) (c1 : BothIs ⟨#[43]⟩ 1 b ⟨#[]⟩ 1 c ⟨#[]⟩ 1 s ⟨#[]⟩) (c2 : BothIs ⟨#[42]⟩ 1 a ⟨#[]⟩ 1 s ⟨#[]⟩ 1 t ⟨#[]⟩) (c3 : BothIs ⟨#[42]⟩ 1 a ⟨#[]⟩ 1 b ⟨#[]⟩ 1 u ⟨#[]⟩) (c4 : BothIs ⟨#[42]⟩ 1 a ⟨#[]⟩ 1 c ⟨#[]⟩ 1 y ⟨#[]⟩) (c5 : BothIs ⟨#[43]⟩ 1 u ⟨#[]⟩ 1 y ⟨#[]⟩ 1 t ⟨#[]⟩) (aw : AwIs w0) (hx0 : xs 0 = .int .i64 a) (hx1 : xs 1 = .int .i64 b) (hx2 : xs 2 = .int .i64 c) : OpStep Tryz.prog su21Ops Q (su21F a b c s t u y c1 c2 c3 c4 c5) w0 198 xs 13 := by
  intro act w hb hk hF
  have g0 : act.eval (.tmp 0) = .int .i64 a := (hk 0 (by decide) (by kernel_rfl)).trans hx0
  exact step_move (show opO su21Ops 13 = some (.move (.tmp 0)) by kernel_rfl) (.free (by kernel_rfl)) g0 ⟨rfl, Below.refl _ _⟩

theorem su21_s14 {Q : Exit → Act → World → Prop} {w0 : World} {xs : Nat → Value} (a b c s t u y : Int) (c1 : BothIs ⟨#[43]⟩ 1 b ⟨#[]⟩ 1 c ⟨#[]⟩ 1 s ⟨#[]⟩) (c2 : BothIs ⟨#[42]⟩ 1 a ⟨#[]⟩ 1 s ⟨#[]⟩ 1 t ⟨#[]⟩) (c3 : BothIs ⟨#[42]⟩ 1 a ⟨#[]⟩ 1 b ⟨#[]⟩ 1 u ⟨#[]⟩) (c4 : BothIs ⟨#[42]⟩ 1 a ⟨#[]⟩ 1 c ⟨#[]⟩ 1 y ⟨#[]⟩) (c5 : BothIs ⟨#[43]⟩ 1 u ⟨#[]⟩ 1 y ⟨#[]⟩ 1 t ⟨#[]⟩) (aw : AwIs w0) (hx0 : xs 0 = .int .i64 a) (hx1 : xs 1 = .int .i64 b) (hx2 : xs 2 = .int .i64 c) : OpStep Tryz.prog su21Ops Q (su21F a b c s t u y c1 c2 c3 c4 c5) w0 198 xs 14 := by
  intro act w hb hk hF
  have g187 : act.eval (.tmp 187) = .int .i64 a := hF 13 (of_decide_eq_true (by kernel_rfl)) 187 (by kernel_rfl)
  exact step_call (f := 15) (xs := #[.tmp 187]) (by kernel_rfl) (.free (by kernel_rfl)) (map1 g187) (enters_of Tryz.func15 (by kernel_rfl) rfl) ((num_any a w).mono fun e w' h => ⟨_, h.1, rfl, h.2⟩)

theorem su21_s15 {Q : Exit → Act → World → Prop} {w0 : World} {xs : Nat → Value} (a b c s t u y : Int) (c1 : BothIs ⟨#[43]⟩ 1 b ⟨#[]⟩ 1 c ⟨#[]⟩ 1 s ⟨#[]⟩) (c2 : BothIs ⟨#[42]⟩ 1 a ⟨#[]⟩ 1 s ⟨#[]⟩ 1 t ⟨#[]⟩) (c3 : BothIs ⟨#[42]⟩ 1 a ⟨#[]⟩ 1 b ⟨#[]⟩ 1 u ⟨#[]⟩) (c4 : BothIs ⟨#[42]⟩ 1 a ⟨#[]⟩ 1 c ⟨#[]⟩ 1 y ⟨#[]⟩) (c5 : BothIs ⟨#[43]⟩ 1 u ⟨#[]⟩ 1 y ⟨#[]⟩ 1 t ⟨#[]⟩) (aw : AwIs w0) (hx0 : xs 0 = .int .i64 a) (hx1 : xs 1 = .int .i64 b) (hx2 : xs 2 = .int .i64 c) : OpStep Tryz.prog su21Ops Q (su21F a b c s t u y c1 c2 c3 c4 c5) w0 198 xs 15 := by
  intro act w hb hk hF
  have g2 : act.eval (.tmp 2) = .int .i64 c := (hk 2 (by decide) (by kernel_rfl)).trans hx2
  exact step_move (show opO su21Ops 15 = some (.move (.tmp 2)) by kernel_rfl) (.free (by kernel_rfl)) g2 ⟨rfl, Below.refl _ _⟩

theorem su21_s16 {Q : Exit → Act → World → Prop} {w0 : World} {xs : Nat → Value} (a b c s t u y : Int) (c1 : BothIs ⟨#[43]⟩ 1 b ⟨#[]⟩ 1 c ⟨#[]⟩ 1 s ⟨#[]⟩) (c2 : BothIs ⟨#[42]⟩ 1 a ⟨#[]⟩ 1 s ⟨#[]⟩ 1 t ⟨#[]⟩) (c3 : BothIs ⟨#[42]⟩ 1 a ⟨#[]⟩ 1 b ⟨#[]⟩ 1 u ⟨#[]⟩) (c4 : BothIs ⟨#[42]⟩ 1 a ⟨#[]⟩ 1 c ⟨#[]⟩ 1 y ⟨#[]⟩) (c5 : BothIs ⟨#[43]⟩ 1 u ⟨#[]⟩ 1 y ⟨#[]⟩ 1 t ⟨#[]⟩) (aw : AwIs w0) (hx0 : xs 0 = .int .i64 a) (hx1 : xs 1 = .int .i64 b) (hx2 : xs 2 = .int .i64 c) : OpStep Tryz.prog su21Ops Q (su21F a b c s t u y c1 c2 c3 c4 c5) w0 198 xs 16 := by
  intro act w hb hk hF
  have g189 : act.eval (.tmp 189) = .int .i64 c := hF 15 (of_decide_eq_true (by kernel_rfl)) 189 (by kernel_rfl)
  exact step_call (f := 15) (xs := #[.tmp 189]) (by kernel_rfl) (.free (by kernel_rfl)) (map1 g189) (enters_of Tryz.func15 (by kernel_rfl) rfl) ((num_any c w).mono fun e w' h => ⟨_, h.1, rfl, h.2⟩)

theorem su21_s17 {Q : Exit → Act → World → Prop} {w0 : World} {xs : Nat → Value} (a b c s t u y : Int) (c1 : BothIs ⟨#[43]⟩ 1 b ⟨#[]⟩ 1 c ⟨#[]⟩ 1 s ⟨#[]⟩) (c2 : BothIs ⟨#[42]⟩ 1 a ⟨#[]⟩ 1 s ⟨#[]⟩ 1 t ⟨#[]⟩) (c3 : BothIs ⟨#[42]⟩ 1 a ⟨#[]⟩ 1 b ⟨#[]⟩ 1 u ⟨#[]⟩) (c4 : BothIs ⟨#[42]⟩ 1 a ⟨#[]⟩ 1 c ⟨#[]⟩ 1 y ⟨#[]⟩) (c5 : BothIs ⟨#[43]⟩ 1 u ⟨#[]⟩ 1 y ⟨#[]⟩ 1 t ⟨#[]⟩) (aw : AwIs w0) (hx0 : xs 0 = .int .i64 a) (hx1 : xs 1 = .int .i64 b) (hx2 : xs 2 = .int .i64 c) : OpStep Tryz.prog su21Ops Q (su21F a b c s t u y c1 c2 c3 c4 c5) w0 198 xs 17 := by
  intro act w hb hk hF
  have g188 : act.eval (.tmp 188) = vv 1 a ⟨#[]⟩ := hF 14 (of_decide_eq_true (by kernel_rfl)) 188 (by kernel_rfl)
  have g190 : act.eval (.tmp 190) = vv 1 c ⟨#[]⟩ := hF 16 (of_decide_eq_true (by kernel_rfl)) 190 (by kernel_rfl)
  exact step_call (f := 29) (xs := #[.const (.string ⟨#[42]⟩), .tmp 188, .tmp 190]) (by kernel_rfl) (.free (by kernel_rfl)) (map3 rfl g188 g190) (enters_of Tryz.func29 (by kernel_rfl) rfl) ((c4 w).mono fun e w' h => ⟨_, h.1, rfl, h.2⟩)

theorem su21_s18 {Q : Exit → Act → World → Prop} {w0 : World} {xs : Nat → Value} (a b c s t u y : Int) (c1 : BothIs ⟨#[43]⟩ 1 b ⟨#[]⟩ 1 c ⟨#[]⟩ 1 s ⟨#[]⟩) (c2 : BothIs ⟨#[42]⟩ 1 a ⟨#[]⟩ 1 s ⟨#[]⟩ 1 t ⟨#[]⟩) (c3 : BothIs ⟨#[42]⟩ 1 a ⟨#[]⟩ 1 b ⟨#[]⟩ 1 u ⟨#[]⟩) (c4 : BothIs ⟨#[42]⟩ 1 a ⟨#[]⟩ 1 c ⟨#[]⟩ 1 y ⟨#[]⟩) (c5 : BothIs ⟨#[43]⟩ 1 u ⟨#[]⟩ 1 y ⟨#[]⟩ 1 t ⟨#[]⟩) (aw : AwIs w0) (hx0 : xs 0 = .int .i64 a) (hx1 : xs 1 = .int .i64 b) (hx2 : xs 2 = .int .i64 c) : OpStep Tryz.prog su21Ops Q (su21F a b c s t u y c1 c2 c3 c4 c5) w0 198 xs 18 := by
  intro act w hb hk hF
  have g186 : act.eval (.tmp 186) = vv 1 u ⟨#[]⟩ := hF 12 (of_decide_eq_true (by kernel_rfl)) 186 (by kernel_rfl)
  have g191 : act.eval (.tmp 191) = vv 1 y ⟨#[]⟩ := hF 17 (of_decide_eq_true (by kernel_rfl)) 191 (by kernel_rfl)
  exact step_call (f := 29) (xs := #[.const (.string ⟨#[43]⟩), .tmp 186, .tmp 191]) (by kernel_rfl) (.free (by kernel_rfl)) (map3 rfl g186 g191) (enters_of Tryz.func29 (by kernel_rfl) rfl) ((c5 w).mono fun e w' h => ⟨_, h.1, rfl, h.2⟩)

theorem su21_s19 {Q : Exit → Act → World → Prop} {w0 : World} {xs : Nat → Value} (a b c s t u y : Int) (c1 : BothIs ⟨#[43]⟩ 1 b ⟨#[]⟩ 1 c ⟨#[]⟩ 1 s ⟨#[]⟩) (c2 : BothIs ⟨#[42]⟩ 1 a ⟨#[]⟩ 1 s ⟨#[]⟩ 1 t ⟨#[]⟩) (c3 : BothIs ⟨#[42]⟩ 1 a ⟨#[]⟩ 1 b ⟨#[]⟩ 1 u ⟨#[]⟩) (c4 : BothIs ⟨#[42]⟩ 1 a ⟨#[]⟩ 1 c ⟨#[]⟩ 1 y ⟨#[]⟩) (c5 : BothIs ⟨#[43]⟩ 1 u ⟨#[]⟩ 1 y ⟨#[]⟩ 1 t ⟨#[]⟩) (aw : AwIs w0) (hx0 : xs 0 = .int .i64 a) (hx1 : xs 1 = .int .i64 b) (hx2 : xs 2 = .int .i64 c) : OpStep Tryz.prog su21Ops Q (su21F a b c s t u y c1 c2 c3 c4 c5) w0 198 xs 19 := by
  intro act w hb hk hF
  have g181 : act.eval (.tmp 181) = vv 1 t ⟨#[]⟩ := hF 7 (of_decide_eq_true (by kernel_rfl)) 181 (by kernel_rfl)
  have g192 : act.eval (.tmp 192) = vv 1 t ⟨#[]⟩ := hF 18 (of_decide_eq_true (by kernel_rfl)) 192 (by kernel_rfl)
  exact step_eqV (show opO su21Ops 19 = some (.binOp .eql 24 (.tmp 181) (.tmp 192) 24) by kernel_rfl) (.free (by kernel_rfl)) g181 g192 (same_self _ _ _) ⟨rfl, Below.refl _ _⟩

theorem su21_s20 {Q : Exit → Act → World → Prop} {w0 : World} {xs : Nat → Value} (a b c s t u y : Int) (c1 : BothIs ⟨#[43]⟩ 1 b ⟨#[]⟩ 1 c ⟨#[]⟩ 1 s ⟨#[]⟩) (c2 : BothIs ⟨#[42]⟩ 1 a ⟨#[]⟩ 1 s ⟨#[]⟩ 1 t ⟨#[]⟩) (c3 : BothIs ⟨#[42]⟩ 1 a ⟨#[]⟩ 1 b ⟨#[]⟩ 1 u ⟨#[]⟩) (c4 : BothIs ⟨#[42]⟩ 1 a ⟨#[]⟩ 1 c ⟨#[]⟩ 1 y ⟨#[]⟩) (c5 : BothIs ⟨#[43]⟩ 1 u ⟨#[]⟩ 1 y ⟨#[]⟩ 1 t ⟨#[]⟩) (aw : AwIs w0) (hx0 : xs 0 = .int .i64 a) (hx1 : xs 1 = .int .i64 b) (hx2 : xs 2 = .int .i64 c) : OpStep Tryz.prog su21Ops Q (su21F a b c s t u y c1 c2 c3 c4 c5) w0 198 xs 20 := by
  intro act w hb hk hF
  have g193 : act.eval (.tmp 193) = .bool true := hF 19 (of_decide_eq_true (by kernel_rfl)) 193 (by kernel_rfl)
  exact step_move (show opO su21Ops 20 = some (.move (.tmp 193)) by kernel_rfl) (.free (by kernel_rfl)) g193 ⟨rfl, Below.refl _ _⟩

theorem su21_s21 {Q : Exit → Act → World → Prop} {w0 : World} {xs : Nat → Value} (a b c s t u y : Int) (c1 : BothIs ⟨#[43]⟩ 1 b ⟨#[]⟩ 1 c ⟨#[]⟩ 1 s ⟨#[]⟩) (c2 : BothIs ⟨#[42]⟩ 1 a ⟨#[]⟩ 1 s ⟨#[]⟩ 1 t ⟨#[]⟩) (c3 : BothIs ⟨#[42]⟩ 1 a ⟨#[]⟩ 1 b ⟨#[]⟩ 1 u ⟨#[]⟩) (c4 : BothIs ⟨#[42]⟩ 1 a ⟨#[]⟩ 1 c ⟨#[]⟩ 1 y ⟨#[]⟩) (c5 : BothIs ⟨#[43]⟩ 1 u ⟨#[]⟩ 1 y ⟨#[]⟩ 1 t ⟨#[]⟩) (aw : AwIs w0) (hx0 : xs 0 = .int .i64 a) (hx1 : xs 1 = .int .i64 b) (hx2 : xs 2 = .int .i64 c) : OpStep Tryz.prog su21Ops Q (su21F a b c s t u y c1 c2 c3 c4 c5) w0 198 xs 21 := by
  intro act w hb hk hF
  have g194 : act.eval (.tmp 194) = .bool true := hF 20 (of_decide_eq_true (by kernel_rfl)) 194 (by kernel_rfl)
  exact step_call (f := 26) (xs := #[]) (by kernel_rfl) (.told 20 true 194 (by kernel_rfl) (by kernel_rfl) g194) (map0 _) (enters_of Tryz.func26 (by kernel_rfl) rfl) ((aw w hb).mono fun e w' h => ⟨_, h.1, rfl, h.2⟩)

theorem su21_s22 {Q : Exit → Act → World → Prop} {w0 : World} {xs : Nat → Value} (a b c s t u y : Int) (c1 : BothIs ⟨#[43]⟩ 1 b ⟨#[]⟩ 1 c ⟨#[]⟩ 1 s ⟨#[]⟩) (c2 : BothIs ⟨#[42]⟩ 1 a ⟨#[]⟩ 1 s ⟨#[]⟩ 1 t ⟨#[]⟩) (c3 : BothIs ⟨#[42]⟩ 1 a ⟨#[]⟩ 1 b ⟨#[]⟩ 1 u ⟨#[]⟩) (c4 : BothIs ⟨#[42]⟩ 1 a ⟨#[]⟩ 1 c ⟨#[]⟩ 1 y ⟨#[]⟩) (c5 : BothIs ⟨#[43]⟩ 1 u ⟨#[]⟩ 1 y ⟨#[]⟩ 1 t ⟨#[]⟩) (aw : AwIs w0) (hx0 : xs 0 = .int .i64 a) (hx1 : xs 1 = .int .i64 b) (hx2 : xs 2 = .int .i64 c) : OpStep Tryz.prog su21Ops Q (su21F a b c s t u y c1 c2 c3 c4 c5) w0 198 xs 22 := by
  intro act w hb hk hF
  have g194 : act.eval (.tmp 194) = .bool true := hF 20 (of_decide_eq_true (by kernel_rfl)) 194 (by kernel_rfl)
  have g195 : act.eval (.tmp 195) = .bool true := hF 21 (of_decide_eq_true (by kernel_rfl)) 195 (by kernel_rfl)
  exact step_pickT (show opO su21Ops 22 = some (.pick (.tmp 194) (.tmp 195) (.const (.bool false))) by kernel_rfl) (.free (by kernel_rfl)) g194 g195 ⟨rfl, Below.refl _ _⟩

theorem su21_s23 {Q : Exit → Act → World → Prop} {w0 : World} {xs : Nat → Value} (a b c s t u y : Int) (c1 : BothIs ⟨#[43]⟩ 1 b ⟨#[]⟩ 1 c ⟨#[]⟩ 1 s ⟨#[]⟩) (c2 : BothIs ⟨#[42]⟩ 1 a ⟨#[]⟩ 1 s ⟨#[]⟩ 1 t ⟨#[]⟩) (c3 : BothIs ⟨#[42]⟩ 1 a ⟨#[]⟩ 1 b ⟨#[]⟩ 1 u ⟨#[]⟩) (c4 : BothIs ⟨#[42]⟩ 1 a ⟨#[]⟩ 1 c ⟨#[]⟩ 1 y ⟨#[]⟩) (c5 : BothIs ⟨#[43]⟩ 1 u ⟨#[]⟩ 1 y ⟨#[]⟩ 1 t ⟨#[]⟩) (aw : AwIs w0) (hx0 : xs 0 = .int .i64 a) (hx1 : xs 1 = .int .i64 b) (hx2 : xs 2 = .int .i64 c) : OpStep Tryz.prog su21Ops Q (su21F a b c s t u y c1 c2 c3 c4 c5) w0 198 xs 23 := by
  intro act w hb hk hF
  have g196 : act.eval (.tmp 196) = .bool true := hF 22 (of_decide_eq_true (by kernel_rfl)) 196 (by kernel_rfl)
  exact step_assign (show opO su21Ops 23 = some (.assign (.tmp 196)) by kernel_rfl) (.free (by kernel_rfl)) g196 ⟨rfl, Below.refl _ _⟩

theorem su21 {bb : Bool} {Q : Exit → Act → World → Prop} {a0 : Act} {w0 : World} (a b c s t u y : Int) (c1 : BothIs ⟨#[43]⟩ 1 b ⟨#[]⟩ 1 c ⟨#[]⟩ 1 s ⟨#[]⟩) (c2 : BothIs ⟨#[42]⟩ 1 a ⟨#[]⟩ 1 s ⟨#[]⟩ 1 t ⟨#[]⟩) (c3 : BothIs ⟨#[42]⟩ 1 a ⟨#[]⟩ 1 b ⟨#[]⟩ 1 u ⟨#[]⟩) (c4 : BothIs ⟨#[42]⟩ 1 a ⟨#[]⟩ 1 c ⟨#[]⟩ 1 y ⟨#[]⟩) (c5 : BothIs ⟨#[43]⟩ 1 u ⟨#[]⟩ 1 y ⟨#[]⟩ 1 t ⟨#[]⟩) (aw : AwIs w0) (hx0 : a0.tmps.getD 0 undef = .int .i64 a) (hx1 : a0.tmps.getD 1 undef = .int .i64 b) (hx2 : a0.tmps.getD 2 undef = .int .i64 c) (hs : a0.tmps.size = 198)
    (hend : ∀ (V : Nat → Value) (X : World), Below w0.heap.size w0 X → V 23 = .bool true → Q .normal ⟨fillT su21Ops a0.tmps V, a0.defers⟩ X) : (Code.region 21 su21Ops bb).wp Tryz.prog Q a0 w0 := by
  refine wp_region_both (by kernel_rfl) (su21F a b c s t u y c1 c2 c3 c4 c5) (su21F_mono a b c s t u y c1 c2 c3 c4 c5) (by rw [hs]; kernel_rfl) ?_ ?_
  · rw [hs]
    have size_is : su21Ops.size = 24 := by kernel_rfl
    rw [size_is]
    have u1 : ∀ i, i < 1 → OpStep Tryz.prog su21Ops Q (su21F a b c s t u y c1 c2 c3 c4 c5) w0 198 (fun t => a0.tmps.getD t undef) i := upto_succ upto_zero (su21_s0 a b c s t u y c1 c2 c3 c4 c5 aw hx0 hx1 hx2)
    have u2 : ∀ i, i < 2 → OpStep Tryz.prog su21Ops Q (su21F a b c s t u y c1 c2 c3 c4 c5) w0 198 (fun t => a0.tmps.getD t undef) i := upto_succ u1 (su21_s1 a b c s t u y c1 c2 c3 c4 c5 aw hx0 hx1 hx2)
    have u3 : ∀ i, i < 3 → OpStep Tryz.prog su21Ops Q (su21F a b c s t u y c1 c2 c3 c4 c5) w0 198 (fun t => a0.tmps.getD t undef) i := upto_succ u2 (su21_s2 a b c s t u y c1 c2 c3 c4 c5 aw hx0 hx1 hx2)
    have u4 : ∀ i, i < 4 → OpStep Tryz.prog su21Ops Q (su21F a b c s t u y c1 c2 c3 c4 c5) w0 198 (fun t => a0.tmps.getD t undef) i := upto_succ u3 (su21_s3 a b c s t u y c1 c2 c3 c4 c5 aw hx0 hx1 hx2)
    have u5 : ∀ i, i < 5 → OpStep Tryz.prog su21Ops Q (su21F a b c s t u y c1 c2 c3 c4 c5) w0 198 (fun t => a0.tmps.getD t undef) i := upto_succ u4 (su21_s4 a b c s t u y c1 c2 c3 c4 c5 aw hx0 hx1 hx2)
    have u6 : ∀ i, i < 6 → OpStep Tryz.prog su21Ops Q (su21F a b c s t u y c1 c2 c3 c4 c5) w0 198 (fun t => a0.tmps.getD t undef) i := upto_succ u5 (su21_s5 a b c s t u y c1 c2 c3 c4 c5 aw hx0 hx1 hx2)
    have u7 : ∀ i, i < 7 → OpStep Tryz.prog su21Ops Q (su21F a b c s t u y c1 c2 c3 c4 c5) w0 198 (fun t => a0.tmps.getD t undef) i := upto_succ u6 (su21_s6 a b c s t u y c1 c2 c3 c4 c5 aw hx0 hx1 hx2)
    have u8 : ∀ i, i < 8 → OpStep Tryz.prog su21Ops Q (su21F a b c s t u y c1 c2 c3 c4 c5) w0 198 (fun t => a0.tmps.getD t undef) i := upto_succ u7 (su21_s7 a b c s t u y c1 c2 c3 c4 c5 aw hx0 hx1 hx2)
    have u9 : ∀ i, i < 9 → OpStep Tryz.prog su21Ops Q (su21F a b c s t u y c1 c2 c3 c4 c5) w0 198 (fun t => a0.tmps.getD t undef) i := upto_succ u8 (su21_s8 a b c s t u y c1 c2 c3 c4 c5 aw hx0 hx1 hx2)
    have u10 : ∀ i, i < 10 → OpStep Tryz.prog su21Ops Q (su21F a b c s t u y c1 c2 c3 c4 c5) w0 198 (fun t => a0.tmps.getD t undef) i := upto_succ u9 (su21_s9 a b c s t u y c1 c2 c3 c4 c5 aw hx0 hx1 hx2)
    have u11 : ∀ i, i < 11 → OpStep Tryz.prog su21Ops Q (su21F a b c s t u y c1 c2 c3 c4 c5) w0 198 (fun t => a0.tmps.getD t undef) i := upto_succ u10 (su21_s10 a b c s t u y c1 c2 c3 c4 c5 aw hx0 hx1 hx2)
    have u12 : ∀ i, i < 12 → OpStep Tryz.prog su21Ops Q (su21F a b c s t u y c1 c2 c3 c4 c5) w0 198 (fun t => a0.tmps.getD t undef) i := upto_succ u11 (su21_s11 a b c s t u y c1 c2 c3 c4 c5 aw hx0 hx1 hx2)
    have u13 : ∀ i, i < 13 → OpStep Tryz.prog su21Ops Q (su21F a b c s t u y c1 c2 c3 c4 c5) w0 198 (fun t => a0.tmps.getD t undef) i := upto_succ u12 (su21_s12 a b c s t u y c1 c2 c3 c4 c5 aw hx0 hx1 hx2)
    have u14 : ∀ i, i < 14 → OpStep Tryz.prog su21Ops Q (su21F a b c s t u y c1 c2 c3 c4 c5) w0 198 (fun t => a0.tmps.getD t undef) i := upto_succ u13 (su21_s13 a b c s t u y c1 c2 c3 c4 c5 aw hx0 hx1 hx2)
    have u15 : ∀ i, i < 15 → OpStep Tryz.prog su21Ops Q (su21F a b c s t u y c1 c2 c3 c4 c5) w0 198 (fun t => a0.tmps.getD t undef) i := upto_succ u14 (su21_s14 a b c s t u y c1 c2 c3 c4 c5 aw hx0 hx1 hx2)
    have u16 : ∀ i, i < 16 → OpStep Tryz.prog su21Ops Q (su21F a b c s t u y c1 c2 c3 c4 c5) w0 198 (fun t => a0.tmps.getD t undef) i := upto_succ u15 (su21_s15 a b c s t u y c1 c2 c3 c4 c5 aw hx0 hx1 hx2)
    have u17 : ∀ i, i < 17 → OpStep Tryz.prog su21Ops Q (su21F a b c s t u y c1 c2 c3 c4 c5) w0 198 (fun t => a0.tmps.getD t undef) i := upto_succ u16 (su21_s16 a b c s t u y c1 c2 c3 c4 c5 aw hx0 hx1 hx2)
    have u18 : ∀ i, i < 18 → OpStep Tryz.prog su21Ops Q (su21F a b c s t u y c1 c2 c3 c4 c5) w0 198 (fun t => a0.tmps.getD t undef) i := upto_succ u17 (su21_s17 a b c s t u y c1 c2 c3 c4 c5 aw hx0 hx1 hx2)
    have u19 : ∀ i, i < 19 → OpStep Tryz.prog su21Ops Q (su21F a b c s t u y c1 c2 c3 c4 c5) w0 198 (fun t => a0.tmps.getD t undef) i := upto_succ u18 (su21_s18 a b c s t u y c1 c2 c3 c4 c5 aw hx0 hx1 hx2)
    have u20 : ∀ i, i < 20 → OpStep Tryz.prog su21Ops Q (su21F a b c s t u y c1 c2 c3 c4 c5) w0 198 (fun t => a0.tmps.getD t undef) i := upto_succ u19 (su21_s19 a b c s t u y c1 c2 c3 c4 c5 aw hx0 hx1 hx2)
    have u21 : ∀ i, i < 21 → OpStep Tryz.prog su21Ops Q (su21F a b c s t u y c1 c2 c3 c4 c5) w0 198 (fun t => a0.tmps.getD t undef) i := upto_succ u20 (su21_s20 a b c s t u y c1 c2 c3 c4 c5 aw hx0 hx1 hx2)
    have u22 : ∀ i, i < 22 → OpStep Tryz.prog su21Ops Q (su21F a b c s t u y c1 c2 c3 c4 c5) w0 198 (fun t => a0.tmps.getD t undef) i := upto_succ u21 (su21_s21 a b c s t u y c1 c2 c3 c4 c5 aw hx0 hx1 hx2)
    have u23 : ∀ i, i < 23 → OpStep Tryz.prog su21Ops Q (su21F a b c s t u y c1 c2 c3 c4 c5) w0 198 (fun t => a0.tmps.getD t undef) i := upto_succ u22 (su21_s22 a b c s t u y c1 c2 c3 c4 c5 aw hx0 hx1 hx2)
    have u24 : ∀ i, i < 24 → OpStep Tryz.prog su21Ops Q (su21F a b c s t u y c1 c2 c3 c4 c5) w0 198 (fun t => a0.tmps.getD t undef) i := upto_succ u23 (su21_s23 a b c s t u y c1 c2 c3 c4 c5 aw hx0 hx1 hx2)
    exact u24
  · intro V X hb hV
    exact hend V X hb (hV 23 (of_decide_eq_true (by kernel_rfl)) (by kernel_rfl))
end Go.Proofs.YtaidipdofomgoaaGreatDoor
