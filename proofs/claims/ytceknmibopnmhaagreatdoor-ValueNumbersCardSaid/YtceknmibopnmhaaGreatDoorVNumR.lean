/-
  Layer 2: ValueNumbers: its drawn regions, operation by operation. Conditions: what is called tells what it tells.
-/
import Derived.Test.YtceknmibopnmhaaGreatDoorVEndW
import Derived.Test.YtceknmibopnmhaaGreatDoorVBad
import Derived.Test.YtceknmibopnmhaaGreatDoorVBadF
namespace Go.Proofs.YtceknmibopnmhaaGreatDoor
open Go.ChangeShapes Go.WideShapes Go.ChangeAt Go.RowKit
set_option linter.unusedVariables false
set_option maxRecDepth 100000

def NotRt (k n : Int) (s : ByteArray) : Prop := ∀ w : World, Calls Tryz.prog 17 #[vv k n s] w fun e w' => e = .returned (.bool false) ∧ Below w.heap.size w w'

noncomputable def vn4Ops : Array Oper := regOf Tryz.f3 4
theorem vn4_fill {v0 v1 v2 v3 v4 v5 v6 v7 v8 v9 v10 v11 v12 v13 v14 v15 v16 v17 v18 v19 v20 v21 v22 v23 v24 v25 v26 v27 v28 v29 v30 v31 v32 v33 v34 v35 v36 v37 v38 v39 v40 v41 v42 v43 v44 v45 v46 v47 v48 v49 v50 v51 v52 v53 v54 v55 v56 v57 v58 v59 v60 v61 v62 v63 v64 v65 v66 v67 v68 v69 v70 v71 v72 v73 v74 v75 v76 v77 v78 v79 v80 v81 v82 v83 v84 v85 v86 v87 v88 v89 v90 v91 v92 v93 v94 v95 v96 v97 v98 v99 v100 v101 v102 v103 v104 v105 v106 v107 v108 v109 v110 v111 v112 v113 v114 v115 v116 v117 v118 v119 v120 v121 v122 v123 v124 v125 v126 v127 v128 v129 v130 v131 v132 v133 v134 v135 v136 v137 v138 v139 v140 v141 v142 v143 v144 v145 v146 v147 v148 v149 v150 v151 v152 v153 v154 v155 v156 v157 v158 v159 v160 v161 v162 v163 v164 v165 v166 v167 v168 v169 v170 v171 v172 v173 v174 v175 v176 v177 v178 v179 v180 v181 v182 v183 v184 v185 v186 v187 v188 v189 v190 v191 v192 v193 v194 v195 v196 v197 v198 v199 v200 v201 v202 v203 v204 v205 v206 v207 v208 v209 v210 v211 v212 v213 v214 v215 v216 v217 v218 v219 v220 v221 v222 v223 v224 v225 v226 v227 v228 v229 v230 v231 v232 v233 v234 v235 v236 v237 v238 v239 v240 v241 v242 v243 v244 : Value} (V : Nat → Value) : fillT vn4Ops #[v0, v1, v2, v3, v4, v5, v6, v7, v8, v9, v10, v11, v12, v13, v14, v15, v16, v17, v18, v19, v20, v21, v22, v23, v24, v25, v26, v27, v28, v29, v30, v31, v32, v33, v34, v35, v36, v37, v38, v39, v40, v41, v42, v43, v44, v45, v46, v47, v48, v49, v50, v51, v52, v53, v54, v55, v56, v57, v58, v59, v60, v61, v62, v63, v64, v65, v66, v67, v68, v69, v70, v71, v72, v73, v74, v75, v76, v77, v78, v79, v80, v81, v82, v83, v84, v85, v86, v87, v88, v89, v90, v91, v92, v93, v94, v95, v96, v97, v98, v99, v100, v101, v102, v103, v104, v105, v106, v107, v108, v109, v110, v111, v112, v113, v114, v115, v116, v117, v118, v119, v120, v121, v122, v123, v124, v125, v126, v127, v128, v129, v130, v131, v132, v133, v134, v135, v136, v137, v138, v139, v140, v141, v142, v143, v144, v145, v146, v147, v148, v149, v150, v151, v152, v153, v154, v155, v156, v157, v158, v159, v160, v161, v162, v163, v164, v165, v166, v167, v168, v169, v170, v171, v172, v173, v174, v175, v176, v177, v178, v179, v180, v181, v182, v183, v184, v185, v186, v187, v188, v189, v190, v191, v192, v193, v194, v195, v196, v197, v198, v199, v200, v201, v202, v203, v204, v205, v206, v207, v208, v209, v210, v211, v212, v213, v214, v215, v216, v217, v218, v219, v220, v221, v222, v223, v224, v225, v226, v227, v228, v229, v230, v231, v232, v233, v234, v235, v236, v237, v238, v239, v240, v241, v242, v243, v244] V = #[v0, v1, v2, V 6, V 8, v5, v6, v7, v8, v9, v10, v11, v12, v13, v14, v15, v16, v17, v18, v19, v20, v21, v22, v23, v24, v25, v26, v27, v28, v29, v30, v31, v32, v33, v34, v35, v36, v37, V 3, V 0, V 1, V 2, V 4, V 5, v44, v45, v46, v47, v48, v49, v50, v51, v52, v53, v54, v55, v56, v57, v58, v59, v60, v61, v62, v63, v64, v65, v66, v67, v68, v69, v70, v71, v72, v73, v74, v75, v76, v77, v78, v79, v80, v81, v82, v83, v84, v85, v86, v87, v88, v89, v90, v91, v92, v93, v94, v95, v96, v97, v98, v99, v100, v101, v102, v103, v104, v105, v106, v107, v108, v109, v110, v111, v112, v113, v114, v115, v116, v117, v118, v119, v120, v121, v122, v123, v124, v125, v126, v127, v128, v129, v130, v131, v132, v133, v134, v135, v136, v137, v138, v139, v140, v141, v142, v143, v144, v145, v146, v147, v148, v149, v150, v151, v152, v153, v154, v155, v156, v157, v158, v159, v160, v161, v162, v163, v164, v165, v166, v167, v168, v169, v170, v171, v172, v173, v174, v175, v176, v177, v178, v179, v180, v181, v182, v183, v184, v185, v186, v187, v188, v189, v190, v191, v192, v193, v194, v195, v196, v197, v198, v199, v200, v201, v202, v203, v204, v205, v206, v207, v208, v209, v210, v211, v212, v213, v214, v215, v216, v217, v218, v219, v220, v221, v222, v223, v224, v225, v226, v227, v228, v229, v230, v231, v232, v233, v234, v235, v236, v237, v238, v239, v240, v241, v242, v243, v244] := by
  kernel_rfl
def vn4L (p2 : Nat) (k n : Int) (s : ByteArray) : List (Value → World → Prop) := [IsV (vv k n s), IsV (vv 1 1 ⟨#[]⟩), IsV (.tuple #[vv 0 0 ⟨#[]⟩, .int .i64 2]), IsV (.tuple #[vv 0 0 ⟨#[]⟩, .int .i64 2]), IsV (vv 0 0 ⟨#[]⟩), IsV (.int .i64 2), AnyF, AnyF, IsV (.int .i64 2)]
def vn4F (p2 : Nat) (k n : Int) (s : ByteArray) (i : Nat) : Value → World → Prop := (vn4L p2 k n s).getD i AnyF
theorem vn4F_mono (p2 : Nat) (k n : Int) (s : ByteArray) (i : Nat) (v : Value) (w w' : World) (hp : (vn4F p2 k n s) i v w) (hb : Below w.heap.size w w') : (vn4F p2 k n s) i v w' := by
  refine monoL ?_ i v w w' hp hb
  unfold vn4L
  simp only [List.forall_mem_cons]
  exact ⟨mono_isV _, mono_isV _, mono_isV _, mono_isV _, mono_isV _, mono_isV _, mono_any, mono_any, mono_isV _, fun _ h => by cases h⟩
theorem vn4_s0 {Q : Exit → Act → World → Prop} {w0 : World} {xs : Nat → Value} (p2 : Nat) (k n : Int) (s : ByteArray) (hb2 : BoxOn w0 p2 k n s) (c0 : OpEr w0 ⟨#[61]⟩ k n s 1 1 ⟨#[]⟩ 2) (hx2 : xs 2 = .pointer (some ⟨p2, 0, none⟩)) : OpStep Tryz.prog vn4Ops Q (vn4F p2 k n s) w0 245 xs 0 := by
  intro act w hb hk hF
  have g2 : act.eval (.tmp 2) = .pointer (some ⟨p2, 0, none⟩) := (hk 2 (by decide) (by kernel_rfl)).trans hx2
  exact step_loadB (show opO vn4Ops 0 = some (.load 24 (.tmp 2)) by kernel_rfl) (.free (by kernel_rfl)) g2 (hb2 w hb) ⟨rfl, Below.refl _ _⟩

theorem vn4_s1 {Q : Exit → Act → World → Prop} {w0 : World} {xs : Nat → Value} (p2 : Nat) (k n : Int) (s : ByteArray) (hb2 : BoxOn w0 p2 k n s) (c0 : OpEr w0 ⟨#[61]⟩ k n s 1 1 ⟨#[]⟩ 2) (hx2 : xs 2 = .pointer (some ⟨p2, 0, none⟩)) : OpStep Tryz.prog vn4Ops Q (vn4F p2 k n s) w0 245 xs 1 := by
  intro act w hb hk hF
  exact step_call (f := 13) (xs := #[.const (.int .i64 1)]) (by kernel_rfl) (.free (by kernel_rfl)) (map1 rfl) (enters_of Tryz.func13 (by kernel_rfl) rfl) ((num_any 1 w).mono fun e w' h => ⟨_, h.1, rfl, h.2⟩)

theorem vn4_s2 {Q : Exit → Act → World → Prop} {w0 : World} {xs : Nat → Value} (p2 : Nat) (k n : Int) (s : ByteArray) (hb2 : BoxOn w0 p2 k n s) (c0 : OpEr w0 ⟨#[61]⟩ k n s 1 1 ⟨#[]⟩ 2) (hx2 : xs 2 = .pointer (some ⟨p2, 0, none⟩)) : OpStep Tryz.prog vn4Ops Q (vn4F p2 k n s) w0 245 xs 2 := by
  intro act w hb hk hF
  have g39 : act.eval (.tmp 39) = vv k n s := hF 0 (of_decide_eq_true (by kernel_rfl)) 39 (by kernel_rfl)
  have g40 : act.eval (.tmp 40) = vv 1 1 ⟨#[]⟩ := hF 1 (of_decide_eq_true (by kernel_rfl)) 40 (by kernel_rfl)
  exact step_call (f := 12) (xs := #[.const (.string ⟨#[61]⟩), .tmp 39, .tmp 40]) (by kernel_rfl) (.free (by kernel_rfl)) (map3 rfl g39 g40) (enters_of Tryz.func12 (by kernel_rfl) rfl) ((c0 w hb).mono fun e w' h => ⟨_, h.1, rfl, h.2⟩)

theorem vn4_s3 {Q : Exit → Act → World → Prop} {w0 : World} {xs : Nat → Value} (p2 : Nat) (k n : Int) (s : ByteArray) (hb2 : BoxOn w0 p2 k n s) (c0 : OpEr w0 ⟨#[61]⟩ k n s 1 1 ⟨#[]⟩ 2) (hx2 : xs 2 = .pointer (some ⟨p2, 0, none⟩)) : OpStep Tryz.prog vn4Ops Q (vn4F p2 k n s) w0 245 xs 3 := by
  intro act w hb hk hF
  have g41 : act.eval (.tmp 41) = .tuple #[vv 0 0 ⟨#[]⟩, .int .i64 2] := hF 2 (of_decide_eq_true (by kernel_rfl)) 41 (by kernel_rfl)
  exact step_move (show opO vn4Ops 3 = some (.move (.tmp 41)) by kernel_rfl) (.free (by kernel_rfl)) g41 ⟨rfl, Below.refl _ _⟩

theorem vn4_s4 {Q : Exit → Act → World → Prop} {w0 : World} {xs : Nat → Value} (p2 : Nat) (k n : Int) (s : ByteArray) (hb2 : BoxOn w0 p2 k n s) (c0 : OpEr w0 ⟨#[61]⟩ k n s 1 1 ⟨#[]⟩ 2) (hx2 : xs 2 = .pointer (some ⟨p2, 0, none⟩)) : OpStep Tryz.prog vn4Ops Q (vn4F p2 k n s) w0 245 xs 4 := by
  intro act w hb hk hF
  have g38 : act.eval (.tmp 38) = .tuple #[vv 0 0 ⟨#[]⟩, .int .i64 2] := hF 3 (of_decide_eq_true (by kernel_rfl)) 38 (by kernel_rfl)
  exact step_extract (show opO vn4Ops 4 = some (.extract (.tmp 38) 0) by kernel_rfl) (.free (by kernel_rfl)) g38 rfl ⟨rfl, Below.refl _ _⟩

theorem vn4_s5 {Q : Exit → Act → World → Prop} {w0 : World} {xs : Nat → Value} (p2 : Nat) (k n : Int) (s : ByteArray) (hb2 : BoxOn w0 p2 k n s) (c0 : OpEr w0 ⟨#[61]⟩ k n s 1 1 ⟨#[]⟩ 2) (hx2 : xs 2 = .pointer (some ⟨p2, 0, none⟩)) : OpStep Tryz.prog vn4Ops Q (vn4F p2 k n s) w0 245 xs 5 := by
  intro act w hb hk hF
  have g38 : act.eval (.tmp 38) = .tuple #[vv 0 0 ⟨#[]⟩, .int .i64 2] := hF 3 (of_decide_eq_true (by kernel_rfl)) 38 (by kernel_rfl)
  exact step_extract (show opO vn4Ops 5 = some (.extract (.tmp 38) 1) by kernel_rfl) (.free (by kernel_rfl)) g38 rfl ⟨rfl, Below.refl _ _⟩

theorem vn4_s8 {Q : Exit → Act → World → Prop} {w0 : World} {xs : Nat → Value} (p2 : Nat) (k n : Int) (s : ByteArray) (hb2 : BoxOn w0 p2 k n s) (c0 : OpEr w0 ⟨#[61]⟩ k n s 1 1 ⟨#[]⟩ 2) (hx2 : xs 2 = .pointer (some ⟨p2, 0, none⟩)) : OpStep Tryz.prog vn4Ops Q (vn4F p2 k n s) w0 245 xs 8 := by
  intro act w hb hk hF
  have g43 : act.eval (.tmp 43) = .int .i64 2 := hF 5 (of_decide_eq_true (by kernel_rfl)) 43 (by kernel_rfl)
  exact step_assign (show opO vn4Ops 8 = some (.assign (.tmp 43)) by kernel_rfl) (.free (by kernel_rfl)) g43 ⟨rfl, Below.refl _ _⟩

theorem vn4F_flat (p2 : Nat) (k n : Int) (s : ByteArray) (i : Nat) (v : Value) (w w' : World) (hp : (vn4F p2 k n s) i v w) : (vn4F p2 k n s) i v w' := by
  refine flatL ?_ i v w w' hp
  unfold vn4L
  simp only [List.forall_mem_cons]
  exact ⟨flat_isV _, flat_isV _, flat_isV _, flat_isV _, flat_isV _, flat_isV _, flat_any, flat_any, flat_isV _, fun _ h => by cases h⟩
theorem vn4 {Q : Exit → Act → World → Prop} {a0 : Act} {w0 : World} (p2 : Nat) (k n : Int) (s : ByteArray) (hb2 : BoxOn w0 p2 k n s) (c0 : OpEr w0 ⟨#[61]⟩ k n s 1 1 ⟨#[]⟩ 2) (hx2 : a0.tmps.getD 2 undef = .pointer (some ⟨p2, 0, none⟩)) (hs : a0.tmps.size = 245)
    (hend : ∀ (V : Nat → Value) (p : Nat) (X : World), Below w0.heap.size w0 X → V 6 = .pointer (some ⟨p, 0, none⟩) → w0.heap.size ≤ p → p < X.heap.size → BoxAt p 0 0 ⟨#[]⟩ X → V 8 = .int .i64 2 → Q .normal ⟨fillT vn4Ops a0.tmps V, a0.defers⟩ X) : (Code.region 4 vn4Ops true).wp Tryz.prog Q a0 w0 := by
  refine wp_region_box (by kernel_rfl) (vn4F p2 k n s) 6 7 3 NewAt (fun p w => BoxAt p 0 0 ⟨#[]⟩ w) (vn4F_flat p2 k n s) (by kernel_rfl) (by kernel_rfl) (of_decide_eq_true (by kernel_rfl)) (of_decide_eq_true (by kernel_rfl)) (by decide) new_keep boxAt_keep (by rw [hs]; kernel_rfl) ?_ ?_ ?_ ?_
  · rw [hs]
    have size_is : vn4Ops.size = 9 := by kernel_rfl
    rw [size_is]
    intro i hi h1 h2
    have u1 : ∀ i, i < 1 → i ≠ 6 → i ≠ 7 → OpStep Tryz.prog vn4Ops Q (vn4F p2 k n s) w0 245 (fun t => a0.tmps.getD t undef) i := by
      intro i hi h1 h2
      by_cases hij : i = 0
      · subst hij; exact vn4_s0 p2 k n s hb2 c0 hx2
      · exact absurd hi (by omega)
    have u2 : ∀ i, i < 2 → i ≠ 6 → i ≠ 7 → OpStep Tryz.prog vn4Ops Q (vn4F p2 k n s) w0 245 (fun t => a0.tmps.getD t undef) i := by
      intro i hi h1 h2
      by_cases hij : i = 1
      · subst hij; exact vn4_s1 p2 k n s hb2 c0 hx2
      · exact u1 i (by omega) h1 h2
    have u3 : ∀ i, i < 3 → i ≠ 6 → i ≠ 7 → OpStep Tryz.prog vn4Ops Q (vn4F p2 k n s) w0 245 (fun t => a0.tmps.getD t undef) i := by
      intro i hi h1 h2
      by_cases hij : i = 2
      · subst hij; exact vn4_s2 p2 k n s hb2 c0 hx2
      · exact u2 i (by omega) h1 h2
    have u4 : ∀ i, i < 4 → i ≠ 6 → i ≠ 7 → OpStep Tryz.prog vn4Ops Q (vn4F p2 k n s) w0 245 (fun t => a0.tmps.getD t undef) i := by
      intro i hi h1 h2
      by_cases hij : i = 3
      · subst hij; exact vn4_s3 p2 k n s hb2 c0 hx2
      · exact u3 i (by omega) h1 h2
    have u5 : ∀ i, i < 5 → i ≠ 6 → i ≠ 7 → OpStep Tryz.prog vn4Ops Q (vn4F p2 k n s) w0 245 (fun t => a0.tmps.getD t undef) i := by
      intro i hi h1 h2
      by_cases hij : i = 4
      · subst hij; exact vn4_s4 p2 k n s hb2 c0 hx2
      · exact u4 i (by omega) h1 h2
    have u6 : ∀ i, i < 6 → i ≠ 6 → i ≠ 7 → OpStep Tryz.prog vn4Ops Q (vn4F p2 k n s) w0 245 (fun t => a0.tmps.getD t undef) i := by
      intro i hi h1 h2
      by_cases hij : i = 5
      · subst hij; exact vn4_s5 p2 k n s hb2 c0 hx2
      · exact u5 i (by omega) h1 h2
    have u7 : ∀ i, i < 7 → i ≠ 6 → i ≠ 7 → OpStep Tryz.prog vn4Ops Q (vn4F p2 k n s) w0 245 (fun t => a0.tmps.getD t undef) i := fun i hi h1 h2 => u6 i (by omega) h1 h2
    have u8 : ∀ i, i < 8 → i ≠ 6 → i ≠ 7 → OpStep Tryz.prog vn4Ops Q (vn4F p2 k n s) w0 245 (fun t => a0.tmps.getD t undef) i := fun i hi h1 h2 => u7 i (by omega) h1 h2
    have u9 : ∀ i, i < 9 → i ≠ 6 → i ≠ 7 → OpStep Tryz.prog vn4Ops Q (vn4F p2 k n s) w0 245 (fun t => a0.tmps.getD t undef) i := by
      intro i hi h1 h2
      by_cases hij : i = 8
      · subst hij; exact vn4_s8 p2 k n s hb2 c0 hx2
      · exact u8 i (by omega) h1 h2
    exact u9 i hi h1 h2
  · intro a w hb
    exact step_allocV (by kernel_rfl) (.free (by kernel_rfl)) (by kernel_rfl) (fun _ _ => trivial)
  · intro act w p hb hp0 hp1 hp hn hF
    have gy : act.eval (.tmp 42) = vv 0 0 ⟨#[]⟩ := hF 4 (of_decide_eq_true (by kernel_rfl)) 42 (by kernel_rfl)
    exact step_storeV (show opO vn4Ops 7 = some (.store 24 (.tmp 3) (.tmp 42)) by kernel_rfl) (.free (by kernel_rfl)) (by kernel_rfl) hp gy hb hp0 hp1 hn
  · intro V p X hb hp hp0 hp1 hB hV
    exact hend V p X hb hp hp0 hp1 hB (hV 8 (of_decide_eq_true (by kernel_rfl)) (by kernel_rfl))
noncomputable def vn5Ops : Array Oper := regOf Tryz.f3 5
theorem vn5_fill {v0 v1 v2 v3 v4 v5 v6 v7 v8 v9 v10 v11 v12 v13 v14 v15 v16 v17 v18 v19 v20 v21 v22 v23 v24 v25 v26 v27 v28 v29 v30 v31 v32 v33 v34 v35 v36 v37 v38 v39 v40 v41 v42 v43 v44 v45 v46 v47 v48 v49 v50 v51 v52 v53 v54 v55 v56 v57 v58 v59 v60 v61 v62 v63 v64 v65 v66 v67 v68 v69 v70 v71 v72 v73 v74 v75 v76 v77 v78 v79 v80 v81 v82 v83 v84 v85 v86 v87 v88 v89 v90 v91 v92 v93 v94 v95 v96 v97 v98 v99 v100 v101 v102 v103 v104 v105 v106 v107 v108 v109 v110 v111 v112 v113 v114 v115 v116 v117 v118 v119 v120 v121 v122 v123 v124 v125 v126 v127 v128 v129 v130 v131 v132 v133 v134 v135 v136 v137 v138 v139 v140 v141 v142 v143 v144 v145 v146 v147 v148 v149 v150 v151 v152 v153 v154 v155 v156 v157 v158 v159 v160 v161 v162 v163 v164 v165 v166 v167 v168 v169 v170 v171 v172 v173 v174 v175 v176 v177 v178 v179 v180 v181 v182 v183 v184 v185 v186 v187 v188 v189 v190 v191 v192 v193 v194 v195 v196 v197 v198 v199 v200 v201 v202 v203 v204 v205 v206 v207 v208 v209 v210 v211 v212 v213 v214 v215 v216 v217 v218 v219 v220 v221 v222 v223 v224 v225 v226 v227 v228 v229 v230 v231 v232 v233 v234 v235 v236 v237 v238 v239 v240 v241 v242 v243 v244 : Value} (V : Nat → Value) : fillT vn5Ops #[v0, v1, v2, v3, v4, v5, v6, v7, v8, v9, v10, v11, v12, v13, v14, v15, v16, v17, v18, v19, v20, v21, v22, v23, v24, v25, v26, v27, v28, v29, v30, v31, v32, v33, v34, v35, v36, v37, v38, v39, v40, v41, v42, v43, v44, v45, v46, v47, v48, v49, v50, v51, v52, v53, v54, v55, v56, v57, v58, v59, v60, v61, v62, v63, v64, v65, v66, v67, v68, v69, v70, v71, v72, v73, v74, v75, v76, v77, v78, v79, v80, v81, v82, v83, v84, v85, v86, v87, v88, v89, v90, v91, v92, v93, v94, v95, v96, v97, v98, v99, v100, v101, v102, v103, v104, v105, v106, v107, v108, v109, v110, v111, v112, v113, v114, v115, v116, v117, v118, v119, v120, v121, v122, v123, v124, v125, v126, v127, v128, v129, v130, v131, v132, v133, v134, v135, v136, v137, v138, v139, v140, v141, v142, v143, v144, v145, v146, v147, v148, v149, v150, v151, v152, v153, v154, v155, v156, v157, v158, v159, v160, v161, v162, v163, v164, v165, v166, v167, v168, v169, v170, v171, v172, v173, v174, v175, v176, v177, v178, v179, v180, v181, v182, v183, v184, v185, v186, v187, v188, v189, v190, v191, v192, v193, v194, v195, v196, v197, v198, v199, v200, v201, v202, v203, v204, v205, v206, v207, v208, v209, v210, v211, v212, v213, v214, v215, v216, v217, v218, v219, v220, v221, v222, v223, v224, v225, v226, v227, v228, v229, v230, v231, v232, v233, v234, v235, v236, v237, v238, v239, v240, v241, v242, v243, v244] V = #[v0, v1, v2, v3, v4, V 6, V 8, v7, v8, v9, v10, v11, v12, v13, v14, v15, v16, v17, v18, v19, v20, v21, v22, v23, v24, v25, v26, v27, v28, v29, v30, v31, v32, v33, v34, v35, v36, v37, v38, v39, v40, v41, v42, v43, V 3, V 0, V 1, V 2, V 4, V 5, v50, v51, v52, v53, v54, v55, v56, v57, v58, v59, v60, v61, v62, v63, v64, v65, v66, v67, v68, v69, v70, v71, v72, v73, v74, v75, v76, v77, v78, v79, v80, v81, v82, v83, v84, v85, v86, v87, v88, v89, v90, v91, v92, v93, v94, v95, v96, v97, v98, v99, v100, v101, v102, v103, v104, v105, v106, v107, v108, v109, v110, v111, v112, v113, v114, v115, v116, v117, v118, v119, v120, v121, v122, v123, v124, v125, v126, v127, v128, v129, v130, v131, v132, v133, v134, v135, v136, v137, v138, v139, v140, v141, v142, v143, v144, v145, v146, v147, v148, v149, v150, v151, v152, v153, v154, v155, v156, v157, v158, v159, v160, v161, v162, v163, v164, v165, v166, v167, v168, v169, v170, v171, v172, v173, v174, v175, v176, v177, v178, v179, v180, v181, v182, v183, v184, v185, v186, v187, v188, v189, v190, v191, v192, v193, v194, v195, v196, v197, v198, v199, v200, v201, v202, v203, v204, v205, v206, v207, v208, v209, v210, v211, v212, v213, v214, v215, v216, v217, v218, v219, v220, v221, v222, v223, v224, v225, v226, v227, v228, v229, v230, v231, v232, v233, v234, v235, v236, v237, v238, v239, v240, v241, v242, v243, v244] := by
  kernel_rfl
def vn5L (p2 : Nat) (k n : Int) (s : ByteArray) : List (Value → World → Prop) := [IsV (vv 1 0 ⟨#[]⟩), IsV (vv k n s), IsV (.tuple #[vv 0 0 ⟨#[]⟩, .int .i64 2]), IsV (.tuple #[vv 0 0 ⟨#[]⟩, .int .i64 2]), IsV (vv 0 0 ⟨#[]⟩), IsV (.int .i64 2), AnyF, AnyF, IsV (.int .i64 2)]
def vn5F (p2 : Nat) (k n : Int) (s : ByteArray) (i : Nat) : Value → World → Prop := (vn5L p2 k n s).getD i AnyF
theorem vn5F_mono (p2 : Nat) (k n : Int) (s : ByteArray) (i : Nat) (v : Value) (w w' : World) (hp : (vn5F p2 k n s) i v w) (hb : Below w.heap.size w w') : (vn5F p2 k n s) i v w' := by
  refine monoL ?_ i v w w' hp hb
  unfold vn5L
  simp only [List.forall_mem_cons]
  exact ⟨mono_isV _, mono_isV _, mono_isV _, mono_isV _, mono_isV _, mono_isV _, mono_any, mono_any, mono_isV _, fun _ h => by cases h⟩
theorem vn5_s0 {Q : Exit → Act → World → Prop} {w0 : World} {xs : Nat → Value} (p2 : Nat) (k n : Int) (s : ByteArray) (hb2 : BoxOn w0 p2 k n s) (c0 : OpEr w0 ⟨#[97, 110, 100]⟩ 1 0 ⟨#[]⟩ k n s 2) (hx2 : xs 2 = .pointer (some ⟨p2, 0, none⟩)) : OpStep Tryz.prog vn5Ops Q (vn5F p2 k n s) w0 245 xs 0 := by
  intro act w hb hk hF
  exact step_call (f := 13) (xs := #[.const (.int .i64 0)]) (by kernel_rfl) (.free (by kernel_rfl)) (map1 rfl) (enters_of Tryz.func13 (by kernel_rfl) rfl) ((num_any 0 w).mono fun e w' h => ⟨_, h.1, rfl, h.2⟩)

theorem vn5_s1 {Q : Exit → Act → World → Prop} {w0 : World} {xs : Nat → Value} (p2 : Nat) (k n : Int) (s : ByteArray) (hb2 : BoxOn w0 p2 k n s) (c0 : OpEr w0 ⟨#[97, 110, 100]⟩ 1 0 ⟨#[]⟩ k n s 2) (hx2 : xs 2 = .pointer (some ⟨p2, 0, none⟩)) : OpStep Tryz.prog vn5Ops Q (vn5F p2 k n s) w0 245 xs 1 := by
  intro act w hb hk hF
  have g2 : act.eval (.tmp 2) = .pointer (some ⟨p2, 0, none⟩) := (hk 2 (by decide) (by kernel_rfl)).trans hx2
  exact step_loadB (show opO vn5Ops 1 = some (.load 24 (.tmp 2)) by kernel_rfl) (.free (by kernel_rfl)) g2 (hb2 w hb) ⟨rfl, Below.refl _ _⟩

theorem vn5_s2 {Q : Exit → Act → World → Prop} {w0 : World} {xs : Nat → Value} (p2 : Nat) (k n : Int) (s : ByteArray) (hb2 : BoxOn w0 p2 k n s) (c0 : OpEr w0 ⟨#[97, 110, 100]⟩ 1 0 ⟨#[]⟩ k n s 2) (hx2 : xs 2 = .pointer (some ⟨p2, 0, none⟩)) : OpStep Tryz.prog vn5Ops Q (vn5F p2 k n s) w0 245 xs 2 := by
  intro act w hb hk hF
  have g45 : act.eval (.tmp 45) = vv 1 0 ⟨#[]⟩ := hF 0 (of_decide_eq_true (by kernel_rfl)) 45 (by kernel_rfl)
  have g46 : act.eval (.tmp 46) = vv k n s := hF 1 (of_decide_eq_true (by kernel_rfl)) 46 (by kernel_rfl)
  exact step_call (f := 12) (xs := #[.const (.string ⟨#[97, 110, 100]⟩), .tmp 45, .tmp 46]) (by kernel_rfl) (.free (by kernel_rfl)) (map3 rfl g45 g46) (enters_of Tryz.func12 (by kernel_rfl) rfl) ((c0 w hb).mono fun e w' h => ⟨_, h.1, rfl, h.2⟩)

theorem vn5_s3 {Q : Exit → Act → World → Prop} {w0 : World} {xs : Nat → Value} (p2 : Nat) (k n : Int) (s : ByteArray) (hb2 : BoxOn w0 p2 k n s) (c0 : OpEr w0 ⟨#[97, 110, 100]⟩ 1 0 ⟨#[]⟩ k n s 2) (hx2 : xs 2 = .pointer (some ⟨p2, 0, none⟩)) : OpStep Tryz.prog vn5Ops Q (vn5F p2 k n s) w0 245 xs 3 := by
  intro act w hb hk hF
  have g47 : act.eval (.tmp 47) = .tuple #[vv 0 0 ⟨#[]⟩, .int .i64 2] := hF 2 (of_decide_eq_true (by kernel_rfl)) 47 (by kernel_rfl)
  exact step_move (show opO vn5Ops 3 = some (.move (.tmp 47)) by kernel_rfl) (.free (by kernel_rfl)) g47 ⟨rfl, Below.refl _ _⟩

theorem vn5_s4 {Q : Exit → Act → World → Prop} {w0 : World} {xs : Nat → Value} (p2 : Nat) (k n : Int) (s : ByteArray) (hb2 : BoxOn w0 p2 k n s) (c0 : OpEr w0 ⟨#[97, 110, 100]⟩ 1 0 ⟨#[]⟩ k n s 2) (hx2 : xs 2 = .pointer (some ⟨p2, 0, none⟩)) : OpStep Tryz.prog vn5Ops Q (vn5F p2 k n s) w0 245 xs 4 := by
  intro act w hb hk hF
  have g44 : act.eval (.tmp 44) = .tuple #[vv 0 0 ⟨#[]⟩, .int .i64 2] := hF 3 (of_decide_eq_true (by kernel_rfl)) 44 (by kernel_rfl)
  exact step_extract (show opO vn5Ops 4 = some (.extract (.tmp 44) 0) by kernel_rfl) (.free (by kernel_rfl)) g44 rfl ⟨rfl, Below.refl _ _⟩

theorem vn5_s5 {Q : Exit → Act → World → Prop} {w0 : World} {xs : Nat → Value} (p2 : Nat) (k n : Int) (s : ByteArray) (hb2 : BoxOn w0 p2 k n s) (c0 : OpEr w0 ⟨#[97, 110, 100]⟩ 1 0 ⟨#[]⟩ k n s 2) (hx2 : xs 2 = .pointer (some ⟨p2, 0, none⟩)) : OpStep Tryz.prog vn5Ops Q (vn5F p2 k n s) w0 245 xs 5 := by
  intro act w hb hk hF
  have g44 : act.eval (.tmp 44) = .tuple #[vv 0 0 ⟨#[]⟩, .int .i64 2] := hF 3 (of_decide_eq_true (by kernel_rfl)) 44 (by kernel_rfl)
  exact step_extract (show opO vn5Ops 5 = some (.extract (.tmp 44) 1) by kernel_rfl) (.free (by kernel_rfl)) g44 rfl ⟨rfl, Below.refl _ _⟩

theorem vn5_s8 {Q : Exit → Act → World → Prop} {w0 : World} {xs : Nat → Value} (p2 : Nat) (k n : Int) (s : ByteArray) (hb2 : BoxOn w0 p2 k n s) (c0 : OpEr w0 ⟨#[97, 110, 100]⟩ 1 0 ⟨#[]⟩ k n s 2) (hx2 : xs 2 = .pointer (some ⟨p2, 0, none⟩)) : OpStep Tryz.prog vn5Ops Q (vn5F p2 k n s) w0 245 xs 8 := by
  intro act w hb hk hF
  have g49 : act.eval (.tmp 49) = .int .i64 2 := hF 5 (of_decide_eq_true (by kernel_rfl)) 49 (by kernel_rfl)
  exact step_assign (show opO vn5Ops 8 = some (.assign (.tmp 49)) by kernel_rfl) (.free (by kernel_rfl)) g49 ⟨rfl, Below.refl _ _⟩

theorem vn5F_flat (p2 : Nat) (k n : Int) (s : ByteArray) (i : Nat) (v : Value) (w w' : World) (hp : (vn5F p2 k n s) i v w) : (vn5F p2 k n s) i v w' := by
  refine flatL ?_ i v w w' hp
  unfold vn5L
  simp only [List.forall_mem_cons]
  exact ⟨flat_isV _, flat_isV _, flat_isV _, flat_isV _, flat_isV _, flat_isV _, flat_any, flat_any, flat_isV _, fun _ h => by cases h⟩
theorem vn5 {Q : Exit → Act → World → Prop} {a0 : Act} {w0 : World} (p2 : Nat) (k n : Int) (s : ByteArray) (hb2 : BoxOn w0 p2 k n s) (c0 : OpEr w0 ⟨#[97, 110, 100]⟩ 1 0 ⟨#[]⟩ k n s 2) (hx2 : a0.tmps.getD 2 undef = .pointer (some ⟨p2, 0, none⟩)) (hs : a0.tmps.size = 245)
    (hend : ∀ (V : Nat → Value) (p : Nat) (X : World), Below w0.heap.size w0 X → V 6 = .pointer (some ⟨p, 0, none⟩) → w0.heap.size ≤ p → p < X.heap.size → BoxAt p 0 0 ⟨#[]⟩ X → V 8 = .int .i64 2 → Q .normal ⟨fillT vn5Ops a0.tmps V, a0.defers⟩ X) : (Code.region 5 vn5Ops true).wp Tryz.prog Q a0 w0 := by
  refine wp_region_box (by kernel_rfl) (vn5F p2 k n s) 6 7 5 NewAt (fun p w => BoxAt p 0 0 ⟨#[]⟩ w) (vn5F_flat p2 k n s) (by kernel_rfl) (by kernel_rfl) (of_decide_eq_true (by kernel_rfl)) (of_decide_eq_true (by kernel_rfl)) (by decide) new_keep boxAt_keep (by rw [hs]; kernel_rfl) ?_ ?_ ?_ ?_
  · rw [hs]
    have size_is : vn5Ops.size = 9 := by kernel_rfl
    rw [size_is]
    intro i hi h1 h2
    have u1 : ∀ i, i < 1 → i ≠ 6 → i ≠ 7 → OpStep Tryz.prog vn5Ops Q (vn5F p2 k n s) w0 245 (fun t => a0.tmps.getD t undef) i := by
      intro i hi h1 h2
      by_cases hij : i = 0
      · subst hij; exact vn5_s0 p2 k n s hb2 c0 hx2
      · exact absurd hi (by omega)
    have u2 : ∀ i, i < 2 → i ≠ 6 → i ≠ 7 → OpStep Tryz.prog vn5Ops Q (vn5F p2 k n s) w0 245 (fun t => a0.tmps.getD t undef) i := by
      intro i hi h1 h2
      by_cases hij : i = 1
      · subst hij; exact vn5_s1 p2 k n s hb2 c0 hx2
      · exact u1 i (by omega) h1 h2
    have u3 : ∀ i, i < 3 → i ≠ 6 → i ≠ 7 → OpStep Tryz.prog vn5Ops Q (vn5F p2 k n s) w0 245 (fun t => a0.tmps.getD t undef) i := by
      intro i hi h1 h2
      by_cases hij : i = 2
      · subst hij; exact vn5_s2 p2 k n s hb2 c0 hx2
      · exact u2 i (by omega) h1 h2
    have u4 : ∀ i, i < 4 → i ≠ 6 → i ≠ 7 → OpStep Tryz.prog vn5Ops Q (vn5F p2 k n s) w0 245 (fun t => a0.tmps.getD t undef) i := by
      intro i hi h1 h2
      by_cases hij : i = 3
      · subst hij; exact vn5_s3 p2 k n s hb2 c0 hx2
      · exact u3 i (by omega) h1 h2
    have u5 : ∀ i, i < 5 → i ≠ 6 → i ≠ 7 → OpStep Tryz.prog vn5Ops Q (vn5F p2 k n s) w0 245 (fun t => a0.tmps.getD t undef) i := by
      intro i hi h1 h2
      by_cases hij : i = 4
      · subst hij; exact vn5_s4 p2 k n s hb2 c0 hx2
      · exact u4 i (by omega) h1 h2
    have u6 : ∀ i, i < 6 → i ≠ 6 → i ≠ 7 → OpStep Tryz.prog vn5Ops Q (vn5F p2 k n s) w0 245 (fun t => a0.tmps.getD t undef) i := by
      intro i hi h1 h2
      by_cases hij : i = 5
      · subst hij; exact vn5_s5 p2 k n s hb2 c0 hx2
      · exact u5 i (by omega) h1 h2
    have u7 : ∀ i, i < 7 → i ≠ 6 → i ≠ 7 → OpStep Tryz.prog vn5Ops Q (vn5F p2 k n s) w0 245 (fun t => a0.tmps.getD t undef) i := fun i hi h1 h2 => u6 i (by omega) h1 h2
    have u8 : ∀ i, i < 8 → i ≠ 6 → i ≠ 7 → OpStep Tryz.prog vn5Ops Q (vn5F p2 k n s) w0 245 (fun t => a0.tmps.getD t undef) i := fun i hi h1 h2 => u7 i (by omega) h1 h2
    have u9 : ∀ i, i < 9 → i ≠ 6 → i ≠ 7 → OpStep Tryz.prog vn5Ops Q (vn5F p2 k n s) w0 245 (fun t => a0.tmps.getD t undef) i := by
      intro i hi h1 h2
      by_cases hij : i = 8
      · subst hij; exact vn5_s8 p2 k n s hb2 c0 hx2
      · exact u8 i (by omega) h1 h2
    exact u9 i hi h1 h2
  · intro a w hb
    exact step_allocV (by kernel_rfl) (.free (by kernel_rfl)) (by kernel_rfl) (fun _ _ => trivial)
  · intro act w p hb hp0 hp1 hp hn hF
    have gy : act.eval (.tmp 48) = vv 0 0 ⟨#[]⟩ := hF 4 (of_decide_eq_true (by kernel_rfl)) 48 (by kernel_rfl)
    exact step_storeV (show opO vn5Ops 7 = some (.store 24 (.tmp 5) (.tmp 48)) by kernel_rfl) (.free (by kernel_rfl)) (by kernel_rfl) hp gy hb hp0 hp1 hn
  · intro V p X hb hp hp0 hp1 hB hV
    exact hend V p X hb hp hp0 hp1 hB (hV 8 (of_decide_eq_true (by kernel_rfl)) (by kernel_rfl))
noncomputable def vn9Ops : Array Oper := regOf Tryz.f3 9
theorem vn9_fill {v0 v1 v2 v3 v4 v5 v6 v7 v8 v9 v10 v11 v12 v13 v14 v15 v16 v17 v18 v19 v20 v21 v22 v23 v24 v25 v26 v27 v28 v29 v30 v31 v32 v33 v34 v35 v36 v37 v38 v39 v40 v41 v42 v43 v44 v45 v46 v47 v48 v49 v50 v51 v52 v53 v54 v55 v56 v57 v58 v59 v60 v61 v62 v63 v64 v65 v66 v67 v68 v69 v70 v71 v72 v73 v74 v75 v76 v77 v78 v79 v80 v81 v82 v83 v84 v85 v86 v87 v88 v89 v90 v91 v92 v93 v94 v95 v96 v97 v98 v99 v100 v101 v102 v103 v104 v105 v106 v107 v108 v109 v110 v111 v112 v113 v114 v115 v116 v117 v118 v119 v120 v121 v122 v123 v124 v125 v126 v127 v128 v129 v130 v131 v132 v133 v134 v135 v136 v137 v138 v139 v140 v141 v142 v143 v144 v145 v146 v147 v148 v149 v150 v151 v152 v153 v154 v155 v156 v157 v158 v159 v160 v161 v162 v163 v164 v165 v166 v167 v168 v169 v170 v171 v172 v173 v174 v175 v176 v177 v178 v179 v180 v181 v182 v183 v184 v185 v186 v187 v188 v189 v190 v191 v192 v193 v194 v195 v196 v197 v198 v199 v200 v201 v202 v203 v204 v205 v206 v207 v208 v209 v210 v211 v212 v213 v214 v215 v216 v217 v218 v219 v220 v221 v222 v223 v224 v225 v226 v227 v228 v229 v230 v231 v232 v233 v234 v235 v236 v237 v238 v239 v240 v241 v242 v243 v244 : Value} (V : Nat → Value) : fillT vn9Ops #[v0, v1, v2, v3, v4, v5, v6, v7, v8, v9, v10, v11, v12, v13, v14, v15, v16, v17, v18, v19, v20, v21, v22, v23, v24, v25, v26, v27, v28, v29, v30, v31, v32, v33, v34, v35, v36, v37, v38, v39, v40, v41, v42, v43, v44, v45, v46, v47, v48, v49, v50, v51, v52, v53, v54, v55, v56, v57, v58, v59, v60, v61, v62, v63, v64, v65, v66, v67, v68, v69, v70, v71, v72, v73, v74, v75, v76, v77, v78, v79, v80, v81, v82, v83, v84, v85, v86, v87, v88, v89, v90, v91, v92, v93, v94, v95, v96, v97, v98, v99, v100, v101, v102, v103, v104, v105, v106, v107, v108, v109, v110, v111, v112, v113, v114, v115, v116, v117, v118, v119, v120, v121, v122, v123, v124, v125, v126, v127, v128, v129, v130, v131, v132, v133, v134, v135, v136, v137, v138, v139, v140, v141, v142, v143, v144, v145, v146, v147, v148, v149, v150, v151, v152, v153, v154, v155, v156, v157, v158, v159, v160, v161, v162, v163, v164, v165, v166, v167, v168, v169, v170, v171, v172, v173, v174, v175, v176, v177, v178, v179, v180, v181, v182, v183, v184, v185, v186, v187, v188, v189, v190, v191, v192, v193, v194, v195, v196, v197, v198, v199, v200, v201, v202, v203, v204, v205, v206, v207, v208, v209, v210, v211, v212, v213, v214, v215, v216, v217, v218, v219, v220, v221, v222, v223, v224, v225, v226, v227, v228, v229, v230, v231, v232, v233, v234, v235, v236, v237, v238, v239, v240, v241, v242, v243, v244] V = #[v0, v1, v2, v3, v4, v5, v6, v7, v8, v9, v10, v11, v12, v13, v14, v15, v16, v17, v18, v19, v20, v21, v22, v23, v24, v25, v26, v27, v28, v29, v30, v31, v32, v33, v34, v35, v36, v37, v38, v39, v40, v41, v42, v43, v44, v45, v46, v47, v48, v49, v50, v51, v52, v53, v54, v55, v56, v57, v58, v59, v60, v61, v62, v63, v64, v65, V 0, V 1, V 2, V 3, V 4, V 5, V 6, V 7, V 8, V 9, V 10, V 11, V 12, V 13, V 14, V 15, V 16, V 17, V 18, V 19, V 20, V 21, V 22, V 23, V 24, V 25, V 26, V 27, V 28, V 29, V 30, V 31, v98, v99, v100, v101, v102, v103, v104, v105, v106, v107, v108, v109, v110, v111, v112, v113, v114, v115, v116, v117, v118, v119, v120, v121, v122, v123, v124, v125, v126, v127, v128, v129, v130, v131, v132, v133, v134, v135, v136, v137, v138, v139, v140, v141, v142, v143, v144, v145, v146, v147, v148, v149, v150, v151, v152, v153, v154, v155, v156, v157, v158, v159, v160, v161, v162, v163, v164, v165, v166, v167, v168, v169, v170, v171, v172, v173, v174, v175, v176, v177, v178, v179, v180, v181, v182, v183, v184, v185, v186, v187, v188, v189, v190, v191, v192, v193, v194, v195, v196, v197, v198, v199, v200, v201, v202, v203, v204, v205, v206, v207, v208, v209, v210, v211, v212, v213, v214, v215, v216, v217, v218, v219, v220, v221, v222, v223, v224, v225, v226, v227, v228, v229, v230, v231, v232, v233, v234, v235, v236, v237, v238, v239, v240, v241, v242, v243, v244] := by
  kernel_rfl
def vn9L (p2 p3 p5 p7 p9 p11 : Nat) (k n : Int) (s : ByteArray) : List (Value → World → Prop) := [IsV (vv k n s), IsV (.bool false), IsV (.bool false), IsV (vv 0 0 ⟨#[]⟩), IsV (.int .i64 2), IsV (.bool true), IsV (.bool false), IsV (.bool false), IsV (.bool false), IsV (vv 0 0 ⟨#[]⟩), IsV (.int .i64 2), IsV (.bool true), IsV (.bool false), IsV (.bool false), IsV (.bool false), IsV (vv 0 0 ⟨#[]⟩), IsV (.int .i64 2), IsV (.bool true), IsV (.bool false), IsV (.bool false), IsV (.bool false), IsV (vv 0 0 ⟨#[]⟩), IsV (.int .i64 2), IsV (.bool true), IsV (.bool false), IsV (.bool false), IsV (.bool false), IsV (vv 0 0 ⟨#[]⟩), IsV (.int .i64 2), IsV (.bool true), IsV (.bool false), IsV (.bool false)]
def vn9F (p2 p3 p5 p7 p9 p11 : Nat) (k n : Int) (s : ByteArray) (i : Nat) : Value → World → Prop := (vn9L p2 p3 p5 p7 p9 p11 k n s).getD i AnyF
theorem vn9F_mono (p2 p3 p5 p7 p9 p11 : Nat) (k n : Int) (s : ByteArray) (i : Nat) (v : Value) (w w' : World) (hp : (vn9F p2 p3 p5 p7 p9 p11 k n s) i v w) (hb : Below w.heap.size w w') : (vn9F p2 p3 p5 p7 p9 p11 k n s) i v w' := by
  refine monoL ?_ i v w w' hp hb
  unfold vn9L
  simp only [List.forall_mem_cons]
  exact ⟨mono_isV _, mono_isV _, mono_isV _, mono_isV _, mono_isV _, mono_isV _, mono_isV _, mono_isV _, mono_isV _, mono_isV _, mono_isV _, mono_isV _, mono_isV _, mono_isV _, mono_isV _, mono_isV _, mono_isV _, mono_isV _, mono_isV _, mono_isV _, mono_isV _, mono_isV _, mono_isV _, mono_isV _, mono_isV _, mono_isV _, mono_isV _, mono_isV _, mono_isV _, mono_isV _, mono_isV _, mono_isV _, fun _ h => by cases h⟩
theorem vn9_s0 {Q : Exit → Act → World → Prop} {w0 : World} {xs : Nat → Value} (p2 p3 p5 p7 p9 p11 : Nat) (k n : Int) (s : ByteArray) (hb2 : BoxOn w0 p2 k n s) (hb3 : BoxOn w0 p3 0 0 ⟨#[]⟩) (hb5 : BoxOn w0 p5 0 0 ⟨#[]⟩) (hb7 : BoxOn w0 p7 0 0 ⟨#[]⟩) (hb9 : BoxOn w0 p9 0 0 ⟨#[]⟩) (hb11 : BoxOn w0 p11 0 0 ⟨#[]⟩) (cr : NotRt k n s) (hx2 : xs 2 = .pointer (some ⟨p2, 0, none⟩)) (hx3 : xs 3 = .pointer (some ⟨p3, 0, none⟩)) (hx5 : xs 5 = .pointer (some ⟨p5, 0, none⟩)) (hx7 : xs 7 = .pointer (some ⟨p7, 0, none⟩)) (hx9 : xs 9 = .pointer (some ⟨p9, 0, none⟩)) (hx11 : xs 11 = .pointer (some ⟨p11, 0, none⟩)) (hx4 : xs 4 = .int .i64 2) (hx6 : xs 6 = .int .i64 2) (hx8 : xs 8 = .int .i64 2) (hx10 : xs 10 = .int .i64 2) (hx12 : xs 12 = .int .i64 2) : OpStep Tryz.prog vn9Ops Q (vn9F p2 p3 p5 p7 p9 p11 k n s) w0 245 xs 0 := by
  intro act w hb hk hF
  have g2 : act.eval (.tmp 2) = .pointer (some ⟨p2, 0, none⟩) := (hk 2 (by decide) (by kernel_rfl)).trans hx2
  exact step_loadB (show opO vn9Ops 0 = some (.load 24 (.tmp 2)) by kernel_rfl) (.free (by kernel_rfl)) g2 (hb2 w hb) ⟨rfl, Below.refl _ _⟩

theorem vn9_s1 {Q : Exit → Act → World → Prop} {w0 : World} {xs : Nat → Value} (p2 p3 p5 p7 p9 p11 : Nat) (k n : Int) (s : ByteArray) (hb2 : BoxOn w0 p2 k n s) (hb3 : BoxOn w0 p3 0 0 ⟨#[]⟩) (hb5 : BoxOn w0 p5 0 0 ⟨#[]⟩) (hb7 : BoxOn w0 p7 0 0 ⟨#[]⟩) (hb9 : BoxOn w0 p9 0 0 ⟨#[]⟩) (hb11 : BoxOn w0 p11 0 0 ⟨#[]⟩) (cr : NotRt k n s) (hx2 : xs 2 = .pointer (some ⟨p2, 0, none⟩)) (hx3 : xs 3 = .pointer (some ⟨p3, 0, none⟩)) (hx5 : xs 5 = .pointer (some ⟨p5, 0, none⟩)) (hx7 : xs 7 = .pointer (some ⟨p7, 0, none⟩)) (hx9 : xs 9 = .pointer (some ⟨p9, 0, none⟩)) (hx11 : xs 11 = .pointer (some ⟨p11, 0, none⟩)) (hx4 : xs 4 = .int .i64 2) (hx6 : xs 6 = .int .i64 2) (hx8 : xs 8 = .int .i64 2) (hx10 : xs 10 = .int .i64 2) (hx12 : xs 12 = .int .i64 2) : OpStep Tryz.prog vn9Ops Q (vn9F p2 p3 p5 p7 p9 p11 k n s) w0 245 xs 1 := by
  intro act w hb hk hF
  have g66 : act.eval (.tmp 66) = vv k n s := hF 0 (of_decide_eq_true (by kernel_rfl)) 66 (by kernel_rfl)
  exact step_call (f := 17) (xs := #[.tmp 66]) (by kernel_rfl) (.free (by kernel_rfl)) (map1 g66) (enters_of Tryz.func17 (by kernel_rfl) rfl) ((cr w).mono fun e w' h => ⟨_, h.1, rfl, h.2⟩)

theorem vn9_s2 {Q : Exit → Act → World → Prop} {w0 : World} {xs : Nat → Value} (p2 p3 p5 p7 p9 p11 : Nat) (k n : Int) (s : ByteArray) (hb2 : BoxOn w0 p2 k n s) (hb3 : BoxOn w0 p3 0 0 ⟨#[]⟩) (hb5 : BoxOn w0 p5 0 0 ⟨#[]⟩) (hb7 : BoxOn w0 p7 0 0 ⟨#[]⟩) (hb9 : BoxOn w0 p9 0 0 ⟨#[]⟩) (hb11 : BoxOn w0 p11 0 0 ⟨#[]⟩) (cr : NotRt k n s) (hx2 : xs 2 = .pointer (some ⟨p2, 0, none⟩)) (hx3 : xs 3 = .pointer (some ⟨p3, 0, none⟩)) (hx5 : xs 5 = .pointer (some ⟨p5, 0, none⟩)) (hx7 : xs 7 = .pointer (some ⟨p7, 0, none⟩)) (hx9 : xs 9 = .pointer (some ⟨p9, 0, none⟩)) (hx11 : xs 11 = .pointer (some ⟨p11, 0, none⟩)) (hx4 : xs 4 = .int .i64 2) (hx6 : xs 6 = .int .i64 2) (hx8 : xs 8 = .int .i64 2) (hx10 : xs 10 = .int .i64 2) (hx12 : xs 12 = .int .i64 2) : OpStep Tryz.prog vn9Ops Q (vn9F p2 p3 p5 p7 p9 p11 k n s) w0 245 xs 2 := by
  intro act w hb hk hF
  have g67 : act.eval (.tmp 67) = .bool false := hF 1 (of_decide_eq_true (by kernel_rfl)) 67 (by kernel_rfl)
  exact step_move (show opO vn9Ops 2 = some (.move (.tmp 67)) by kernel_rfl) (.free (by kernel_rfl)) g67 ⟨rfl, Below.refl _ _⟩

theorem vn9_s3 {Q : Exit → Act → World → Prop} {w0 : World} {xs : Nat → Value} (p2 p3 p5 p7 p9 p11 : Nat) (k n : Int) (s : ByteArray) (hb2 : BoxOn w0 p2 k n s) (hb3 : BoxOn w0 p3 0 0 ⟨#[]⟩) (hb5 : BoxOn w0 p5 0 0 ⟨#[]⟩) (hb7 : BoxOn w0 p7 0 0 ⟨#[]⟩) (hb9 : BoxOn w0 p9 0 0 ⟨#[]⟩) (hb11 : BoxOn w0 p11 0 0 ⟨#[]⟩) (cr : NotRt k n s) (hx2 : xs 2 = .pointer (some ⟨p2, 0, none⟩)) (hx3 : xs 3 = .pointer (some ⟨p3, 0, none⟩)) (hx5 : xs 5 = .pointer (some ⟨p5, 0, none⟩)) (hx7 : xs 7 = .pointer (some ⟨p7, 0, none⟩)) (hx9 : xs 9 = .pointer (some ⟨p9, 0, none⟩)) (hx11 : xs 11 = .pointer (some ⟨p11, 0, none⟩)) (hx4 : xs 4 = .int .i64 2) (hx6 : xs 6 = .int .i64 2) (hx8 : xs 8 = .int .i64 2) (hx10 : xs 10 = .int .i64 2) (hx12 : xs 12 = .int .i64 2) : OpStep Tryz.prog vn9Ops Q (vn9F p2 p3 p5 p7 p9 p11 k n s) w0 245 xs 3 := by
  intro act w hb hk hF
  have g68 : act.eval (.tmp 68) = .bool false := hF 2 (of_decide_eq_true (by kernel_rfl)) 68 (by kernel_rfl)
  have g3 : act.eval (.tmp 3) = .pointer (some ⟨p3, 0, none⟩) := (hk 3 (by decide) (by kernel_rfl)).trans hx3
  exact step_loadB (show opO vn9Ops 3 = some (.load 24 (.tmp 3)) by kernel_rfl) (.told 2 false 68 (by kernel_rfl) (by kernel_rfl) g68) g3 (hb3 w hb) ⟨rfl, Below.refl _ _⟩

theorem vn9_s4 {Q : Exit → Act → World → Prop} {w0 : World} {xs : Nat → Value} (p2 p3 p5 p7 p9 p11 : Nat) (k n : Int) (s : ByteArray) (hb2 : BoxOn w0 p2 k n s) (hb3 : BoxOn w0 p3 0 0 ⟨#[]⟩) (hb5 : BoxOn w0 p5 0 0 ⟨#[]⟩) (hb7 : BoxOn w0 p7 0 0 ⟨#[]⟩) (hb9 : BoxOn w0 p9 0 0 ⟨#[]⟩) (hb11 : BoxOn w0 p11 0 0 ⟨#[]⟩) (cr : NotRt k n s) (hx2 : xs 2 = .pointer (some ⟨p2, 0, none⟩)) (hx3 : xs 3 = .pointer (some ⟨p3, 0, none⟩)) (hx5 : xs 5 = .pointer (some ⟨p5, 0, none⟩)) (hx7 : xs 7 = .pointer (some ⟨p7, 0, none⟩)) (hx9 : xs 9 = .pointer (some ⟨p9, 0, none⟩)) (hx11 : xs 11 = .pointer (some ⟨p11, 0, none⟩)) (hx4 : xs 4 = .int .i64 2) (hx6 : xs 6 = .int .i64 2) (hx8 : xs 8 = .int .i64 2) (hx10 : xs 10 = .int .i64 2) (hx12 : xs 12 = .int .i64 2) : OpStep Tryz.prog vn9Ops Q (vn9F p2 p3 p5 p7 p9 p11 k n s) w0 245 xs 4 := by
  intro act w hb hk hF
  have g68 : act.eval (.tmp 68) = .bool false := hF 2 (of_decide_eq_true (by kernel_rfl)) 68 (by kernel_rfl)
  have g4 : act.eval (.tmp 4) = .int .i64 2 := (hk 4 (by decide) (by kernel_rfl)).trans hx4
  exact step_move (show opO vn9Ops 4 = some (.move (.tmp 4)) by kernel_rfl) (.told 2 false 68 (by kernel_rfl) (by kernel_rfl) g68) g4 ⟨rfl, Below.refl _ _⟩

theorem vn9_s5 {Q : Exit → Act → World → Prop} {w0 : World} {xs : Nat → Value} (p2 p3 p5 p7 p9 p11 : Nat) (k n : Int) (s : ByteArray) (hb2 : BoxOn w0 p2 k n s) (hb3 : BoxOn w0 p3 0 0 ⟨#[]⟩) (hb5 : BoxOn w0 p5 0 0 ⟨#[]⟩) (hb7 : BoxOn w0 p7 0 0 ⟨#[]⟩) (hb9 : BoxOn w0 p9 0 0 ⟨#[]⟩) (hb11 : BoxOn w0 p11 0 0 ⟨#[]⟩) (cr : NotRt k n s) (hx2 : xs 2 = .pointer (some ⟨p2, 0, none⟩)) (hx3 : xs 3 = .pointer (some ⟨p3, 0, none⟩)) (hx5 : xs 5 = .pointer (some ⟨p5, 0, none⟩)) (hx7 : xs 7 = .pointer (some ⟨p7, 0, none⟩)) (hx9 : xs 9 = .pointer (some ⟨p9, 0, none⟩)) (hx11 : xs 11 = .pointer (some ⟨p11, 0, none⟩)) (hx4 : xs 4 = .int .i64 2) (hx6 : xs 6 = .int .i64 2) (hx8 : xs 8 = .int .i64 2) (hx10 : xs 10 = .int .i64 2) (hx12 : xs 12 = .int .i64 2) : OpStep Tryz.prog vn9Ops Q (vn9F p2 p3 p5 p7 p9 p11 k n s) w0 245 xs 5 := by
  intro act w hb hk hF
  have g68 : act.eval (.tmp 68) = .bool false := hF 2 (of_decide_eq_true (by kernel_rfl)) 68 (by kernel_rfl)
  have g69 : act.eval (.tmp 69) = vv 0 0 ⟨#[]⟩ := hF 3 (of_decide_eq_true (by kernel_rfl)) 69 (by kernel_rfl)
  have g70 : act.eval (.tmp 70) = .int .i64 2 := hF 4 (of_decide_eq_true (by kernel_rfl)) 70 (by kernel_rfl)
  exact step_call (f := 18) (xs := #[.tmp 69, .tmp 70, .const (.int .i64 2)]) (by kernel_rfl) (.told 2 false 68 (by kernel_rfl) (by kernel_rfl) g68) (map3 g69 g70 rfl) (enters_of Tryz.func18 (by kernel_rfl) rfl) ((errs_yes 2 w).mono fun e w' h => ⟨_, h.1, rfl, h.2⟩)

theorem vn9_s6 {Q : Exit → Act → World → Prop} {w0 : World} {xs : Nat → Value} (p2 p3 p5 p7 p9 p11 : Nat) (k n : Int) (s : ByteArray) (hb2 : BoxOn w0 p2 k n s) (hb3 : BoxOn w0 p3 0 0 ⟨#[]⟩) (hb5 : BoxOn w0 p5 0 0 ⟨#[]⟩) (hb7 : BoxOn w0 p7 0 0 ⟨#[]⟩) (hb9 : BoxOn w0 p9 0 0 ⟨#[]⟩) (hb11 : BoxOn w0 p11 0 0 ⟨#[]⟩) (cr : NotRt k n s) (hx2 : xs 2 = .pointer (some ⟨p2, 0, none⟩)) (hx3 : xs 3 = .pointer (some ⟨p3, 0, none⟩)) (hx5 : xs 5 = .pointer (some ⟨p5, 0, none⟩)) (hx7 : xs 7 = .pointer (some ⟨p7, 0, none⟩)) (hx9 : xs 9 = .pointer (some ⟨p9, 0, none⟩)) (hx11 : xs 11 = .pointer (some ⟨p11, 0, none⟩)) (hx4 : xs 4 = .int .i64 2) (hx6 : xs 6 = .int .i64 2) (hx8 : xs 8 = .int .i64 2) (hx10 : xs 10 = .int .i64 2) (hx12 : xs 12 = .int .i64 2) : OpStep Tryz.prog vn9Ops Q (vn9F p2 p3 p5 p7 p9 p11 k n s) w0 245 xs 6 := by
  intro act w hb hk hF
  have g68 : act.eval (.tmp 68) = .bool false := hF 2 (of_decide_eq_true (by kernel_rfl)) 68 (by kernel_rfl)
  have g71 : act.eval (.tmp 71) = .bool true := hF 5 (of_decide_eq_true (by kernel_rfl)) 71 (by kernel_rfl)
  exact step_not (show opO vn9Ops 6 = some (.unOp .not 4 (.tmp 71)) by kernel_rfl) (.told 2 false 68 (by kernel_rfl) (by kernel_rfl) g68) g71 rfl ⟨rfl, Below.refl _ _⟩

theorem vn9_s7 {Q : Exit → Act → World → Prop} {w0 : World} {xs : Nat → Value} (p2 p3 p5 p7 p9 p11 : Nat) (k n : Int) (s : ByteArray) (hb2 : BoxOn w0 p2 k n s) (hb3 : BoxOn w0 p3 0 0 ⟨#[]⟩) (hb5 : BoxOn w0 p5 0 0 ⟨#[]⟩) (hb7 : BoxOn w0 p7 0 0 ⟨#[]⟩) (hb9 : BoxOn w0 p9 0 0 ⟨#[]⟩) (hb11 : BoxOn w0 p11 0 0 ⟨#[]⟩) (cr : NotRt k n s) (hx2 : xs 2 = .pointer (some ⟨p2, 0, none⟩)) (hx3 : xs 3 = .pointer (some ⟨p3, 0, none⟩)) (hx5 : xs 5 = .pointer (some ⟨p5, 0, none⟩)) (hx7 : xs 7 = .pointer (some ⟨p7, 0, none⟩)) (hx9 : xs 9 = .pointer (some ⟨p9, 0, none⟩)) (hx11 : xs 11 = .pointer (some ⟨p11, 0, none⟩)) (hx4 : xs 4 = .int .i64 2) (hx6 : xs 6 = .int .i64 2) (hx8 : xs 8 = .int .i64 2) (hx10 : xs 10 = .int .i64 2) (hx12 : xs 12 = .int .i64 2) : OpStep Tryz.prog vn9Ops Q (vn9F p2 p3 p5 p7 p9 p11 k n s) w0 245 xs 7 := by
  intro act w hb hk hF
  have g68 : act.eval (.tmp 68) = .bool false := hF 2 (of_decide_eq_true (by kernel_rfl)) 68 (by kernel_rfl)
  have g72 : act.eval (.tmp 72) = .bool false := hF 6 (of_decide_eq_true (by kernel_rfl)) 72 (by kernel_rfl)
  exact step_pickF (show opO vn9Ops 7 = some (.pick (.tmp 68) (.const (.bool true)) (.tmp 72)) by kernel_rfl) (.free (by kernel_rfl)) g68 g72 ⟨rfl, Below.refl _ _⟩

theorem vn9_s8 {Q : Exit → Act → World → Prop} {w0 : World} {xs : Nat → Value} (p2 p3 p5 p7 p9 p11 : Nat) (k n : Int) (s : ByteArray) (hb2 : BoxOn w0 p2 k n s) (hb3 : BoxOn w0 p3 0 0 ⟨#[]⟩) (hb5 : BoxOn w0 p5 0 0 ⟨#[]⟩) (hb7 : BoxOn w0 p7 0 0 ⟨#[]⟩) (hb9 : BoxOn w0 p9 0 0 ⟨#[]⟩) (hb11 : BoxOn w0 p11 0 0 ⟨#[]⟩) (cr : NotRt k n s) (hx2 : xs 2 = .pointer (some ⟨p2, 0, none⟩)) (hx3 : xs 3 = .pointer (some ⟨p3, 0, none⟩)) (hx5 : xs 5 = .pointer (some ⟨p5, 0, none⟩)) (hx7 : xs 7 = .pointer (some ⟨p7, 0, none⟩)) (hx9 : xs 9 = .pointer (some ⟨p9, 0, none⟩)) (hx11 : xs 11 = .pointer (some ⟨p11, 0, none⟩)) (hx4 : xs 4 = .int .i64 2) (hx6 : xs 6 = .int .i64 2) (hx8 : xs 8 = .int .i64 2) (hx10 : xs 10 = .int .i64 2) (hx12 : xs 12 = .int .i64 2) : OpStep Tryz.prog vn9Ops Q (vn9F p2 p3 p5 p7 p9 p11 k n s) w0 245 xs 8 := by
  intro act w hb hk hF
  have g73 : act.eval (.tmp 73) = .bool false := hF 7 (of_decide_eq_true (by kernel_rfl)) 73 (by kernel_rfl)
  exact step_move (show opO vn9Ops 8 = some (.move (.tmp 73)) by kernel_rfl) (.free (by kernel_rfl)) g73 ⟨rfl, Below.refl _ _⟩

theorem vn9_s9 {Q : Exit → Act → World → Prop} {w0 : World} {xs : Nat → Value} (p2 p3 p5 p7 p9 p11 : Nat) (k n : Int) (s : ByteArray) (hb2 : BoxOn w0 p2 k n s) (hb3 : BoxOn w0 p3 0 0 ⟨#[]⟩) (hb5 : BoxOn w0 p5 0 0 ⟨#[]⟩) (hb7 : BoxOn w0 p7 0 0 ⟨#[]⟩) (hb9 : BoxOn w0 p9 0 0 ⟨#[]⟩) (hb11 : BoxOn w0 p11 0 0 ⟨#[]⟩) (cr : NotRt k n s) (hx2 : xs 2 = .pointer (some ⟨p2, 0, none⟩)) (hx3 : xs 3 = .pointer (some ⟨p3, 0, none⟩)) (hx5 : xs 5 = .pointer (some ⟨p5, 0, none⟩)) (hx7 : xs 7 = .pointer (some ⟨p7, 0, none⟩)) (hx9 : xs 9 = .pointer (some ⟨p9, 0, none⟩)) (hx11 : xs 11 = .pointer (some ⟨p11, 0, none⟩)) (hx4 : xs 4 = .int .i64 2) (hx6 : xs 6 = .int .i64 2) (hx8 : xs 8 = .int .i64 2) (hx10 : xs 10 = .int .i64 2) (hx12 : xs 12 = .int .i64 2) : OpStep Tryz.prog vn9Ops Q (vn9F p2 p3 p5 p7 p9 p11 k n s) w0 245 xs 9 := by
  intro act w hb hk hF
  have g74 : act.eval (.tmp 74) = .bool false := hF 8 (of_decide_eq_true (by kernel_rfl)) 74 (by kernel_rfl)
  have g5 : act.eval (.tmp 5) = .pointer (some ⟨p5, 0, none⟩) := (hk 5 (by decide) (by kernel_rfl)).trans hx5
  exact step_loadB (show opO vn9Ops 9 = some (.load 24 (.tmp 5)) by kernel_rfl) (.told 8 false 74 (by kernel_rfl) (by kernel_rfl) g74) g5 (hb5 w hb) ⟨rfl, Below.refl _ _⟩

theorem vn9_s10 {Q : Exit → Act → World → Prop} {w0 : World} {xs : Nat → Value} (p2 p3 p5 p7 p9 p11 : Nat) (k n : Int) (s : ByteArray) (hb2 : BoxOn w0 p2 k n s) (hb3 : BoxOn w0 p3 0 0 ⟨#[]⟩) (hb5 : BoxOn w0 p5 0 0 ⟨#[]⟩) (hb7 : BoxOn w0 p7 0 0 ⟨#[]⟩) (hb9 : BoxOn w0 p9 0 0 ⟨#[]⟩) (hb11 : BoxOn w0 p11 0 0 ⟨#[]⟩) (cr : NotRt k n s) (hx2 : xs 2 = .pointer (some ⟨p2, 0, none⟩)) (hx3 : xs 3 = .pointer (some ⟨p3, 0, none⟩)) (hx5 : xs 5 = .pointer (some ⟨p5, 0, none⟩)) (hx7 : xs 7 = .pointer (some ⟨p7, 0, none⟩)) (hx9 : xs 9 = .pointer (some ⟨p9, 0, none⟩)) (hx11 : xs 11 = .pointer (some ⟨p11, 0, none⟩)) (hx4 : xs 4 = .int .i64 2) (hx6 : xs 6 = .int .i64 2) (hx8 : xs 8 = .int .i64 2) (hx10 : xs 10 = .int .i64 2) (hx12 : xs 12 = .int .i64 2) : OpStep Tryz.prog vn9Ops Q (vn9F p2 p3 p5 p7 p9 p11 k n s) w0 245 xs 10 := by
  intro act w hb hk hF
  have g74 : act.eval (.tmp 74) = .bool false := hF 8 (of_decide_eq_true (by kernel_rfl)) 74 (by kernel_rfl)
  have g6 : act.eval (.tmp 6) = .int .i64 2 := (hk 6 (by decide) (by kernel_rfl)).trans hx6
  exact step_move (show opO vn9Ops 10 = some (.move (.tmp 6)) by kernel_rfl) (.told 8 false 74 (by kernel_rfl) (by kernel_rfl) g74) g6 ⟨rfl, Below.refl _ _⟩

theorem vn9_s11 {Q : Exit → Act → World → Prop} {w0 : World} {xs : Nat → Value} (p2 p3 p5 p7 p9 p11 : Nat) (k n : Int) (s : ByteArray) (hb2 : BoxOn w0 p2 k n s) (hb3 : BoxOn w0 p3 0 0 ⟨#[]⟩) (hb5 : BoxOn w0 p5 0 0 ⟨#[]⟩) (hb7 : BoxOn w0 p7 0 0 ⟨#[]⟩) (hb9 : BoxOn w0 p9 0 0 ⟨#[]⟩) (hb11 : BoxOn w0 p11 0 0 ⟨#[]⟩) (cr : NotRt k n s) (hx2 : xs 2 = .pointer (some ⟨p2, 0, none⟩)) (hx3 : xs 3 = .pointer (some ⟨p3, 0, none⟩)) (hx5 : xs 5 = .pointer (some ⟨p5, 0, none⟩)) (hx7 : xs 7 = .pointer (some ⟨p7, 0, none⟩)) (hx9 : xs 9 = .pointer (some ⟨p9, 0, none⟩)) (hx11 : xs 11 = .pointer (some ⟨p11, 0, none⟩)) (hx4 : xs 4 = .int .i64 2) (hx6 : xs 6 = .int .i64 2) (hx8 : xs 8 = .int .i64 2) (hx10 : xs 10 = .int .i64 2) (hx12 : xs 12 = .int .i64 2) : OpStep Tryz.prog vn9Ops Q (vn9F p2 p3 p5 p7 p9 p11 k n s) w0 245 xs 11 := by
  intro act w hb hk hF
  have g74 : act.eval (.tmp 74) = .bool false := hF 8 (of_decide_eq_true (by kernel_rfl)) 74 (by kernel_rfl)
  have g75 : act.eval (.tmp 75) = vv 0 0 ⟨#[]⟩ := hF 9 (of_decide_eq_true (by kernel_rfl)) 75 (by kernel_rfl)
  have g76 : act.eval (.tmp 76) = .int .i64 2 := hF 10 (of_decide_eq_true (by kernel_rfl)) 76 (by kernel_rfl)
  exact step_call (f := 18) (xs := #[.tmp 75, .tmp 76, .const (.int .i64 2)]) (by kernel_rfl) (.told 8 false 74 (by kernel_rfl) (by kernel_rfl) g74) (map3 g75 g76 rfl) (enters_of Tryz.func18 (by kernel_rfl) rfl) ((errs_yes 2 w).mono fun e w' h => ⟨_, h.1, rfl, h.2⟩)

theorem vn9_s12 {Q : Exit → Act → World → Prop} {w0 : World} {xs : Nat → Value} (p2 p3 p5 p7 p9 p11 : Nat) (k n : Int) (s : ByteArray) (hb2 : BoxOn w0 p2 k n s) (hb3 : BoxOn w0 p3 0 0 ⟨#[]⟩) (hb5 : BoxOn w0 p5 0 0 ⟨#[]⟩) (hb7 : BoxOn w0 p7 0 0 ⟨#[]⟩) (hb9 : BoxOn w0 p9 0 0 ⟨#[]⟩) (hb11 : BoxOn w0 p11 0 0 ⟨#[]⟩) (cr : NotRt k n s) (hx2 : xs 2 = .pointer (some ⟨p2, 0, none⟩)) (hx3 : xs 3 = .pointer (some ⟨p3, 0, none⟩)) (hx5 : xs 5 = .pointer (some ⟨p5, 0, none⟩)) (hx7 : xs 7 = .pointer (some ⟨p7, 0, none⟩)) (hx9 : xs 9 = .pointer (some ⟨p9, 0, none⟩)) (hx11 : xs 11 = .pointer (some ⟨p11, 0, none⟩)) (hx4 : xs 4 = .int .i64 2) (hx6 : xs 6 = .int .i64 2) (hx8 : xs 8 = .int .i64 2) (hx10 : xs 10 = .int .i64 2) (hx12 : xs 12 = .int .i64 2) : OpStep Tryz.prog vn9Ops Q (vn9F p2 p3 p5 p7 p9 p11 k n s) w0 245 xs 12 := by
  intro act w hb hk hF
  have g74 : act.eval (.tmp 74) = .bool false := hF 8 (of_decide_eq_true (by kernel_rfl)) 74 (by kernel_rfl)
  have g77 : act.eval (.tmp 77) = .bool true := hF 11 (of_decide_eq_true (by kernel_rfl)) 77 (by kernel_rfl)
  exact step_not (show opO vn9Ops 12 = some (.unOp .not 4 (.tmp 77)) by kernel_rfl) (.told 8 false 74 (by kernel_rfl) (by kernel_rfl) g74) g77 rfl ⟨rfl, Below.refl _ _⟩

theorem vn9_s13 {Q : Exit → Act → World → Prop} {w0 : World} {xs : Nat → Value} (p2 p3 p5 p7 p9 p11 : Nat) (k n : Int) (s : ByteArray) (hb2 : BoxOn w0 p2 k n s) (hb3 : BoxOn w0 p3 0 0 ⟨#[]⟩) (hb5 : BoxOn w0 p5 0 0 ⟨#[]⟩) (hb7 : BoxOn w0 p7 0 0 ⟨#[]⟩) (hb9 : BoxOn w0 p9 0 0 ⟨#[]⟩) (hb11 : BoxOn w0 p11 0 0 ⟨#[]⟩) (cr : NotRt k n s) (hx2 : xs 2 = .pointer (some ⟨p2, 0, none⟩)) (hx3 : xs 3 = .pointer (some ⟨p3, 0, none⟩)) (hx5 : xs 5 = .pointer (some ⟨p5, 0, none⟩)) (hx7 : xs 7 = .pointer (some ⟨p7, 0, none⟩)) (hx9 : xs 9 = .pointer (some ⟨p9, 0, none⟩)) (hx11 : xs 11 = .pointer (some ⟨p11, 0, none⟩)) (hx4 : xs 4 = .int .i64 2) (hx6 : xs 6 = .int .i64 2) (hx8 : xs 8 = .int .i64 2) (hx10 : xs 10 = .int .i64 2) (hx12 : xs 12 = .int .i64 2) : OpStep Tryz.prog vn9Ops Q (vn9F p2 p3 p5 p7 p9 p11 k n s) w0 245 xs 13 := by
  intro act w hb hk hF
  have g74 : act.eval (.tmp 74) = .bool false := hF 8 (of_decide_eq_true (by kernel_rfl)) 74 (by kernel_rfl)
  have g78 : act.eval (.tmp 78) = .bool false := hF 12 (of_decide_eq_true (by kernel_rfl)) 78 (by kernel_rfl)
  exact step_pickF (show opO vn9Ops 13 = some (.pick (.tmp 74) (.const (.bool true)) (.tmp 78)) by kernel_rfl) (.free (by kernel_rfl)) g74 g78 ⟨rfl, Below.refl _ _⟩

theorem vn9_s14 {Q : Exit → Act → World → Prop} {w0 : World} {xs : Nat → Value} (p2 p3 p5 p7 p9 p11 : Nat) (k n : Int) (s : ByteArray) (hb2 : BoxOn w0 p2 k n s) (hb3 : BoxOn w0 p3 0 0 ⟨#[]⟩) (hb5 : BoxOn w0 p5 0 0 ⟨#[]⟩) (hb7 : BoxOn w0 p7 0 0 ⟨#[]⟩) (hb9 : BoxOn w0 p9 0 0 ⟨#[]⟩) (hb11 : BoxOn w0 p11 0 0 ⟨#[]⟩) (cr : NotRt k n s) (hx2 : xs 2 = .pointer (some ⟨p2, 0, none⟩)) (hx3 : xs 3 = .pointer (some ⟨p3, 0, none⟩)) (hx5 : xs 5 = .pointer (some ⟨p5, 0, none⟩)) (hx7 : xs 7 = .pointer (some ⟨p7, 0, none⟩)) (hx9 : xs 9 = .pointer (some ⟨p9, 0, none⟩)) (hx11 : xs 11 = .pointer (some ⟨p11, 0, none⟩)) (hx4 : xs 4 = .int .i64 2) (hx6 : xs 6 = .int .i64 2) (hx8 : xs 8 = .int .i64 2) (hx10 : xs 10 = .int .i64 2) (hx12 : xs 12 = .int .i64 2) : OpStep Tryz.prog vn9Ops Q (vn9F p2 p3 p5 p7 p9 p11 k n s) w0 245 xs 14 := by
  intro act w hb hk hF
  have g79 : act.eval (.tmp 79) = .bool false := hF 13 (of_decide_eq_true (by kernel_rfl)) 79 (by kernel_rfl)
  exact step_move (show opO vn9Ops 14 = some (.move (.tmp 79)) by kernel_rfl) (.free (by kernel_rfl)) g79 ⟨rfl, Below.refl _ _⟩

theorem vn9_s15 {Q : Exit → Act → World → Prop} {w0 : World} {xs : Nat → Value} (p2 p3 p5 p7 p9 p11 : Nat) (k n : Int) (s : ByteArray) (hb2 : BoxOn w0 p2 k n s) (hb3 : BoxOn w0 p3 0 0 ⟨#[]⟩) (hb5 : BoxOn w0 p5 0 0 ⟨#[]⟩) (hb7 : BoxOn w0 p7 0 0 ⟨#[]⟩) (hb9 : BoxOn w0 p9 0 0 ⟨#[]⟩) (hb11 : BoxOn w0 p11 0 0 ⟨#[]⟩) (cr : NotRt k n s) (hx2 : xs 2 = .pointer (some ⟨p2, 0, none⟩)) (hx3 : xs 3 = .pointer (some ⟨p3, 0, none⟩)) (hx5 : xs 5 = .pointer (some ⟨p5, 0, none⟩)) (hx7 : xs 7 = .pointer (some ⟨p7, 0, none⟩)) (hx9 : xs 9 = .pointer (some ⟨p9, 0, none⟩)) (hx11 : xs 11 = .pointer (some ⟨p11, 0, none⟩)) (hx4 : xs 4 = .int .i64 2) (hx6 : xs 6 = .int .i64 2) (hx8 : xs 8 = .int .i64 2) (hx10 : xs 10 = .int .i64 2) (hx12 : xs 12 = .int .i64 2) : OpStep Tryz.prog vn9Ops Q (vn9F p2 p3 p5 p7 p9 p11 k n s) w0 245 xs 15 := by
  intro act w hb hk hF
  have g80 : act.eval (.tmp 80) = .bool false := hF 14 (of_decide_eq_true (by kernel_rfl)) 80 (by kernel_rfl)
  have g7 : act.eval (.tmp 7) = .pointer (some ⟨p7, 0, none⟩) := (hk 7 (by decide) (by kernel_rfl)).trans hx7
  exact step_loadB (show opO vn9Ops 15 = some (.load 24 (.tmp 7)) by kernel_rfl) (.told 14 false 80 (by kernel_rfl) (by kernel_rfl) g80) g7 (hb7 w hb) ⟨rfl, Below.refl _ _⟩

theorem vn9_s16 {Q : Exit → Act → World → Prop} {w0 : World} {xs : Nat → Value} (p2 p3 p5 p7 p9 p11 : Nat) (k n : Int) (s : ByteArray) (hb2 : BoxOn w0 p2 k n s) (hb3 : BoxOn w0 p3 0 0 ⟨#[]⟩) (hb5 : BoxOn w0 p5 0 0 ⟨#[]⟩) (hb7 : BoxOn w0 p7 0 0 ⟨#[]⟩) (hb9 : BoxOn w0 p9 0 0 ⟨#[]⟩) (hb11 : BoxOn w0 p11 0 0 ⟨#[]⟩) (cr : NotRt k n s) (hx2 : xs 2 = .pointer (some ⟨p2, 0, none⟩)) (hx3 : xs 3 = .pointer (some ⟨p3, 0, none⟩)) (hx5 : xs 5 = .pointer (some ⟨p5, 0, none⟩)) (hx7 : xs 7 = .pointer (some ⟨p7, 0, none⟩)) (hx9 : xs 9 = .pointer (some ⟨p9, 0, none⟩)) (hx11 : xs 11 = .pointer (some ⟨p11, 0, none⟩)) (hx4 : xs 4 = .int .i64 2) (hx6 : xs 6 = .int .i64 2) (hx8 : xs 8 = .int .i64 2) (hx10 : xs 10 = .int .i64 2) (hx12 : xs 12 = .int .i64 2) : OpStep Tryz.prog vn9Ops Q (vn9F p2 p3 p5 p7 p9 p11 k n s) w0 245 xs 16 := by
  intro act w hb hk hF
  have g80 : act.eval (.tmp 80) = .bool false := hF 14 (of_decide_eq_true (by kernel_rfl)) 80 (by kernel_rfl)
  have g8 : act.eval (.tmp 8) = .int .i64 2 := (hk 8 (by decide) (by kernel_rfl)).trans hx8
  exact step_move (show opO vn9Ops 16 = some (.move (.tmp 8)) by kernel_rfl) (.told 14 false 80 (by kernel_rfl) (by kernel_rfl) g80) g8 ⟨rfl, Below.refl _ _⟩

theorem vn9_s17 {Q : Exit → Act → World → Prop} {w0 : World} {xs : Nat → Value} (p2 p3 p5 p7 p9 p11 : Nat) (k n : Int) (s : ByteArray) (hb2 : BoxOn w0 p2 k n s) (hb3 : BoxOn w0 p3 0 0 ⟨#[]⟩) (hb5 : BoxOn w0 p5 0 0 ⟨#[]⟩) (hb7 : BoxOn w0 p7 0 0 ⟨#[]⟩) (hb9 : BoxOn w0 p9 0 0 ⟨#[]⟩) (hb11 : BoxOn w0 p11 0 0 ⟨#[]⟩) (cr : NotRt k n s) (hx2 : xs 2 = .pointer (some ⟨p2, 0, none⟩)) (hx3 : xs 3 = .pointer (some ⟨p3, 0, none⟩)) (hx5 : xs 5 = .pointer (some ⟨p5, 0, none⟩)) (hx7 : xs 7 = .pointer (some ⟨p7, 0, none⟩)) (hx9 : xs 9 = .pointer (some ⟨p9, 0, none⟩)) (hx11 : xs 11 = .pointer (some ⟨p11, 0, none⟩)) (hx4 : xs 4 = .int .i64 2) (hx6 : xs 6 = .int .i64 2) (hx8 : xs 8 = .int .i64 2) (hx10 : xs 10 = .int .i64 2) (hx12 : xs 12 = .int .i64 2) : OpStep Tryz.prog vn9Ops Q (vn9F p2 p3 p5 p7 p9 p11 k n s) w0 245 xs 17 := by
  intro act w hb hk hF
  have g80 : act.eval (.tmp 80) = .bool false := hF 14 (of_decide_eq_true (by kernel_rfl)) 80 (by kernel_rfl)
  have g81 : act.eval (.tmp 81) = vv 0 0 ⟨#[]⟩ := hF 15 (of_decide_eq_true (by kernel_rfl)) 81 (by kernel_rfl)
  have g82 : act.eval (.tmp 82) = .int .i64 2 := hF 16 (of_decide_eq_true (by kernel_rfl)) 82 (by kernel_rfl)
  exact step_call (f := 18) (xs := #[.tmp 81, .tmp 82, .const (.int .i64 2)]) (by kernel_rfl) (.told 14 false 80 (by kernel_rfl) (by kernel_rfl) g80) (map3 g81 g82 rfl) (enters_of Tryz.func18 (by kernel_rfl) rfl) ((errs_yes 2 w).mono fun e w' h => ⟨_, h.1, rfl, h.2⟩)

theorem vn9_s18 {Q : Exit → Act → World → Prop} {w0 : World} {xs : Nat → Value} (p2 p3 p5 p7 p9 p11 : Nat) (k n : Int) (s : ByteArray) (hb2 : BoxOn w0 p2 k n s) (hb3 : BoxOn w0 p3 0 0 ⟨#[]⟩) (hb5 : BoxOn w0 p5 0 0 ⟨#[]⟩) (hb7 : BoxOn w0 p7 0 0 ⟨#[]⟩) (hb9 : BoxOn w0 p9 0 0 ⟨#[]⟩) (hb11 : BoxOn w0 p11 0 0 ⟨#[]⟩) (cr : NotRt k n s) (hx2 : xs 2 = .pointer (some ⟨p2, 0, none⟩)) (hx3 : xs 3 = .pointer (some ⟨p3, 0, none⟩)) (hx5 : xs 5 = .pointer (some ⟨p5, 0, none⟩)) (hx7 : xs 7 = .pointer (some ⟨p7, 0, none⟩)) (hx9 : xs 9 = .pointer (some ⟨p9, 0, none⟩)) (hx11 : xs 11 = .pointer (some ⟨p11, 0, none⟩)) (hx4 : xs 4 = .int .i64 2) (hx6 : xs 6 = .int .i64 2) (hx8 : xs 8 = .int .i64 2) (hx10 : xs 10 = .int .i64 2) (hx12 : xs 12 = .int .i64 2) : OpStep Tryz.prog vn9Ops Q (vn9F p2 p3 p5 p7 p9 p11 k n s) w0 245 xs 18 := by
  intro act w hb hk hF
  have g80 : act.eval (.tmp 80) = .bool false := hF 14 (of_decide_eq_true (by kernel_rfl)) 80 (by kernel_rfl)
  have g83 : act.eval (.tmp 83) = .bool true := hF 17 (of_decide_eq_true (by kernel_rfl)) 83 (by kernel_rfl)
  exact step_not (show opO vn9Ops 18 = some (.unOp .not 4 (.tmp 83)) by kernel_rfl) (.told 14 false 80 (by kernel_rfl) (by kernel_rfl) g80) g83 rfl ⟨rfl, Below.refl _ _⟩

theorem vn9_s19 {Q : Exit → Act → World → Prop} {w0 : World} {xs : Nat → Value} (p2 p3 p5 p7 p9 p11 : Nat) (k n : Int) (s : ByteArray) (hb2 : BoxOn w0 p2 k n s) (hb3 : BoxOn w0 p3 0 0 ⟨#[]⟩) (hb5 : BoxOn w0 p5 0 0 ⟨#[]⟩) (hb7 : BoxOn w0 p7 0 0 ⟨#[]⟩) (hb9 : BoxOn w0 p9 0 0 ⟨#[]⟩) (hb11 : BoxOn w0 p11 0 0 ⟨#[]⟩) (cr : NotRt k n s) (hx2 : xs 2 = .pointer (some ⟨p2, 0, none⟩)) (hx3 : xs 3 = .pointer (some ⟨p3, 0, none⟩)) (hx5 : xs 5 = .pointer (some ⟨p5, 0, none⟩)) (hx7 : xs 7 = .pointer (some ⟨p7, 0, none⟩)) (hx9 : xs 9 = .pointer (some ⟨p9, 0, none⟩)) (hx11 : xs 11 = .pointer (some ⟨p11, 0, none⟩)) (hx4 : xs 4 = .int .i64 2) (hx6 : xs 6 = .int .i64 2) (hx8 : xs 8 = .int .i64 2) (hx10 : xs 10 = .int .i64 2) (hx12 : xs 12 = .int .i64 2) : OpStep Tryz.prog vn9Ops Q (vn9F p2 p3 p5 p7 p9 p11 k n s) w0 245 xs 19 := by
  intro act w hb hk hF
  have g80 : act.eval (.tmp 80) = .bool false := hF 14 (of_decide_eq_true (by kernel_rfl)) 80 (by kernel_rfl)
  have g84 : act.eval (.tmp 84) = .bool false := hF 18 (of_decide_eq_true (by kernel_rfl)) 84 (by kernel_rfl)
  exact step_pickF (show opO vn9Ops 19 = some (.pick (.tmp 80) (.const (.bool true)) (.tmp 84)) by kernel_rfl) (.free (by kernel_rfl)) g80 g84 ⟨rfl, Below.refl _ _⟩

theorem vn9_s20 {Q : Exit → Act → World → Prop} {w0 : World} {xs : Nat → Value} (p2 p3 p5 p7 p9 p11 : Nat) (k n : Int) (s : ByteArray) (hb2 : BoxOn w0 p2 k n s) (hb3 : BoxOn w0 p3 0 0 ⟨#[]⟩) (hb5 : BoxOn w0 p5 0 0 ⟨#[]⟩) (hb7 : BoxOn w0 p7 0 0 ⟨#[]⟩) (hb9 : BoxOn w0 p9 0 0 ⟨#[]⟩) (hb11 : BoxOn w0 p11 0 0 ⟨#[]⟩) (cr : NotRt k n s) (hx2 : xs 2 = .pointer (some ⟨p2, 0, none⟩)) (hx3 : xs 3 = .pointer (some ⟨p3, 0, none⟩)) (hx5 : xs 5 = .pointer (some ⟨p5, 0, none⟩)) (hx7 : xs 7 = .pointer (some ⟨p7, 0, none⟩)) (hx9 : xs 9 = .pointer (some ⟨p9, 0, none⟩)) (hx11 : xs 11 = .pointer (some ⟨p11, 0, none⟩)) (hx4 : xs 4 = .int .i64 2) (hx6 : xs 6 = .int .i64 2) (hx8 : xs 8 = .int .i64 2) (hx10 : xs 10 = .int .i64 2) (hx12 : xs 12 = .int .i64 2) : OpStep Tryz.prog vn9Ops Q (vn9F p2 p3 p5 p7 p9 p11 k n s) w0 245 xs 20 := by
  intro act w hb hk hF
  have g85 : act.eval (.tmp 85) = .bool false := hF 19 (of_decide_eq_true (by kernel_rfl)) 85 (by kernel_rfl)
  exact step_move (show opO vn9Ops 20 = some (.move (.tmp 85)) by kernel_rfl) (.free (by kernel_rfl)) g85 ⟨rfl, Below.refl _ _⟩

theorem vn9_s21 {Q : Exit → Act → World → Prop} {w0 : World} {xs : Nat → Value} (p2 p3 p5 p7 p9 p11 : Nat) (k n : Int) (s : ByteArray) (hb2 : BoxOn w0 p2 k n s) (hb3 : BoxOn w0 p3 0 0 ⟨#[]⟩) (hb5 : BoxOn w0 p5 0 0 ⟨#[]⟩) (hb7 : BoxOn w0 p7 0 0 ⟨#[]⟩) (hb9 : BoxOn w0 p9 0 0 ⟨#[]⟩) (hb11 : BoxOn w0 p11 0 0 ⟨#[]⟩) (cr : NotRt k n s) (hx2 : xs 2 = .pointer (some ⟨p2, 0, none⟩)) (hx3 : xs 3 = .pointer (some ⟨p3, 0, none⟩)) (hx5 : xs 5 = .pointer (some ⟨p5, 0, none⟩)) (hx7 : xs 7 = .pointer (some ⟨p7, 0, none⟩)) (hx9 : xs 9 = .pointer (some ⟨p9, 0, none⟩)) (hx11 : xs 11 = .pointer (some ⟨p11, 0, none⟩)) (hx4 : xs 4 = .int .i64 2) (hx6 : xs 6 = .int .i64 2) (hx8 : xs 8 = .int .i64 2) (hx10 : xs 10 = .int .i64 2) (hx12 : xs 12 = .int .i64 2) : OpStep Tryz.prog vn9Ops Q (vn9F p2 p3 p5 p7 p9 p11 k n s) w0 245 xs 21 := by
  intro act w hb hk hF
  have g86 : act.eval (.tmp 86) = .bool false := hF 20 (of_decide_eq_true (by kernel_rfl)) 86 (by kernel_rfl)
  have g9 : act.eval (.tmp 9) = .pointer (some ⟨p9, 0, none⟩) := (hk 9 (by decide) (by kernel_rfl)).trans hx9
  exact step_loadB (show opO vn9Ops 21 = some (.load 24 (.tmp 9)) by kernel_rfl) (.told 20 false 86 (by kernel_rfl) (by kernel_rfl) g86) g9 (hb9 w hb) ⟨rfl, Below.refl _ _⟩

theorem vn9_s22 {Q : Exit → Act → World → Prop} {w0 : World} {xs : Nat → Value} (p2 p3 p5 p7 p9 p11 : Nat) (k n : Int) (s : ByteArray) (hb2 : BoxOn w0 p2 k n s) (hb3 : BoxOn w0 p3 0 0 ⟨#[]⟩) (hb5 : BoxOn w0 p5 0 0 ⟨#[]⟩) (hb7 : BoxOn w0 p7 0 0 ⟨#[]⟩) (hb9 : BoxOn w0 p9 0 0 ⟨#[]⟩) (hb11 : BoxOn w0 p11 0 0 ⟨#[]⟩) (cr : NotRt k n s) (hx2 : xs 2 = .pointer (some ⟨p2, 0, none⟩)) (hx3 : xs 3 = .pointer (some ⟨p3, 0, none⟩)) (hx5 : xs 5 = .pointer (some ⟨p5, 0, none⟩)) (hx7 : xs 7 = .pointer (some ⟨p7, 0, none⟩)) (hx9 : xs 9 = .pointer (some ⟨p9, 0, none⟩)) (hx11 : xs 11 = .pointer (some ⟨p11, 0, none⟩)) (hx4 : xs 4 = .int .i64 2) (hx6 : xs 6 = .int .i64 2) (hx8 : xs 8 = .int .i64 2) (hx10 : xs 10 = .int .i64 2) (hx12 : xs 12 = .int .i64 2) : OpStep Tryz.prog vn9Ops Q (vn9F p2 p3 p5 p7 p9 p11 k n s) w0 245 xs 22 := by
  intro act w hb hk hF
  have g86 : act.eval (.tmp 86) = .bool false := hF 20 (of_decide_eq_true (by kernel_rfl)) 86 (by kernel_rfl)
  have g10 : act.eval (.tmp 10) = .int .i64 2 := (hk 10 (by decide) (by kernel_rfl)).trans hx10
  exact step_move (show opO vn9Ops 22 = some (.move (.tmp 10)) by kernel_rfl) (.told 20 false 86 (by kernel_rfl) (by kernel_rfl) g86) g10 ⟨rfl, Below.refl _ _⟩

theorem vn9_s23 {Q : Exit → Act → World → Prop} {w0 : World} {xs : Nat → Value} (p2 p3 p5 p7 p9 p11 : Nat) (k n : Int) (s : ByteArray) (hb2 : BoxOn w0 p2 k n s) (hb3 : BoxOn w0 p3 0 0 ⟨#[]⟩) (hb5 : BoxOn w0 p5 0 0 ⟨#[]⟩) (hb7 : BoxOn w0 p7 0 0 ⟨#[]⟩) (hb9 : BoxOn w0 p9 0 0 ⟨#[]⟩) (hb11 : BoxOn w0 p11 0 0 ⟨#[]⟩) (cr : NotRt k n s) (hx2 : xs 2 = .pointer (some ⟨p2, 0, none⟩)) (hx3 : xs 3 = .pointer (some ⟨p3, 0, none⟩)) (hx5 : xs 5 = .pointer (some ⟨p5, 0, none⟩)) (hx7 : xs 7 = .pointer (some ⟨p7, 0, none⟩)) (hx9 : xs 9 = .pointer (some ⟨p9, 0, none⟩)) (hx11 : xs 11 = .pointer (some ⟨p11, 0, none⟩)) (hx4 : xs 4 = .int .i64 2) (hx6 : xs 6 = .int .i64 2) (hx8 : xs 8 = .int .i64 2) (hx10 : xs 10 = .int .i64 2) (hx12 : xs 12 = .int .i64 2) : OpStep Tryz.prog vn9Ops Q (vn9F p2 p3 p5 p7 p9 p11 k n s) w0 245 xs 23 := by
  intro act w hb hk hF
  have g86 : act.eval (.tmp 86) = .bool false := hF 20 (of_decide_eq_true (by kernel_rfl)) 86 (by kernel_rfl)
  have g87 : act.eval (.tmp 87) = vv 0 0 ⟨#[]⟩ := hF 21 (of_decide_eq_true (by kernel_rfl)) 87 (by kernel_rfl)
  have g88 : act.eval (.tmp 88) = .int .i64 2 := hF 22 (of_decide_eq_true (by kernel_rfl)) 88 (by kernel_rfl)
  exact step_call (f := 18) (xs := #[.tmp 87, .tmp 88, .const (.int .i64 2)]) (by kernel_rfl) (.told 20 false 86 (by kernel_rfl) (by kernel_rfl) g86) (map3 g87 g88 rfl) (enters_of Tryz.func18 (by kernel_rfl) rfl) ((errs_yes 2 w).mono fun e w' h => ⟨_, h.1, rfl, h.2⟩)

theorem vn9_s24 {Q : Exit → Act → World → Prop} {w0 : World} {xs : Nat → Value} (p2 p3 p5 p7 p9 p11 : Nat) (k n : Int) (s : ByteArray) (hb2 : BoxOn w0 p2 k n s) (hb3 : BoxOn w0 p3 0 0 ⟨#[]⟩) (hb5 : BoxOn w0 p5 0 0 ⟨#[]⟩) (hb7 : BoxOn w0 p7 0 0 ⟨#[]⟩) (hb9 : BoxOn w0 p9 0 0 ⟨#[]⟩) (hb11 : BoxOn w0 p11 0 0 ⟨#[]⟩) (cr : NotRt k n s) (hx2 : xs 2 = .pointer (some ⟨p2, 0, none⟩)) (hx3 : xs 3 = .pointer (some ⟨p3, 0, none⟩)) (hx5 : xs 5 = .pointer (some ⟨p5, 0, none⟩)) (hx7 : xs 7 = .pointer (some ⟨p7, 0, none⟩)) (hx9 : xs 9 = .pointer (some ⟨p9, 0, none⟩)) (hx11 : xs 11 = .pointer (some ⟨p11, 0, none⟩)) (hx4 : xs 4 = .int .i64 2) (hx6 : xs 6 = .int .i64 2) (hx8 : xs 8 = .int .i64 2) (hx10 : xs 10 = .int .i64 2) (hx12 : xs 12 = .int .i64 2) : OpStep Tryz.prog vn9Ops Q (vn9F p2 p3 p5 p7 p9 p11 k n s) w0 245 xs 24 := by
  intro act w hb hk hF
  have g86 : act.eval (.tmp 86) = .bool false := hF 20 (of_decide_eq_true (by kernel_rfl)) 86 (by kernel_rfl)
  have g89 : act.eval (.tmp 89) = .bool true := hF 23 (of_decide_eq_true (by kernel_rfl)) 89 (by kernel_rfl)
  exact step_not (show opO vn9Ops 24 = some (.unOp .not 4 (.tmp 89)) by kernel_rfl) (.told 20 false 86 (by kernel_rfl) (by kernel_rfl) g86) g89 rfl ⟨rfl, Below.refl _ _⟩

theorem vn9_s25 {Q : Exit → Act → World → Prop} {w0 : World} {xs : Nat → Value} (p2 p3 p5 p7 p9 p11 : Nat) (k n : Int) (s : ByteArray) (hb2 : BoxOn w0 p2 k n s) (hb3 : BoxOn w0 p3 0 0 ⟨#[]⟩) (hb5 : BoxOn w0 p5 0 0 ⟨#[]⟩) (hb7 : BoxOn w0 p7 0 0 ⟨#[]⟩) (hb9 : BoxOn w0 p9 0 0 ⟨#[]⟩) (hb11 : BoxOn w0 p11 0 0 ⟨#[]⟩) (cr : NotRt k n s) (hx2 : xs 2 = .pointer (some ⟨p2, 0, none⟩)) (hx3 : xs 3 = .pointer (some ⟨p3, 0, none⟩)) (hx5 : xs 5 = .pointer (some ⟨p5, 0, none⟩)) (hx7 : xs 7 = .pointer (some ⟨p7, 0, none⟩)) (hx9 : xs 9 = .pointer (some ⟨p9, 0, none⟩)) (hx11 : xs 11 = .pointer (some ⟨p11, 0, none⟩)) (hx4 : xs 4 = .int .i64 2) (hx6 : xs 6 = .int .i64 2) (hx8 : xs 8 = .int .i64 2) (hx10 : xs 10 = .int .i64 2) (hx12 : xs 12 = .int .i64 2) : OpStep Tryz.prog vn9Ops Q (vn9F p2 p3 p5 p7 p9 p11 k n s) w0 245 xs 25 := by
  intro act w hb hk hF
  have g86 : act.eval (.tmp 86) = .bool false := hF 20 (of_decide_eq_true (by kernel_rfl)) 86 (by kernel_rfl)
  have g90 : act.eval (.tmp 90) = .bool false := hF 24 (of_decide_eq_true (by kernel_rfl)) 90 (by kernel_rfl)
  exact step_pickF (show opO vn9Ops 25 = some (.pick (.tmp 86) (.const (.bool true)) (.tmp 90)) by kernel_rfl) (.free (by kernel_rfl)) g86 g90 ⟨rfl, Below.refl _ _⟩

theorem vn9_s26 {Q : Exit → Act → World → Prop} {w0 : World} {xs : Nat → Value} (p2 p3 p5 p7 p9 p11 : Nat) (k n : Int) (s : ByteArray) (hb2 : BoxOn w0 p2 k n s) (hb3 : BoxOn w0 p3 0 0 ⟨#[]⟩) (hb5 : BoxOn w0 p5 0 0 ⟨#[]⟩) (hb7 : BoxOn w0 p7 0 0 ⟨#[]⟩) (hb9 : BoxOn w0 p9 0 0 ⟨#[]⟩) (hb11 : BoxOn w0 p11 0 0 ⟨#[]⟩) (cr : NotRt k n s) (hx2 : xs 2 = .pointer (some ⟨p2, 0, none⟩)) (hx3 : xs 3 = .pointer (some ⟨p3, 0, none⟩)) (hx5 : xs 5 = .pointer (some ⟨p5, 0, none⟩)) (hx7 : xs 7 = .pointer (some ⟨p7, 0, none⟩)) (hx9 : xs 9 = .pointer (some ⟨p9, 0, none⟩)) (hx11 : xs 11 = .pointer (some ⟨p11, 0, none⟩)) (hx4 : xs 4 = .int .i64 2) (hx6 : xs 6 = .int .i64 2) (hx8 : xs 8 = .int .i64 2) (hx10 : xs 10 = .int .i64 2) (hx12 : xs 12 = .int .i64 2) : OpStep Tryz.prog vn9Ops Q (vn9F p2 p3 p5 p7 p9 p11 k n s) w0 245 xs 26 := by
  intro act w hb hk hF
  have g91 : act.eval (.tmp 91) = .bool false := hF 25 (of_decide_eq_true (by kernel_rfl)) 91 (by kernel_rfl)
  exact step_move (show opO vn9Ops 26 = some (.move (.tmp 91)) by kernel_rfl) (.free (by kernel_rfl)) g91 ⟨rfl, Below.refl _ _⟩

theorem vn9_s27 {Q : Exit → Act → World → Prop} {w0 : World} {xs : Nat → Value} (p2 p3 p5 p7 p9 p11 : Nat) (k n : Int) (s : ByteArray) (hb2 : BoxOn w0 p2 k n s) (hb3 : BoxOn w0 p3 0 0 ⟨#[]⟩) (hb5 : BoxOn w0 p5 0 0 ⟨#[]⟩) (hb7 : BoxOn w0 p7 0 0 ⟨#[]⟩) (hb9 : BoxOn w0 p9 0 0 ⟨#[]⟩) (hb11 : BoxOn w0 p11 0 0 ⟨#[]⟩) (cr : NotRt k n s) (hx2 : xs 2 = .pointer (some ⟨p2, 0, none⟩)) (hx3 : xs 3 = .pointer (some ⟨p3, 0, none⟩)) (hx5 : xs 5 = .pointer (some ⟨p5, 0, none⟩)) (hx7 : xs 7 = .pointer (some ⟨p7, 0, none⟩)) (hx9 : xs 9 = .pointer (some ⟨p9, 0, none⟩)) (hx11 : xs 11 = .pointer (some ⟨p11, 0, none⟩)) (hx4 : xs 4 = .int .i64 2) (hx6 : xs 6 = .int .i64 2) (hx8 : xs 8 = .int .i64 2) (hx10 : xs 10 = .int .i64 2) (hx12 : xs 12 = .int .i64 2) : OpStep Tryz.prog vn9Ops Q (vn9F p2 p3 p5 p7 p9 p11 k n s) w0 245 xs 27 := by
  intro act w hb hk hF
  have g92 : act.eval (.tmp 92) = .bool false := hF 26 (of_decide_eq_true (by kernel_rfl)) 92 (by kernel_rfl)
  have g11 : act.eval (.tmp 11) = .pointer (some ⟨p11, 0, none⟩) := (hk 11 (by decide) (by kernel_rfl)).trans hx11
  exact step_loadB (show opO vn9Ops 27 = some (.load 24 (.tmp 11)) by kernel_rfl) (.told 26 false 92 (by kernel_rfl) (by kernel_rfl) g92) g11 (hb11 w hb) ⟨rfl, Below.refl _ _⟩

theorem vn9_s28 {Q : Exit → Act → World → Prop} {w0 : World} {xs : Nat → Value} (p2 p3 p5 p7 p9 p11 : Nat) (k n : Int) (s : ByteArray) (hb2 : BoxOn w0 p2 k n s) (hb3 : BoxOn w0 p3 0 0 ⟨#[]⟩) (hb5 : BoxOn w0 p5 0 0 ⟨#[]⟩) (hb7 : BoxOn w0 p7 0 0 ⟨#[]⟩) (hb9 : BoxOn w0 p9 0 0 ⟨#[]⟩) (hb11 : BoxOn w0 p11 0 0 ⟨#[]⟩) (cr : NotRt k n s) (hx2 : xs 2 = .pointer (some ⟨p2, 0, none⟩)) (hx3 : xs 3 = .pointer (some ⟨p3, 0, none⟩)) (hx5 : xs 5 = .pointer (some ⟨p5, 0, none⟩)) (hx7 : xs 7 = .pointer (some ⟨p7, 0, none⟩)) (hx9 : xs 9 = .pointer (some ⟨p9, 0, none⟩)) (hx11 : xs 11 = .pointer (some ⟨p11, 0, none⟩)) (hx4 : xs 4 = .int .i64 2) (hx6 : xs 6 = .int .i64 2) (hx8 : xs 8 = .int .i64 2) (hx10 : xs 10 = .int .i64 2) (hx12 : xs 12 = .int .i64 2) : OpStep Tryz.prog vn9Ops Q (vn9F p2 p3 p5 p7 p9 p11 k n s) w0 245 xs 28 := by
  intro act w hb hk hF
  have g92 : act.eval (.tmp 92) = .bool false := hF 26 (of_decide_eq_true (by kernel_rfl)) 92 (by kernel_rfl)
  have g12 : act.eval (.tmp 12) = .int .i64 2 := (hk 12 (by decide) (by kernel_rfl)).trans hx12
  exact step_move (show opO vn9Ops 28 = some (.move (.tmp 12)) by kernel_rfl) (.told 26 false 92 (by kernel_rfl) (by kernel_rfl) g92) g12 ⟨rfl, Below.refl _ _⟩

theorem vn9_s29 {Q : Exit → Act → World → Prop} {w0 : World} {xs : Nat → Value} (p2 p3 p5 p7 p9 p11 : Nat) (k n : Int) (s : ByteArray) (hb2 : BoxOn w0 p2 k n s) (hb3 : BoxOn w0 p3 0 0 ⟨#[]⟩) (hb5 : BoxOn w0 p5 0 0 ⟨#[]⟩) (hb7 : BoxOn w0 p7 0 0 ⟨#[]⟩) (hb9 : BoxOn w0 p9 0 0 ⟨#[]⟩) (hb11 : BoxOn w0 p11 0 0 ⟨#[]⟩) (cr : NotRt k n s) (hx2 : xs 2 = .pointer (some ⟨p2, 0, none⟩)) (hx3 : xs 3 = .pointer (some ⟨p3, 0, none⟩)) (hx5 : xs 5 = .pointer (some ⟨p5, 0, none⟩)) (hx7 : xs 7 = .pointer (some ⟨p7, 0, none⟩)) (hx9 : xs 9 = .pointer (some ⟨p9, 0, none⟩)) (hx11 : xs 11 = .pointer (some ⟨p11, 0, none⟩)) (hx4 : xs 4 = .int .i64 2) (hx6 : xs 6 = .int .i64 2) (hx8 : xs 8 = .int .i64 2) (hx10 : xs 10 = .int .i64 2) (hx12 : xs 12 = .int .i64 2) : OpStep Tryz.prog vn9Ops Q (vn9F p2 p3 p5 p7 p9 p11 k n s) w0 245 xs 29 := by
  intro act w hb hk hF
  have g92 : act.eval (.tmp 92) = .bool false := hF 26 (of_decide_eq_true (by kernel_rfl)) 92 (by kernel_rfl)
  have g93 : act.eval (.tmp 93) = vv 0 0 ⟨#[]⟩ := hF 27 (of_decide_eq_true (by kernel_rfl)) 93 (by kernel_rfl)
  have g94 : act.eval (.tmp 94) = .int .i64 2 := hF 28 (of_decide_eq_true (by kernel_rfl)) 94 (by kernel_rfl)
  exact step_call (f := 18) (xs := #[.tmp 93, .tmp 94, .const (.int .i64 2)]) (by kernel_rfl) (.told 26 false 92 (by kernel_rfl) (by kernel_rfl) g92) (map3 g93 g94 rfl) (enters_of Tryz.func18 (by kernel_rfl) rfl) ((errs_yes 2 w).mono fun e w' h => ⟨_, h.1, rfl, h.2⟩)

theorem vn9_s30 {Q : Exit → Act → World → Prop} {w0 : World} {xs : Nat → Value} (p2 p3 p5 p7 p9 p11 : Nat) (k n : Int) (s : ByteArray) (hb2 : BoxOn w0 p2 k n s) (hb3 : BoxOn w0 p3 0 0 ⟨#[]⟩) (hb5 : BoxOn w0 p5 0 0 ⟨#[]⟩) (hb7 : BoxOn w0 p7 0 0 ⟨#[]⟩) (hb9 : BoxOn w0 p9 0 0 ⟨#[]⟩) (hb11 : BoxOn w0 p11 0 0 ⟨#[]⟩) (cr : NotRt k n s) (hx2 : xs 2 = .pointer (some ⟨p2, 0, none⟩)) (hx3 : xs 3 = .pointer (some ⟨p3, 0, none⟩)) (hx5 : xs 5 = .pointer (some ⟨p5, 0, none⟩)) (hx7 : xs 7 = .pointer (some ⟨p7, 0, none⟩)) (hx9 : xs 9 = .pointer (some ⟨p9, 0, none⟩)) (hx11 : xs 11 = .pointer (some ⟨p11, 0, none⟩)) (hx4 : xs 4 = .int .i64 2) (hx6 : xs 6 = .int .i64 2) (hx8 : xs 8 = .int .i64 2) (hx10 : xs 10 = .int .i64 2) (hx12 : xs 12 = .int .i64 2) : OpStep Tryz.prog vn9Ops Q (vn9F p2 p3 p5 p7 p9 p11 k n s) w0 245 xs 30 := by
  intro act w hb hk hF
  have g92 : act.eval (.tmp 92) = .bool false := hF 26 (of_decide_eq_true (by kernel_rfl)) 92 (by kernel_rfl)
  have g95 : act.eval (.tmp 95) = .bool true := hF 29 (of_decide_eq_true (by kernel_rfl)) 95 (by kernel_rfl)
  exact step_not (show opO vn9Ops 30 = some (.unOp .not 4 (.tmp 95)) by kernel_rfl) (.told 26 false 92 (by kernel_rfl) (by kernel_rfl) g92) g95 rfl ⟨rfl, Below.refl _ _⟩

theorem vn9_s31 {Q : Exit → Act → World → Prop} {w0 : World} {xs : Nat → Value} (p2 p3 p5 p7 p9 p11 : Nat) (k n : Int) (s : ByteArray) (hb2 : BoxOn w0 p2 k n s) (hb3 : BoxOn w0 p3 0 0 ⟨#[]⟩) (hb5 : BoxOn w0 p5 0 0 ⟨#[]⟩) (hb7 : BoxOn w0 p7 0 0 ⟨#[]⟩) (hb9 : BoxOn w0 p9 0 0 ⟨#[]⟩) (hb11 : BoxOn w0 p11 0 0 ⟨#[]⟩) (cr : NotRt k n s) (hx2 : xs 2 = .pointer (some ⟨p2, 0, none⟩)) (hx3 : xs 3 = .pointer (some ⟨p3, 0, none⟩)) (hx5 : xs 5 = .pointer (some ⟨p5, 0, none⟩)) (hx7 : xs 7 = .pointer (some ⟨p7, 0, none⟩)) (hx9 : xs 9 = .pointer (some ⟨p9, 0, none⟩)) (hx11 : xs 11 = .pointer (some ⟨p11, 0, none⟩)) (hx4 : xs 4 = .int .i64 2) (hx6 : xs 6 = .int .i64 2) (hx8 : xs 8 = .int .i64 2) (hx10 : xs 10 = .int .i64 2) (hx12 : xs 12 = .int .i64 2) : OpStep Tryz.prog vn9Ops Q (vn9F p2 p3 p5 p7 p9 p11 k n s) w0 245 xs 31 := by
  intro act w hb hk hF
  have g92 : act.eval (.tmp 92) = .bool false := hF 26 (of_decide_eq_true (by kernel_rfl)) 92 (by kernel_rfl)
  have g96 : act.eval (.tmp 96) = .bool false := hF 30 (of_decide_eq_true (by kernel_rfl)) 96 (by kernel_rfl)
  exact step_pickF (show opO vn9Ops 31 = some (.pick (.tmp 92) (.const (.bool true)) (.tmp 96)) by kernel_rfl) (.free (by kernel_rfl)) g92 g96 ⟨rfl, Below.refl _ _⟩

theorem vn9 {bb : Bool} {Q : Exit → Act → World → Prop} {a0 : Act} {w0 : World} (p2 p3 p5 p7 p9 p11 : Nat) (k n : Int) (s : ByteArray) (hb2 : BoxOn w0 p2 k n s) (hb3 : BoxOn w0 p3 0 0 ⟨#[]⟩) (hb5 : BoxOn w0 p5 0 0 ⟨#[]⟩) (hb7 : BoxOn w0 p7 0 0 ⟨#[]⟩) (hb9 : BoxOn w0 p9 0 0 ⟨#[]⟩) (hb11 : BoxOn w0 p11 0 0 ⟨#[]⟩) (cr : NotRt k n s) (hx2 : a0.tmps.getD 2 undef = .pointer (some ⟨p2, 0, none⟩)) (hx3 : a0.tmps.getD 3 undef = .pointer (some ⟨p3, 0, none⟩)) (hx5 : a0.tmps.getD 5 undef = .pointer (some ⟨p5, 0, none⟩)) (hx7 : a0.tmps.getD 7 undef = .pointer (some ⟨p7, 0, none⟩)) (hx9 : a0.tmps.getD 9 undef = .pointer (some ⟨p9, 0, none⟩)) (hx11 : a0.tmps.getD 11 undef = .pointer (some ⟨p11, 0, none⟩)) (hx4 : a0.tmps.getD 4 undef = .int .i64 2) (hx6 : a0.tmps.getD 6 undef = .int .i64 2) (hx8 : a0.tmps.getD 8 undef = .int .i64 2) (hx10 : a0.tmps.getD 10 undef = .int .i64 2) (hx12 : a0.tmps.getD 12 undef = .int .i64 2) (hs : a0.tmps.size = 245)
    (hend : ∀ (V : Nat → Value) (X : World), Below w0.heap.size w0 X → V 31 = .bool false → Q .normal ⟨fillT vn9Ops a0.tmps V, a0.defers⟩ X) : (Code.region 9 vn9Ops bb).wp Tryz.prog Q a0 w0 := by
  refine wp_region_both (by kernel_rfl) (vn9F p2 p3 p5 p7 p9 p11 k n s) (vn9F_mono p2 p3 p5 p7 p9 p11 k n s) (by rw [hs]; kernel_rfl) ?_ ?_
  · rw [hs]
    have size_is : vn9Ops.size = 32 := by kernel_rfl
    rw [size_is]
    have u1 : ∀ i, i < 1 → OpStep Tryz.prog vn9Ops Q (vn9F p2 p3 p5 p7 p9 p11 k n s) w0 245 (fun t => a0.tmps.getD t undef) i := upto_succ upto_zero (vn9_s0 p2 p3 p5 p7 p9 p11 k n s hb2 hb3 hb5 hb7 hb9 hb11 cr hx2 hx3 hx5 hx7 hx9 hx11 hx4 hx6 hx8 hx10 hx12)
    have u2 : ∀ i, i < 2 → OpStep Tryz.prog vn9Ops Q (vn9F p2 p3 p5 p7 p9 p11 k n s) w0 245 (fun t => a0.tmps.getD t undef) i := upto_succ u1 (vn9_s1 p2 p3 p5 p7 p9 p11 k n s hb2 hb3 hb5 hb7 hb9 hb11 cr hx2 hx3 hx5 hx7 hx9 hx11 hx4 hx6 hx8 hx10 hx12)
    have u3 : ∀ i, i < 3 → OpStep Tryz.prog vn9Ops Q (vn9F p2 p3 p5 p7 p9 p11 k n s) w0 245 (fun t => a0.tmps.getD t undef) i := upto_succ u2 (vn9_s2 p2 p3 p5 p7 p9 p11 k n s hb2 hb3 hb5 hb7 hb9 hb11 cr hx2 hx3 hx5 hx7 hx9 hx11 hx4 hx6 hx8 hx10 hx12)
    have u4 : ∀ i, i < 4 → OpStep Tryz.prog vn9Ops Q (vn9F p2 p3 p5 p7 p9 p11 k n s) w0 245 (fun t => a0.tmps.getD t undef) i := upto_succ u3 (vn9_s3 p2 p3 p5 p7 p9 p11 k n s hb2 hb3 hb5 hb7 hb9 hb11 cr hx2 hx3 hx5 hx7 hx9 hx11 hx4 hx6 hx8 hx10 hx12)
    have u5 : ∀ i, i < 5 → OpStep Tryz.prog vn9Ops Q (vn9F p2 p3 p5 p7 p9 p11 k n s) w0 245 (fun t => a0.tmps.getD t undef) i := upto_succ u4 (vn9_s4 p2 p3 p5 p7 p9 p11 k n s hb2 hb3 hb5 hb7 hb9 hb11 cr hx2 hx3 hx5 hx7 hx9 hx11 hx4 hx6 hx8 hx10 hx12)
    have u6 : ∀ i, i < 6 → OpStep Tryz.prog vn9Ops Q (vn9F p2 p3 p5 p7 p9 p11 k n s) w0 245 (fun t => a0.tmps.getD t undef) i := upto_succ u5 (vn9_s5 p2 p3 p5 p7 p9 p11 k n s hb2 hb3 hb5 hb7 hb9 hb11 cr hx2 hx3 hx5 hx7 hx9 hx11 hx4 hx6 hx8 hx10 hx12)
    have u7 : ∀ i, i < 7 → OpStep Tryz.prog vn9Ops Q (vn9F p2 p3 p5 p7 p9 p11 k n s) w0 245 (fun t => a0.tmps.getD t undef) i := upto_succ u6 (vn9_s6 p2 p3 p5 p7 p9 p11 k n s hb2 hb3 hb5 hb7 hb9 hb11 cr hx2 hx3 hx5 hx7 hx9 hx11 hx4 hx6 hx8 hx10 hx12)
    have u8 : ∀ i, i < 8 → OpStep Tryz.prog vn9Ops Q (vn9F p2 p3 p5 p7 p9 p11 k n s) w0 245 (fun t => a0.tmps.getD t undef) i := upto_succ u7 (vn9_s7 p2 p3 p5 p7 p9 p11 k n s hb2 hb3 hb5 hb7 hb9 hb11 cr hx2 hx3 hx5 hx7 hx9 hx11 hx4 hx6 hx8 hx10 hx12)
    have u9 : ∀ i, i < 9 → OpStep Tryz.prog vn9Ops Q (vn9F p2 p3 p5 p7 p9 p11 k n s) w0 245 (fun t => a0.tmps.getD t undef) i := upto_succ u8 (vn9_s8 p2 p3 p5 p7 p9 p11 k n s hb2 hb3 hb5 hb7 hb9 hb11 cr hx2 hx3 hx5 hx7 hx9 hx11 hx4 hx6 hx8 hx10 hx12)
    have u10 : ∀ i, i < 10 → OpStep Tryz.prog vn9Ops Q (vn9F p2 p3 p5 p7 p9 p11 k n s) w0 245 (fun t => a0.tmps.getD t undef) i := upto_succ u9 (vn9_s9 p2 p3 p5 p7 p9 p11 k n s hb2 hb3 hb5 hb7 hb9 hb11 cr hx2 hx3 hx5 hx7 hx9 hx11 hx4 hx6 hx8 hx10 hx12)
    have u11 : ∀ i, i < 11 → OpStep Tryz.prog vn9Ops Q (vn9F p2 p3 p5 p7 p9 p11 k n s) w0 245 (fun t => a0.tmps.getD t undef) i := upto_succ u10 (vn9_s10 p2 p3 p5 p7 p9 p11 k n s hb2 hb3 hb5 hb7 hb9 hb11 cr hx2 hx3 hx5 hx7 hx9 hx11 hx4 hx6 hx8 hx10 hx12)
    have u12 : ∀ i, i < 12 → OpStep Tryz.prog vn9Ops Q (vn9F p2 p3 p5 p7 p9 p11 k n s) w0 245 (fun t => a0.tmps.getD t undef) i := upto_succ u11 (vn9_s11 p2 p3 p5 p7 p9 p11 k n s hb2 hb3 hb5 hb7 hb9 hb11 cr hx2 hx3 hx5 hx7 hx9 hx11 hx4 hx6 hx8 hx10 hx12)
    have u13 : ∀ i, i < 13 → OpStep Tryz.prog vn9Ops Q (vn9F p2 p3 p5 p7 p9 p11 k n s) w0 245 (fun t => a0.tmps.getD t undef) i := upto_succ u12 (vn9_s12 p2 p3 p5 p7 p9 p11 k n s hb2 hb3 hb5 hb7 hb9 hb11 cr hx2 hx3 hx5 hx7 hx9 hx11 hx4 hx6 hx8 hx10 hx12)
    have u14 : ∀ i, i < 14 → OpStep Tryz.prog vn9Ops Q (vn9F p2 p3 p5 p7 p9 p11 k n s) w0 245 (fun t => a0.tmps.getD t undef) i := upto_succ u13 (vn9_s13 p2 p3 p5 p7 p9 p11 k n s hb2 hb3 hb5 hb7 hb9 hb11 cr hx2 hx3 hx5 hx7 hx9 hx11 hx4 hx6 hx8 hx10 hx12)
    have u15 : ∀ i, i < 15 → OpStep Tryz.prog vn9Ops Q (vn9F p2 p3 p5 p7 p9 p11 k n s) w0 245 (fun t => a0.tmps.getD t undef) i := upto_succ u14 (vn9_s14 p2 p3 p5 p7 p9 p11 k n s hb2 hb3 hb5 hb7 hb9 hb11 cr hx2 hx3 hx5 hx7 hx9 hx11 hx4 hx6 hx8 hx10 hx12)
    have u16 : ∀ i, i < 16 → OpStep Tryz.prog vn9Ops Q (vn9F p2 p3 p5 p7 p9 p11 k n s) w0 245 (fun t => a0.tmps.getD t undef) i := upto_succ u15 (vn9_s15 p2 p3 p5 p7 p9 p11 k n s hb2 hb3 hb5 hb7 hb9 hb11 cr hx2 hx3 hx5 hx7 hx9 hx11 hx4 hx6 hx8 hx10 hx12)
    have u17 : ∀ i, i < 17 → OpStep Tryz.prog vn9Ops Q (vn9F p2 p3 p5 p7 p9 p11 k n s) w0 245 (fun t => a0.tmps.getD t undef) i := upto_succ u16 (vn9_s16 p2 p3 p5 p7 p9 p11 k n s hb2 hb3 hb5 hb7 hb9 hb11 cr hx2 hx3 hx5 hx7 hx9 hx11 hx4 hx6 hx8 hx10 hx12)
    have u18 : ∀ i, i < 18 → OpStep Tryz.prog vn9Ops Q (vn9F p2 p3 p5 p7 p9 p11 k n s) w0 245 (fun t => a0.tmps.getD t undef) i := upto_succ u17 (vn9_s17 p2 p3 p5 p7 p9 p11 k n s hb2 hb3 hb5 hb7 hb9 hb11 cr hx2 hx3 hx5 hx7 hx9 hx11 hx4 hx6 hx8 hx10 hx12)
    have u19 : ∀ i, i < 19 → OpStep Tryz.prog vn9Ops Q (vn9F p2 p3 p5 p7 p9 p11 k n s) w0 245 (fun t => a0.tmps.getD t undef) i := upto_succ u18 (vn9_s18 p2 p3 p5 p7 p9 p11 k n s hb2 hb3 hb5 hb7 hb9 hb11 cr hx2 hx3 hx5 hx7 hx9 hx11 hx4 hx6 hx8 hx10 hx12)
    have u20 : ∀ i, i < 20 → OpStep Tryz.prog vn9Ops Q (vn9F p2 p3 p5 p7 p9 p11 k n s) w0 245 (fun t => a0.tmps.getD t undef) i := upto_succ u19 (vn9_s19 p2 p3 p5 p7 p9 p11 k n s hb2 hb3 hb5 hb7 hb9 hb11 cr hx2 hx3 hx5 hx7 hx9 hx11 hx4 hx6 hx8 hx10 hx12)
    have u21 : ∀ i, i < 21 → OpStep Tryz.prog vn9Ops Q (vn9F p2 p3 p5 p7 p9 p11 k n s) w0 245 (fun t => a0.tmps.getD t undef) i := upto_succ u20 (vn9_s20 p2 p3 p5 p7 p9 p11 k n s hb2 hb3 hb5 hb7 hb9 hb11 cr hx2 hx3 hx5 hx7 hx9 hx11 hx4 hx6 hx8 hx10 hx12)
    have u22 : ∀ i, i < 22 → OpStep Tryz.prog vn9Ops Q (vn9F p2 p3 p5 p7 p9 p11 k n s) w0 245 (fun t => a0.tmps.getD t undef) i := upto_succ u21 (vn9_s21 p2 p3 p5 p7 p9 p11 k n s hb2 hb3 hb5 hb7 hb9 hb11 cr hx2 hx3 hx5 hx7 hx9 hx11 hx4 hx6 hx8 hx10 hx12)
    have u23 : ∀ i, i < 23 → OpStep Tryz.prog vn9Ops Q (vn9F p2 p3 p5 p7 p9 p11 k n s) w0 245 (fun t => a0.tmps.getD t undef) i := upto_succ u22 (vn9_s22 p2 p3 p5 p7 p9 p11 k n s hb2 hb3 hb5 hb7 hb9 hb11 cr hx2 hx3 hx5 hx7 hx9 hx11 hx4 hx6 hx8 hx10 hx12)
    have u24 : ∀ i, i < 24 → OpStep Tryz.prog vn9Ops Q (vn9F p2 p3 p5 p7 p9 p11 k n s) w0 245 (fun t => a0.tmps.getD t undef) i := upto_succ u23 (vn9_s23 p2 p3 p5 p7 p9 p11 k n s hb2 hb3 hb5 hb7 hb9 hb11 cr hx2 hx3 hx5 hx7 hx9 hx11 hx4 hx6 hx8 hx10 hx12)
    have u25 : ∀ i, i < 25 → OpStep Tryz.prog vn9Ops Q (vn9F p2 p3 p5 p7 p9 p11 k n s) w0 245 (fun t => a0.tmps.getD t undef) i := upto_succ u24 (vn9_s24 p2 p3 p5 p7 p9 p11 k n s hb2 hb3 hb5 hb7 hb9 hb11 cr hx2 hx3 hx5 hx7 hx9 hx11 hx4 hx6 hx8 hx10 hx12)
    have u26 : ∀ i, i < 26 → OpStep Tryz.prog vn9Ops Q (vn9F p2 p3 p5 p7 p9 p11 k n s) w0 245 (fun t => a0.tmps.getD t undef) i := upto_succ u25 (vn9_s25 p2 p3 p5 p7 p9 p11 k n s hb2 hb3 hb5 hb7 hb9 hb11 cr hx2 hx3 hx5 hx7 hx9 hx11 hx4 hx6 hx8 hx10 hx12)
    have u27 : ∀ i, i < 27 → OpStep Tryz.prog vn9Ops Q (vn9F p2 p3 p5 p7 p9 p11 k n s) w0 245 (fun t => a0.tmps.getD t undef) i := upto_succ u26 (vn9_s26 p2 p3 p5 p7 p9 p11 k n s hb2 hb3 hb5 hb7 hb9 hb11 cr hx2 hx3 hx5 hx7 hx9 hx11 hx4 hx6 hx8 hx10 hx12)
    have u28 : ∀ i, i < 28 → OpStep Tryz.prog vn9Ops Q (vn9F p2 p3 p5 p7 p9 p11 k n s) w0 245 (fun t => a0.tmps.getD t undef) i := upto_succ u27 (vn9_s27 p2 p3 p5 p7 p9 p11 k n s hb2 hb3 hb5 hb7 hb9 hb11 cr hx2 hx3 hx5 hx7 hx9 hx11 hx4 hx6 hx8 hx10 hx12)
    have u29 : ∀ i, i < 29 → OpStep Tryz.prog vn9Ops Q (vn9F p2 p3 p5 p7 p9 p11 k n s) w0 245 (fun t => a0.tmps.getD t undef) i := upto_succ u28 (vn9_s28 p2 p3 p5 p7 p9 p11 k n s hb2 hb3 hb5 hb7 hb9 hb11 cr hx2 hx3 hx5 hx7 hx9 hx11 hx4 hx6 hx8 hx10 hx12)
    have u30 : ∀ i, i < 30 → OpStep Tryz.prog vn9Ops Q (vn9F p2 p3 p5 p7 p9 p11 k n s) w0 245 (fun t => a0.tmps.getD t undef) i := upto_succ u29 (vn9_s29 p2 p3 p5 p7 p9 p11 k n s hb2 hb3 hb5 hb7 hb9 hb11 cr hx2 hx3 hx5 hx7 hx9 hx11 hx4 hx6 hx8 hx10 hx12)
    have u31 : ∀ i, i < 31 → OpStep Tryz.prog vn9Ops Q (vn9F p2 p3 p5 p7 p9 p11 k n s) w0 245 (fun t => a0.tmps.getD t undef) i := upto_succ u30 (vn9_s30 p2 p3 p5 p7 p9 p11 k n s hb2 hb3 hb5 hb7 hb9 hb11 cr hx2 hx3 hx5 hx7 hx9 hx11 hx4 hx6 hx8 hx10 hx12)
    have u32 : ∀ i, i < 32 → OpStep Tryz.prog vn9Ops Q (vn9F p2 p3 p5 p7 p9 p11 k n s) w0 245 (fun t => a0.tmps.getD t undef) i := upto_succ u31 (vn9_s31 p2 p3 p5 p7 p9 p11 k n s hb2 hb3 hb5 hb7 hb9 hb11 cr hx2 hx3 hx5 hx7 hx9 hx11 hx4 hx6 hx8 hx10 hx12)
    exact u32
  · intro V X hb hV
    exact hend V X hb (hV 31 (of_decide_eq_true (by kernel_rfl)) (by kernel_rfl))
end Go.Proofs.YtceknmibopnmhaaGreatDoor
