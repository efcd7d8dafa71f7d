/-
  Layer 2: ValueNumbers: the regions of its second loop, operation by operation. Conditions: what is called tells what it tells.
-/
import Derived.Test.YtceknmibopnmhaaGreatDoorVMake
namespace Go.Proofs.YtceknmibopnmhaaGreatDoor
open Go.ChangeShapes Go.WideShapes Go.ChangeAt Go.RowKit
set_option linter.unusedVariables false
set_option maxRecDepth 100000

def PairPt (p : Nat) (s : ByteArray) (n : Int) (w : World) : Prop := w.cell? ⟨p, 0, none⟩ = some (.string s) ∧ w.cell? ⟨p, 1, none⟩ = some (.int .i64 n)
def PairOn (w0 : World) (p : Nat) (s : ByteArray) (n : Int) : Prop := ∀ w, Below w0.heap.size w0 w → PairPt p s n w
def CallNo (w0 : World) (s : ByteArray) (m : Nat) : Prop := ∀ (w : World) (b : Nat), Below w0.heap.size w0 w → Calls Tryz.prog 16 #[.string s, .slice (some ⟨b, 0, none⟩) m m] w (RetV nul 21 w)
def KnowNo (s : ByteArray) (n : Int) : Prop := ∀ w : World, Calls Tryz.prog 19 #[.string s, .int .i64 n] w fun e w' => e = .returned (.bool false) ∧ Below w.heap.size w w'
section
variable {ops : Array Oper} {Q : Exit → Act → World → Prop} {i : Nat} {a : Act} {w : World} {R : Value → World → Prop}
theorem step_fld0 {x : Operand} {p : Nat} (hop : opO ops i = some (.fieldAddr 36 x 0)) (hw : Wanted ops i a) (hx : a.eval x = .pointer (some ⟨p, 0, none⟩)) (hR : R (.pointer (some ⟨p, 0, none⟩)) w) : wpOp Tryz.prog ops Q i (fun a' w' => ∃ v, a' = a.put (dstO ops i) v ∧ R v w') a w := by
  refine step_run hop hw (fun o ho => ?_) hR
  simp only [execOp, ho, hx]
  simp [go_sem]
theorem step_fld1 {x : Operand} {p : Nat} (hop : opO ops i = some (.fieldAddr 36 x 1)) (hw : Wanted ops i a) (hx : a.eval x = .pointer (some ⟨p, 0, none⟩)) (hR : R (.pointer (some ⟨p, 1, none⟩)) w) : wpOp Tryz.prog ops Q i (fun a' w' => ∃ v, a' = a.put (dstO ops i) v ∧ R v w') a w := by
  refine step_run hop hw (fun o ho => ?_) hR
  simp only [execOp, ho, hx]
  simp [go_sem]
theorem step_ldS {x : Operand} {p : Nat} {s : ByteArray} {n : Int} (hop : opO ops i = some (.load 9 x)) (hw : Wanted ops i a) (hx : a.eval x = .pointer (some ⟨p, 0, none⟩)) (hn : PairPt p s n w) (hR : R (.string s) w) : wpOp Tryz.prog ops Q i (fun a' w' => ∃ v, a' = a.put (dstO ops i) v ∧ R v w') a w := by
  obtain ⟨h0, h1⟩ := hn
  refine step_run hop hw (fun o ho => ?_) hR
  simp only [execOp, ho, hx]
  simp [go_sem, h0]
theorem step_ldI {x : Operand} {p : Nat} {s : ByteArray} {n : Int} (hop : opO ops i = some (.load 3 x)) (hw : Wanted ops i a) (hx : a.eval x = .pointer (some ⟨p, 1, none⟩)) (hn : PairPt p s n w) (hR : R (.int .i64 n) w) : wpOp Tryz.prog ops Q i (fun a' w' => ∃ v, a' = a.put (dstO ops i) v ∧ R v w') a w := by
  obtain ⟨h0, h1⟩ := hn
  refine step_run hop hw (fun o ho => ?_) hR
  simp only [execOp, ho, hx]
  simp [go_sem, h1]
end
def IsM0 (n : Nat) : Value → World → Prop := fun v _ => ∃ b, v = .slice (some ⟨b, 0, none⟩) n n ∧ True
theorem mono_isM0 (n : Nat) : MonoF (IsM0 n) := fun _ _ _ h _ => h
theorem flat_isM0 (n : Nat) : FlatF (IsM0 n) := fun _ _ _ h => h

noncomputable def vn15Ops : Array Oper := regOf Tryz.f3 15
theorem vn15_fill {v0 v1 v2 v3 v4 v5 v6 v7 v8 v9 v10 v11 v12 v13 v14 v15 v16 v17 v18 v19 v20 v21 v22 v23 v24 v25 v26 v27 v28 v29 v30 v31 v32 v33 v34 v35 v36 v37 v38 v39 v40 v41 v42 v43 v44 v45 v46 v47 v48 v49 v50 v51 v52 v53 v54 v55 v56 v57 v58 v59 v60 v61 v62 v63 v64 v65 v66 v67 v68 v69 v70 v71 v72 v73 v74 v75 v76 v77 v78 v79 v80 v81 v82 v83 v84 v85 v86 v87 v88 v89 v90 v91 v92 v93 v94 v95 v96 v97 v98 v99 v100 v101 v102 v103 v104 v105 v106 v107 v108 v109 v110 v111 v112 v113 v114 v115 v116 v117 v118 v119 v120 v121 v122 v123 v124 v125 v126 v127 v128 v129 v130 v131 v132 v133 v134 v135 v136 v137 v138 v139 v140 v141 v142 v143 v144 v145 v146 v147 v148 v149 v150 v151 v152 v153 v154 v155 v156 v157 v158 v159 v160 v161 v162 v163 v164 v165 v166 v167 v168 v169 v170 v171 v172 v173 v174 v175 v176 v177 v178 v179 v180 v181 v182 v183 v184 v185 v186 v187 v188 v189 v190 v191 v192 v193 v194 v195 v196 v197 v198 v199 v200 v201 v202 v203 v204 v205 v206 v207 v208 v209 v210 v211 v212 v213 v214 v215 v216 v217 v218 v219 v220 v221 v222 v223 v224 v225 v226 v227 v228 v229 v230 v231 v232 v233 v234 v235 v236 v237 v238 v239 v240 v241 v242 v243 v244 : Value} (V : Nat → Value) : fillT vn15Ops #[v0, v1, v2, v3, v4, v5, v6, v7, v8, v9, v10, v11, v12, v13, v14, v15, v16, v17, v18, v19, v20, v21, v22, v23, v24, v25, v26, v27, v28, v29, v30, v31, v32, v33, v34, v35, v36, v37, v38, v39, v40, v41, v42, v43, v44, v45, v46, v47, v48, v49, v50, v51, v52, v53, v54, v55, v56, v57, v58, v59, v60, v61, v62, v63, v64, v65, v66, v67, v68, v69, v70, v71, v72, v73, v74, v75, v76, v77, v78, v79, v80, v81, v82, v83, v84, v85, v86, v87, v88, v89, v90, v91, v92, v93, v94, v95, v96, v97, v98, v99, v100, v101, v102, v103, v104, v105, v106, v107, v108, v109, v110, v111, v112, v113, v114, v115, v116, v117, v118, v119, v120, v121, v122, v123, v124, v125, v126, v127, v128, v129, v130, v131, v132, v133, v134, v135, v136, v137, v138, v139, v140, v141, v142, v143, v144, v145, v146, v147, v148, v149, v150, v151, v152, v153, v154, v155, v156, v157, v158, v159, v160, v161, v162, v163, v164, v165, v166, v167, v168, v169, v170, v171, v172, v173, v174, v175, v176, v177, v178, v179, v180, v181, v182, v183, v184, v185, v186, v187, v188, v189, v190, v191, v192, v193, v194, v195, v196, v197, v198, v199, v200, v201, v202, v203, v204, v205, v206, v207, v208, v209, v210, v211, v212, v213, v214, v215, v216, v217, v218, v219, v220, v221, v222, v223, v224, v225, v226, v227, v228, v229, v230, v231, v232, v233, v234, v235, v236, v237, v238, v239, v240, v241, v242, v243, v244] V = #[v0, v1, v2, v3, v4, v5, v6, v7, v8, v9, v10, v11, v12, v13, v14, V 9, V 11, v17, v18, v19, v20, v21, v22, v23, v24, v25, v26, v27, v28, v29, v30, v31, v32, v33, v34, v35, v36, v37, v38, v39, v40, v41, v42, v43, v44, v45, v46, v47, v48, v49, v50, v51, v52, v53, v54, v55, v56, v57, v58, v59, v60, v61, v62, v63, v64, v65, v66, v67, v68, v69, v70, v71, v72, v73, v74, v75, v76, v77, v78, v79, v80, v81, v82, v83, v84, v85, v86, v87, v88, v89, v90, v91, v92, v93, v94, v95, v96, v97, v98, v99, v100, v101, v102, v103, v104, v105, v106, v107, v108, v109, v110, v111, v112, v113, v114, v115, v116, v117, v118, V 6, V 0, V 1, V 2, V 3, V 4, V 5, V 7, V 8, v128, v129, v130, v131, v132, v133, v134, v135, v136, v137, v138, v139, v140, v141, v142, v143, v144, v145, v146, v147, v148, v149, v150, v151, v152, v153, v154, v155, v156, v157, v158, v159, v160, v161, v162, v163, v164, v165, v166, v167, v168, v169, v170, v171, v172, v173, v174, v175, v176, v177, v178, v179, v180, v181, v182, v183, v184, v185, v186, v187, v188, v189, v190, v191, v192, v193, v194, v195, v196, v197, v198, v199, v200, v201, v202, v203, v204, v205, v206, v207, v208, v209, v210, v211, v212, v213, v214, v215, v216, v217, v218, v219, v220, v221, v222, v223, v224, v225, v226, v227, v228, v229, v230, v231, v232, v233, v234, v235, v236, v237, v238, v239, v240, v241, v242, v243, v244] := by
  kernel_rfl
def vn15L (p14 m : Nat) (s : ByteArray) : List (Value → World → Prop) := [IsV (.pointer (some ⟨p14, 0, none⟩)), IsV (.string s), IsV (.pointer (some ⟨p14, 1, none⟩)), IsV (.int .i64 (m : Int)), IsM0 m, IsV (.tuple #[vv 0 0 ⟨#[]⟩, .int .i64 21]), IsV (.tuple #[vv 0 0 ⟨#[]⟩, .int .i64 21]), IsV (vv 0 0 ⟨#[]⟩), IsV (.int .i64 21), AnyF, AnyF, IsV (.int .i64 21)]
def vn15F (p14 m : Nat) (s : ByteArray) (i : Nat) : Value → World → Prop := (vn15L p14 m s).getD i AnyF
theorem vn15F_mono (p14 m : Nat) (s : ByteArray) (i : Nat) (v : Value) (w w' : World) (hp : (vn15F p14 m s) i v w) (hb : Below w.heap.size w w') : (vn15F p14 m s) i v w' := by
  refine monoL ?_ i v w w' hp hb
  unfold vn15L
  simp only [List.forall_mem_cons]
  exact ⟨mono_isV _, mono_isV _, mono_isV _, mono_isV _, mono_isM0 _, mono_isV _, mono_isV _, mono_isV _, mono_isV _, mono_any, mono_any, mono_isV _, fun _ h => by cases h⟩
theorem vn15_s0 {Q : Exit → Act → World → Prop} {w0 : World} {xs : Nat → Value} (p14 m : Nat) (s : ByteArray) (hpr : PairOn w0 p14 s m) (hmn : m ≤ 1000) (c0 : CallNo w0 s m) (hx14 : xs 14 = .pointer (some ⟨p14, 0, none⟩)) : OpStep Tryz.prog vn15Ops Q (vn15F p14 m s) w0 245 xs 0 := by
  intro act w hb hk hF
  have g14 : act.eval (.tmp 14) = .pointer (some ⟨p14, 0, none⟩) := (hk 14 (by decide) (by kernel_rfl)).trans hx14
  exact step_fld0 (show opO vn15Ops 0 = some (.fieldAddr 36 (.tmp 14) 0) by kernel_rfl) (.free (by kernel_rfl)) g14 ⟨rfl, Below.refl _ _⟩

theorem vn15_s1 {Q : Exit → Act → World → Prop} {w0 : World} {xs : Nat → Value} (p14 m : Nat) (s : ByteArray) (hpr : PairOn w0 p14 s m) (hmn : m ≤ 1000) (c0 : CallNo w0 s m) (hx14 : xs 14 = .pointer (some ⟨p14, 0, none⟩)) : OpStep Tryz.prog vn15Ops Q (vn15F p14 m s) w0 245 xs 1 := by
  intro act w hb hk hF
  have g120 : act.eval (.tmp 120) = .pointer (some ⟨p14, 0, none⟩) := hF 0 (of_decide_eq_true (by kernel_rfl)) 120 (by kernel_rfl)
  exact step_ldS (show opO vn15Ops 1 = some (.load 9 (.tmp 120)) by kernel_rfl) (.free (by kernel_rfl)) g120 (hpr w hb) ⟨rfl, Below.refl _ _⟩

theorem vn15_s2 {Q : Exit → Act → World → Prop} {w0 : World} {xs : Nat → Value} (p14 m : Nat) (s : ByteArray) (hpr : PairOn w0 p14 s m) (hmn : m ≤ 1000) (c0 : CallNo w0 s m) (hx14 : xs 14 = .pointer (some ⟨p14, 0, none⟩)) : OpStep Tryz.prog vn15Ops Q (vn15F p14 m s) w0 245 xs 2 := by
  intro act w hb hk hF
  have g14 : act.eval (.tmp 14) = .pointer (some ⟨p14, 0, none⟩) := (hk 14 (by decide) (by kernel_rfl)).trans hx14
  exact step_fld1 (show opO vn15Ops 2 = some (.fieldAddr 36 (.tmp 14) 1) by kernel_rfl) (.free (by kernel_rfl)) g14 ⟨rfl, Below.refl _ _⟩

theorem vn15_s3 {Q : Exit → Act → World → Prop} {w0 : World} {xs : Nat → Value} (p14 m : Nat) (s : ByteArray) (hpr : PairOn w0 p14 s m) (hmn : m ≤ 1000) (c0 : CallNo w0 s m) (hx14 : xs 14 = .pointer (some ⟨p14, 0, none⟩)) : OpStep Tryz.prog vn15Ops Q (vn15F p14 m s) w0 245 xs 3 := by
  intro act w hb hk hF
  have g122 : act.eval (.tmp 122) = .pointer (some ⟨p14, 1, none⟩) := hF 2 (of_decide_eq_true (by kernel_rfl)) 122 (by kernel_rfl)
  exact step_ldI (show opO vn15Ops 3 = some (.load 3 (.tmp 122)) by kernel_rfl) (.free (by kernel_rfl)) g122 (hpr w hb) ⟨rfl, Below.refl _ _⟩

theorem vn15_s4 {Q : Exit → Act → World → Prop} {w0 : World} {xs : Nat → Value} (p14 m : Nat) (s : ByteArray) (hpr : PairOn w0 p14 s m) (hmn : m ≤ 1000) (c0 : CallNo w0 s m) (hx14 : xs 14 = .pointer (some ⟨p14, 0, none⟩)) : OpStep Tryz.prog vn15Ops Q (vn15F p14 m s) w0 245 xs 4 := by
  intro act w hb hk hF
  have g123 : act.eval (.tmp 123) = .int .i64 (m : Int) := hF 3 (of_decide_eq_true (by kernel_rfl)) 123 (by kernel_rfl)
  exact step_makeN (show opO vn15Ops 4 = some (.makeSlice 27 (.tmp 123) (.tmp 123)) by kernel_rfl) (.free (by kernel_rfl)) g123 g123 hmn fun b hR hb' => ⟨⟨b, rfl, trivial⟩, hb'⟩

theorem vn15_s5 {Q : Exit → Act → World → Prop} {w0 : World} {xs : Nat → Value} (p14 m : Nat) (s : ByteArray) (hpr : PairOn w0 p14 s m) (hmn : m ≤ 1000) (c0 : CallNo w0 s m) (hx14 : xs 14 = .pointer (some ⟨p14, 0, none⟩)) : OpStep Tryz.prog vn15Ops Q (vn15F p14 m s) w0 245 xs 5 := by
  intro act w hb hk hF
  have g121 : act.eval (.tmp 121) = .string s := hF 1 (of_decide_eq_true (by kernel_rfl)) 121 (by kernel_rfl)
  obtain ⟨b124, g124, hR124⟩ := (show IsM0 m _ w from hF 4 (of_decide_eq_true (by kernel_rfl)) 124 (by kernel_rfl))
  exact step_call (f := 16) (xs := #[.tmp 121, .tmp 124]) (by kernel_rfl) (.free (by kernel_rfl)) (map2 g121 g124) (enters_of Tryz.func16 (by kernel_rfl) rfl) ((c0 w b124 hb).mono fun e w' h => ⟨_, h.1, rfl, h.2⟩)

theorem vn15_s6 {Q : Exit → Act → World → Prop} {w0 : World} {xs : Nat → Value} (p14 m : Nat) (s : ByteArray) (hpr : PairOn w0 p14 s m) (hmn : m ≤ 1000) (c0 : CallNo w0 s m) (hx14 : xs 14 = .pointer (some ⟨p14, 0, none⟩)) : OpStep Tryz.prog vn15Ops Q (vn15F p14 m s) w0 245 xs 6 := by
  intro act w hb hk hF
  have g125 : act.eval (.tmp 125) = .tuple #[vv 0 0 ⟨#[]⟩, .int .i64 21] := hF 5 (of_decide_eq_true (by kernel_rfl)) 125 (by kernel_rfl)
  exact step_move (show opO vn15Ops 6 = some (.move (.tmp 125)) by kernel_rfl) (.free (by kernel_rfl)) g125 ⟨rfl, Below.refl _ _⟩

theorem vn15_s7 {Q : Exit → Act → World → Prop} {w0 : World} {xs : Nat → Value} (p14 m : Nat) (s : ByteArray) (hpr : PairOn w0 p14 s m) (hmn : m ≤ 1000) (c0 : CallNo w0 s m) (hx14 : xs 14 = .pointer (some ⟨p14, 0, none⟩)) : OpStep Tryz.prog vn15Ops Q (vn15F p14 m s) w0 245 xs 7 := by
  intro act w hb hk hF
  have g119 : act.eval (.tmp 119) = .tuple #[vv 0 0 ⟨#[]⟩, .int .i64 21] := hF 6 (of_decide_eq_true (by kernel_rfl)) 119 (by kernel_rfl)
  exact step_extract (show opO vn15Ops 7 = some (.extract (.tmp 119) 0) by kernel_rfl) (.free (by kernel_rfl)) g119 rfl ⟨rfl, Below.refl _ _⟩

theorem vn15_s8 {Q : Exit → Act → World → Prop} {w0 : World} {xs : Nat → Value} (p14 m : Nat) (s : ByteArray) (hpr : PairOn w0 p14 s m) (hmn : m ≤ 1000) (c0 : CallNo w0 s m) (hx14 : xs 14 = .pointer (some ⟨p14, 0, none⟩)) : OpStep Tryz.prog vn15Ops Q (vn15F p14 m s) w0 245 xs 8 := by
  intro act w hb hk hF
  have g119 : act.eval (.tmp 119) = .tuple #[vv 0 0 ⟨#[]⟩, .int .i64 21] := hF 6 (of_decide_eq_true (by kernel_rfl)) 119 (by kernel_rfl)
  exact step_extract (show opO vn15Ops 8 = some (.extract (.tmp 119) 1) by kernel_rfl) (.free (by kernel_rfl)) g119 rfl ⟨rfl, Below.refl _ _⟩

theorem vn15_s11 {Q : Exit → Act → World → Prop} {w0 : World} {xs : Nat → Value} (p14 m : Nat) (s : ByteArray) (hpr : PairOn w0 p14 s m) (hmn : m ≤ 1000) (c0 : CallNo w0 s m) (hx14 : xs 14 = .pointer (some ⟨p14, 0, none⟩)) : OpStep Tryz.prog vn15Ops Q (vn15F p14 m s) w0 245 xs 11 := by
  intro act w hb hk hF
  have g127 : act.eval (.tmp 127) = .int .i64 21 := hF 8 (of_decide_eq_true (by kernel_rfl)) 127 (by kernel_rfl)
  exact step_assign (show opO vn15Ops 11 = some (.assign (.tmp 127)) by kernel_rfl) (.free (by kernel_rfl)) g127 ⟨rfl, Below.refl _ _⟩

theorem vn15F_flat (p14 m : Nat) (s : ByteArray) (i : Nat) (v : Value) (w w' : World) (hp : (vn15F p14 m s) i v w) : (vn15F p14 m s) i v w' := by
  refine flatL ?_ i v w w' hp
  unfold vn15L
  simp only [List.forall_mem_cons]
  exact ⟨flat_isV _, flat_isV _, flat_isV _, flat_isV _, flat_isM0 _, flat_isV _, flat_isV _, flat_isV _, flat_isV _, flat_any, flat_any, flat_isV _, fun _ h => by cases h⟩
theorem vn15 {Q : Exit → Act → World → Prop} {a0 : Act} {w0 : World} (p14 m : Nat) (s : ByteArray) (hpr : PairOn w0 p14 s m) (hmn : m ≤ 1000) (c0 : CallNo w0 s m) (hx14 : a0.tmps.getD 14 undef = .pointer (some ⟨p14, 0, none⟩)) (hs : a0.tmps.size = 245)
    (hend : ∀ (V : Nat → Value) (p : Nat) (X : World), Below w0.heap.size w0 X → V 9 = .pointer (some ⟨p, 0, none⟩) → w0.heap.size ≤ p → p < X.heap.size → BoxAt p 0 0 ⟨#[]⟩ X → V 11 = .int .i64 21 → Q .normal ⟨fillT vn15Ops a0.tmps V, a0.defers⟩ X) : (Code.region 15 vn15Ops true).wp Tryz.prog Q a0 w0 := by
  refine wp_region_box (by kernel_rfl) (vn15F p14 m s) 9 10 15 NewAt (fun p w => BoxAt p 0 0 ⟨#[]⟩ w) (vn15F_flat p14 m s) (by kernel_rfl) (by kernel_rfl) (of_decide_eq_true (by kernel_rfl)) (of_decide_eq_true (by kernel_rfl)) (by decide) new_keep boxAt_keep (by rw [hs]; kernel_rfl) ?_ ?_ ?_ ?_
  · rw [hs]
    have size_is : vn15Ops.size = 12 := by kernel_rfl
    rw [size_is]
    intro i hi h1 h2
    have u1 : ∀ i, i < 1 → i ≠ 9 → i ≠ 10 → OpStep Tryz.prog vn15Ops Q (vn15F p14 m s) w0 245 (fun t => a0.tmps.getD t undef) i := by
      intro i hi h1 h2
      by_cases hij : i = 0
      · subst hij; exact vn15_s0 p14 m s hpr hmn c0 hx14
      · exact absurd hi (by omega)
    have u2 : ∀ i, i < 2 → i ≠ 9 → i ≠ 10 → OpStep Tryz.prog vn15Ops Q (vn15F p14 m s) w0 245 (fun t => a0.tmps.getD t undef) i := by
      intro i hi h1 h2
      by_cases hij : i = 1
      · subst hij; exact vn15_s1 p14 m s hpr hmn c0 hx14
      · exact u1 i (by omega) h1 h2
    have u3 : ∀ i, i < 3 → i ≠ 9 → i ≠ 10 → OpStep Tryz.prog vn15Ops Q (vn15F p14 m s) w0 245 (fun t => a0.tmps.getD t undef) i := by
      intro i hi h1 h2
      by_cases hij : i = 2
      · subst hij; exact vn15_s2 p14 m s hpr hmn c0 hx14
      · exact u2 i (by omega) h1 h2
    have u4 : ∀ i, i < 4 → i ≠ 9 → i ≠ 10 → OpStep Tryz.prog vn15Ops Q (vn15F p14 m s) w0 245 (fun t => a0.tmps.getD t undef) i := by
      intro i hi h1 h2
      by_cases hij : i = 3
      · subst hij; exact vn15_s3 p14 m s hpr hmn c0 hx14
      · exact u3 i (by omega) h1 h2
    have u5 : ∀ i, i < 5 → i ≠ 9 → i ≠ 10 → OpStep Tryz.prog vn15Ops Q (vn15F p14 m s) w0 245 (fun t => a0.tmps.getD t undef) i := by
      intro i hi h1 h2
      by_cases hij : i = 4
      · subst hij; exact vn15_s4 p14 m s hpr hmn c0 hx14
      · exact u4 i (by omega) h1 h2
    have u6 : ∀ i, i < 6 → i ≠ 9 → i ≠ 10 → OpStep Tryz.prog vn15Ops Q (vn15F p14 m s) w0 245 (fun t => a0.tmps.getD t undef) i := by
      intro i hi h1 h2
      by_cases hij : i = 5
      · subst hij; exact vn15_s5 p14 m s hpr hmn c0 hx14
      · exact u5 i (by omega) h1 h2
    have u7 : ∀ i, i < 7 → i ≠ 9 → i ≠ 10 → OpStep Tryz.prog vn15Ops Q (vn15F p14 m s) w0 245 (fun t => a0.tmps.getD t undef) i := by
      intro i hi h1 h2
      by_cases hij : i = 6
      · subst hij; exact vn15_s6 p14 m s hpr hmn c0 hx14
      · exact u6 i (by omega) h1 h2
    have u8 : ∀ i, i < 8 → i ≠ 9 → i ≠ 10 → OpStep Tryz.prog vn15Ops Q (vn15F p14 m s) w0 245 (fun t => a0.tmps.getD t undef) i := by
      intro i hi h1 h2
      by_cases hij : i = 7
      · subst hij; exact vn15_s7 p14 m s hpr hmn c0 hx14
      · exact u7 i (by omega) h1 h2
    have u9 : ∀ i, i < 9 → i ≠ 9 → i ≠ 10 → OpStep Tryz.prog vn15Ops Q (vn15F p14 m s) w0 245 (fun t => a0.tmps.getD t undef) i := by
      intro i hi h1 h2
      by_cases hij : i = 8
      · subst hij; exact vn15_s8 p14 m s hpr hmn c0 hx14
      · exact u8 i (by omega) h1 h2
    have u10 : ∀ i, i < 10 → i ≠ 9 → i ≠ 10 → OpStep Tryz.prog vn15Ops Q (vn15F p14 m s) w0 245 (fun t => a0.tmps.getD t undef) i := fun i hi h1 h2 => u9 i (by omega) h1 h2
    have u11 : ∀ i, i < 11 → i ≠ 9 → i ≠ 10 → OpStep Tryz.prog vn15Ops Q (vn15F p14 m s) w0 245 (fun t => a0.tmps.getD t undef) i := fun i hi h1 h2 => u10 i (by omega) h1 h2
    have u12 : ∀ i, i < 12 → i ≠ 9 → i ≠ 10 → OpStep Tryz.prog vn15Ops Q (vn15F p14 m s) w0 245 (fun t => a0.tmps.getD t undef) i := by
      intro i hi h1 h2
      by_cases hij : i = 11
      · subst hij; exact vn15_s11 p14 m s hpr hmn c0 hx14
      · exact u11 i (by omega) h1 h2
    exact u12 i hi h1 h2
  · intro a w hb
    exact step_allocV (by kernel_rfl) (.free (by kernel_rfl)) (by kernel_rfl) (fun _ _ => trivial)
  · intro act w p hb hp0 hp1 hp hn hF
    have gy : act.eval (.tmp 126) = vv 0 0 ⟨#[]⟩ := hF 7 (of_decide_eq_true (by kernel_rfl)) 126 (by kernel_rfl)
    exact step_storeV (show opO vn15Ops 10 = some (.store 24 (.tmp 15) (.tmp 126)) by kernel_rfl) (.free (by kernel_rfl)) (by kernel_rfl) hp gy hb hp0 hp1 hn
  · intro V p X hb hp hp0 hp1 hB hV
    exact hend V p X hb hp hp0 hp1 hB (hV 11 (of_decide_eq_true (by kernel_rfl)) (by kernel_rfl))
noncomputable def vn16Ops : Array Oper := regOf Tryz.f3 16
theorem vn16_fill {v0 v1 v2 v3 v4 v5 v6 v7 v8 v9 v10 v11 v12 v13 v14 v15 v16 v17 v18 v19 v20 v21 v22 v23 v24 v25 v26 v27 v28 v29 v30 v31 v32 v33 v34 v35 v36 v37 v38 v39 v40 v41 v42 v43 v44 v45 v46 v47 v48 v49 v50 v51 v52 v53 v54 v55 v56 v57 v58 v59 v60 v61 v62 v63 v64 v65 v66 v67 v68 v69 v70 v71 v72 v73 v74 v75 v76 v77 v78 v79 v80 v81 v82 v83 v84 v85 v86 v87 v88 v89 v90 v91 v92 v93 v94 v95 v96 v97 v98 v99 v100 v101 v102 v103 v104 v105 v106 v107 v108 v109 v110 v111 v112 v113 v114 v115 v116 v117 v118 v119 v120 v121 v122 v123 v124 v125 v126 v127 v128 v129 v130 v131 v132 v133 v134 v135 v136 v137 v138 v139 v140 v141 v142 v143 v144 v145 v146 v147 v148 v149 v150 v151 v152 v153 v154 v155 v156 v157 v158 v159 v160 v161 v162 v163 v164 v165 v166 v167 v168 v169 v170 v171 v172 v173 v174 v175 v176 v177 v178 v179 v180 v181 v182 v183 v184 v185 v186 v187 v188 v189 v190 v191 v192 v193 v194 v195 v196 v197 v198 v199 v200 v201 v202 v203 v204 v205 v206 v207 v208 v209 v210 v211 v212 v213 v214 v215 v216 v217 v218 v219 v220 v221 v222 v223 v224 v225 v226 v227 v228 v229 v230 v231 v232 v233 v234 v235 v236 v237 v238 v239 v240 v241 v242 v243 v244 : Value} (V : Nat → Value) : fillT vn16Ops #[v0, v1, v2, v3, v4, v5, v6, v7, v8, v9, v10, v11, v12, v13, v14, v15, v16, v17, v18, v19, v20, v21, v22, v23, v24, v25, v26, v27, v28, v29, v30, v31, v32, v33, v34, v35, v36, v37, v38, v39, v40, v41, v42, v43, v44, v45, v46, v47, v48, v49, v50, v51, v52, v53, v54, v55, v56, v57, v58, v59, v60, v61, v62, v63, v64, v65, v66, v67, v68, v69, v70, v71, v72, v73, v74, v75, v76, v77, v78, v79, v80, v81, v82, v83, v84, v85, v86, v87, v88, v89, v90, v91, v92, v93, v94, v95, v96, v97, v98, v99, v100, v101, v102, v103, v104, v105, v106, v107, v108, v109, v110, v111, v112, v113, v114, v115, v116, v117, v118, v119, v120, v121, v122, v123, v124, v125, v126, v127, v128, v129, v130, v131, v132, v133, v134, v135, v136, v137, v138, v139, v140, v141, v142, v143, v144, v145, v146, v147, v148, v149, v150, v151, v152, v153, v154, v155, v156, v157, v158, v159, v160, v161, v162, v163, v164, v165, v166, v167, v168, v169, v170, v171, v172, v173, v174, v175, v176, v177, v178, v179, v180, v181, v182, v183, v184, v185, v186, v187, v188, v189, v190, v191, v192, v193, v194, v195, v196, v197, v198, v199, v200, v201, v202, v203, v204, v205, v206, v207, v208, v209, v210, v211, v212, v213, v214, v215, v216, v217, v218, v219, v220, v221, v222, v223, v224, v225, v226, v227, v228, v229, v230, v231, v232, v233, v234, v235, v236, v237, v238, v239, v240, v241, v242, v243, v244] V = #[v0, v1, v2, v3, v4, v5, v6, v7, v8, v9, v10, v11, v12, v13, v14, v15, v16, v17, v18, v19, v20, v21, v22, v23, v24, v25, v26, v27, v28, v29, v30, v31, v32, v33, v34, v35, v36, v37, v38, v39, v40, v41, v42, v43, v44, v45, v46, v47, v48, v49, v50, v51, v52, v53, v54, v55, v56, v57, v58, v59, v60, v61, v62, v63, v64, v65, v66, v67, v68, v69, v70, v71, v72, v73, v74, v75, v76, v77, v78, v79, v80, v81, v82, v83, v84, v85, v86, v87, v88, v89, v90, v91, v92, v93, v94, v95, v96, v97, v98, v99, v100, v101, v102, v103, v104, v105, v106, v107, v108, v109, v110, v111, v112, v113, v114, v115, v116, v117, v118, v119, v120, v121, v122, v123, v124, v125, v126, v127, V 0, V 1, V 2, V 3, V 4, V 5, V 6, V 7, V 8, V 9, V 10, v139, v140, v141, v142, v143, v144, v145, v146, v147, v148, v149, v150, v151, v152, v153, v154, v155, v156, v157, v158, v159, v160, v161, v162, v163, v164, v165, v166, v167, v168, v169, v170, v171, v172, v173, v174, v175, v176, v177, v178, v179, v180, v181, v182, v183, v184, v185, v186, v187, v188, v189, v190, v191, v192, v193, v194, v195, v196, v197, v198, v199, v200, v201, v202, v203, v204, v205, v206, v207, v208, v209, v210, v211, v212, v213, v214, v215, v216, v217, v218, v219, v220, v221, v222, v223, v224, v225, v226, v227, v228, v229, v230, v231, v232, v233, v234, v235, v236, v237, v238, v239, v240, v241, v242, v243, v244] := by
  kernel_rfl
def vn16L (p14 p15 m : Nat) (s : ByteArray) : List (Value → World → Prop) := [IsV (.pointer (some ⟨p14, 0, none⟩)), IsV (.string s), IsV (.pointer (some ⟨p14, 1, none⟩)), IsV (.int .i64 (m : Int)), IsV (.bool false), IsV (.bool false), IsV (vv 0 0 ⟨#[]⟩), IsV (.int .i64 21), IsV (.bool true), IsV (.bool false), IsV (.bool false)]
def vn16F (p14 p15 m : Nat) (s : ByteArray) (i : Nat) : Value → World → Prop := (vn16L p14 p15 m s).getD i AnyF
theorem vn16F_mono (p14 p15 m : Nat) (s : ByteArray) (i : Nat) (v : Value) (w w' : World) (hp : (vn16F p14 p15 m s) i v w) (hb : Below w.heap.size w w') : (vn16F p14 p15 m s) i v w' := by
  refine monoL ?_ i v w w' hp hb
  unfold vn16L
  simp only [List.forall_mem_cons]
  exact ⟨mono_isV _, mono_isV _, mono_isV _, mono_isV _, mono_isV _, mono_isV _, mono_isV _, mono_isV _, mono_isV _, mono_isV _, mono_isV _, fun _ h => by cases h⟩
theorem vn16_s0 {Q : Exit → Act → World → Prop} {w0 : World} {xs : Nat → Value} (p14 p15 m : Nat) (s : ByteArray) (hb15 : BoxOn w0 p15 0 0 ⟨#[]⟩) (hpr : PairOn w0 p14 s m) (ck : KnowNo s m) (hx14 : xs 14 = .pointer (some ⟨p14, 0, none⟩)) (hx15 : xs 15 = .pointer (some ⟨p15, 0, none⟩)) (hx16 : xs 16 = .int .i64 21) : OpStep Tryz.prog vn16Ops Q (vn16F p14 p15 m s) w0 245 xs 0 := by
  intro act w hb hk hF
  have g14 : act.eval (.tmp 14) = .pointer (some ⟨p14, 0, none⟩) := (hk 14 (by decide) (by kernel_rfl)).trans hx14
  exact step_fld0 (show opO vn16Ops 0 = some (.fieldAddr 36 (.tmp 14) 0) by kernel_rfl) (.free (by kernel_rfl)) g14 ⟨rfl, Below.refl _ _⟩

theorem vn16_s1 {Q : Exit → Act → World → Prop} {w0 : World} {xs : Nat → Value} (p14 p15 m : Nat) (s : ByteArray) (hb15 : BoxOn w0 p15 0 0 ⟨#[]⟩) (hpr : PairOn w0 p14 s m) (ck : KnowNo s m) (hx14 : xs 14 = .pointer (some ⟨p14, 0, none⟩)) (hx15 : xs 15 = .pointer (some ⟨p15, 0, none⟩)) (hx16 : xs 16 = .int .i64 21) : OpStep Tryz.prog vn16Ops Q (vn16F p14 p15 m s) w0 245 xs 1 := by
  intro act w hb hk hF
  have g128 : act.eval (.tmp 128) = .pointer (some ⟨p14, 0, none⟩) := hF 0 (of_decide_eq_true (by kernel_rfl)) 128 (by kernel_rfl)
  exact step_ldS (show opO vn16Ops 1 = some (.load 9 (.tmp 128)) by kernel_rfl) (.free (by kernel_rfl)) g128 (hpr w hb) ⟨rfl, Below.refl _ _⟩

theorem vn16_s2 {Q : Exit → Act → World → Prop} {w0 : World} {xs : Nat → Value} (p14 p15 m : Nat) (s : ByteArray) (hb15 : BoxOn w0 p15 0 0 ⟨#[]⟩) (hpr : PairOn w0 p14 s m) (ck : KnowNo s m) (hx14 : xs 14 = .pointer (some ⟨p14, 0, none⟩)) (hx15 : xs 15 = .pointer (some ⟨p15, 0, none⟩)) (hx16 : xs 16 = .int .i64 21) : OpStep Tryz.prog vn16Ops Q (vn16F p14 p15 m s) w0 245 xs 2 := by
  intro act w hb hk hF
  have g14 : act.eval (.tmp 14) = .pointer (some ⟨p14, 0, none⟩) := (hk 14 (by decide) (by kernel_rfl)).trans hx14
  exact step_fld1 (show opO vn16Ops 2 = some (.fieldAddr 36 (.tmp 14) 1) by kernel_rfl) (.free (by kernel_rfl)) g14 ⟨rfl, Below.refl _ _⟩

theorem vn16_s3 {Q : Exit → Act → World → Prop} {w0 : World} {xs : Nat → Value} (p14 p15 m : Nat) (s : ByteArray) (hb15 : BoxOn w0 p15 0 0 ⟨#[]⟩) (hpr : PairOn w0 p14 s m) (ck : KnowNo s m) (hx14 : xs 14 = .pointer (some ⟨p14, 0, none⟩)) (hx15 : xs 15 = .pointer (some ⟨p15, 0, none⟩)) (hx16 : xs 16 = .int .i64 21) : OpStep Tryz.prog vn16Ops Q (vn16F p14 p15 m s) w0 245 xs 3 := by
  intro act w hb hk hF
  have g130 : act.eval (.tmp 130) = .pointer (some ⟨p14, 1, none⟩) := hF 2 (of_decide_eq_true (by kernel_rfl)) 130 (by kernel_rfl)
  exact step_ldI (show opO vn16Ops 3 = some (.load 3 (.tmp 130)) by kernel_rfl) (.free (by kernel_rfl)) g130 (hpr w hb) ⟨rfl, Below.refl _ _⟩

theorem vn16_s4 {Q : Exit → Act → World → Prop} {w0 : World} {xs : Nat → Value} (p14 p15 m : Nat) (s : ByteArray) (hb15 : BoxOn w0 p15 0 0 ⟨#[]⟩) (hpr : PairOn w0 p14 s m) (ck : KnowNo s m) (hx14 : xs 14 = .pointer (some ⟨p14, 0, none⟩)) (hx15 : xs 15 = .pointer (some ⟨p15, 0, none⟩)) (hx16 : xs 16 = .int .i64 21) : OpStep Tryz.prog vn16Ops Q (vn16F p14 p15 m s) w0 245 xs 4 := by
  intro act w hb hk hF
  have g129 : act.eval (.tmp 129) = .string s := hF 1 (of_decide_eq_true (by kernel_rfl)) 129 (by kernel_rfl)
  have g131 : act.eval (.tmp 131) = .int .i64 (m : Int) := hF 3 (of_decide_eq_true (by kernel_rfl)) 131 (by kernel_rfl)
  exact step_call (f := 19) (xs := #[.tmp 129, .tmp 131]) (by kernel_rfl) (.free (by kernel_rfl)) (map2 g129 g131) (enters_of Tryz.func19 (by kernel_rfl) rfl) ((ck w).mono fun e w' h => ⟨_, h.1, rfl, h.2⟩)

theorem vn16_s5 {Q : Exit → Act → World → Prop} {w0 : World} {xs : Nat → Value} (p14 p15 m : Nat) (s : ByteArray) (hb15 : BoxOn w0 p15 0 0 ⟨#[]⟩) (hpr : PairOn w0 p14 s m) (ck : KnowNo s m) (hx14 : xs 14 = .pointer (some ⟨p14, 0, none⟩)) (hx15 : xs 15 = .pointer (some ⟨p15, 0, none⟩)) (hx16 : xs 16 = .int .i64 21) : OpStep Tryz.prog vn16Ops Q (vn16F p14 p15 m s) w0 245 xs 5 := by
  intro act w hb hk hF
  have g132 : act.eval (.tmp 132) = .bool false := hF 4 (of_decide_eq_true (by kernel_rfl)) 132 (by kernel_rfl)
  exact step_move (show opO vn16Ops 5 = some (.move (.tmp 132)) by kernel_rfl) (.free (by kernel_rfl)) g132 ⟨rfl, Below.refl _ _⟩

theorem vn16_s6 {Q : Exit → Act → World → Prop} {w0 : World} {xs : Nat → Value} (p14 p15 m : Nat) (s : ByteArray) (hb15 : BoxOn w0 p15 0 0 ⟨#[]⟩) (hpr : PairOn w0 p14 s m) (ck : KnowNo s m) (hx14 : xs 14 = .pointer (some ⟨p14, 0, none⟩)) (hx15 : xs 15 = .pointer (some ⟨p15, 0, none⟩)) (hx16 : xs 16 = .int .i64 21) : OpStep Tryz.prog vn16Ops Q (vn16F p14 p15 m s) w0 245 xs 6 := by
  intro act w hb hk hF
  have g133 : act.eval (.tmp 133) = .bool false := hF 5 (of_decide_eq_true (by kernel_rfl)) 133 (by kernel_rfl)
  have g15 : act.eval (.tmp 15) = .pointer (some ⟨p15, 0, none⟩) := (hk 15 (by decide) (by kernel_rfl)).trans hx15
  exact step_loadB (show opO vn16Ops 6 = some (.load 24 (.tmp 15)) by kernel_rfl) (.told 5 false 133 (by kernel_rfl) (by kernel_rfl) g133) g15 (hb15 w hb) ⟨rfl, Below.refl _ _⟩

theorem vn16_s7 {Q : Exit → Act → World → Prop} {w0 : World} {xs : Nat → Value} (p14 p15 m : Nat) (s : ByteArray) (hb15 : BoxOn w0 p15 0 0 ⟨#[]⟩) (hpr : PairOn w0 p14 s m) (ck : KnowNo s m) (hx14 : xs 14 = .pointer (some ⟨p14, 0, none⟩)) (hx15 : xs 15 = .pointer (some ⟨p15, 0, none⟩)) (hx16 : xs 16 = .int .i64 21) : OpStep Tryz.prog vn16Ops Q (vn16F p14 p15 m s) w0 245 xs 7 := by
  intro act w hb hk hF
  have g133 : act.eval (.tmp 133) = .bool false := hF 5 (of_decide_eq_true (by kernel_rfl)) 133 (by kernel_rfl)
  have g16 : act.eval (.tmp 16) = .int .i64 21 := (hk 16 (by decide) (by kernel_rfl)).trans hx16
  exact step_move (show opO vn16Ops 7 = some (.move (.tmp 16)) by kernel_rfl) (.told 5 false 133 (by kernel_rfl) (by kernel_rfl) g133) g16 ⟨rfl, Below.refl _ _⟩

theorem vn16_s8 {Q : Exit → Act → World → Prop} {w0 : World} {xs : Nat → Value} (p14 p15 m : Nat) (s : ByteArray) (hb15 : BoxOn w0 p15 0 0 ⟨#[]⟩) (hpr : PairOn w0 p14 s m) (ck : KnowNo s m) (hx14 : xs 14 = .pointer (some ⟨p14, 0, none⟩)) (hx15 : xs 15 = .pointer (some ⟨p15, 0, none⟩)) (hx16 : xs 16 = .int .i64 21) : OpStep Tryz.prog vn16Ops Q (vn16F p14 p15 m s) w0 245 xs 8 := by
  intro act w hb hk hF
  have g133 : act.eval (.tmp 133) = .bool false := hF 5 (of_decide_eq_true (by kernel_rfl)) 133 (by kernel_rfl)
  have g134 : act.eval (.tmp 134) = vv 0 0 ⟨#[]⟩ := hF 6 (of_decide_eq_true (by kernel_rfl)) 134 (by kernel_rfl)
  have g135 : act.eval (.tmp 135) = .int .i64 21 := hF 7 (of_decide_eq_true (by kernel_rfl)) 135 (by kernel_rfl)
  exact step_call (f := 18) (xs := #[.tmp 134, .tmp 135, .const (.int .i64 21)]) (by kernel_rfl) (.told 5 false 133 (by kernel_rfl) (by kernel_rfl) g133) (map3 g134 g135 rfl) (enters_of Tryz.func18 (by kernel_rfl) rfl) ((errs_yes 21 w).mono fun e w' h => ⟨_, h.1, rfl, h.2⟩)

theorem vn16_s9 {Q : Exit → Act → World → Prop} {w0 : World} {xs : Nat → Value} (p14 p15 m : Nat) (s : ByteArray) (hb15 : BoxOn w0 p15 0 0 ⟨#[]⟩) (hpr : PairOn w0 p14 s m) (ck : KnowNo s m) (hx14 : xs 14 = .pointer (some ⟨p14, 0, none⟩)) (hx15 : xs 15 = .pointer (some ⟨p15, 0, none⟩)) (hx16 : xs 16 = .int .i64 21) : OpStep Tryz.prog vn16Ops Q (vn16F p14 p15 m s) w0 245 xs 9 := by
  intro act w hb hk hF
  have g133 : act.eval (.tmp 133) = .bool false := hF 5 (of_decide_eq_true (by kernel_rfl)) 133 (by kernel_rfl)
  have g136 : act.eval (.tmp 136) = .bool true := hF 8 (of_decide_eq_true (by kernel_rfl)) 136 (by kernel_rfl)
  exact step_not (show opO vn16Ops 9 = some (.unOp .not 4 (.tmp 136)) by kernel_rfl) (.told 5 false 133 (by kernel_rfl) (by kernel_rfl) g133) g136 rfl ⟨rfl, Below.refl _ _⟩

theorem vn16_s10 {Q : Exit → Act → World → Prop} {w0 : World} {xs : Nat → Value} (p14 p15 m : Nat) (s : ByteArray) (hb15 : BoxOn w0 p15 0 0 ⟨#[]⟩) (hpr : PairOn w0 p14 s m) (ck : KnowNo s m) (hx14 : xs 14 = .pointer (some ⟨p14, 0, none⟩)) (hx15 : xs 15 = .pointer (some ⟨p15, 0, none⟩)) (hx16 : xs 16 = .int .i64 21) : OpStep Tryz.prog vn16Ops Q (vn16F p14 p15 m s) w0 245 xs 10 := by
  intro act w hb hk hF
  have g133 : act.eval (.tmp 133) = .bool false := hF 5 (of_decide_eq_true (by kernel_rfl)) 133 (by kernel_rfl)
  have g137 : act.eval (.tmp 137) = .bool false := hF 9 (of_decide_eq_true (by kernel_rfl)) 137 (by kernel_rfl)
  exact step_pickF (show opO vn16Ops 10 = some (.pick (.tmp 133) (.const (.bool true)) (.tmp 137)) by kernel_rfl) (.free (by kernel_rfl)) g133 g137 ⟨rfl, Below.refl _ _⟩

theorem vn16 {bb : Bool} {Q : Exit → Act → World → Prop} {a0 : Act} {w0 : World} (p14 p15 m : Nat) (s : ByteArray) (hb15 : BoxOn w0 p15 0 0 ⟨#[]⟩) (hpr : PairOn w0 p14 s m) (ck : KnowNo s m) (hx14 : a0.tmps.getD 14 undef = .pointer (some ⟨p14, 0, none⟩)) (hx15 : a0.tmps.getD 15 undef = .pointer (some ⟨p15, 0, none⟩)) (hx16 : a0.tmps.getD 16 undef = .int .i64 21) (hs : a0.tmps.size = 245)
    (hend : ∀ (V : Nat → Value) (X : World), Below w0.heap.size w0 X → V 10 = .bool false → Q .normal ⟨fillT vn16Ops a0.tmps V, a0.defers⟩ X) : (Code.region 16 vn16Ops bb).wp Tryz.prog Q a0 w0 := by
  refine wp_region_both (by kernel_rfl) (vn16F p14 p15 m s) (vn16F_mono p14 p15 m s) (by rw [hs]; kernel_rfl) ?_ ?_
  · rw [hs]
    have size_is : vn16Ops.size = 11 := by kernel_rfl
    rw [size_is]
    have u1 : ∀ i, i < 1 → OpStep Tryz.prog vn16Ops Q (vn16F p14 p15 m s) w0 245 (fun t => a0.tmps.getD t undef) i := upto_succ upto_zero (vn16_s0 p14 p15 m s hb15 hpr ck hx14 hx15 hx16)
    have u2 : ∀ i, i < 2 → OpStep Tryz.prog vn16Ops Q (vn16F p14 p15 m s) w0 245 (fun t => a0.tmps.getD t undef) i := upto_succ u1 (vn16_s1 p14 p15 m s hb15 hpr ck hx14 hx15 hx16)
    have u3 : ∀ i, i < 3 → OpStep Tryz.prog vn16Ops Q (vn16F p14 p15 m s) w0 245 (fun t => a0.tmps.getD t undef) i := upto_succ u2 (vn16_s2 p14 p15 m s hb15 hpr ck hx14 hx15 hx16)
    have u4 : ∀ i, i < 4 → OpStep Tryz.prog vn16Ops Q (vn16F p14 p15 m s) w0 245 (fun t => a0.tmps.getD t undef) i := upto_succ u3 (vn16_s3 p14 p15 m s hb15 hpr ck hx14 hx15 hx16)
    have u5 : ∀ i, i < 5 → OpStep Tryz.prog vn16Ops Q (vn16F p14 p15 m s) w0 245 (fun t => a0.tmps.getD t undef) i := upto_succ u4 (vn16_s4 p14 p15 m s hb15 hpr ck hx14 hx15 hx16)
    have u6 : ∀ i, i < 6 → OpStep Tryz.prog vn16Ops Q (vn16F p14 p15 m s) w0 245 (fun t => a0.tmps.getD t undef) i := upto_succ u5 (vn16_s5 p14 p15 m s hb15 hpr ck hx14 hx15 hx16)
    have u7 : ∀ i, i < 7 → OpStep Tryz.prog vn16Ops Q (vn16F p14 p15 m s) w0 245 (fun t => a0.tmps.getD t undef) i := upto_succ u6 (vn16_s6 p14 p15 m s hb15 hpr ck hx14 hx15 hx16)
    have u8 : ∀ i, i < 8 → OpStep Tryz.prog vn16Ops Q (vn16F p14 p15 m s) w0 245 (fun t => a0.tmps.getD t undef) i := upto_succ u7 (vn16_s7 p14 p15 m s hb15 hpr ck hx14 hx15 hx16)
    have u9 : ∀ i, i < 9 → OpStep Tryz.prog vn16Ops Q (vn16F p14 p15 m s) w0 245 (fun t => a0.tmps.getD t undef) i := upto_succ u8 (vn16_s8 p14 p15 m s hb15 hpr ck hx14 hx15 hx16)
    have u10 : ∀ i, i < 10 → OpStep Tryz.prog vn16Ops Q (vn16F p14 p15 m s) w0 245 (fun t => a0.tmps.getD t undef) i := upto_succ u9 (vn16_s9 p14 p15 m s hb15 hpr ck hx14 hx15 hx16)
    have u11 : ∀ i, i < 11 → OpStep Tryz.prog vn16Ops Q (vn16F p14 p15 m s) w0 245 (fun t => a0.tmps.getD t undef) i := upto_succ u10 (vn16_s10 p14 p15 m s hb15 hpr ck hx14 hx15 hx16)
    exact u11
  · intro V X hb hV
    exact hend V X hb (hV 10 (of_decide_eq_true (by kernel_rfl)) (by kernel_rfl))
end Go.Proofs.YtceknmibopnmhaaGreatDoor
