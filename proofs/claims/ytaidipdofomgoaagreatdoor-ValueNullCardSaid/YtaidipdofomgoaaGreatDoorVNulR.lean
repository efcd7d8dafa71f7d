/-
  ValueNull: its regions, operation by operation. Conditions: what is called tells what it tells.
-/
import Derived.Test.YtaidipdofomgoaaGreatDoorVNulM
namespace Go.Proofs.YtaidipdofomgoaaGreatDoor
open Go.ChangeShapes Go.WideShapes Go.ChangeAt Go.RowKit
set_option linter.unusedVariables false
set_option maxRecDepth 100000

noncomputable def nu7Ops : Array Oper := regOf Tryz.f11 7
theorem nu7_fill {v0 v1 v2 v3 v4 v5 v6 v7 v8 v9 v10 v11 v12 v13 v14 v15 v16 v17 v18 v19 v20 v21 v22 v23 v24 v25 v26 v27 v28 v29 v30 v31 v32 v33 v34 v35 v36 v37 v38 v39 v40 v41 v42 v43 v44 v45 v46 v47 v48 v49 v50 v51 v52 v53 v54 v55 v56 v57 v58 v59 v60 v61 v62 v63 v64 v65 v66 v67 v68 v69 v70 v71 v72 v73 v74 v75 v76 v77 v78 v79 v80 v81 v82 v83 v84 v85 v86 v87 v88 v89 v90 v91 v92 v93 v94 v95 v96 v97 v98 v99 v100 v101 v102 v103 v104 v105 v106 v107 v108 v109 v110 v111 v112 v113 v114 v115 v116 v117 v118 v119 v120 v121 v122 v123 v124 v125 v126 v127 v128 v129 v130 v131 v132 v133 v134 v135 v136 v137 v138 v139 v140 v141 v142 v143 : Value} (V : Nat → Value) : fillT nu7Ops #[v0, v1, v2, v3, v4, v5, v6, v7, v8, v9, v10, v11, v12, v13, v14, v15, v16, v17, v18, v19, v20, v21, v22, v23, v24, v25, v26, v27, v28, v29, v30, v31, v32, v33, v34, v35, v36, v37, v38, v39, v40, v41, v42, v43, v44, v45, v46, v47, v48, v49, v50, v51, v52, v53, v54, v55, v56, v57, v58, v59, v60, v61, v62, v63, v64, v65, v66, v67, v68, v69, v70, v71, v72, v73, v74, v75, v76, v77, v78, v79, v80, v81, v82, v83, v84, v85, v86, v87, v88, v89, v90, v91, v92, v93, v94, v95, v96, v97, v98, v99, v100, v101, v102, v103, v104, v105, v106, v107, v108, v109, v110, v111, v112, v113, v114, v115, v116, v117, v118, v119, v120, v121, v122, v123, v124, v125, v126, v127, v128, v129, v130, v131, v132, v133, v134, v135, v136, v137, v138, v139, v140, v141, v142, v143] V = #[v0, v1, v2, v3, v4, v5, v6, v7, v8, v9, v10, v11, v12, v13, v14, v15, v16, v17, v18, v19, v20, v21, v22, v23, V 0, V 1, V 2, V 3, V 4, V 5, V 6, V 7, V 8, V 9, V 10, V 11, V 12, V 13, v38, v39, v40, v41, v42, v43, v44, v45, v46, v47, v48, v49, v50, v51, v52, v53, v54, v55, v56, v57, v58, v59, v60, v61, v62, v63, v64, v65, v66, v67, v68, v69, v70, v71, v72, v73, v74, v75, v76, v77, v78, v79, v80, v81, v82, v83, v84, v85, v86, v87, v88, v89, v90, v91, v92, v93, v94, v95, v96, v97, v98, v99, v100, v101, v102, v103, v104, v105, v106, v107, v108, v109, v110, v111, v112, v113, v114, v115, v116, v117, v118, v119, v120, v121, v122, v123, v124, v125, v126, v127, v128, v129, v130, v131, v132, v133, v134, v135, v136, v137, v138, v139, v140, v141, v142, v143] := by
  kernel_rfl
def nu7L (ka na : Int) (sa : ByteArray) (p1 p3 : Nat) (RA : Hid (Rt ka na sa)) (sx : ByteArray) (c : OpNul sx) : List (Value → World → Prop) := [IsV (.string sx), IsV (vv ka na sa), IsV (vv 0 0 ⟨#[]⟩), IsV (vv 0 0 ⟨#[]⟩), IsV (.bool true), IsV (.bool false), IsV (.bool false), IsV (.string sx), IsV (vv 0 0 ⟨#[]⟩), IsV (vv ka na sa), IsV (vv 0 0 ⟨#[]⟩), IsV (.bool true), IsV (.bool false), IsV (.bool false)]
def nu7F (ka na : Int) (sa : ByteArray) (p1 p3 : Nat) (RA : Hid (Rt ka na sa)) (sx : ByteArray) (c : OpNul sx) (i : Nat) : Value → World → Prop := (nu7L ka na sa p1 p3 RA sx c).getD i AnyF
theorem nu7F_mono (ka na : Int) (sa : ByteArray) (p1 p3 : Nat) (RA : Hid (Rt ka na sa)) (sx : ByteArray) (c : OpNul sx) (i : Nat) (v : Value) (w w' : World) (hp : (nu7F ka na sa p1 p3 RA sx c) i v w) (hb : Below w.heap.size w w') : (nu7F ka na sa p1 p3 RA sx c) i v w' := by
  refine monoL ?_ i v w w' hp hb
  unfold nu7L
  simp only [List.forall_mem_cons]
  exact ⟨mono_isV _, mono_isV _, mono_isV _, mono_isV _, mono_isV _, mono_isV _, mono_isV _, mono_isV _, mono_isV _, mono_isV _, mono_isV _, mono_isV _, mono_isV _, mono_isV _, fun _ h => by cases h⟩
theorem nu7_s0 {Q : Exit → Act → World → Prop} {w0 : World} {xs : Nat → Value} (ka na : Int) (sa : ByteArray) (p1 p3 : Nat) (RA : Hid (Rt ka na sa)) (sx : ByteArray) (c : OpNul sx) (hb1 : BoxOn w0 p1 ka na sa) (hb3 : BoxOn w0 p3 0 0 ⟨#[]⟩) (hx1 : xs 1 = .pointer (some ⟨p1, 0, none⟩)) (hx3 : xs 3 = .pointer (some ⟨p3, 0, none⟩)) (hx5 : xs 5 = .string sx) : OpStep Tryz.prog nu7Ops Q (nu7F ka na sa p1 p3 RA sx c) w0 144 xs 0 := by
  intro act w hb hk hF
  have g5 : act.eval (.tmp 5) = .string sx := (hk 5 (by decide) (by kernel_rfl)).trans hx5
  exact step_move (show opO nu7Ops 0 = some (.move (.tmp 5)) by kernel_rfl) (.free (by kernel_rfl)) g5 ⟨rfl, Below.refl _ _⟩

theorem nu7_s1 {Q : Exit → Act → World → Prop} {w0 : World} {xs : Nat → Value} (ka na : Int) (sa : ByteArray) (p1 p3 : Nat) (RA : Hid (Rt ka na sa)) (sx : ByteArray) (c : OpNul sx) (hb1 : BoxOn w0 p1 ka na sa) (hb3 : BoxOn w0 p3 0 0 ⟨#[]⟩) (hx1 : xs 1 = .pointer (some ⟨p1, 0, none⟩)) (hx3 : xs 3 = .pointer (some ⟨p3, 0, none⟩)) (hx5 : xs 5 = .string sx) : OpStep Tryz.prog nu7Ops Q (nu7F ka na sa p1 p3 RA sx c) w0 144 xs 1 := by
  intro act w hb hk hF
  have g1 : act.eval (.tmp 1) = .pointer (some ⟨p1, 0, none⟩) := (hk 1 (by decide) (by kernel_rfl)).trans hx1
  exact step_loadB (show opO nu7Ops 1 = some (.load 24 (.tmp 1)) by kernel_rfl) (.free (by kernel_rfl)) g1 (hb1 w hb) ⟨rfl, Below.refl _ _⟩

theorem nu7_s2 {Q : Exit → Act → World → Prop} {w0 : World} {xs : Nat → Value} (ka na : Int) (sa : ByteArray) (p1 p3 : Nat) (RA : Hid (Rt ka na sa)) (sx : ByteArray) (c : OpNul sx) (hb1 : BoxOn w0 p1 ka na sa) (hb3 : BoxOn w0 p3 0 0 ⟨#[]⟩) (hx1 : xs 1 = .pointer (some ⟨p1, 0, none⟩)) (hx3 : xs 3 = .pointer (some ⟨p3, 0, none⟩)) (hx5 : xs 5 = .string sx) : OpStep Tryz.prog nu7Ops Q (nu7F ka na sa p1 p3 RA sx c) w0 144 xs 2 := by
  intro act w hb hk hF
  have g3 : act.eval (.tmp 3) = .pointer (some ⟨p3, 0, none⟩) := (hk 3 (by decide) (by kernel_rfl)).trans hx3
  exact step_loadB (show opO nu7Ops 2 = some (.load 24 (.tmp 3)) by kernel_rfl) (.free (by kernel_rfl)) g3 (hb3 w hb) ⟨rfl, Below.refl _ _⟩

theorem nu7_s3 {Q : Exit → Act → World → Prop} {w0 : World} {xs : Nat → Value} (ka na : Int) (sa : ByteArray) (p1 p3 : Nat) (RA : Hid (Rt ka na sa)) (sx : ByteArray) (c : OpNul sx) (hb1 : BoxOn w0 p1 ka na sa) (hb3 : BoxOn w0 p3 0 0 ⟨#[]⟩) (hx1 : xs 1 = .pointer (some ⟨p1, 0, none⟩)) (hx3 : xs 3 = .pointer (some ⟨p3, 0, none⟩)) (hx5 : xs 5 = .string sx) : OpStep Tryz.prog nu7Ops Q (nu7F ka na sa p1 p3 RA sx c) w0 144 xs 3 := by
  intro act w hb hk hF
  have g3 : act.eval (.tmp 3) = .pointer (some ⟨p3, 0, none⟩) := (hk 3 (by decide) (by kernel_rfl)).trans hx3
  exact step_loadB (show opO nu7Ops 3 = some (.load 24 (.tmp 3)) by kernel_rfl) (.free (by kernel_rfl)) g3 (hb3 w hb) ⟨rfl, Below.refl _ _⟩

theorem nu7_s4 {Q : Exit → Act → World → Prop} {w0 : World} {xs : Nat → Value} (ka na : Int) (sa : ByteArray) (p1 p3 : Nat) (RA : Hid (Rt ka na sa)) (sx : ByteArray) (c : OpNul sx) (hb1 : BoxOn w0 p1 ka na sa) (hb3 : BoxOn w0 p3 0 0 ⟨#[]⟩) (hx1 : xs 1 = .pointer (some ⟨p1, 0, none⟩)) (hx3 : xs 3 = .pointer (some ⟨p3, 0, none⟩)) (hx5 : xs 5 = .string sx) : OpStep Tryz.prog nu7Ops Q (nu7F ka na sa p1 p3 RA sx c) w0 144 xs 4 := by
  intro act w hb hk hF
  have g24 : act.eval (.tmp 24) = .string sx := hF 0 (of_decide_eq_true (by kernel_rfl)) 24 (by kernel_rfl)
  have g25 : act.eval (.tmp 25) = vv ka na sa := hF 1 (of_decide_eq_true (by kernel_rfl)) 25 (by kernel_rfl)
  have g26 : act.eval (.tmp 26) = vv 0 0 ⟨#[]⟩ := hF 2 (of_decide_eq_true (by kernel_rfl)) 26 (by kernel_rfl)
  have g27 : act.eval (.tmp 27) = vv 0 0 ⟨#[]⟩ := hF 3 (of_decide_eq_true (by kernel_rfl)) 27 (by kernel_rfl)
  exact step_call (f := 40) (xs := #[.tmp 24, .tmp 25, .tmp 26, .tmp 27]) (by kernel_rfl) (.free (by kernel_rfl)) (map4 g24 g25 g26 g27) (enters_of Tryz.func40 (by kernel_rfl) rfl) ((op_nul c RA.out Rt_nul (.inr rfl) w).mono fun e w' h => ⟨_, h.1, rfl, h.2⟩)

theorem nu7_s5 {Q : Exit → Act → World → Prop} {w0 : World} {xs : Nat → Value} (ka na : Int) (sa : ByteArray) (p1 p3 : Nat) (RA : Hid (Rt ka na sa)) (sx : ByteArray) (c : OpNul sx) (hb1 : BoxOn w0 p1 ka na sa) (hb3 : BoxOn w0 p3 0 0 ⟨#[]⟩) (hx1 : xs 1 = .pointer (some ⟨p1, 0, none⟩)) (hx3 : xs 3 = .pointer (some ⟨p3, 0, none⟩)) (hx5 : xs 5 = .string sx) : OpStep Tryz.prog nu7Ops Q (nu7F ka na sa p1 p3 RA sx c) w0 144 xs 5 := by
  intro act w hb hk hF
  have g28 : act.eval (.tmp 28) = .bool true := hF 4 (of_decide_eq_true (by kernel_rfl)) 28 (by kernel_rfl)
  exact step_not (show opO nu7Ops 5 = some (.unOp .not 4 (.tmp 28)) by kernel_rfl) (.free (by kernel_rfl)) g28 rfl ⟨rfl, Below.refl _ _⟩

theorem nu7_s6 {Q : Exit → Act → World → Prop} {w0 : World} {xs : Nat → Value} (ka na : Int) (sa : ByteArray) (p1 p3 : Nat) (RA : Hid (Rt ka na sa)) (sx : ByteArray) (c : OpNul sx) (hb1 : BoxOn w0 p1 ka na sa) (hb3 : BoxOn w0 p3 0 0 ⟨#[]⟩) (hx1 : xs 1 = .pointer (some ⟨p1, 0, none⟩)) (hx3 : xs 3 = .pointer (some ⟨p3, 0, none⟩)) (hx5 : xs 5 = .string sx) : OpStep Tryz.prog nu7Ops Q (nu7F ka na sa p1 p3 RA sx c) w0 144 xs 6 := by
  intro act w hb hk hF
  have g29 : act.eval (.tmp 29) = .bool false := hF 5 (of_decide_eq_true (by kernel_rfl)) 29 (by kernel_rfl)
  exact step_move (show opO nu7Ops 6 = some (.move (.tmp 29)) by kernel_rfl) (.free (by kernel_rfl)) g29 ⟨rfl, Below.refl _ _⟩

theorem nu7_s7 {Q : Exit → Act → World → Prop} {w0 : World} {xs : Nat → Value} (ka na : Int) (sa : ByteArray) (p1 p3 : Nat) (RA : Hid (Rt ka na sa)) (sx : ByteArray) (c : OpNul sx) (hb1 : BoxOn w0 p1 ka na sa) (hb3 : BoxOn w0 p3 0 0 ⟨#[]⟩) (hx1 : xs 1 = .pointer (some ⟨p1, 0, none⟩)) (hx3 : xs 3 = .pointer (some ⟨p3, 0, none⟩)) (hx5 : xs 5 = .string sx) : OpStep Tryz.prog nu7Ops Q (nu7F ka na sa p1 p3 RA sx c) w0 144 xs 7 := by
  intro act w hb hk hF
  have g30 : act.eval (.tmp 30) = .bool false := hF 6 (of_decide_eq_true (by kernel_rfl)) 30 (by kernel_rfl)
  have g5 : act.eval (.tmp 5) = .string sx := (hk 5 (by decide) (by kernel_rfl)).trans hx5
  exact step_move (show opO nu7Ops 7 = some (.move (.tmp 5)) by kernel_rfl) (.told 6 false 30 (by kernel_rfl) (by kernel_rfl) g30) g5 ⟨rfl, Below.refl _ _⟩

theorem nu7_s8 {Q : Exit → Act → World → Prop} {w0 : World} {xs : Nat → Value} (ka na : Int) (sa : ByteArray) (p1 p3 : Nat) (RA : Hid (Rt ka na sa)) (sx : ByteArray) (c : OpNul sx) (hb1 : BoxOn w0 p1 ka na sa) (hb3 : BoxOn w0 p3 0 0 ⟨#[]⟩) (hx1 : xs 1 = .pointer (some ⟨p1, 0, none⟩)) (hx3 : xs 3 = .pointer (some ⟨p3, 0, none⟩)) (hx5 : xs 5 = .string sx) : OpStep Tryz.prog nu7Ops Q (nu7F ka na sa p1 p3 RA sx c) w0 144 xs 8 := by
  intro act w hb hk hF
  have g30 : act.eval (.tmp 30) = .bool false := hF 6 (of_decide_eq_true (by kernel_rfl)) 30 (by kernel_rfl)
  have g3 : act.eval (.tmp 3) = .pointer (some ⟨p3, 0, none⟩) := (hk 3 (by decide) (by kernel_rfl)).trans hx3
  exact step_loadB (show opO nu7Ops 8 = some (.load 24 (.tmp 3)) by kernel_rfl) (.told 6 false 30 (by kernel_rfl) (by kernel_rfl) g30) g3 (hb3 w hb) ⟨rfl, Below.refl _ _⟩

theorem nu7_s9 {Q : Exit → Act → World → Prop} {w0 : World} {xs : Nat → Value} (ka na : Int) (sa : ByteArray) (p1 p3 : Nat) (RA : Hid (Rt ka na sa)) (sx : ByteArray) (c : OpNul sx) (hb1 : BoxOn w0 p1 ka na sa) (hb3 : BoxOn w0 p3 0 0 ⟨#[]⟩) (hx1 : xs 1 = .pointer (some ⟨p1, 0, none⟩)) (hx3 : xs 3 = .pointer (some ⟨p3, 0, none⟩)) (hx5 : xs 5 = .string sx) : OpStep Tryz.prog nu7Ops Q (nu7F ka na sa p1 p3 RA sx c) w0 144 xs 9 := by
  intro act w hb hk hF
  have g30 : act.eval (.tmp 30) = .bool false := hF 6 (of_decide_eq_true (by kernel_rfl)) 30 (by kernel_rfl)
  have g1 : act.eval (.tmp 1) = .pointer (some ⟨p1, 0, none⟩) := (hk 1 (by decide) (by kernel_rfl)).trans hx1
  exact step_loadB (show opO nu7Ops 9 = some (.load 24 (.tmp 1)) by kernel_rfl) (.told 6 false 30 (by kernel_rfl) (by kernel_rfl) g30) g1 (hb1 w hb) ⟨rfl, Below.refl _ _⟩

theorem nu7_s10 {Q : Exit → Act → World → Prop} {w0 : World} {xs : Nat → Value} (ka na : Int) (sa : ByteArray) (p1 p3 : Nat) (RA : Hid (Rt ka na sa)) (sx : ByteArray) (c : OpNul sx) (hb1 : BoxOn w0 p1 ka na sa) (hb3 : BoxOn w0 p3 0 0 ⟨#[]⟩) (hx1 : xs 1 = .pointer (some ⟨p1, 0, none⟩)) (hx3 : xs 3 = .pointer (some ⟨p3, 0, none⟩)) (hx5 : xs 5 = .string sx) : OpStep Tryz.prog nu7Ops Q (nu7F ka na sa p1 p3 RA sx c) w0 144 xs 10 := by
  intro act w hb hk hF
  have g30 : act.eval (.tmp 30) = .bool false := hF 6 (of_decide_eq_true (by kernel_rfl)) 30 (by kernel_rfl)
  have g3 : act.eval (.tmp 3) = .pointer (some ⟨p3, 0, none⟩) := (hk 3 (by decide) (by kernel_rfl)).trans hx3
  exact step_loadB (show opO nu7Ops 10 = some (.load 24 (.tmp 3)) by kernel_rfl) (.told 6 false 30 (by kernel_rfl) (by kernel_rfl) g30) g3 (hb3 w hb) ⟨rfl, Below.refl _ _⟩

theorem nu7_s11 {Q : Exit → Act → World → Prop} {w0 : World} {xs : Nat → Value} (ka na : Int) (sa : ByteArray) (p1 p3 : Nat) (RA : Hid (Rt ka na sa)) (sx : ByteArray) (c : OpNul sx) (hb1 : BoxOn w0 p1 ka na sa) (hb3 : BoxOn w0 p3 0 0 ⟨#[]⟩) (hx1 : xs 1 = .pointer (some ⟨p1, 0, none⟩)) (hx3 : xs 3 = .pointer (some ⟨p3, 0, none⟩)) (hx5 : xs 5 = .string sx) : OpStep Tryz.prog nu7Ops Q (nu7F ka na sa p1 p3 RA sx c) w0 144 xs 11 := by
  intro act w hb hk hF
  have g30 : act.eval (.tmp 30) = .bool false := hF 6 (of_decide_eq_true (by kernel_rfl)) 30 (by kernel_rfl)
  have g31 : act.eval (.tmp 31) = .string sx := hF 7 (of_decide_eq_true (by kernel_rfl)) 31 (by kernel_rfl)
  have g32 : act.eval (.tmp 32) = vv 0 0 ⟨#[]⟩ := hF 8 (of_decide_eq_true (by kernel_rfl)) 32 (by kernel_rfl)
  have g33 : act.eval (.tmp 33) = vv ka na sa := hF 9 (of_decide_eq_true (by kernel_rfl)) 33 (by kernel_rfl)
  have g34 : act.eval (.tmp 34) = vv 0 0 ⟨#[]⟩ := hF 10 (of_decide_eq_true (by kernel_rfl)) 34 (by kernel_rfl)
  exact step_call (f := 40) (xs := #[.tmp 31, .tmp 32, .tmp 33, .tmp 34]) (by kernel_rfl) (.told 6 false 30 (by kernel_rfl) (by kernel_rfl) g30) (map4 g31 g32 g33 g34) (enters_of Tryz.func40 (by kernel_rfl) rfl) ((op_nul c Rt_nul RA.out (.inl rfl) w).mono fun e w' h => ⟨_, h.1, rfl, h.2⟩)

theorem nu7_s12 {Q : Exit → Act → World → Prop} {w0 : World} {xs : Nat → Value} (ka na : Int) (sa : ByteArray) (p1 p3 : Nat) (RA : Hid (Rt ka na sa)) (sx : ByteArray) (c : OpNul sx) (hb1 : BoxOn w0 p1 ka na sa) (hb3 : BoxOn w0 p3 0 0 ⟨#[]⟩) (hx1 : xs 1 = .pointer (some ⟨p1, 0, none⟩)) (hx3 : xs 3 = .pointer (some ⟨p3, 0, none⟩)) (hx5 : xs 5 = .string sx) : OpStep Tryz.prog nu7Ops Q (nu7F ka na sa p1 p3 RA sx c) w0 144 xs 12 := by
  intro act w hb hk hF
  have g30 : act.eval (.tmp 30) = .bool false := hF 6 (of_decide_eq_true (by kernel_rfl)) 30 (by kernel_rfl)
  have g35 : act.eval (.tmp 35) = .bool true := hF 11 (of_decide_eq_true (by kernel_rfl)) 35 (by kernel_rfl)
  exact step_not (show opO nu7Ops 12 = some (.unOp .not 4 (.tmp 35)) by kernel_rfl) (.told 6 false 30 (by kernel_rfl) (by kernel_rfl) g30) g35 rfl ⟨rfl, Below.refl _ _⟩

theorem nu7_s13 {Q : Exit → Act → World → Prop} {w0 : World} {xs : Nat → Value} (ka na : Int) (sa : ByteArray) (p1 p3 : Nat) (RA : Hid (Rt ka na sa)) (sx : ByteArray) (c : OpNul sx) (hb1 : BoxOn w0 p1 ka na sa) (hb3 : BoxOn w0 p3 0 0 ⟨#[]⟩) (hx1 : xs 1 = .pointer (some ⟨p1, 0, none⟩)) (hx3 : xs 3 = .pointer (some ⟨p3, 0, none⟩)) (hx5 : xs 5 = .string sx) : OpStep Tryz.prog nu7Ops Q (nu7F ka na sa p1 p3 RA sx c) w0 144 xs 13 := by
  intro act w hb hk hF
  have g30 : act.eval (.tmp 30) = .bool false := hF 6 (of_decide_eq_true (by kernel_rfl)) 30 (by kernel_rfl)
  have g36 : act.eval (.tmp 36) = .bool false := hF 12 (of_decide_eq_true (by kernel_rfl)) 36 (by kernel_rfl)
  exact step_pickF (show opO nu7Ops 13 = some (.pick (.tmp 30) (.const (.bool true)) (.tmp 36)) by kernel_rfl) (.free (by kernel_rfl)) g30 g36 ⟨rfl, Below.refl _ _⟩

theorem nu7 {bb : Bool} {Q : Exit → Act → World → Prop} {a0 : Act} {w0 : World} (ka na : Int) (sa : ByteArray) (p1 p3 : Nat) (RA : Hid (Rt ka na sa)) (sx : ByteArray) (c : OpNul sx) (hb1 : BoxOn w0 p1 ka na sa) (hb3 : BoxOn w0 p3 0 0 ⟨#[]⟩) (hx1 : a0.tmps.getD 1 undef = .pointer (some ⟨p1, 0, none⟩)) (hx3 : a0.tmps.getD 3 undef = .pointer (some ⟨p3, 0, none⟩)) (hx5 : a0.tmps.getD 5 undef = .string sx) (hs : a0.tmps.size = 144)
    (hend : ∀ (V : Nat → Value) (X : World), Below w0.heap.size w0 X → V 13 = .bool false → Q .normal ⟨fillT nu7Ops a0.tmps V, a0.defers⟩ X) : (Code.region 7 nu7Ops bb).wp Tryz.prog Q a0 w0 := by
  refine wp_region_both (by kernel_rfl) (nu7F ka na sa p1 p3 RA sx c) (nu7F_mono ka na sa p1 p3 RA sx c) (by rw [hs]; kernel_rfl) ?_ ?_
  · rw [hs]
    have size_is : nu7Ops.size = 14 := by kernel_rfl
    rw [size_is]
    have u1 : ∀ i, i < 1 → OpStep Tryz.prog nu7Ops Q (nu7F ka na sa p1 p3 RA sx c) w0 144 (fun t => a0.tmps.getD t undef) i := upto_succ upto_zero (nu7_s0 ka na sa p1 p3 RA sx c hb1 hb3 hx1 hx3 hx5)
    have u2 : ∀ i, i < 2 → OpStep Tryz.prog nu7Ops Q (nu7F ka na sa p1 p3 RA sx c) w0 144 (fun t => a0.tmps.getD t undef) i := upto_succ u1 (nu7_s1 ka na sa p1 p3 RA sx c hb1 hb3 hx1 hx3 hx5)
    have u3 : ∀ i, i < 3 → OpStep Tryz.prog nu7Ops Q (nu7F ka na sa p1 p3 RA sx c) w0 144 (fun t => a0.tmps.getD t undef) i := upto_succ u2 (nu7_s2 ka na sa p1 p3 RA sx c hb1 hb3 hx1 hx3 hx5)
    have u4 : ∀ i, i < 4 → OpStep Tryz.prog nu7Ops Q (nu7F ka na sa p1 p3 RA sx c) w0 144 (fun t => a0.tmps.getD t undef) i := upto_succ u3 (nu7_s3 ka na sa p1 p3 RA sx c hb1 hb3 hx1 hx3 hx5)
    have u5 : ∀ i, i < 5 → OpStep Tryz.prog nu7Ops Q (nu7F ka na sa p1 p3 RA sx c) w0 144 (fun t => a0.tmps.getD t undef) i := upto_succ u4 (nu7_s4 ka na sa p1 p3 RA sx c hb1 hb3 hx1 hx3 hx5)
    have u6 : ∀ i, i < 6 → OpStep Tryz.prog nu7Ops Q (nu7F ka na sa p1 p3 RA sx c) w0 144 (fun t => a0.tmps.getD t undef) i := upto_succ u5 (nu7_s5 ka na sa p1 p3 RA sx c hb1 hb3 hx1 hx3 hx5)
    have u7 : ∀ i, i < 7 → OpStep Tryz.prog nu7Ops Q (nu7F ka na sa p1 p3 RA sx c) w0 144 (fun t => a0.tmps.getD t undef) i := upto_succ u6 (nu7_s6 ka na sa p1 p3 RA sx c hb1 hb3 hx1 hx3 hx5)
    have u8 : ∀ i, i < 8 → OpStep Tryz.prog nu7Ops Q (nu7F ka na sa p1 p3 RA sx c) w0 144 (fun t => a0.tmps.getD t undef) i := upto_succ u7 (nu7_s7 ka na sa p1 p3 RA sx c hb1 hb3 hx1 hx3 hx5)
    have u9 : ∀ i, i < 9 → OpStep Tryz.prog nu7Ops Q (nu7F ka na sa p1 p3 RA sx c) w0 144 (fun t => a0.tmps.getD t undef) i := upto_succ u8 (nu7_s8 ka na sa p1 p3 RA sx c hb1 hb3 hx1 hx3 hx5)
    have u10 : ∀ i, i < 10 → OpStep Tryz.prog nu7Ops Q (nu7F ka na sa p1 p3 RA sx c) w0 144 (fun t => a0.tmps.getD t undef) i := upto_succ u9 (nu7_s9 ka na sa p1 p3 RA sx c hb1 hb3 hx1 hx3 hx5)
    have u11 : ∀ i, i < 11 → OpStep Tryz.prog nu7Ops Q (nu7F ka na sa p1 p3 RA sx c) w0 144 (fun t => a0.tmps.getD t undef) i := upto_succ u10 (nu7_s10 ka na sa p1 p3 RA sx c hb1 hb3 hx1 hx3 hx5)
    have u12 : ∀ i, i < 12 → OpStep Tryz.prog nu7Ops Q (nu7F ka na sa p1 p3 RA sx c) w0 144 (fun t => a0.tmps.getD t undef) i := upto_succ u11 (nu7_s11 ka na sa p1 p3 RA sx c hb1 hb3 hx1 hx3 hx5)
    have u13 : ∀ i, i < 13 → OpStep Tryz.prog nu7Ops Q (nu7F ka na sa p1 p3 RA sx c) w0 144 (fun t => a0.tmps.getD t undef) i := upto_succ u12 (nu7_s12 ka na sa p1 p3 RA sx c hb1 hb3 hx1 hx3 hx5)
    have u14 : ∀ i, i < 14 → OpStep Tryz.prog nu7Ops Q (nu7F ka na sa p1 p3 RA sx c) w0 144 (fun t => a0.tmps.getD t undef) i := upto_succ u13 (nu7_s13 ka na sa p1 p3 RA sx c hb1 hb3 hx1 hx3 hx5)
    exact u14
  · intro V X hb hV
    exact hend V X hb (hV 13 (of_decide_eq_true (by kernel_rfl)) (by kernel_rfl))
noncomputable def nu13Ops : Array Oper := regOf Tryz.f11 13
theorem nu13_fill {v0 v1 v2 v3 v4 v5 v6 v7 v8 v9 v10 v11 v12 v13 v14 v15 v16 v17 v18 v19 v20 v21 v22 v23 v24 v25 v26 v27 v28 v29 v30 v31 v32 v33 v34 v35 v36 v37 v38 v39 v40 v41 v42 v43 v44 v45 v46 v47 v48 v49 v50 v51 v52 v53 v54 v55 v56 v57 v58 v59 v60 v61 v62 v63 v64 v65 v66 v67 v68 v69 v70 v71 v72 v73 v74 v75 v76 v77 v78 v79 v80 v81 v82 v83 v84 v85 v86 v87 v88 v89 v90 v91 v92 v93 v94 v95 v96 v97 v98 v99 v100 v101 v102 v103 v104 v105 v106 v107 v108 v109 v110 v111 v112 v113 v114 v115 v116 v117 v118 v119 v120 v121 v122 v123 v124 v125 v126 v127 v128 v129 v130 v131 v132 v133 v134 v135 v136 v137 v138 v139 v140 v141 v142 v143 : Value} (V : Nat → Value) : fillT nu13Ops #[v0, v1, v2, v3, v4, v5, v6, v7, v8, v9, v10, v11, v12, v13, v14, v15, v16, v17, v18, v19, v20, v21, v22, v23, v24, v25, v26, v27, v28, v29, v30, v31, v32, v33, v34, v35, v36, v37, v38, v39, v40, v41, v42, v43, v44, v45, v46, v47, v48, v49, v50, v51, v52, v53, v54, v55, v56, v57, v58, v59, v60, v61, v62, v63, v64, v65, v66, v67, v68, v69, v70, v71, v72, v73, v74, v75, v76, v77, v78, v79, v80, v81, v82, v83, v84, v85, v86, v87, v88, v89, v90, v91, v92, v93, v94, v95, v96, v97, v98, v99, v100, v101, v102, v103, v104, v105, v106, v107, v108, v109, v110, v111, v112, v113, v114, v115, v116, v117, v118, v119, v120, v121, v122, v123, v124, v125, v126, v127, v128, v129, v130, v131, v132, v133, v134, v135, v136, v137, v138, v139, v140, v141, v142, v143] V = #[v0, v1, v2, v3, v4, v5, v6, v7, v8, v9, v10, v11, v12, v13, v14, v15, v16, v17, v18, v19, v20, v21, v22, v23, v24, v25, v26, v27, v28, v29, v30, v31, v32, v33, v34, v35, v36, v37, v38, v39, v40, v41, v42, v43, v44, V 0, V 1, V 2, V 3, V 4, V 5, v51, v52, v53, v54, v55, v56, v57, v58, v59, v60, v61, v62, v63, v64, v65, v66, v67, v68, v69, v70, v71, v72, v73, v74, v75, v76, v77, v78, v79, v80, v81, v82, v83, v84, v85, v86, v87, v88, v89, v90, v91, v92, v93, v94, v95, v96, v97, v98, v99, v100, v101, v102, v103, v104, v105, v106, v107, v108, v109, v110, v111, v112, v113, v114, v115, v116, v117, v118, v119, v120, v121, v122, v123, v124, v125, v126, v127, v128, v129, v130, v131, v132, v133, v134, v135, v136, v137, v138, v139, v140, v141, v142, v143] := by
  kernel_rfl
def nu13L (p3 : Nat) (sx : ByteArray) (c : FnNul sx) : List (Value → World → Prop) := [IsV (vv 0 0 ⟨#[]⟩), IsV (.string sx), IsV (vv 0 0 ⟨#[]⟩), IsL [(0, 0, ⟨#[]⟩)], IsV (.bool true), IsV (.bool false)]
def nu13F (p3 : Nat) (sx : ByteArray) (c : FnNul sx) (i : Nat) : Value → World → Prop := (nu13L p3 sx c).getD i AnyF
theorem nu13F_mono (p3 : Nat) (sx : ByteArray) (c : FnNul sx) (i : Nat) (v : Value) (w w' : World) (hp : (nu13F p3 sx c) i v w) (hb : Below w.heap.size w w') : (nu13F p3 sx c) i v w' := by
  refine monoL ?_ i v w w' hp hb
  unfold nu13L
  simp only [List.forall_mem_cons]
  exact ⟨mono_isV _, mono_isV _, mono_isV _, mono_isL _, mono_isV _, mono_isV _, fun _ h => by cases h⟩
theorem nu13_s0 {Q : Exit → Act → World → Prop} {w0 : World} {xs : Nat → Value} (p3 : Nat) (sx : ByteArray) (c : FnNul sx) (hb3 : BoxOn w0 p3 0 0 ⟨#[]⟩) (hx3 : xs 3 = .pointer (some ⟨p3, 0, none⟩)) (hx7 : xs 7 = .string sx) : OpStep Tryz.prog nu13Ops Q (nu13F p3 sx c) w0 144 xs 0 := by
  intro act w hb hk hF
  have g3 : act.eval (.tmp 3) = .pointer (some ⟨p3, 0, none⟩) := (hk 3 (by decide) (by kernel_rfl)).trans hx3
  exact step_loadB (show opO nu13Ops 0 = some (.load 24 (.tmp 3)) by kernel_rfl) (.free (by kernel_rfl)) g3 (hb3 w hb) ⟨rfl, Below.refl _ _⟩

theorem nu13_s1 {Q : Exit → Act → World → Prop} {w0 : World} {xs : Nat → Value} (p3 : Nat) (sx : ByteArray) (c : FnNul sx) (hb3 : BoxOn w0 p3 0 0 ⟨#[]⟩) (hx3 : xs 3 = .pointer (some ⟨p3, 0, none⟩)) (hx7 : xs 7 = .string sx) : OpStep Tryz.prog nu13Ops Q (nu13F p3 sx c) w0 144 xs 1 := by
  intro act w hb hk hF
  have g7 : act.eval (.tmp 7) = .string sx := (hk 7 (by decide) (by kernel_rfl)).trans hx7
  exact step_move (show opO nu13Ops 1 = some (.move (.tmp 7)) by kernel_rfl) (.free (by kernel_rfl)) g7 ⟨rfl, Below.refl _ _⟩

theorem nu13_s2 {Q : Exit → Act → World → Prop} {w0 : World} {xs : Nat → Value} (p3 : Nat) (sx : ByteArray) (c : FnNul sx) (hb3 : BoxOn w0 p3 0 0 ⟨#[]⟩) (hx3 : xs 3 = .pointer (some ⟨p3, 0, none⟩)) (hx7 : xs 7 = .string sx) : OpStep Tryz.prog nu13Ops Q (nu13F p3 sx c) w0 144 xs 2 := by
  intro act w hb hk hF
  have g3 : act.eval (.tmp 3) = .pointer (some ⟨p3, 0, none⟩) := (hk 3 (by decide) (by kernel_rfl)).trans hx3
  exact step_loadB (show opO nu13Ops 2 = some (.load 24 (.tmp 3)) by kernel_rfl) (.free (by kernel_rfl)) g3 (hb3 w hb) ⟨rfl, Below.refl _ _⟩

theorem nu13_s3 {Q : Exit → Act → World → Prop} {w0 : World} {xs : Nat → Value} (p3 : Nat) (sx : ByteArray) (c : FnNul sx) (hb3 : BoxOn w0 p3 0 0 ⟨#[]⟩) (hx3 : xs 3 = .pointer (some ⟨p3, 0, none⟩)) (hx7 : xs 7 = .string sx) : OpStep Tryz.prog nu13Ops Q (nu13F p3 sx c) w0 144 xs 3 := by
  intro act w hb hk hF
  have g47 : act.eval (.tmp 47) = vv 0 0 ⟨#[]⟩ := hF 2 (of_decide_eq_true (by kernel_rfl)) 47 (by kernel_rfl)
  exact step_build1 (show opO nu13Ops 3 = some (.buildSlice 27 1 #[(0, .tmp 47)]) by kernel_rfl) (.free (by kernel_rfl)) g47 fun b hR hb' => ⟨⟨b, rfl, hR⟩, hb'⟩

theorem nu13_s4 {Q : Exit → Act → World → Prop} {w0 : World} {xs : Nat → Value} (p3 : Nat) (sx : ByteArray) (c : FnNul sx) (hb3 : BoxOn w0 p3 0 0 ⟨#[]⟩) (hx3 : xs 3 = .pointer (some ⟨p3, 0, none⟩)) (hx7 : xs 7 = .string sx) : OpStep Tryz.prog nu13Ops Q (nu13F p3 sx c) w0 144 xs 4 := by
  intro act w hb hk hF
  have g45 : act.eval (.tmp 45) = vv 0 0 ⟨#[]⟩ := hF 0 (of_decide_eq_true (by kernel_rfl)) 45 (by kernel_rfl)
  have g46 : act.eval (.tmp 46) = .string sx := hF 1 (of_decide_eq_true (by kernel_rfl)) 46 (by kernel_rfl)
  obtain ⟨b48, g48, hR48⟩ := (show IsL [(0, 0, ⟨#[]⟩)] _ w from hF 3 (of_decide_eq_true (by kernel_rfl)) 48 (by kernel_rfl))
  exact step_call (f := 24) (xs := #[.tmp 45, .tmp 46, .tmp 48]) (by kernel_rfl) (.free (by kernel_rfl)) (map3 g45 g46 g48) (enters_of Tryz.func24 (by kernel_rfl) rfl) ((c b48 w hR48).mono fun e w' h => ⟨_, h.1, rfl, h.2⟩)

theorem nu13_s5 {Q : Exit → Act → World → Prop} {w0 : World} {xs : Nat → Value} (p3 : Nat) (sx : ByteArray) (c : FnNul sx) (hb3 : BoxOn w0 p3 0 0 ⟨#[]⟩) (hx3 : xs 3 = .pointer (some ⟨p3, 0, none⟩)) (hx7 : xs 7 = .string sx) : OpStep Tryz.prog nu13Ops Q (nu13F p3 sx c) w0 144 xs 5 := by
  intro act w hb hk hF
  have g49 : act.eval (.tmp 49) = .bool true := hF 4 (of_decide_eq_true (by kernel_rfl)) 49 (by kernel_rfl)
  exact step_not (show opO nu13Ops 5 = some (.unOp .not 4 (.tmp 49)) by kernel_rfl) (.free (by kernel_rfl)) g49 rfl ⟨rfl, Below.refl _ _⟩

theorem nu13 {bb : Bool} {Q : Exit → Act → World → Prop} {a0 : Act} {w0 : World} (p3 : Nat) (sx : ByteArray) (c : FnNul sx) (hb3 : BoxOn w0 p3 0 0 ⟨#[]⟩) (hx3 : a0.tmps.getD 3 undef = .pointer (some ⟨p3, 0, none⟩)) (hx7 : a0.tmps.getD 7 undef = .string sx) (hs : a0.tmps.size = 144)
    (hend : ∀ (V : Nat → Value) (X : World), Below w0.heap.size w0 X → V 5 = .bool false → Q .normal ⟨fillT nu13Ops a0.tmps V, a0.defers⟩ X) : (Code.region 13 nu13Ops bb).wp Tryz.prog Q a0 w0 := by
  refine wp_region_both (by kernel_rfl) (nu13F p3 sx c) (nu13F_mono p3 sx c) (by rw [hs]; kernel_rfl) ?_ ?_
  · rw [hs]
    have size_is : nu13Ops.size = 6 := by kernel_rfl
    rw [size_is]
    have u1 : ∀ i, i < 1 → OpStep Tryz.prog nu13Ops Q (nu13F p3 sx c) w0 144 (fun t => a0.tmps.getD t undef) i := upto_succ upto_zero (nu13_s0 p3 sx c hb3 hx3 hx7)
    have u2 : ∀ i, i < 2 → OpStep Tryz.prog nu13Ops Q (nu13F p3 sx c) w0 144 (fun t => a0.tmps.getD t undef) i := upto_succ u1 (nu13_s1 p3 sx c hb3 hx3 hx7)
    have u3 : ∀ i, i < 3 → OpStep Tryz.prog nu13Ops Q (nu13F p3 sx c) w0 144 (fun t => a0.tmps.getD t undef) i := upto_succ u2 (nu13_s2 p3 sx c hb3 hx3 hx7)
    have u4 : ∀ i, i < 4 → OpStep Tryz.prog nu13Ops Q (nu13F p3 sx c) w0 144 (fun t => a0.tmps.getD t undef) i := upto_succ u3 (nu13_s3 p3 sx c hb3 hx3 hx7)
    have u5 : ∀ i, i < 5 → OpStep Tryz.prog nu13Ops Q (nu13F p3 sx c) w0 144 (fun t => a0.tmps.getD t undef) i := upto_succ u4 (nu13_s4 p3 sx c hb3 hx3 hx7)
    have u6 : ∀ i, i < 6 → OpStep Tryz.prog nu13Ops Q (nu13F p3 sx c) w0 144 (fun t => a0.tmps.getD t undef) i := upto_succ u5 (nu13_s5 p3 sx c hb3 hx3 hx7)
    exact u6
  · intro V X hb hV
    exact hend V X hb (hV 5 (of_decide_eq_true (by kernel_rfl)) (by kernel_rfl))
noncomputable def nu18Ops : Array Oper := regOf Tryz.f11 18
theorem nu18_fill {v0 v1 v2 v3 v4 v5 v6 v7 v8 v9 v10 v11 v12 v13 v14 v15 v16 v17 v18 v19 v20 v21 v22 v23 v24 v25 v26 v27 v28 v29 v30 v31 v32 v33 v34 v35 v36 v37 v38 v39 v40 v41 v42 v43 v44 v45 v46 v47 v48 v49 v50 v51 v52 v53 v54 v55 v56 v57 v58 v59 v60 v61 v62 v63 v64 v65 v66 v67 v68 v69 v70 v71 v72 v73 v74 v75 v76 v77 v78 v79 v80 v81 v82 v83 v84 v85 v86 v87 v88 v89 v90 v91 v92 v93 v94 v95 v96 v97 v98 v99 v100 v101 v102 v103 v104 v105 v106 v107 v108 v109 v110 v111 v112 v113 v114 v115 v116 v117 v118 v119 v120 v121 v122 v123 v124 v125 v126 v127 v128 v129 v130 v131 v132 v133 v134 v135 v136 v137 v138 v139 v140 v141 v142 v143 : Value} (V : Nat → Value) : fillT nu18Ops #[v0, v1, v2, v3, v4, v5, v6, v7, v8, v9, v10, v11, v12, v13, v14, v15, v16, v17, v18, v19, v20, v21, v22, v23, v24, v25, v26, v27, v28, v29, v30, v31, v32, v33, v34, v35, v36, v37, v38, v39, v40, v41, v42, v43, v44, v45, v46, v47, v48, v49, v50, v51, v52, v53, v54, v55, v56, v57, v58, v59, v60, v61, v62, v63, v64, v65, v66, v67, v68, v69, v70, v71, v72, v73, v74, v75, v76, v77, v78, v79, v80, v81, v82, v83, v84, v85, v86, v87, v88, v89, v90, v91, v92, v93, v94, v95, v96, v97, v98, v99, v100, v101, v102, v103, v104, v105, v106, v107, v108, v109, v110, v111, v112, v113, v114, v115, v116, v117, v118, v119, v120, v121, v122, v123, v124, v125, v126, v127, v128, v129, v130, v131, v132, v133, v134, v135, v136, v137, v138, v139, v140, v141, v142, v143] V = #[v0, v1, V 82, v3, v4, v5, v6, v7, v8, v9, v10, v11, v12, v13, v14, v15, v16, v17, v18, v19, v20, v21, v22, v23, v24, v25, v26, v27, v28, v29, v30, v31, v32, v33, v34, v35, v36, v37, v38, v39, v40, v41, v42, v43, v44, v45, v46, v47, v48, v49, v50, v51, v52, v53, v54, v55, v56, v57, v58, v59, v60, v61, V 0, V 1, V 2, V 3, V 4, V 5, V 6, V 7, V 8, V 9, V 10, V 11, V 12, V 13, V 14, V 15, V 16, V 17, V 18, V 19, V 20, V 21, V 22, V 23, V 24, V 25, V 26, V 27, V 28, V 29, V 30, V 31, V 32, V 33, V 34, V 35, V 36, V 37, V 38, V 39, V 40, V 41, V 42, V 43, V 44, V 45, V 46, V 47, V 48, V 49, V 50, V 51, V 52, V 53, V 54, V 55, V 56, V 57, V 58, V 59, V 60, V 61, V 62, V 63, V 64, V 65, V 66, V 67, V 68, V 69, V 70, V 71, V 72, V 73, V 74, V 75, V 76, V 77, V 78, V 79, V 80, V 81] := by
  kernel_rfl
def nu18L (ka na : Int) (sa : ByteArray) (p1 p3 : Nat) (RA : Hid (Rt ka na sa)) (p8 p10 : Nat) : List (Value → World → Prop) := [IsV (vv 0 0 ⟨#[]⟩), IsV (vv ka na sa), IsV (vv 0 0 ⟨#[]⟩), IsL [(ka, na, sa), (0, 0, ⟨#[]⟩)], IsV (.bool true), IsV (.bool true), IsV (vv 0 0 ⟨#[]⟩), IsV (vv 0 0 ⟨#[]⟩), IsV (vv ka na sa), IsL [(0, 0, ⟨#[]⟩), (ka, na, sa)], IsV (.bool true), IsV (.bool true), IsV (.bool true), IsV (vv 0 0 ⟨#[]⟩), IsV (vv ka na sa), IsV (vv 0 0 ⟨#[]⟩), IsL [(ka, na, sa), (0, 0, ⟨#[]⟩)], IsV (.bool true), IsV (.bool true), IsV (.bool true), IsV (vv 0 0 ⟨#[]⟩), IsV (vv 0 0 ⟨#[]⟩), IsV (vv ka na sa), IsV (vv ka na sa), IsL [(0, 0, ⟨#[]⟩), (ka, na, sa), (ka, na, sa)], IsV (.bool true), IsV (.bool true), IsV (.bool true), IsV (vv 0 0 ⟨#[]⟩), IsV (vv ka na sa), IsV (vv ka na sa), IsV (vv 0 0 ⟨#[]⟩), IsL [(ka, na, sa), (ka, na, sa), (0, 0, ⟨#[]⟩)], IsV (.bool true), IsV (.bool true), IsV (.bool true), IsV (vv ka na sa), IsV (vv 0 0 ⟨#[]⟩), IsV (vv ka na sa), IsL [(0, 0, ⟨#[]⟩), (ka, na, sa)], IsV (.bool true), IsV (.bool true), IsV (.bool true), IsV (vv ka na sa), IsV (vv ka na sa), IsV (vv 0 0 ⟨#[]⟩), IsL [(ka, na, sa), (0, 0, ⟨#[]⟩)], IsV (.bool true), IsV (.bool true), IsV (.bool true), IsV (vv 2 0 ⟨#[110, 117, 108, 108]⟩), IsV (vv 0 0 ⟨#[]⟩), IsL [(0, 0, ⟨#[]⟩)], IsV (.bool true), IsV (.bool true), IsV (.bool true), IsV (vv 0 0 ⟨#[]⟩), IsV (vv 0 0 ⟨#[]⟩), IsV (.bool true), IsV (.bool true), IsV (.bool true), IsV (vv 0 0 ⟨#[]⟩), IsV (vv 0 0 ⟨#[]⟩), IsV (.bool true), IsV (.bool true), IsV (.bool true), IsV (.int .i64 0), IsV (.bool true), IsV (.bool true), IsV (.bool true), IsV (.int .i64 0), IsV (.bool true), IsV (.bool true), IsV (.bool true), IsV (vv 0 0 ⟨#[]⟩), IsL [(0, 0, ⟨#[]⟩)], IsL [(0, 0, ⟨#[]⟩)], IsV (.bool true), IsV (.bool true), IsV (.bool true), IsV (.bool true), IsV (.bool true), IsV (.bool true)]
def nu18F (ka na : Int) (sa : ByteArray) (p1 p3 : Nat) (RA : Hid (Rt ka na sa)) (p8 p10 : Nat) (i : Nat) : Value → World → Prop := (nu18L ka na sa p1 p3 RA p8 p10).getD i AnyF
theorem nu18F_mono (ka na : Int) (sa : ByteArray) (p1 p3 : Nat) (RA : Hid (Rt ka na sa)) (p8 p10 : Nat) (i : Nat) (v : Value) (w w' : World) (hp : (nu18F ka na sa p1 p3 RA p8 p10) i v w) (hb : Below w.heap.size w w') : (nu18F ka na sa p1 p3 RA p8 p10) i v w' := by
  refine monoL ?_ i v w w' hp hb
  unfold nu18L
  simp only [List.forall_mem_cons]
  exact ⟨mono_isV _, mono_isV _, mono_isV _, mono_isL _, mono_isV _, mono_isV _, mono_isV _, mono_isV _, mono_isV _, mono_isL _, mono_isV _, mono_isV _, mono_isV _, mono_isV _, mono_isV _, mono_isV _, mono_isL _, mono_isV _, mono_isV _, mono_isV _, mono_isV _, mono_isV _, mono_isV _, mono_isV _, mono_isL _, mono_isV _, mono_isV _, mono_isV _, mono_isV _, mono_isV _, mono_isV _, mono_isV _, mono_isL _, mono_isV _, mono_isV _, mono_isV _, mono_isV _, mono_isV _, mono_isV _, mono_isL _, mono_isV _, mono_isV _, mono_isV _, mono_isV _, mono_isV _, mono_isV _, mono_isL _, mono_isV _, mono_isV _, mono_isV _, mono_isV _, mono_isV _, mono_isL _, mono_isV _, mono_isV _, mono_isV _, mono_isV _, mono_isV _, mono_isV _, mono_isV _, mono_isV _, mono_isV _, mono_isV _, mono_isV _, mono_isV _, mono_isV _, mono_isV _, mono_isV _, mono_isV _, mono_isV _, mono_isV _, mono_isV _, mono_isV _, mono_isV _, mono_isV _, mono_isL _, mono_isL _, mono_isV _, mono_isV _, mono_isV _, mono_isV _, mono_isV _, mono_isV _, fun _ h => by cases h⟩
theorem nu18_s0 {Q : Exit → Act → World → Prop} {w0 : World} {xs : Nat → Value} (ka na : Int) (sa : ByteArray) (p1 p3 : Nat) (RA : Hid (Rt ka na sa)) (p8 p10 : Nat) (hb1 : BoxOn w0 p1 ka na sa) (hb3 : BoxOn w0 p3 0 0 ⟨#[]⟩) (hb8 : BoxOn w0 p8 0 0 ⟨#[]⟩) (hb10 : BoxOn w0 p10 0 0 ⟨#[]⟩) (aw : AwIs w0) (hx1 : xs 1 = .pointer (some ⟨p1, 0, none⟩)) (hx3 : xs 3 = .pointer (some ⟨p3, 0, none⟩)) (hx8 : xs 8 = .pointer (some ⟨p8, 0, none⟩)) (hx10 : xs 10 = .pointer (some ⟨p10, 0, none⟩)) (hx9 : xs 9 = .int .i64 0) (hx11 : xs 11 = .int .i64 0) : OpStep Tryz.prog nu18Ops Q (nu18F ka na sa p1 p3 RA p8 p10) w0 144 xs 0 := by
  intro act w hb hk hF
  have g3 : act.eval (.tmp 3) = .pointer (some ⟨p3, 0, none⟩) := (hk 3 (by decide) (by kernel_rfl)).trans hx3
  exact step_loadB (show opO nu18Ops 0 = some (.load 24 (.tmp 3)) by kernel_rfl) (.free (by kernel_rfl)) g3 (hb3 w hb) ⟨rfl, Below.refl _ _⟩

theorem nu18_s1 {Q : Exit → Act → World → Prop} {w0 : World} {xs : Nat → Value} (ka na : Int) (sa : ByteArray) (p1 p3 : Nat) (RA : Hid (Rt ka na sa)) (p8 p10 : Nat) (hb1 : BoxOn w0 p1 ka na sa) (hb3 : BoxOn w0 p3 0 0 ⟨#[]⟩) (hb8 : BoxOn w0 p8 0 0 ⟨#[]⟩) (hb10 : BoxOn w0 p10 0 0 ⟨#[]⟩) (aw : AwIs w0) (hx1 : xs 1 = .pointer (some ⟨p1, 0, none⟩)) (hx3 : xs 3 = .pointer (some ⟨p3, 0, none⟩)) (hx8 : xs 8 = .pointer (some ⟨p8, 0, none⟩)) (hx10 : xs 10 = .pointer (some ⟨p10, 0, none⟩)) (hx9 : xs 9 = .int .i64 0) (hx11 : xs 11 = .int .i64 0) : OpStep Tryz.prog nu18Ops Q (nu18F ka na sa p1 p3 RA p8 p10) w0 144 xs 1 := by
  intro act w hb hk hF
  have g1 : act.eval (.tmp 1) = .pointer (some ⟨p1, 0, none⟩) := (hk 1 (by decide) (by kernel_rfl)).trans hx1
  exact step_loadB (show opO nu18Ops 1 = some (.load 24 (.tmp 1)) by kernel_rfl) (.free (by kernel_rfl)) g1 (hb1 w hb) ⟨rfl, Below.refl _ _⟩

theorem nu18_s2 {Q : Exit → Act → World → Prop} {w0 : World} {xs : Nat → Value} (ka na : Int) (sa : ByteArray) (p1 p3 : Nat) (RA : Hid (Rt ka na sa)) (p8 p10 : Nat) (hb1 : BoxOn w0 p1 ka na sa) (hb3 : BoxOn w0 p3 0 0 ⟨#[]⟩) (hb8 : BoxOn w0 p8 0 0 ⟨#[]⟩) (hb10 : BoxOn w0 p10 0 0 ⟨#[]⟩) (aw : AwIs w0) (hx1 : xs 1 = .pointer (some ⟨p1, 0, none⟩)) (hx3 : xs 3 = .pointer (some ⟨p3, 0, none⟩)) (hx8 : xs 8 = .pointer (some ⟨p8, 0, none⟩)) (hx10 : xs 10 = .pointer (some ⟨p10, 0, none⟩)) (hx9 : xs 9 = .int .i64 0) (hx11 : xs 11 = .int .i64 0) : OpStep Tryz.prog nu18Ops Q (nu18F ka na sa p1 p3 RA p8 p10) w0 144 xs 2 := by
  intro act w hb hk hF
  have g3 : act.eval (.tmp 3) = .pointer (some ⟨p3, 0, none⟩) := (hk 3 (by decide) (by kernel_rfl)).trans hx3
  exact step_loadB (show opO nu18Ops 2 = some (.load 24 (.tmp 3)) by kernel_rfl) (.free (by kernel_rfl)) g3 (hb3 w hb) ⟨rfl, Below.refl _ _⟩

theorem nu18_s3 {Q : Exit → Act → World → Prop} {w0 : World} {xs : Nat → Value} (ka na : Int) (sa : ByteArray) (p1 p3 : Nat) (RA : Hid (Rt ka na sa)) (p8 p10 : Nat) (hb1 : BoxOn w0 p1 ka na sa) (hb3 : BoxOn w0 p3 0 0 ⟨#[]⟩) (hb8 : BoxOn w0 p8 0 0 ⟨#[]⟩) (hb10 : BoxOn w0 p10 0 0 ⟨#[]⟩) (aw : AwIs w0) (hx1 : xs 1 = .pointer (some ⟨p1, 0, none⟩)) (hx3 : xs 3 = .pointer (some ⟨p3, 0, none⟩)) (hx8 : xs 8 = .pointer (some ⟨p8, 0, none⟩)) (hx10 : xs 10 = .pointer (some ⟨p10, 0, none⟩)) (hx9 : xs 9 = .int .i64 0) (hx11 : xs 11 = .int .i64 0) : OpStep Tryz.prog nu18Ops Q (nu18F ka na sa p1 p3 RA p8 p10) w0 144 xs 3 := by
  intro act w hb hk hF
  have g63 : act.eval (.tmp 63) = vv ka na sa := hF 1 (of_decide_eq_true (by kernel_rfl)) 63 (by kernel_rfl)
  have g64 : act.eval (.tmp 64) = vv 0 0 ⟨#[]⟩ := hF 2 (of_decide_eq_true (by kernel_rfl)) 64 (by kernel_rfl)
  exact step_build2 (show opO nu18Ops 3 = some (.buildSlice 27 2 #[(0, .tmp 63), (1, .tmp 64)]) by kernel_rfl) (.free (by kernel_rfl)) g63 g64 fun b hR hb' => ⟨⟨b, rfl, hR⟩, hb'⟩

theorem nu18_s4 {Q : Exit → Act → World → Prop} {w0 : World} {xs : Nat → Value} (ka na : Int) (sa : ByteArray) (p1 p3 : Nat) (RA : Hid (Rt ka na sa)) (p8 p10 : Nat) (hb1 : BoxOn w0 p1 ka na sa) (hb3 : BoxOn w0 p3 0 0 ⟨#[]⟩) (hb8 : BoxOn w0 p8 0 0 ⟨#[]⟩) (hb10 : BoxOn w0 p10 0 0 ⟨#[]⟩) (aw : AwIs w0) (hx1 : xs 1 = .pointer (some ⟨p1, 0, none⟩)) (hx3 : xs 3 = .pointer (some ⟨p3, 0, none⟩)) (hx8 : xs 8 = .pointer (some ⟨p8, 0, none⟩)) (hx10 : xs 10 = .pointer (some ⟨p10, 0, none⟩)) (hx9 : xs 9 = .int .i64 0) (hx11 : xs 11 = .int .i64 0) : OpStep Tryz.prog nu18Ops Q (nu18F ka na sa p1 p3 RA p8 p10) w0 144 xs 4 := by
  intro act w hb hk hF
  have g62 : act.eval (.tmp 62) = vv 0 0 ⟨#[]⟩ := hF 0 (of_decide_eq_true (by kernel_rfl)) 62 (by kernel_rfl)
  obtain ⟨b65, g65, hR65⟩ := (show IsL [(ka, na, sa), (0, 0, ⟨#[]⟩)] _ w from hF 3 (of_decide_eq_true (by kernel_rfl)) 65 (by kernel_rfl))
  exact step_call (f := 24) (xs := #[.tmp 62, .const (.string ⟨#[105, 110, 115, 116, 114]⟩), .tmp 65]) (by kernel_rfl) (.free (by kernel_rfl)) (map3 g62 rfl g65) (enters_of Tryz.func24 (by kernel_rfl) rfl) ((calls_null named_instr b65 _ w (all2 RA.out Rt_nul) (by simp) hR65 (by simp) (by simp) (by simp [pNul])).mono fun e w' h => ⟨_, h.1, rfl, h.2⟩)

theorem nu18_s5 {Q : Exit → Act → World → Prop} {w0 : World} {xs : Nat → Value} (ka na : Int) (sa : ByteArray) (p1 p3 : Nat) (RA : Hid (Rt ka na sa)) (p8 p10 : Nat) (hb1 : BoxOn w0 p1 ka na sa) (hb3 : BoxOn w0 p3 0 0 ⟨#[]⟩) (hb8 : BoxOn w0 p8 0 0 ⟨#[]⟩) (hb10 : BoxOn w0 p10 0 0 ⟨#[]⟩) (aw : AwIs w0) (hx1 : xs 1 = .pointer (some ⟨p1, 0, none⟩)) (hx3 : xs 3 = .pointer (some ⟨p3, 0, none⟩)) (hx8 : xs 8 = .pointer (some ⟨p8, 0, none⟩)) (hx10 : xs 10 = .pointer (some ⟨p10, 0, none⟩)) (hx9 : xs 9 = .int .i64 0) (hx11 : xs 11 = .int .i64 0) : OpStep Tryz.prog nu18Ops Q (nu18F ka na sa p1 p3 RA p8 p10) w0 144 xs 5 := by
  intro act w hb hk hF
  have g66 : act.eval (.tmp 66) = .bool true := hF 4 (of_decide_eq_true (by kernel_rfl)) 66 (by kernel_rfl)
  exact step_move (show opO nu18Ops 5 = some (.move (.tmp 66)) by kernel_rfl) (.free (by kernel_rfl)) g66 ⟨rfl, Below.refl _ _⟩

theorem nu18_s6 {Q : Exit → Act → World → Prop} {w0 : World} {xs : Nat → Value} (ka na : Int) (sa : ByteArray) (p1 p3 : Nat) (RA : Hid (Rt ka na sa)) (p8 p10 : Nat) (hb1 : BoxOn w0 p1 ka na sa) (hb3 : BoxOn w0 p3 0 0 ⟨#[]⟩) (hb8 : BoxOn w0 p8 0 0 ⟨#[]⟩) (hb10 : BoxOn w0 p10 0 0 ⟨#[]⟩) (aw : AwIs w0) (hx1 : xs 1 = .pointer (some ⟨p1, 0, none⟩)) (hx3 : xs 3 = .pointer (some ⟨p3, 0, none⟩)) (hx8 : xs 8 = .pointer (some ⟨p8, 0, none⟩)) (hx10 : xs 10 = .pointer (some ⟨p10, 0, none⟩)) (hx9 : xs 9 = .int .i64 0) (hx11 : xs 11 = .int .i64 0) : OpStep Tryz.prog nu18Ops Q (nu18F ka na sa p1 p3 RA p8 p10) w0 144 xs 6 := by
  intro act w hb hk hF
  have g67 : act.eval (.tmp 67) = .bool true := hF 5 (of_decide_eq_true (by kernel_rfl)) 67 (by kernel_rfl)
  have g3 : act.eval (.tmp 3) = .pointer (some ⟨p3, 0, none⟩) := (hk 3 (by decide) (by kernel_rfl)).trans hx3
  exact step_loadB (show opO nu18Ops 6 = some (.load 24 (.tmp 3)) by kernel_rfl) (.told 5 true 67 (by kernel_rfl) (by kernel_rfl) g67) g3 (hb3 w hb) ⟨rfl, Below.refl _ _⟩

theorem nu18_s7 {Q : Exit → Act → World → Prop} {w0 : World} {xs : Nat → Value} (ka na : Int) (sa : ByteArray) (p1 p3 : Nat) (RA : Hid (Rt ka na sa)) (p8 p10 : Nat) (hb1 : BoxOn w0 p1 ka na sa) (hb3 : BoxOn w0 p3 0 0 ⟨#[]⟩) (hb8 : BoxOn w0 p8 0 0 ⟨#[]⟩) (hb10 : BoxOn w0 p10 0 0 ⟨#[]⟩) (aw : AwIs w0) (hx1 : xs 1 = .pointer (some ⟨p1, 0, none⟩)) (hx3 : xs 3 = .pointer (some ⟨p3, 0, none⟩)) (hx8 : xs 8 = .pointer (some ⟨p8, 0, none⟩)) (hx10 : xs 10 = .pointer (some ⟨p10, 0, none⟩)) (hx9 : xs 9 = .int .i64 0) (hx11 : xs 11 = .int .i64 0) : OpStep Tryz.prog nu18Ops Q (nu18F ka na sa p1 p3 RA p8 p10) w0 144 xs 7 := by
  intro act w hb hk hF
  have g67 : act.eval (.tmp 67) = .bool true := hF 5 (of_decide_eq_true (by kernel_rfl)) 67 (by kernel_rfl)
  have g3 : act.eval (.tmp 3) = .pointer (some ⟨p3, 0, none⟩) := (hk 3 (by decide) (by kernel_rfl)).trans hx3
  exact step_loadB (show opO nu18Ops 7 = some (.load 24 (.tmp 3)) by kernel_rfl) (.told 5 true 67 (by kernel_rfl) (by kernel_rfl) g67) g3 (hb3 w hb) ⟨rfl, Below.refl _ _⟩

theorem nu18_s8 {Q : Exit → Act → World → Prop} {w0 : World} {xs : Nat → Value} (ka na : Int) (sa : ByteArray) (p1 p3 : Nat) (RA : Hid (Rt ka na sa)) (p8 p10 : Nat) (hb1 : BoxOn w0 p1 ka na sa) (hb3 : BoxOn w0 p3 0 0 ⟨#[]⟩) (hb8 : BoxOn w0 p8 0 0 ⟨#[]⟩) (hb10 : BoxOn w0 p10 0 0 ⟨#[]⟩) (aw : AwIs w0) (hx1 : xs 1 = .pointer (some ⟨p1, 0, none⟩)) (hx3 : xs 3 = .pointer (some ⟨p3, 0, none⟩)) (hx8 : xs 8 = .pointer (some ⟨p8, 0, none⟩)) (hx10 : xs 10 = .pointer (some ⟨p10, 0, none⟩)) (hx9 : xs 9 = .int .i64 0) (hx11 : xs 11 = .int .i64 0) : OpStep Tryz.prog nu18Ops Q (nu18F ka na sa p1 p3 RA p8 p10) w0 144 xs 8 := by
  intro act w hb hk hF
  have g67 : act.eval (.tmp 67) = .bool true := hF 5 (of_decide_eq_true (by kernel_rfl)) 67 (by kernel_rfl)
  have g1 : act.eval (.tmp 1) = .pointer (some ⟨p1, 0, none⟩) := (hk 1 (by decide) (by kernel_rfl)).trans hx1
  exact step_loadB (show opO nu18Ops 8 = some (.load 24 (.tmp 1)) by kernel_rfl) (.told 5 true 67 (by kernel_rfl) (by kernel_rfl) g67) g1 (hb1 w hb) ⟨rfl, Below.refl _ _⟩

theorem nu18_s9 {Q : Exit → Act → World → Prop} {w0 : World} {xs : Nat → Value} (ka na : Int) (sa : ByteArray) (p1 p3 : Nat) (RA : Hid (Rt ka na sa)) (p8 p10 : Nat) (hb1 : BoxOn w0 p1 ka na sa) (hb3 : BoxOn w0 p3 0 0 ⟨#[]⟩) (hb8 : BoxOn w0 p8 0 0 ⟨#[]⟩) (hb10 : BoxOn w0 p10 0 0 ⟨#[]⟩) (aw : AwIs w0) (hx1 : xs 1 = .pointer (some ⟨p1, 0, none⟩)) (hx3 : xs 3 = .pointer (some ⟨p3, 0, none⟩)) (hx8 : xs 8 = .pointer (some ⟨p8, 0, none⟩)) (hx10 : xs 10 = .pointer (some ⟨p10, 0, none⟩)) (hx9 : xs 9 = .int .i64 0) (hx11 : xs 11 = .int .i64 0) : OpStep Tryz.prog nu18Ops Q (nu18F ka na sa p1 p3 RA p8 p10) w0 144 xs 9 := by
  intro act w hb hk hF
  have g67 : act.eval (.tmp 67) = .bool true := hF 5 (of_decide_eq_true (by kernel_rfl)) 67 (by kernel_rfl)
  have g69 : act.eval (.tmp 69) = vv 0 0 ⟨#[]⟩ := hF 7 (of_decide_eq_true (by kernel_rfl)) 69 (by kernel_rfl)
  have g70 : act.eval (.tmp 70) = vv ka na sa := hF 8 (of_decide_eq_true (by kernel_rfl)) 70 (by kernel_rfl)
  exact step_build2 (show opO nu18Ops 9 = some (.buildSlice 27 2 #[(0, .tmp 69), (1, .tmp 70)]) by kernel_rfl) (.told 5 true 67 (by kernel_rfl) (by kernel_rfl) g67) g69 g70 fun b hR hb' => ⟨⟨b, rfl, hR⟩, hb'⟩

theorem nu18_s10 {Q : Exit → Act → World → Prop} {w0 : World} {xs : Nat → Value} (ka na : Int) (sa : ByteArray) (p1 p3 : Nat) (RA : Hid (Rt ka na sa)) (p8 p10 : Nat) (hb1 : BoxOn w0 p1 ka na sa) (hb3 : BoxOn w0 p3 0 0 ⟨#[]⟩) (hb8 : BoxOn w0 p8 0 0 ⟨#[]⟩) (hb10 : BoxOn w0 p10 0 0 ⟨#[]⟩) (aw : AwIs w0) (hx1 : xs 1 = .pointer (some ⟨p1, 0, none⟩)) (hx3 : xs 3 = .pointer (some ⟨p3, 0, none⟩)) (hx8 : xs 8 = .pointer (some ⟨p8, 0, none⟩)) (hx10 : xs 10 = .pointer (some ⟨p10, 0, none⟩)) (hx9 : xs 9 = .int .i64 0) (hx11 : xs 11 = .int .i64 0) : OpStep Tryz.prog nu18Ops Q (nu18F ka na sa p1 p3 RA p8 p10) w0 144 xs 10 := by
  intro act w hb hk hF
  have g67 : act.eval (.tmp 67) = .bool true := hF 5 (of_decide_eq_true (by kernel_rfl)) 67 (by kernel_rfl)
  have g68 : act.eval (.tmp 68) = vv 0 0 ⟨#[]⟩ := hF 6 (of_decide_eq_true (by kernel_rfl)) 68 (by kernel_rfl)
  obtain ⟨b71, g71, hR71⟩ := (show IsL [(0, 0, ⟨#[]⟩), (ka, na, sa)] _ w from hF 9 (of_decide_eq_true (by kernel_rfl)) 71 (by kernel_rfl))
  exact step_call (f := 24) (xs := #[.tmp 68, .const (.string ⟨#[105, 110, 115, 116, 114]⟩), .tmp 71]) (by kernel_rfl) (.told 5 true 67 (by kernel_rfl) (by kernel_rfl) g67) (map3 g68 rfl g71) (enters_of Tryz.func24 (by kernel_rfl) rfl) ((calls_null named_instr b71 _ w (all2 Rt_nul RA.out) (by simp) hR71 (by simp) (by simp) (by simp [pNul])).mono fun e w' h => ⟨_, h.1, rfl, h.2⟩)

theorem nu18_s11 {Q : Exit → Act → World → Prop} {w0 : World} {xs : Nat → Value} (ka na : Int) (sa : ByteArray) (p1 p3 : Nat) (RA : Hid (Rt ka na sa)) (p8 p10 : Nat) (hb1 : BoxOn w0 p1 ka na sa) (hb3 : BoxOn w0 p3 0 0 ⟨#[]⟩) (hb8 : BoxOn w0 p8 0 0 ⟨#[]⟩) (hb10 : BoxOn w0 p10 0 0 ⟨#[]⟩) (aw : AwIs w0) (hx1 : xs 1 = .pointer (some ⟨p1, 0, none⟩)) (hx3 : xs 3 = .pointer (some ⟨p3, 0, none⟩)) (hx8 : xs 8 = .pointer (some ⟨p8, 0, none⟩)) (hx10 : xs 10 = .pointer (some ⟨p10, 0, none⟩)) (hx9 : xs 9 = .int .i64 0) (hx11 : xs 11 = .int .i64 0) : OpStep Tryz.prog nu18Ops Q (nu18F ka na sa p1 p3 RA p8 p10) w0 144 xs 11 := by
  intro act w hb hk hF
  have g67 : act.eval (.tmp 67) = .bool true := hF 5 (of_decide_eq_true (by kernel_rfl)) 67 (by kernel_rfl)
  have g72 : act.eval (.tmp 72) = .bool true := hF 10 (of_decide_eq_true (by kernel_rfl)) 72 (by kernel_rfl)
  exact step_pickT (show opO nu18Ops 11 = some (.pick (.tmp 67) (.tmp 72) (.const (.bool false))) by kernel_rfl) (.free (by kernel_rfl)) g67 g72 ⟨rfl, Below.refl _ _⟩

theorem nu18_s12 {Q : Exit → Act → World → Prop} {w0 : World} {xs : Nat → Value} (ka na : Int) (sa : ByteArray) (p1 p3 : Nat) (RA : Hid (Rt ka na sa)) (p8 p10 : Nat) (hb1 : BoxOn w0 p1 ka na sa) (hb3 : BoxOn w0 p3 0 0 ⟨#[]⟩) (hb8 : BoxOn w0 p8 0 0 ⟨#[]⟩) (hb10 : BoxOn w0 p10 0 0 ⟨#[]⟩) (aw : AwIs w0) (hx1 : xs 1 = .pointer (some ⟨p1, 0, none⟩)) (hx3 : xs 3 = .pointer (some ⟨p3, 0, none⟩)) (hx8 : xs 8 = .pointer (some ⟨p8, 0, none⟩)) (hx10 : xs 10 = .pointer (some ⟨p10, 0, none⟩)) (hx9 : xs 9 = .int .i64 0) (hx11 : xs 11 = .int .i64 0) : OpStep Tryz.prog nu18Ops Q (nu18F ka na sa p1 p3 RA p8 p10) w0 144 xs 12 := by
  intro act w hb hk hF
  have g73 : act.eval (.tmp 73) = .bool true := hF 11 (of_decide_eq_true (by kernel_rfl)) 73 (by kernel_rfl)
  exact step_move (show opO nu18Ops 12 = some (.move (.tmp 73)) by kernel_rfl) (.free (by kernel_rfl)) g73 ⟨rfl, Below.refl _ _⟩

theorem nu18_s13 {Q : Exit → Act → World → Prop} {w0 : World} {xs : Nat → Value} (ka na : Int) (sa : ByteArray) (p1 p3 : Nat) (RA : Hid (Rt ka na sa)) (p8 p10 : Nat) (hb1 : BoxOn w0 p1 ka na sa) (hb3 : BoxOn w0 p3 0 0 ⟨#[]⟩) (hb8 : BoxOn w0 p8 0 0 ⟨#[]⟩) (hb10 : BoxOn w0 p10 0 0 ⟨#[]⟩) (aw : AwIs w0) (hx1 : xs 1 = .pointer (some ⟨p1, 0, none⟩)) (hx3 : xs 3 = .pointer (some ⟨p3, 0, none⟩)) (hx8 : xs 8 = .pointer (some ⟨p8, 0, none⟩)) (hx10 : xs 10 = .pointer (some ⟨p10, 0, none⟩)) (hx9 : xs 9 = .int .i64 0) (hx11 : xs 11 = .int .i64 0) : OpStep Tryz.prog nu18Ops Q (nu18F ka na sa p1 p3 RA p8 p10) w0 144 xs 13 := by
  intro act w hb hk hF
  have g74 : act.eval (.tmp 74) = .bool true := hF 12 (of_decide_eq_true (by kernel_rfl)) 74 (by kernel_rfl)
  have g3 : act.eval (.tmp 3) = .pointer (some ⟨p3, 0, none⟩) := (hk 3 (by decide) (by kernel_rfl)).trans hx3
  exact step_loadB (show opO nu18Ops 13 = some (.load 24 (.tmp 3)) by kernel_rfl) (.told 12 true 74 (by kernel_rfl) (by kernel_rfl) g74) g3 (hb3 w hb) ⟨rfl, Below.refl _ _⟩

theorem nu18_s14 {Q : Exit → Act → World → Prop} {w0 : World} {xs : Nat → Value} (ka na : Int) (sa : ByteArray) (p1 p3 : Nat) (RA : Hid (Rt ka na sa)) (p8 p10 : Nat) (hb1 : BoxOn w0 p1 ka na sa) (hb3 : BoxOn w0 p3 0 0 ⟨#[]⟩) (hb8 : BoxOn w0 p8 0 0 ⟨#[]⟩) (hb10 : BoxOn w0 p10 0 0 ⟨#[]⟩) (aw : AwIs w0) (hx1 : xs 1 = .pointer (some ⟨p1, 0, none⟩)) (hx3 : xs 3 = .pointer (some ⟨p3, 0, none⟩)) (hx8 : xs 8 = .pointer (some ⟨p8, 0, none⟩)) (hx10 : xs 10 = .pointer (some ⟨p10, 0, none⟩)) (hx9 : xs 9 = .int .i64 0) (hx11 : xs 11 = .int .i64 0) : OpStep Tryz.prog nu18Ops Q (nu18F ka na sa p1 p3 RA p8 p10) w0 144 xs 14 := by
  intro act w hb hk hF
  have g74 : act.eval (.tmp 74) = .bool true := hF 12 (of_decide_eq_true (by kernel_rfl)) 74 (by kernel_rfl)
  have g1 : act.eval (.tmp 1) = .pointer (some ⟨p1, 0, none⟩) := (hk 1 (by decide) (by kernel_rfl)).trans hx1
  exact step_loadB (show opO nu18Ops 14 = some (.load 24 (.tmp 1)) by kernel_rfl) (.told 12 true 74 (by kernel_rfl) (by kernel_rfl) g74) g1 (hb1 w hb) ⟨rfl, Below.refl _ _⟩

theorem nu18_s15 {Q : Exit → Act → World → Prop} {w0 : World} {xs : Nat → Value} (ka na : Int) (sa : ByteArray) (p1 p3 : Nat) (RA : Hid (Rt ka na sa)) (p8 p10 : Nat) (hb1 : BoxOn w0 p1 ka na sa) (hb3 : BoxOn w0 p3 0 0 ⟨#[]⟩) (hb8 : BoxOn w0 p8 0 0 ⟨#[]⟩) (hb10 : BoxOn w0 p10 0 0 ⟨#[]⟩) (aw : AwIs w0) (hx1 : xs 1 = .pointer (some ⟨p1, 0, none⟩)) (hx3 : xs 3 = .pointer (some ⟨p3, 0, none⟩)) (hx8 : xs 8 = .pointer (some ⟨p8, 0, none⟩)) (hx10 : xs 10 = .pointer (some ⟨p10, 0, none⟩)) (hx9 : xs 9 = .int .i64 0) (hx11 : xs 11 = .int .i64 0) : OpStep Tryz.prog nu18Ops Q (nu18F ka na sa p1 p3 RA p8 p10) w0 144 xs 15 := by
  intro act w hb hk hF
  have g74 : act.eval (.tmp 74) = .bool true := hF 12 (of_decide_eq_true (by kernel_rfl)) 74 (by kernel_rfl)
  have g3 : act.eval (.tmp 3) = .pointer (some ⟨p3, 0, none⟩) := (hk 3 (by decide) (by kernel_rfl)).trans hx3
  exact step_loadB (show opO nu18Ops 15 = some (.load 24 (.tmp 3)) by kernel_rfl) (.told 12 true 74 (by kernel_rfl) (by kernel_rfl) g74) g3 (hb3 w hb) ⟨rfl, Below.refl _ _⟩

theorem nu18_s16 {Q : Exit → Act → World → Prop} {w0 : World} {xs : Nat → Value} (ka na : Int) (sa : ByteArray) (p1 p3 : Nat) (RA : Hid (Rt ka na sa)) (p8 p10 : Nat) (hb1 : BoxOn w0 p1 ka na sa) (hb3 : BoxOn w0 p3 0 0 ⟨#[]⟩) (hb8 : BoxOn w0 p8 0 0 ⟨#[]⟩) (hb10 : BoxOn w0 p10 0 0 ⟨#[]⟩) (aw : AwIs w0) (hx1 : xs 1 = .pointer (some ⟨p1, 0, none⟩)) (hx3 : xs 3 = .pointer (some ⟨p3, 0, none⟩)) (hx8 : xs 8 = .pointer (some ⟨p8, 0, none⟩)) (hx10 : xs 10 = .pointer (some ⟨p10, 0, none⟩)) (hx9 : xs 9 = .int .i64 0) (hx11 : xs 11 = .int .i64 0) : OpStep Tryz.prog nu18Ops Q (nu18F ka na sa p1 p3 RA p8 p10) w0 144 xs 16 := by
  intro act w hb hk hF
  have g74 : act.eval (.tmp 74) = .bool true := hF 12 (of_decide_eq_true (by kernel_rfl)) 74 (by kernel_rfl)
  have g76 : act.eval (.tmp 76) = vv ka na sa := hF 14 (of_decide_eq_true (by kernel_rfl)) 76 (by kernel_rfl)
  have g77 : act.eval (.tmp 77) = vv 0 0 ⟨#[]⟩ := hF 15 (of_decide_eq_true (by kernel_rfl)) 77 (by kernel_rfl)
  exact step_build2 (show opO nu18Ops 16 = some (.buildSlice 27 2 #[(0, .tmp 76), (1, .tmp 77)]) by kernel_rfl) (.told 12 true 74 (by kernel_rfl) (by kernel_rfl) g74) g76 g77 fun b hR hb' => ⟨⟨b, rfl, hR⟩, hb'⟩

theorem nu18_s17 {Q : Exit → Act → World → Prop} {w0 : World} {xs : Nat → Value} (ka na : Int) (sa : ByteArray) (p1 p3 : Nat) (RA : Hid (Rt ka na sa)) (p8 p10 : Nat) (hb1 : BoxOn w0 p1 ka na sa) (hb3 : BoxOn w0 p3 0 0 ⟨#[]⟩) (hb8 : BoxOn w0 p8 0 0 ⟨#[]⟩) (hb10 : BoxOn w0 p10 0 0 ⟨#[]⟩) (aw : AwIs w0) (hx1 : xs 1 = .pointer (some ⟨p1, 0, none⟩)) (hx3 : xs 3 = .pointer (some ⟨p3, 0, none⟩)) (hx8 : xs 8 = .pointer (some ⟨p8, 0, none⟩)) (hx10 : xs 10 = .pointer (some ⟨p10, 0, none⟩)) (hx9 : xs 9 = .int .i64 0) (hx11 : xs 11 = .int .i64 0) : OpStep Tryz.prog nu18Ops Q (nu18F ka na sa p1 p3 RA p8 p10) w0 144 xs 17 := by
  intro act w hb hk hF
  have g74 : act.eval (.tmp 74) = .bool true := hF 12 (of_decide_eq_true (by kernel_rfl)) 74 (by kernel_rfl)
  have g75 : act.eval (.tmp 75) = vv 0 0 ⟨#[]⟩ := hF 13 (of_decide_eq_true (by kernel_rfl)) 75 (by kernel_rfl)
  obtain ⟨b78, g78, hR78⟩ := (show IsL [(ka, na, sa), (0, 0, ⟨#[]⟩)] _ w from hF 16 (of_decide_eq_true (by kernel_rfl)) 78 (by kernel_rfl))
  exact step_call (f := 24) (xs := #[.tmp 75, .const (.string ⟨#[115, 117, 98, 115, 116, 114]⟩), .tmp 78]) (by kernel_rfl) (.told 12 true 74 (by kernel_rfl) (by kernel_rfl) g74) (map3 g75 rfl g78) (enters_of Tryz.func24 (by kernel_rfl) rfl) ((calls_null named_substr b78 _ w (all2 RA.out Rt_nul) (by simp) hR78 (by simp) (by simp) (by simp [pNul])).mono fun e w' h => ⟨_, h.1, rfl, h.2⟩)

theorem nu18_s18 {Q : Exit → Act → World → Prop} {w0 : World} {xs : Nat → Value} (ka na : Int) (sa : ByteArray) (p1 p3 : Nat) (RA : Hid (Rt ka na sa)) (p8 p10 : Nat) (hb1 : BoxOn w0 p1 ka na sa) (hb3 : BoxOn w0 p3 0 0 ⟨#[]⟩) (hb8 : BoxOn w0 p8 0 0 ⟨#[]⟩) (hb10 : BoxOn w0 p10 0 0 ⟨#[]⟩) (aw : AwIs w0) (hx1 : xs 1 = .pointer (some ⟨p1, 0, none⟩)) (hx3 : xs 3 = .pointer (some ⟨p3, 0, none⟩)) (hx8 : xs 8 = .pointer (some ⟨p8, 0, none⟩)) (hx10 : xs 10 = .pointer (some ⟨p10, 0, none⟩)) (hx9 : xs 9 = .int .i64 0) (hx11 : xs 11 = .int .i64 0) : OpStep Tryz.prog nu18Ops Q (nu18F ka na sa p1 p3 RA p8 p10) w0 144 xs 18 := by
  intro act w hb hk hF
  have g74 : act.eval (.tmp 74) = .bool true := hF 12 (of_decide_eq_true (by kernel_rfl)) 74 (by kernel_rfl)
  have g79 : act.eval (.tmp 79) = .bool true := hF 17 (of_decide_eq_true (by kernel_rfl)) 79 (by kernel_rfl)
  exact step_pickT (show opO nu18Ops 18 = some (.pick (.tmp 74) (.tmp 79) (.const (.bool false))) by kernel_rfl) (.free (by kernel_rfl)) g74 g79 ⟨rfl, Below.refl _ _⟩

theorem nu18_s19 {Q : Exit → Act → World → Prop} {w0 : World} {xs : Nat → Value} (ka na : Int) (sa : ByteArray) (p1 p3 : Nat) (RA : Hid (Rt ka na sa)) (p8 p10 : Nat) (hb1 : BoxOn w0 p1 ka na sa) (hb3 : BoxOn w0 p3 0 0 ⟨#[]⟩) (hb8 : BoxOn w0 p8 0 0 ⟨#[]⟩) (hb10 : BoxOn w0 p10 0 0 ⟨#[]⟩) (aw : AwIs w0) (hx1 : xs 1 = .pointer (some ⟨p1, 0, none⟩)) (hx3 : xs 3 = .pointer (some ⟨p3, 0, none⟩)) (hx8 : xs 8 = .pointer (some ⟨p8, 0, none⟩)) (hx10 : xs 10 = .pointer (some ⟨p10, 0, none⟩)) (hx9 : xs 9 = .int .i64 0) (hx11 : xs 11 = .int .i64 0) : OpStep Tryz.prog nu18Ops Q (nu18F ka na sa p1 p3 RA p8 p10) w0 144 xs 19 := by
  intro act w hb hk hF
  have g80 : act.eval (.tmp 80) = .bool true := hF 18 (of_decide_eq_true (by kernel_rfl)) 80 (by kernel_rfl)
  exact step_move (show opO nu18Ops 19 = some (.move (.tmp 80)) by kernel_rfl) (.free (by kernel_rfl)) g80 ⟨rfl, Below.refl _ _⟩

theorem nu18_s20 {Q : Exit → Act → World → Prop} {w0 : World} {xs : Nat → Value} (ka na : Int) (sa : ByteArray) (p1 p3 : Nat) (RA : Hid (Rt ka na sa)) (p8 p10 : Nat) (hb1 : BoxOn w0 p1 ka na sa) (hb3 : BoxOn w0 p3 0 0 ⟨#[]⟩) (hb8 : BoxOn w0 p8 0 0 ⟨#[]⟩) (hb10 : BoxOn w0 p10 0 0 ⟨#[]⟩) (aw : AwIs w0) (hx1 : xs 1 = .pointer (some ⟨p1, 0, none⟩)) (hx3 : xs 3 = .pointer (some ⟨p3, 0, none⟩)) (hx8 : xs 8 = .pointer (some ⟨p8, 0, none⟩)) (hx10 : xs 10 = .pointer (some ⟨p10, 0, none⟩)) (hx9 : xs 9 = .int .i64 0) (hx11 : xs 11 = .int .i64 0) : OpStep Tryz.prog nu18Ops Q (nu18F ka na sa p1 p3 RA p8 p10) w0 144 xs 20 := by
  intro act w hb hk hF
  have g81 : act.eval (.tmp 81) = .bool true := hF 19 (of_decide_eq_true (by kernel_rfl)) 81 (by kernel_rfl)
  have g3 : act.eval (.tmp 3) = .pointer (some ⟨p3, 0, none⟩) := (hk 3 (by decide) (by kernel_rfl)).trans hx3
  exact step_loadB (show opO nu18Ops 20 = some (.load 24 (.tmp 3)) by kernel_rfl) (.told 19 true 81 (by kernel_rfl) (by kernel_rfl) g81) g3 (hb3 w hb) ⟨rfl, Below.refl _ _⟩

theorem nu18_s21 {Q : Exit → Act → World → Prop} {w0 : World} {xs : Nat → Value} (ka na : Int) (sa : ByteArray) (p1 p3 : Nat) (RA : Hid (Rt ka na sa)) (p8 p10 : Nat) (hb1 : BoxOn w0 p1 ka na sa) (hb3 : BoxOn w0 p3 0 0 ⟨#[]⟩) (hb8 : BoxOn w0 p8 0 0 ⟨#[]⟩) (hb10 : BoxOn w0 p10 0 0 ⟨#[]⟩) (aw : AwIs w0) (hx1 : xs 1 = .pointer (some ⟨p1, 0, none⟩)) (hx3 : xs 3 = .pointer (some ⟨p3, 0, none⟩)) (hx8 : xs 8 = .pointer (some ⟨p8, 0, none⟩)) (hx10 : xs 10 = .pointer (some ⟨p10, 0, none⟩)) (hx9 : xs 9 = .int .i64 0) (hx11 : xs 11 = .int .i64 0) : OpStep Tryz.prog nu18Ops Q (nu18F ka na sa p1 p3 RA p8 p10) w0 144 xs 21 := by
  intro act w hb hk hF
  have g81 : act.eval (.tmp 81) = .bool true := hF 19 (of_decide_eq_true (by kernel_rfl)) 81 (by kernel_rfl)
  have g3 : act.eval (.tmp 3) = .pointer (some ⟨p3, 0, none⟩) := (hk 3 (by decide) (by kernel_rfl)).trans hx3
  exact step_loadB (show opO nu18Ops 21 = some (.load 24 (.tmp 3)) by kernel_rfl) (.told 19 true 81 (by kernel_rfl) (by kernel_rfl) g81) g3 (hb3 w hb) ⟨rfl, Below.refl _ _⟩

theorem nu18_s22 {Q : Exit → Act → World → Prop} {w0 : World} {xs : Nat → Value} (ka na : Int) (sa : ByteArray) (p1 p3 : Nat) (RA : Hid (Rt ka na sa)) (p8 p10 : Nat) (hb1 : BoxOn w0 p1 ka na sa) (hb3 : BoxOn w0 p3 0 0 ⟨#[]⟩) (hb8 : BoxOn w0 p8 0 0 ⟨#[]⟩) (hb10 : BoxOn w0 p10 0 0 ⟨#[]⟩) (aw : AwIs w0) (hx1 : xs 1 = .pointer (some ⟨p1, 0, none⟩)) (hx3 : xs 3 = .pointer (some ⟨p3, 0, none⟩)) (hx8 : xs 8 = .pointer (some ⟨p8, 0, none⟩)) (hx10 : xs 10 = .pointer (some ⟨p10, 0, none⟩)) (hx9 : xs 9 = .int .i64 0) (hx11 : xs 11 = .int .i64 0) : OpStep Tryz.prog nu18Ops Q (nu18F ka na sa p1 p3 RA p8 p10) w0 144 xs 22 := by
  intro act w hb hk hF
  have g81 : act.eval (.tmp 81) = .bool true := hF 19 (of_decide_eq_true (by kernel_rfl)) 81 (by kernel_rfl)
  have g1 : act.eval (.tmp 1) = .pointer (some ⟨p1, 0, none⟩) := (hk 1 (by decide) (by kernel_rfl)).trans hx1
  exact step_loadB (show opO nu18Ops 22 = some (.load 24 (.tmp 1)) by kernel_rfl) (.told 19 true 81 (by kernel_rfl) (by kernel_rfl) g81) g1 (hb1 w hb) ⟨rfl, Below.refl _ _⟩

theorem nu18_s23 {Q : Exit → Act → World → Prop} {w0 : World} {xs : Nat → Value} (ka na : Int) (sa : ByteArray) (p1 p3 : Nat) (RA : Hid (Rt ka na sa)) (p8 p10 : Nat) (hb1 : BoxOn w0 p1 ka na sa) (hb3 : BoxOn w0 p3 0 0 ⟨#[]⟩) (hb8 : BoxOn w0 p8 0 0 ⟨#[]⟩) (hb10 : BoxOn w0 p10 0 0 ⟨#[]⟩) (aw : AwIs w0) (hx1 : xs 1 = .pointer (some ⟨p1, 0, none⟩)) (hx3 : xs 3 = .pointer (some ⟨p3, 0, none⟩)) (hx8 : xs 8 = .pointer (some ⟨p8, 0, none⟩)) (hx10 : xs 10 = .pointer (some ⟨p10, 0, none⟩)) (hx9 : xs 9 = .int .i64 0) (hx11 : xs 11 = .int .i64 0) : OpStep Tryz.prog nu18Ops Q (nu18F ka na sa p1 p3 RA p8 p10) w0 144 xs 23 := by
  intro act w hb hk hF
  have g81 : act.eval (.tmp 81) = .bool true := hF 19 (of_decide_eq_true (by kernel_rfl)) 81 (by kernel_rfl)
  have g1 : act.eval (.tmp 1) = .pointer (some ⟨p1, 0, none⟩) := (hk 1 (by decide) (by kernel_rfl)).trans hx1
  exact step_loadB (show opO nu18Ops 23 = some (.load 24 (.tmp 1)) by kernel_rfl) (.told 19 true 81 (by kernel_rfl) (by kernel_rfl) g81) g1 (hb1 w hb) ⟨rfl, Below.refl _ _⟩

theorem nu18_s24 {Q : Exit → Act → World → Prop} {w0 : World} {xs : Nat → Value} (ka na : Int) (sa : ByteArray) (p1 p3 : Nat) (RA : Hid (Rt ka na sa)) (p8 p10 : Nat) (hb1 : BoxOn w0 p1 ka na sa) (hb3 : BoxOn w0 p3 0 0 ⟨#[]⟩) (hb8 : BoxOn w0 p8 0 0 ⟨#[]⟩) (hb10 : BoxOn w0 p10 0 0 ⟨#[]⟩) (aw : AwIs w0) (hx1 : xs 1 = .pointer (some ⟨p1, 0, none⟩)) (hx3 : xs 3 = .pointer (some ⟨p3, 0, none⟩)) (hx8 : xs 8 = .pointer (some ⟨p8, 0, none⟩)) (hx10 : xs 10 = .pointer (some ⟨p10, 0, none⟩)) (hx9 : xs 9 = .int .i64 0) (hx11 : xs 11 = .int .i64 0) : OpStep Tryz.prog nu18Ops Q (nu18F ka na sa p1 p3 RA p8 p10) w0 144 xs 24 := by
  intro act w hb hk hF
  have g81 : act.eval (.tmp 81) = .bool true := hF 19 (of_decide_eq_true (by kernel_rfl)) 81 (by kernel_rfl)
  have g83 : act.eval (.tmp 83) = vv 0 0 ⟨#[]⟩ := hF 21 (of_decide_eq_true (by kernel_rfl)) 83 (by kernel_rfl)
  have g84 : act.eval (.tmp 84) = vv ka na sa := hF 22 (of_decide_eq_true (by kernel_rfl)) 84 (by kernel_rfl)
  have g85 : act.eval (.tmp 85) = vv ka na sa := hF 23 (of_decide_eq_true (by kernel_rfl)) 85 (by kernel_rfl)
  exact step_build3 (show opO nu18Ops 24 = some (.buildSlice 27 3 #[(0, .tmp 83), (1, .tmp 84), (2, .tmp 85)]) by kernel_rfl) (.told 19 true 81 (by kernel_rfl) (by kernel_rfl) g81) g83 g84 g85 fun b hR hb' => ⟨⟨b, rfl, hR⟩, hb'⟩

theorem nu18_s25 {Q : Exit → Act → World → Prop} {w0 : World} {xs : Nat → Value} (ka na : Int) (sa : ByteArray) (p1 p3 : Nat) (RA : Hid (Rt ka na sa)) (p8 p10 : Nat) (hb1 : BoxOn w0 p1 ka na sa) (hb3 : BoxOn w0 p3 0 0 ⟨#[]⟩) (hb8 : BoxOn w0 p8 0 0 ⟨#[]⟩) (hb10 : BoxOn w0 p10 0 0 ⟨#[]⟩) (aw : AwIs w0) (hx1 : xs 1 = .pointer (some ⟨p1, 0, none⟩)) (hx3 : xs 3 = .pointer (some ⟨p3, 0, none⟩)) (hx8 : xs 8 = .pointer (some ⟨p8, 0, none⟩)) (hx10 : xs 10 = .pointer (some ⟨p10, 0, none⟩)) (hx9 : xs 9 = .int .i64 0) (hx11 : xs 11 = .int .i64 0) : OpStep Tryz.prog nu18Ops Q (nu18F ka na sa p1 p3 RA p8 p10) w0 144 xs 25 := by
  intro act w hb hk hF
  have g81 : act.eval (.tmp 81) = .bool true := hF 19 (of_decide_eq_true (by kernel_rfl)) 81 (by kernel_rfl)
  have g82 : act.eval (.tmp 82) = vv 0 0 ⟨#[]⟩ := hF 20 (of_decide_eq_true (by kernel_rfl)) 82 (by kernel_rfl)
  obtain ⟨b86, g86, hR86⟩ := (show IsL [(0, 0, ⟨#[]⟩), (ka, na, sa), (ka, na, sa)] _ w from hF 24 (of_decide_eq_true (by kernel_rfl)) 86 (by kernel_rfl))
  exact step_call (f := 24) (xs := #[.tmp 82, .const (.string ⟨#[115, 117, 98, 115, 116, 114]⟩), .tmp 86]) (by kernel_rfl) (.told 19 true 81 (by kernel_rfl) (by kernel_rfl) g81) (map3 g82 rfl g86) (enters_of Tryz.func24 (by kernel_rfl) rfl) ((calls_null named_substr b86 _ w (all3 Rt_nul RA.out RA.out) (by simp) hR86 (by simp) (by simp) (by simp [pNul])).mono fun e w' h => ⟨_, h.1, rfl, h.2⟩)

theorem nu18_s26 {Q : Exit → Act → World → Prop} {w0 : World} {xs : Nat → Value} (ka na : Int) (sa : ByteArray) (p1 p3 : Nat) (RA : Hid (Rt ka na sa)) (p8 p10 : Nat) (hb1 : BoxOn w0 p1 ka na sa) (hb3 : BoxOn w0 p3 0 0 ⟨#[]⟩) (hb8 : BoxOn w0 p8 0 0 ⟨#[]⟩) (hb10 : BoxOn w0 p10 0 0 ⟨#[]⟩) (aw : AwIs w0) (hx1 : xs 1 = .pointer (some ⟨p1, 0, none⟩)) (hx3 : xs 3 = .pointer (some ⟨p3, 0, none⟩)) (hx8 : xs 8 = .pointer (some ⟨p8, 0, none⟩)) (hx10 : xs 10 = .pointer (some ⟨p10, 0, none⟩)) (hx9 : xs 9 = .int .i64 0) (hx11 : xs 11 = .int .i64 0) : OpStep Tryz.prog nu18Ops Q (nu18F ka na sa p1 p3 RA p8 p10) w0 144 xs 26 := by
  intro act w hb hk hF
  have g81 : act.eval (.tmp 81) = .bool true := hF 19 (of_decide_eq_true (by kernel_rfl)) 81 (by kernel_rfl)
  have g87 : act.eval (.tmp 87) = .bool true := hF 25 (of_decide_eq_true (by kernel_rfl)) 87 (by kernel_rfl)
  exact step_pickT (show opO nu18Ops 26 = some (.pick (.tmp 81) (.tmp 87) (.const (.bool false))) by kernel_rfl) (.free (by kernel_rfl)) g81 g87 ⟨rfl, Below.refl _ _⟩

theorem nu18_s27 {Q : Exit → Act → World → Prop} {w0 : World} {xs : Nat → Value} (ka na : Int) (sa : ByteArray) (p1 p3 : Nat) (RA : Hid (Rt ka na sa)) (p8 p10 : Nat) (hb1 : BoxOn w0 p1 ka na sa) (hb3 : BoxOn w0 p3 0 0 ⟨#[]⟩) (hb8 : BoxOn w0 p8 0 0 ⟨#[]⟩) (hb10 : BoxOn w0 p10 0 0 ⟨#[]⟩) (aw : AwIs w0) (hx1 : xs 1 = .pointer (some ⟨p1, 0, none⟩)) (hx3 : xs 3 = .pointer (some ⟨p3, 0, none⟩)) (hx8 : xs 8 = .pointer (some ⟨p8, 0, none⟩)) (hx10 : xs 10 = .pointer (some ⟨p10, 0, none⟩)) (hx9 : xs 9 = .int .i64 0) (hx11 : xs 11 = .int .i64 0) : OpStep Tryz.prog nu18Ops Q (nu18F ka na sa p1 p3 RA p8 p10) w0 144 xs 27 := by
  intro act w hb hk hF
  have g88 : act.eval (.tmp 88) = .bool true := hF 26 (of_decide_eq_true (by kernel_rfl)) 88 (by kernel_rfl)
  exact step_move (show opO nu18Ops 27 = some (.move (.tmp 88)) by kernel_rfl) (.free (by kernel_rfl)) g88 ⟨rfl, Below.refl _ _⟩

theorem nu18_s28 {Q : Exit → Act → World → Prop} {w0 : World} {xs : Nat → Value} (ka na : Int) (sa : ByteArray) (p1 p3 : Nat) (RA : Hid (Rt ka na sa)) (p8 p10 : Nat) (hb1 : BoxOn w0 p1 ka na sa) (hb3 : BoxOn w0 p3 0 0 ⟨#[]⟩) (hb8 : BoxOn w0 p8 0 0 ⟨#[]⟩) (hb10 : BoxOn w0 p10 0 0 ⟨#[]⟩) (aw : AwIs w0) (hx1 : xs 1 = .pointer (some ⟨p1, 0, none⟩)) (hx3 : xs 3 = .pointer (some ⟨p3, 0, none⟩)) (hx8 : xs 8 = .pointer (some ⟨p8, 0, none⟩)) (hx10 : xs 10 = .pointer (some ⟨p10, 0, none⟩)) (hx9 : xs 9 = .int .i64 0) (hx11 : xs 11 = .int .i64 0) : OpStep Tryz.prog nu18Ops Q (nu18F ka na sa p1 p3 RA p8 p10) w0 144 xs 28 := by
  intro act w hb hk hF
  have g89 : act.eval (.tmp 89) = .bool true := hF 27 (of_decide_eq_true (by kernel_rfl)) 89 (by kernel_rfl)
  have g3 : act.eval (.tmp 3) = .pointer (some ⟨p3, 0, none⟩) := (hk 3 (by decide) (by kernel_rfl)).trans hx3
  exact step_loadB (show opO nu18Ops 28 = some (.load 24 (.tmp 3)) by kernel_rfl) (.told 27 true 89 (by kernel_rfl) (by kernel_rfl) g89) g3 (hb3 w hb) ⟨rfl, Below.refl _ _⟩

theorem nu18_s29 {Q : Exit → Act → World → Prop} {w0 : World} {xs : Nat → Value} (ka na : Int) (sa : ByteArray) (p1 p3 : Nat) (RA : Hid (Rt ka na sa)) (p8 p10 : Nat) (hb1 : BoxOn w0 p1 ka na sa) (hb3 : BoxOn w0 p3 0 0 ⟨#[]⟩) (hb8 : BoxOn w0 p8 0 0 ⟨#[]⟩) (hb10 : BoxOn w0 p10 0 0 ⟨#[]⟩) (aw : AwIs w0) (hx1 : xs 1 = .pointer (some ⟨p1, 0, none⟩)) (hx3 : xs 3 = .pointer (some ⟨p3, 0, none⟩)) (hx8 : xs 8 = .pointer (some ⟨p8, 0, none⟩)) (hx10 : xs 10 = .pointer (some ⟨p10, 0, none⟩)) (hx9 : xs 9 = .int .i64 0) (hx11 : xs 11 = .int .i64 0) : OpStep Tryz.prog nu18Ops Q (nu18F ka na sa p1 p3 RA p8 p10) w0 144 xs 29 := by
  intro act w hb hk hF
  have g89 : act.eval (.tmp 89) = .bool true := hF 27 (of_decide_eq_true (by kernel_rfl)) 89 (by kernel_rfl)
  have g1 : act.eval (.tmp 1) = .pointer (some ⟨p1, 0, none⟩) := (hk 1 (by decide) (by kernel_rfl)).trans hx1
  exact step_loadB (show opO nu18Ops 29 = some (.load 24 (.tmp 1)) by kernel_rfl) (.told 27 true 89 (by kernel_rfl) (by kernel_rfl) g89) g1 (hb1 w hb) ⟨rfl, Below.refl _ _⟩

theorem nu18_s30 {Q : Exit → Act → World → Prop} {w0 : World} {xs : Nat → Value} (ka na : Int) (sa : ByteArray) (p1 p3 : Nat) (RA : Hid (Rt ka na sa)) (p8 p10 : Nat) (hb1 : BoxOn w0 p1 ka na sa) (hb3 : BoxOn w0 p3 0 0 ⟨#[]⟩) (hb8 : BoxOn w0 p8 0 0 ⟨#[]⟩) (hb10 : BoxOn w0 p10 0 0 ⟨#[]⟩) (aw : AwIs w0) (hx1 : xs 1 = .pointer (some ⟨p1, 0, none⟩)) (hx3 : xs 3 = .pointer (some ⟨p3, 0, none⟩)) (hx8 : xs 8 = .pointer (some ⟨p8, 0, none⟩)) (hx10 : xs 10 = .pointer (some ⟨p10, 0, none⟩)) (hx9 : xs 9 = .int .i64 0) (hx11 : xs 11 = .int .i64 0) : OpStep Tryz.prog nu18Ops Q (nu18F ka na sa p1 p3 RA p8 p10) w0 144 xs 30 := by
  intro act w hb hk hF
  have g89 : act.eval (.tmp 89) = .bool true := hF 27 (of_decide_eq_true (by kernel_rfl)) 89 (by kernel_rfl)
  have g1 : act.eval (.tmp 1) = .pointer (some ⟨p1, 0, none⟩) := (hk 1 (by decide) (by kernel_rfl)).trans hx1
  exact step_loadB (show opO nu18Ops 30 = some (.load 24 (.tmp 1)) by kernel_rfl) (.told 27 true 89 (by kernel_rfl) (by kernel_rfl) g89) g1 (hb1 w hb) ⟨rfl, Below.refl _ _⟩

theorem nu18_s31 {Q : Exit → Act → World → Prop} {w0 : World} {xs : Nat → Value} (ka na : Int) (sa : ByteArray) (p1 p3 : Nat) (RA : Hid (Rt ka na sa)) (p8 p10 : Nat) (hb1 : BoxOn w0 p1 ka na sa) (hb3 : BoxOn w0 p3 0 0 ⟨#[]⟩) (hb8 : BoxOn w0 p8 0 0 ⟨#[]⟩) (hb10 : BoxOn w0 p10 0 0 ⟨#[]⟩) (aw : AwIs w0) (hx1 : xs 1 = .pointer (some ⟨p1, 0, none⟩)) (hx3 : xs 3 = .pointer (some ⟨p3, 0, none⟩)) (hx8 : xs 8 = .pointer (some ⟨p8, 0, none⟩)) (hx10 : xs 10 = .pointer (some ⟨p10, 0, none⟩)) (hx9 : xs 9 = .int .i64 0) (hx11 : xs 11 = .int .i64 0) : OpStep Tryz.prog nu18Ops Q (nu18F ka na sa p1 p3 RA p8 p10) w0 144 xs 31 := by
  intro act w hb hk hF
  have g89 : act.eval (.tmp 89) = .bool true := hF 27 (of_decide_eq_true (by kernel_rfl)) 89 (by kernel_rfl)
  have g3 : act.eval (.tmp 3) = .pointer (some ⟨p3, 0, none⟩) := (hk 3 (by decide) (by kernel_rfl)).trans hx3
  exact step_loadB (show opO nu18Ops 31 = some (.load 24 (.tmp 3)) by kernel_rfl) (.told 27 true 89 (by kernel_rfl) (by kernel_rfl) g89) g3 (hb3 w hb) ⟨rfl, Below.refl _ _⟩

theorem nu18_s32 {Q : Exit → Act → World → Prop} {w0 : World} {xs : Nat → Value} (ka na : Int) (sa : ByteArray) (p1 p3 : Nat) (RA : Hid (Rt ka na sa)) (p8 p10 : Nat) (hb1 : BoxOn w0 p1 ka na sa) (hb3 : BoxOn w0 p3 0 0 ⟨#[]⟩) (hb8 : BoxOn w0 p8 0 0 ⟨#[]⟩) (hb10 : BoxOn w0 p10 0 0 ⟨#[]⟩) (aw : AwIs w0) (hx1 : xs 1 = .pointer (some ⟨p1, 0, none⟩)) (hx3 : xs 3 = .pointer (some ⟨p3, 0, none⟩)) (hx8 : xs 8 = .pointer (some ⟨p8, 0, none⟩)) (hx10 : xs 10 = .pointer (some ⟨p10, 0, none⟩)) (hx9 : xs 9 = .int .i64 0) (hx11 : xs 11 = .int .i64 0) : OpStep Tryz.prog nu18Ops Q (nu18F ka na sa p1 p3 RA p8 p10) w0 144 xs 32 := by
  intro act w hb hk hF
  have g89 : act.eval (.tmp 89) = .bool true := hF 27 (of_decide_eq_true (by kernel_rfl)) 89 (by kernel_rfl)
  have g91 : act.eval (.tmp 91) = vv ka na sa := hF 29 (of_decide_eq_true (by kernel_rfl)) 91 (by kernel_rfl)
  have g92 : act.eval (.tmp 92) = vv ka na sa := hF 30 (of_decide_eq_true (by kernel_rfl)) 92 (by kernel_rfl)
  have g93 : act.eval (.tmp 93) = vv 0 0 ⟨#[]⟩ := hF 31 (of_decide_eq_true (by kernel_rfl)) 93 (by kernel_rfl)
  exact step_build3 (show opO nu18Ops 32 = some (.buildSlice 27 3 #[(0, .tmp 91), (1, .tmp 92), (2, .tmp 93)]) by kernel_rfl) (.told 27 true 89 (by kernel_rfl) (by kernel_rfl) g89) g91 g92 g93 fun b hR hb' => ⟨⟨b, rfl, hR⟩, hb'⟩

theorem nu18_s33 {Q : Exit → Act → World → Prop} {w0 : World} {xs : Nat → Value} (ka na : Int) (sa : ByteArray) (p1 p3 : Nat) (RA : Hid (Rt ka na sa)) (p8 p10 : Nat) (hb1 : BoxOn w0 p1 ka na sa) (hb3 : BoxOn w0 p3 0 0 ⟨#[]⟩) (hb8 : BoxOn w0 p8 0 0 ⟨#[]⟩) (hb10 : BoxOn w0 p10 0 0 ⟨#[]⟩) (aw : AwIs w0) (hx1 : xs 1 = .pointer (some ⟨p1, 0, none⟩)) (hx3 : xs 3 = .pointer (some ⟨p3, 0, none⟩)) (hx8 : xs 8 = .pointer (some ⟨p8, 0, none⟩)) (hx10 : xs 10 = .pointer (some ⟨p10, 0, none⟩)) (hx9 : xs 9 = .int .i64 0) (hx11 : xs 11 = .int .i64 0) : OpStep Tryz.prog nu18Ops Q (nu18F ka na sa p1 p3 RA p8 p10) w0 144 xs 33 := by
  intro act w hb hk hF
  have g89 : act.eval (.tmp 89) = .bool true := hF 27 (of_decide_eq_true (by kernel_rfl)) 89 (by kernel_rfl)
  have g90 : act.eval (.tmp 90) = vv 0 0 ⟨#[]⟩ := hF 28 (of_decide_eq_true (by kernel_rfl)) 90 (by kernel_rfl)
  obtain ⟨b94, g94, hR94⟩ := (show IsL [(ka, na, sa), (ka, na, sa), (0, 0, ⟨#[]⟩)] _ w from hF 32 (of_decide_eq_true (by kernel_rfl)) 94 (by kernel_rfl))
  exact step_call (f := 24) (xs := #[.tmp 90, .const (.string ⟨#[115, 117, 98, 115, 116, 114]⟩), .tmp 94]) (by kernel_rfl) (.told 27 true 89 (by kernel_rfl) (by kernel_rfl) g89) (map3 g90 rfl g94) (enters_of Tryz.func24 (by kernel_rfl) rfl) ((calls_null named_substr b94 _ w (all3 RA.out RA.out Rt_nul) (by simp) hR94 (by simp) (by simp) (by simp [pNul])).mono fun e w' h => ⟨_, h.1, rfl, h.2⟩)

theorem nu18_s34 {Q : Exit → Act → World → Prop} {w0 : World} {xs : Nat → Value} (ka na : Int) (sa : ByteArray) (p1 p3 : Nat) (RA : Hid (Rt ka na sa)) (p8 p10 : Nat) (hb1 : BoxOn w0 p1 ka na sa) (hb3 : BoxOn w0 p3 0 0 ⟨#[]⟩) (hb8 : BoxOn w0 p8 0 0 ⟨#[]⟩) (hb10 : BoxOn w0 p10 0 0 ⟨#[]⟩) (aw : AwIs w0) (hx1 : xs 1 = .pointer (some ⟨p1, 0, none⟩)) (hx3 : xs 3 = .pointer (some ⟨p3, 0, none⟩)) (hx8 : xs 8 = .pointer (some ⟨p8, 0, none⟩)) (hx10 : xs 10 = .pointer (some ⟨p10, 0, none⟩)) (hx9 : xs 9 = .int .i64 0) (hx11 : xs 11 = .int .i64 0) : OpStep Tryz.prog nu18Ops Q (nu18F ka na sa p1 p3 RA p8 p10) w0 144 xs 34 := by
  intro act w hb hk hF
  have g89 : act.eval (.tmp 89) = .bool true := hF 27 (of_decide_eq_true (by kernel_rfl)) 89 (by kernel_rfl)
  have g95 : act.eval (.tmp 95) = .bool true := hF 33 (of_decide_eq_true (by kernel_rfl)) 95 (by kernel_rfl)
  exact step_pickT (show opO nu18Ops 34 = some (.pick (.tmp 89) (.tmp 95) (.const (.bool false))) by kernel_rfl) (.free (by kernel_rfl)) g89 g95 ⟨rfl, Below.refl _ _⟩

theorem nu18_s35 {Q : Exit → Act → World → Prop} {w0 : World} {xs : Nat → Value} (ka na : Int) (sa : ByteArray) (p1 p3 : Nat) (RA : Hid (Rt ka na sa)) (p8 p10 : Nat) (hb1 : BoxOn w0 p1 ka na sa) (hb3 : BoxOn w0 p3 0 0 ⟨#[]⟩) (hb8 : BoxOn w0 p8 0 0 ⟨#[]⟩) (hb10 : BoxOn w0 p10 0 0 ⟨#[]⟩) (aw : AwIs w0) (hx1 : xs 1 = .pointer (some ⟨p1, 0, none⟩)) (hx3 : xs 3 = .pointer (some ⟨p3, 0, none⟩)) (hx8 : xs 8 = .pointer (some ⟨p8, 0, none⟩)) (hx10 : xs 10 = .pointer (some ⟨p10, 0, none⟩)) (hx9 : xs 9 = .int .i64 0) (hx11 : xs 11 = .int .i64 0) : OpStep Tryz.prog nu18Ops Q (nu18F ka na sa p1 p3 RA p8 p10) w0 144 xs 35 := by
  intro act w hb hk hF
  have g96 : act.eval (.tmp 96) = .bool true := hF 34 (of_decide_eq_true (by kernel_rfl)) 96 (by kernel_rfl)
  exact step_move (show opO nu18Ops 35 = some (.move (.tmp 96)) by kernel_rfl) (.free (by kernel_rfl)) g96 ⟨rfl, Below.refl _ _⟩

theorem nu18_s36 {Q : Exit → Act → World → Prop} {w0 : World} {xs : Nat → Value} (ka na : Int) (sa : ByteArray) (p1 p3 : Nat) (RA : Hid (Rt ka na sa)) (p8 p10 : Nat) (hb1 : BoxOn w0 p1 ka na sa) (hb3 : BoxOn w0 p3 0 0 ⟨#[]⟩) (hb8 : BoxOn w0 p8 0 0 ⟨#[]⟩) (hb10 : BoxOn w0 p10 0 0 ⟨#[]⟩) (aw : AwIs w0) (hx1 : xs 1 = .pointer (some ⟨p1, 0, none⟩)) (hx3 : xs 3 = .pointer (some ⟨p3, 0, none⟩)) (hx8 : xs 8 = .pointer (some ⟨p8, 0, none⟩)) (hx10 : xs 10 = .pointer (some ⟨p10, 0, none⟩)) (hx9 : xs 9 = .int .i64 0) (hx11 : xs 11 = .int .i64 0) : OpStep Tryz.prog nu18Ops Q (nu18F ka na sa p1 p3 RA p8 p10) w0 144 xs 36 := by
  intro act w hb hk hF
  have g97 : act.eval (.tmp 97) = .bool true := hF 35 (of_decide_eq_true (by kernel_rfl)) 97 (by kernel_rfl)
  have g1 : act.eval (.tmp 1) = .pointer (some ⟨p1, 0, none⟩) := (hk 1 (by decide) (by kernel_rfl)).trans hx1
  exact step_loadB (show opO nu18Ops 36 = some (.load 24 (.tmp 1)) by kernel_rfl) (.told 35 true 97 (by kernel_rfl) (by kernel_rfl) g97) g1 (hb1 w hb) ⟨rfl, Below.refl _ _⟩

theorem nu18_s37 {Q : Exit → Act → World → Prop} {w0 : World} {xs : Nat → Value} (ka na : Int) (sa : ByteArray) (p1 p3 : Nat) (RA : Hid (Rt ka na sa)) (p8 p10 : Nat) (hb1 : BoxOn w0 p1 ka na sa) (hb3 : BoxOn w0 p3 0 0 ⟨#[]⟩) (hb8 : BoxOn w0 p8 0 0 ⟨#[]⟩) (hb10 : BoxOn w0 p10 0 0 ⟨#[]⟩) (aw : AwIs w0) (hx1 : xs 1 = .pointer (some ⟨p1, 0, none⟩)) (hx3 : xs 3 = .pointer (some ⟨p3, 0, none⟩)) (hx8 : xs 8 = .pointer (some ⟨p8, 0, none⟩)) (hx10 : xs 10 = .pointer (some ⟨p10, 0, none⟩)) (hx9 : xs 9 = .int .i64 0) (hx11 : xs 11 = .int .i64 0) : OpStep Tryz.prog nu18Ops Q (nu18F ka na sa p1 p3 RA p8 p10) w0 144 xs 37 := by
  intro act w hb hk hF
  have g97 : act.eval (.tmp 97) = .bool true := hF 35 (of_decide_eq_true (by kernel_rfl)) 97 (by kernel_rfl)
  have g3 : act.eval (.tmp 3) = .pointer (some ⟨p3, 0, none⟩) := (hk 3 (by decide) (by kernel_rfl)).trans hx3
  exact step_loadB (show opO nu18Ops 37 = some (.load 24 (.tmp 3)) by kernel_rfl) (.told 35 true 97 (by kernel_rfl) (by kernel_rfl) g97) g3 (hb3 w hb) ⟨rfl, Below.refl _ _⟩

theorem nu18_s38 {Q : Exit → Act → World → Prop} {w0 : World} {xs : Nat → Value} (ka na : Int) (sa : ByteArray) (p1 p3 : Nat) (RA : Hid (Rt ka na sa)) (p8 p10 : Nat) (hb1 : BoxOn w0 p1 ka na sa) (hb3 : BoxOn w0 p3 0 0 ⟨#[]⟩) (hb8 : BoxOn w0 p8 0 0 ⟨#[]⟩) (hb10 : BoxOn w0 p10 0 0 ⟨#[]⟩) (aw : AwIs w0) (hx1 : xs 1 = .pointer (some ⟨p1, 0, none⟩)) (hx3 : xs 3 = .pointer (some ⟨p3, 0, none⟩)) (hx8 : xs 8 = .pointer (some ⟨p8, 0, none⟩)) (hx10 : xs 10 = .pointer (some ⟨p10, 0, none⟩)) (hx9 : xs 9 = .int .i64 0) (hx11 : xs 11 = .int .i64 0) : OpStep Tryz.prog nu18Ops Q (nu18F ka na sa p1 p3 RA p8 p10) w0 144 xs 38 := by
  intro act w hb hk hF
  have g97 : act.eval (.tmp 97) = .bool true := hF 35 (of_decide_eq_true (by kernel_rfl)) 97 (by kernel_rfl)
  have g1 : act.eval (.tmp 1) = .pointer (some ⟨p1, 0, none⟩) := (hk 1 (by decide) (by kernel_rfl)).trans hx1
  exact step_loadB (show opO nu18Ops 38 = some (.load 24 (.tmp 1)) by kernel_rfl) (.told 35 true 97 (by kernel_rfl) (by kernel_rfl) g97) g1 (hb1 w hb) ⟨rfl, Below.refl _ _⟩

theorem nu18_s39 {Q : Exit → Act → World → Prop} {w0 : World} {xs : Nat → Value} (ka na : Int) (sa : ByteArray) (p1 p3 : Nat) (RA : Hid (Rt ka na sa)) (p8 p10 : Nat) (hb1 : BoxOn w0 p1 ka na sa) (hb3 : BoxOn w0 p3 0 0 ⟨#[]⟩) (hb8 : BoxOn w0 p8 0 0 ⟨#[]⟩) (hb10 : BoxOn w0 p10 0 0 ⟨#[]⟩) (aw : AwIs w0) (hx1 : xs 1 = .pointer (some ⟨p1, 0, none⟩)) (hx3 : xs 3 = .pointer (some ⟨p3, 0, none⟩)) (hx8 : xs 8 = .pointer (some ⟨p8, 0, none⟩)) (hx10 : xs 10 = .pointer (some ⟨p10, 0, none⟩)) (hx9 : xs 9 = .int .i64 0) (hx11 : xs 11 = .int .i64 0) : OpStep Tryz.prog nu18Ops Q (nu18F ka na sa p1 p3 RA p8 p10) w0 144 xs 39 := by
  intro act w hb hk hF
  have g97 : act.eval (.tmp 97) = .bool true := hF 35 (of_decide_eq_true (by kernel_rfl)) 97 (by kernel_rfl)
  have g99 : act.eval (.tmp 99) = vv 0 0 ⟨#[]⟩ := hF 37 (of_decide_eq_true (by kernel_rfl)) 99 (by kernel_rfl)
  have g100 : act.eval (.tmp 100) = vv ka na sa := hF 38 (of_decide_eq_true (by kernel_rfl)) 100 (by kernel_rfl)
  exact step_build2 (show opO nu18Ops 39 = some (.buildSlice 27 2 #[(0, .tmp 99), (1, .tmp 100)]) by kernel_rfl) (.told 35 true 97 (by kernel_rfl) (by kernel_rfl) g97) g99 g100 fun b hR hb' => ⟨⟨b, rfl, hR⟩, hb'⟩

theorem nu18_s40 {Q : Exit → Act → World → Prop} {w0 : World} {xs : Nat → Value} (ka na : Int) (sa : ByteArray) (p1 p3 : Nat) (RA : Hid (Rt ka na sa)) (p8 p10 : Nat) (hb1 : BoxOn w0 p1 ka na sa) (hb3 : BoxOn w0 p3 0 0 ⟨#[]⟩) (hb8 : BoxOn w0 p8 0 0 ⟨#[]⟩) (hb10 : BoxOn w0 p10 0 0 ⟨#[]⟩) (aw : AwIs w0) (hx1 : xs 1 = .pointer (some ⟨p1, 0, none⟩)) (hx3 : xs 3 = .pointer (some ⟨p3, 0, none⟩)) (hx8 : xs 8 = .pointer (some ⟨p8, 0, none⟩)) (hx10 : xs 10 = .pointer (some ⟨p10, 0, none⟩)) (hx9 : xs 9 = .int .i64 0) (hx11 : xs 11 = .int .i64 0) : OpStep Tryz.prog nu18Ops Q (nu18F ka na sa p1 p3 RA p8 p10) w0 144 xs 40 := by
  intro act w hb hk hF
  have g97 : act.eval (.tmp 97) = .bool true := hF 35 (of_decide_eq_true (by kernel_rfl)) 97 (by kernel_rfl)
  have g98 : act.eval (.tmp 98) = vv ka na sa := hF 36 (of_decide_eq_true (by kernel_rfl)) 98 (by kernel_rfl)
  obtain ⟨b101, g101, hR101⟩ := (show IsL [(0, 0, ⟨#[]⟩), (ka, na, sa)] _ w from hF 39 (of_decide_eq_true (by kernel_rfl)) 101 (by kernel_rfl))
  exact step_call (f := 24) (xs := #[.tmp 98, .const (.string ⟨#[105, 102, 110, 117, 108, 108]⟩), .tmp 101]) (by kernel_rfl) (.told 35 true 97 (by kernel_rfl) (by kernel_rfl) g97) (map3 g98 rfl g101) (enters_of Tryz.func24 (by kernel_rfl) rfl) ((calls_first named_ifnull b101 _ w (all2 Rt_nul RA.out) (by simp) hR101 (by simp) (by simp) ka na sa (first_na ka na sa RA.out).1).mono fun e w' h => ⟨_, h.1, rfl, h.2⟩)

theorem nu18_s41 {Q : Exit → Act → World → Prop} {w0 : World} {xs : Nat → Value} (ka na : Int) (sa : ByteArray) (p1 p3 : Nat) (RA : Hid (Rt ka na sa)) (p8 p10 : Nat) (hb1 : BoxOn w0 p1 ka na sa) (hb3 : BoxOn w0 p3 0 0 ⟨#[]⟩) (hb8 : BoxOn w0 p8 0 0 ⟨#[]⟩) (hb10 : BoxOn w0 p10 0 0 ⟨#[]⟩) (aw : AwIs w0) (hx1 : xs 1 = .pointer (some ⟨p1, 0, none⟩)) (hx3 : xs 3 = .pointer (some ⟨p3, 0, none⟩)) (hx8 : xs 8 = .pointer (some ⟨p8, 0, none⟩)) (hx10 : xs 10 = .pointer (some ⟨p10, 0, none⟩)) (hx9 : xs 9 = .int .i64 0) (hx11 : xs 11 = .int .i64 0) : OpStep Tryz.prog nu18Ops Q (nu18F ka na sa p1 p3 RA p8 p10) w0 144 xs 41 := by
  intro act w hb hk hF
  have g97 : act.eval (.tmp 97) = .bool true := hF 35 (of_decide_eq_true (by kernel_rfl)) 97 (by kernel_rfl)
  have g102 : act.eval (.tmp 102) = .bool true := hF 40 (of_decide_eq_true (by kernel_rfl)) 102 (by kernel_rfl)
  exact step_pickT (show opO nu18Ops 41 = some (.pick (.tmp 97) (.tmp 102) (.const (.bool false))) by kernel_rfl) (.free (by kernel_rfl)) g97 g102 ⟨rfl, Below.refl _ _⟩

theorem nu18_s42 {Q : Exit → Act → World → Prop} {w0 : World} {xs : Nat → Value} (ka na : Int) (sa : ByteArray) (p1 p3 : Nat) (RA : Hid (Rt ka na sa)) (p8 p10 : Nat) (hb1 : BoxOn w0 p1 ka na sa) (hb3 : BoxOn w0 p3 0 0 ⟨#[]⟩) (hb8 : BoxOn w0 p8 0 0 ⟨#[]⟩) (hb10 : BoxOn w0 p10 0 0 ⟨#[]⟩) (aw : AwIs w0) (hx1 : xs 1 = .pointer (some ⟨p1, 0, none⟩)) (hx3 : xs 3 = .pointer (some ⟨p3, 0, none⟩)) (hx8 : xs 8 = .pointer (some ⟨p8, 0, none⟩)) (hx10 : xs 10 = .pointer (some ⟨p10, 0, none⟩)) (hx9 : xs 9 = .int .i64 0) (hx11 : xs 11 = .int .i64 0) : OpStep Tryz.prog nu18Ops Q (nu18F ka na sa p1 p3 RA p8 p10) w0 144 xs 42 := by
  intro act w hb hk hF
  have g103 : act.eval (.tmp 103) = .bool true := hF 41 (of_decide_eq_true (by kernel_rfl)) 103 (by kernel_rfl)
  exact step_move (show opO nu18Ops 42 = some (.move (.tmp 103)) by kernel_rfl) (.free (by kernel_rfl)) g103 ⟨rfl, Below.refl _ _⟩

theorem nu18_s43 {Q : Exit → Act → World → Prop} {w0 : World} {xs : Nat → Value} (ka na : Int) (sa : ByteArray) (p1 p3 : Nat) (RA : Hid (Rt ka na sa)) (p8 p10 : Nat) (hb1 : BoxOn w0 p1 ka na sa) (hb3 : BoxOn w0 p3 0 0 ⟨#[]⟩) (hb8 : BoxOn w0 p8 0 0 ⟨#[]⟩) (hb10 : BoxOn w0 p10 0 0 ⟨#[]⟩) (aw : AwIs w0) (hx1 : xs 1 = .pointer (some ⟨p1, 0, none⟩)) (hx3 : xs 3 = .pointer (some ⟨p3, 0, none⟩)) (hx8 : xs 8 = .pointer (some ⟨p8, 0, none⟩)) (hx10 : xs 10 = .pointer (some ⟨p10, 0, none⟩)) (hx9 : xs 9 = .int .i64 0) (hx11 : xs 11 = .int .i64 0) : OpStep Tryz.prog nu18Ops Q (nu18F ka na sa p1 p3 RA p8 p10) w0 144 xs 43 := by
  intro act w hb hk hF
  have g104 : act.eval (.tmp 104) = .bool true := hF 42 (of_decide_eq_true (by kernel_rfl)) 104 (by kernel_rfl)
  have g1 : act.eval (.tmp 1) = .pointer (some ⟨p1, 0, none⟩) := (hk 1 (by decide) (by kernel_rfl)).trans hx1
  exact step_loadB (show opO nu18Ops 43 = some (.load 24 (.tmp 1)) by kernel_rfl) (.told 42 true 104 (by kernel_rfl) (by kernel_rfl) g104) g1 (hb1 w hb) ⟨rfl, Below.refl _ _⟩

theorem nu18_s44 {Q : Exit → Act → World → Prop} {w0 : World} {xs : Nat → Value} (ka na : Int) (sa : ByteArray) (p1 p3 : Nat) (RA : Hid (Rt ka na sa)) (p8 p10 : Nat) (hb1 : BoxOn w0 p1 ka na sa) (hb3 : BoxOn w0 p3 0 0 ⟨#[]⟩) (hb8 : BoxOn w0 p8 0 0 ⟨#[]⟩) (hb10 : BoxOn w0 p10 0 0 ⟨#[]⟩) (aw : AwIs w0) (hx1 : xs 1 = .pointer (some ⟨p1, 0, none⟩)) (hx3 : xs 3 = .pointer (some ⟨p3, 0, none⟩)) (hx8 : xs 8 = .pointer (some ⟨p8, 0, none⟩)) (hx10 : xs 10 = .pointer (some ⟨p10, 0, none⟩)) (hx9 : xs 9 = .int .i64 0) (hx11 : xs 11 = .int .i64 0) : OpStep Tryz.prog nu18Ops Q (nu18F ka na sa p1 p3 RA p8 p10) w0 144 xs 44 := by
  intro act w hb hk hF
  have g104 : act.eval (.tmp 104) = .bool true := hF 42 (of_decide_eq_true (by kernel_rfl)) 104 (by kernel_rfl)
  have g1 : act.eval (.tmp 1) = .pointer (some ⟨p1, 0, none⟩) := (hk 1 (by decide) (by kernel_rfl)).trans hx1
  exact step_loadB (show opO nu18Ops 44 = some (.load 24 (.tmp 1)) by kernel_rfl) (.told 42 true 104 (by kernel_rfl) (by kernel_rfl) g104) g1 (hb1 w hb) ⟨rfl, Below.refl _ _⟩

theorem nu18_s45 {Q : Exit → Act → World → Prop} {w0 : World} {xs : Nat → Value} (ka na : Int) (sa : ByteArray) (p1 p3 : Nat) (RA : Hid (Rt ka na sa)) (p8 p10 : Nat) (hb1 : BoxOn w0 p1 ka na sa) (hb3 : BoxOn w0 p3 0 0 ⟨#[]⟩) (hb8 : BoxOn w0 p8 0 0 ⟨#[]⟩) (hb10 : BoxOn w0 p10 0 0 ⟨#[]⟩) (aw : AwIs w0) (hx1 : xs 1 = .pointer (some ⟨p1, 0, none⟩)) (hx3 : xs 3 = .pointer (some ⟨p3, 0, none⟩)) (hx8 : xs 8 = .pointer (some ⟨p8, 0, none⟩)) (hx10 : xs 10 = .pointer (some ⟨p10, 0, none⟩)) (hx9 : xs 9 = .int .i64 0) (hx11 : xs 11 = .int .i64 0) : OpStep Tryz.prog nu18Ops Q (nu18F ka na sa p1 p3 RA p8 p10) w0 144 xs 45 := by
  intro act w hb hk hF
  have g104 : act.eval (.tmp 104) = .bool true := hF 42 (of_decide_eq_true (by kernel_rfl)) 104 (by kernel_rfl)
  have g3 : act.eval (.tmp 3) = .pointer (some ⟨p3, 0, none⟩) := (hk 3 (by decide) (by kernel_rfl)).trans hx3
  exact step_loadB (show opO nu18Ops 45 = some (.load 24 (.tmp 3)) by kernel_rfl) (.told 42 true 104 (by kernel_rfl) (by kernel_rfl) g104) g3 (hb3 w hb) ⟨rfl, Below.refl _ _⟩

theorem nu18_s46 {Q : Exit → Act → World → Prop} {w0 : World} {xs : Nat → Value} (ka na : Int) (sa : ByteArray) (p1 p3 : Nat) (RA : Hid (Rt ka na sa)) (p8 p10 : Nat) (hb1 : BoxOn w0 p1 ka na sa) (hb3 : BoxOn w0 p3 0 0 ⟨#[]⟩) (hb8 : BoxOn w0 p8 0 0 ⟨#[]⟩) (hb10 : BoxOn w0 p10 0 0 ⟨#[]⟩) (aw : AwIs w0) (hx1 : xs 1 = .pointer (some ⟨p1, 0, none⟩)) (hx3 : xs 3 = .pointer (some ⟨p3, 0, none⟩)) (hx8 : xs 8 = .pointer (some ⟨p8, 0, none⟩)) (hx10 : xs 10 = .pointer (some ⟨p10, 0, none⟩)) (hx9 : xs 9 = .int .i64 0) (hx11 : xs 11 = .int .i64 0) : OpStep Tryz.prog nu18Ops Q (nu18F ka na sa p1 p3 RA p8 p10) w0 144 xs 46 := by
  intro act w hb hk hF
  have g104 : act.eval (.tmp 104) = .bool true := hF 42 (of_decide_eq_true (by kernel_rfl)) 104 (by kernel_rfl)
  have g106 : act.eval (.tmp 106) = vv ka na sa := hF 44 (of_decide_eq_true (by kernel_rfl)) 106 (by kernel_rfl)
  have g107 : act.eval (.tmp 107) = vv 0 0 ⟨#[]⟩ := hF 45 (of_decide_eq_true (by kernel_rfl)) 107 (by kernel_rfl)
  exact step_build2 (show opO nu18Ops 46 = some (.buildSlice 27 2 #[(0, .tmp 106), (1, .tmp 107)]) by kernel_rfl) (.told 42 true 104 (by kernel_rfl) (by kernel_rfl) g104) g106 g107 fun b hR hb' => ⟨⟨b, rfl, hR⟩, hb'⟩

theorem nu18_s47 {Q : Exit → Act → World → Prop} {w0 : World} {xs : Nat → Value} (ka na : Int) (sa : ByteArray) (p1 p3 : Nat) (RA : Hid (Rt ka na sa)) (p8 p10 : Nat) (hb1 : BoxOn w0 p1 ka na sa) (hb3 : BoxOn w0 p3 0 0 ⟨#[]⟩) (hb8 : BoxOn w0 p8 0 0 ⟨#[]⟩) (hb10 : BoxOn w0 p10 0 0 ⟨#[]⟩) (aw : AwIs w0) (hx1 : xs 1 = .pointer (some ⟨p1, 0, none⟩)) (hx3 : xs 3 = .pointer (some ⟨p3, 0, none⟩)) (hx8 : xs 8 = .pointer (some ⟨p8, 0, none⟩)) (hx10 : xs 10 = .pointer (some ⟨p10, 0, none⟩)) (hx9 : xs 9 = .int .i64 0) (hx11 : xs 11 = .int .i64 0) : OpStep Tryz.prog nu18Ops Q (nu18F ka na sa p1 p3 RA p8 p10) w0 144 xs 47 := by
  intro act w hb hk hF
  have g104 : act.eval (.tmp 104) = .bool true := hF 42 (of_decide_eq_true (by kernel_rfl)) 104 (by kernel_rfl)
  have g105 : act.eval (.tmp 105) = vv ka na sa := hF 43 (of_decide_eq_true (by kernel_rfl)) 105 (by kernel_rfl)
  obtain ⟨b108, g108, hR108⟩ := (show IsL [(ka, na, sa), (0, 0, ⟨#[]⟩)] _ w from hF 46 (of_decide_eq_true (by kernel_rfl)) 108 (by kernel_rfl))
  exact step_call (f := 24) (xs := #[.tmp 105, .const (.string ⟨#[99, 111, 97, 108, 101, 115, 99, 101]⟩), .tmp 108]) (by kernel_rfl) (.told 42 true 104 (by kernel_rfl) (by kernel_rfl) g104) (map3 g105 rfl g108) (enters_of Tryz.func24 (by kernel_rfl) rfl) ((calls_first named_coalesce b108 _ w (all2 RA.out Rt_nul) (by simp) hR108 (by simp) (by simp) ka na sa (first_na ka na sa RA.out).2).mono fun e w' h => ⟨_, h.1, rfl, h.2⟩)

theorem nu18_s48 {Q : Exit → Act → World → Prop} {w0 : World} {xs : Nat → Value} (ka na : Int) (sa : ByteArray) (p1 p3 : Nat) (RA : Hid (Rt ka na sa)) (p8 p10 : Nat) (hb1 : BoxOn w0 p1 ka na sa) (hb3 : BoxOn w0 p3 0 0 ⟨#[]⟩) (hb8 : BoxOn w0 p8 0 0 ⟨#[]⟩) (hb10 : BoxOn w0 p10 0 0 ⟨#[]⟩) (aw : AwIs w0) (hx1 : xs 1 = .pointer (some ⟨p1, 0, none⟩)) (hx3 : xs 3 = .pointer (some ⟨p3, 0, none⟩)) (hx8 : xs 8 = .pointer (some ⟨p8, 0, none⟩)) (hx10 : xs 10 = .pointer (some ⟨p10, 0, none⟩)) (hx9 : xs 9 = .int .i64 0) (hx11 : xs 11 = .int .i64 0) : OpStep Tryz.prog nu18Ops Q (nu18F ka na sa p1 p3 RA p8 p10) w0 144 xs 48 := by
  intro act w hb hk hF
  have g104 : act.eval (.tmp 104) = .bool true := hF 42 (of_decide_eq_true (by kernel_rfl)) 104 (by kernel_rfl)
  have g109 : act.eval (.tmp 109) = .bool true := hF 47 (of_decide_eq_true (by kernel_rfl)) 109 (by kernel_rfl)
  exact step_pickT (show opO nu18Ops 48 = some (.pick (.tmp 104) (.tmp 109) (.const (.bool false))) by kernel_rfl) (.free (by kernel_rfl)) g104 g109 ⟨rfl, Below.refl _ _⟩

theorem nu18_s49 {Q : Exit → Act → World → Prop} {w0 : World} {xs : Nat → Value} (ka na : Int) (sa : ByteArray) (p1 p3 : Nat) (RA : Hid (Rt ka na sa)) (p8 p10 : Nat) (hb1 : BoxOn w0 p1 ka na sa) (hb3 : BoxOn w0 p3 0 0 ⟨#[]⟩) (hb8 : BoxOn w0 p8 0 0 ⟨#[]⟩) (hb10 : BoxOn w0 p10 0 0 ⟨#[]⟩) (aw : AwIs w0) (hx1 : xs 1 = .pointer (some ⟨p1, 0, none⟩)) (hx3 : xs 3 = .pointer (some ⟨p3, 0, none⟩)) (hx8 : xs 8 = .pointer (some ⟨p8, 0, none⟩)) (hx10 : xs 10 = .pointer (some ⟨p10, 0, none⟩)) (hx9 : xs 9 = .int .i64 0) (hx11 : xs 11 = .int .i64 0) : OpStep Tryz.prog nu18Ops Q (nu18F ka na sa p1 p3 RA p8 p10) w0 144 xs 49 := by
  intro act w hb hk hF
  have g110 : act.eval (.tmp 110) = .bool true := hF 48 (of_decide_eq_true (by kernel_rfl)) 110 (by kernel_rfl)
  exact step_move (show opO nu18Ops 49 = some (.move (.tmp 110)) by kernel_rfl) (.free (by kernel_rfl)) g110 ⟨rfl, Below.refl _ _⟩

theorem nu18_s50 {Q : Exit → Act → World → Prop} {w0 : World} {xs : Nat → Value} (ka na : Int) (sa : ByteArray) (p1 p3 : Nat) (RA : Hid (Rt ka na sa)) (p8 p10 : Nat) (hb1 : BoxOn w0 p1 ka na sa) (hb3 : BoxOn w0 p3 0 0 ⟨#[]⟩) (hb8 : BoxOn w0 p8 0 0 ⟨#[]⟩) (hb10 : BoxOn w0 p10 0 0 ⟨#[]⟩) (aw : AwIs w0) (hx1 : xs 1 = .pointer (some ⟨p1, 0, none⟩)) (hx3 : xs 3 = .pointer (some ⟨p3, 0, none⟩)) (hx8 : xs 8 = .pointer (some ⟨p8, 0, none⟩)) (hx10 : xs 10 = .pointer (some ⟨p10, 0, none⟩)) (hx9 : xs 9 = .int .i64 0) (hx11 : xs 11 = .int .i64 0) : OpStep Tryz.prog nu18Ops Q (nu18F ka na sa p1 p3 RA p8 p10) w0 144 xs 50 := by
  intro act w hb hk hF
  have g111 : act.eval (.tmp 111) = .bool true := hF 49 (of_decide_eq_true (by kernel_rfl)) 111 (by kernel_rfl)
  exact step_call (f := 12) (xs := #[.const (.string ⟨#[110, 117, 108, 108]⟩)]) (by kernel_rfl) (.told 49 true 111 (by kernel_rfl) (by kernel_rfl) g111) (map1 rfl) (enters_of Tryz.func12 (by kernel_rfl) rfl) ((text_any ⟨#[110, 117, 108, 108]⟩ w).mono fun e w' h => ⟨_, h.1, rfl, h.2⟩)

theorem nu18_s51 {Q : Exit → Act → World → Prop} {w0 : World} {xs : Nat → Value} (ka na : Int) (sa : ByteArray) (p1 p3 : Nat) (RA : Hid (Rt ka na sa)) (p8 p10 : Nat) (hb1 : BoxOn w0 p1 ka na sa) (hb3 : BoxOn w0 p3 0 0 ⟨#[]⟩) (hb8 : BoxOn w0 p8 0 0 ⟨#[]⟩) (hb10 : BoxOn w0 p10 0 0 ⟨#[]⟩) (aw : AwIs w0) (hx1 : xs 1 = .pointer (some ⟨p1, 0, none⟩)) (hx3 : xs 3 = .pointer (some ⟨p3, 0, none⟩)) (hx8 : xs 8 = .pointer (some ⟨p8, 0, none⟩)) (hx10 : xs 10 = .pointer (some ⟨p10, 0, none⟩)) (hx9 : xs 9 = .int .i64 0) (hx11 : xs 11 = .int .i64 0) : OpStep Tryz.prog nu18Ops Q (nu18F ka na sa p1 p3 RA p8 p10) w0 144 xs 51 := by
  intro act w hb hk hF
  have g111 : act.eval (.tmp 111) = .bool true := hF 49 (of_decide_eq_true (by kernel_rfl)) 111 (by kernel_rfl)
  have g3 : act.eval (.tmp 3) = .pointer (some ⟨p3, 0, none⟩) := (hk 3 (by decide) (by kernel_rfl)).trans hx3
  exact step_loadB (show opO nu18Ops 51 = some (.load 24 (.tmp 3)) by kernel_rfl) (.told 49 true 111 (by kernel_rfl) (by kernel_rfl) g111) g3 (hb3 w hb) ⟨rfl, Below.refl _ _⟩

theorem nu18_s52 {Q : Exit → Act → World → Prop} {w0 : World} {xs : Nat → Value} (ka na : Int) (sa : ByteArray) (p1 p3 : Nat) (RA : Hid (Rt ka na sa)) (p8 p10 : Nat) (hb1 : BoxOn w0 p1 ka na sa) (hb3 : BoxOn w0 p3 0 0 ⟨#[]⟩) (hb8 : BoxOn w0 p8 0 0 ⟨#[]⟩) (hb10 : BoxOn w0 p10 0 0 ⟨#[]⟩) (aw : AwIs w0) (hx1 : xs 1 = .pointer (some ⟨p1, 0, none⟩)) (hx3 : xs 3 = .pointer (some ⟨p3, 0, none⟩)) (hx8 : xs 8 = .pointer (some ⟨p8, 0, none⟩)) (hx10 : xs 10 = .pointer (some ⟨p10, 0, none⟩)) (hx9 : xs 9 = .int .i64 0) (hx11 : xs 11 = .int .i64 0) : OpStep Tryz.prog nu18Ops Q (nu18F ka na sa p1 p3 RA p8 p10) w0 144 xs 52 := by
  intro act w hb hk hF
  have g111 : act.eval (.tmp 111) = .bool true := hF 49 (of_decide_eq_true (by kernel_rfl)) 111 (by kernel_rfl)
  have g113 : act.eval (.tmp 113) = vv 0 0 ⟨#[]⟩ := hF 51 (of_decide_eq_true (by kernel_rfl)) 113 (by kernel_rfl)
  exact step_build1 (show opO nu18Ops 52 = some (.buildSlice 27 1 #[(0, .tmp 113)]) by kernel_rfl) (.told 49 true 111 (by kernel_rfl) (by kernel_rfl) g111) g113 fun b hR hb' => ⟨⟨b, rfl, hR⟩, hb'⟩

theorem nu18_s53 {Q : Exit → Act → World → Prop} {w0 : World} {xs : Nat → Value} (ka na : Int) (sa : ByteArray) (p1 p3 : Nat) (RA : Hid (Rt ka na sa)) (p8 p10 : Nat) (hb1 : BoxOn w0 p1 ka na sa) (hb3 : BoxOn w0 p3 0 0 ⟨#[]⟩) (hb8 : BoxOn w0 p8 0 0 ⟨#[]⟩) (hb10 : BoxOn w0 p10 0 0 ⟨#[]⟩) (aw : AwIs w0) (hx1 : xs 1 = .pointer (some ⟨p1, 0, none⟩)) (hx3 : xs 3 = .pointer (some ⟨p3, 0, none⟩)) (hx8 : xs 8 = .pointer (some ⟨p8, 0, none⟩)) (hx10 : xs 10 = .pointer (some ⟨p10, 0, none⟩)) (hx9 : xs 9 = .int .i64 0) (hx11 : xs 11 = .int .i64 0) : OpStep Tryz.prog nu18Ops Q (nu18F ka na sa p1 p3 RA p8 p10) w0 144 xs 53 := by
  intro act w hb hk hF
  have g111 : act.eval (.tmp 111) = .bool true := hF 49 (of_decide_eq_true (by kernel_rfl)) 111 (by kernel_rfl)
  have g112 : act.eval (.tmp 112) = vv 2 0 ⟨#[110, 117, 108, 108]⟩ := hF 50 (of_decide_eq_true (by kernel_rfl)) 112 (by kernel_rfl)
  obtain ⟨b114, g114, hR114⟩ := (show IsL [(0, 0, ⟨#[]⟩)] _ w from hF 52 (of_decide_eq_true (by kernel_rfl)) 114 (by kernel_rfl))
  exact step_call (f := 24) (xs := #[.tmp 112, .const (.string ⟨#[116, 121, 112, 101, 111, 102]⟩), .tmp 114]) (by kernel_rfl) (.told 49 true 111 (by kernel_rfl) (by kernel_rfl) g111) (map3 g112 rfl g114) (enters_of Tryz.func24 (by kernel_rfl) rfl) ((calls_typeof b114 w hR114).mono fun e w' h => ⟨_, h.1, rfl, h.2⟩)

theorem nu18_s54 {Q : Exit → Act → World → Prop} {w0 : World} {xs : Nat → Value} (ka na : Int) (sa : ByteArray) (p1 p3 : Nat) (RA : Hid (Rt ka na sa)) (p8 p10 : Nat) (hb1 : BoxOn w0 p1 ka na sa) (hb3 : BoxOn w0 p3 0 0 ⟨#[]⟩) (hb8 : BoxOn w0 p8 0 0 ⟨#[]⟩) (hb10 : BoxOn w0 p10 0 0 ⟨#[]⟩) (aw : AwIs w0) (hx1 : xs 1 = .pointer (some ⟨p1, 0, none⟩)) (hx3 : xs 3 = .pointer (some ⟨p3, 0, none⟩)) (hx8 : xs 8 = .pointer (some ⟨p8, 0, none⟩)) (hx10 : xs 10 = .pointer (some ⟨p10, 0, none⟩)) (hx9 : xs 9 = .int .i64 0) (hx11 : xs 11 = .int .i64 0) : OpStep Tryz.prog nu18Ops Q (nu18F ka na sa p1 p3 RA p8 p10) w0 144 xs 54 := by
  intro act w hb hk hF
  have g111 : act.eval (.tmp 111) = .bool true := hF 49 (of_decide_eq_true (by kernel_rfl)) 111 (by kernel_rfl)
  have g115 : act.eval (.tmp 115) = .bool true := hF 53 (of_decide_eq_true (by kernel_rfl)) 115 (by kernel_rfl)
  exact step_pickT (show opO nu18Ops 54 = some (.pick (.tmp 111) (.tmp 115) (.const (.bool false))) by kernel_rfl) (.free (by kernel_rfl)) g111 g115 ⟨rfl, Below.refl _ _⟩

theorem nu18_s55 {Q : Exit → Act → World → Prop} {w0 : World} {xs : Nat → Value} (ka na : Int) (sa : ByteArray) (p1 p3 : Nat) (RA : Hid (Rt ka na sa)) (p8 p10 : Nat) (hb1 : BoxOn w0 p1 ka na sa) (hb3 : BoxOn w0 p3 0 0 ⟨#[]⟩) (hb8 : BoxOn w0 p8 0 0 ⟨#[]⟩) (hb10 : BoxOn w0 p10 0 0 ⟨#[]⟩) (aw : AwIs w0) (hx1 : xs 1 = .pointer (some ⟨p1, 0, none⟩)) (hx3 : xs 3 = .pointer (some ⟨p3, 0, none⟩)) (hx8 : xs 8 = .pointer (some ⟨p8, 0, none⟩)) (hx10 : xs 10 = .pointer (some ⟨p10, 0, none⟩)) (hx9 : xs 9 = .int .i64 0) (hx11 : xs 11 = .int .i64 0) : OpStep Tryz.prog nu18Ops Q (nu18F ka na sa p1 p3 RA p8 p10) w0 144 xs 55 := by
  intro act w hb hk hF
  have g116 : act.eval (.tmp 116) = .bool true := hF 54 (of_decide_eq_true (by kernel_rfl)) 116 (by kernel_rfl)
  exact step_move (show opO nu18Ops 55 = some (.move (.tmp 116)) by kernel_rfl) (.free (by kernel_rfl)) g116 ⟨rfl, Below.refl _ _⟩

theorem nu18_s56 {Q : Exit → Act → World → Prop} {w0 : World} {xs : Nat → Value} (ka na : Int) (sa : ByteArray) (p1 p3 : Nat) (RA : Hid (Rt ka na sa)) (p8 p10 : Nat) (hb1 : BoxOn w0 p1 ka na sa) (hb3 : BoxOn w0 p3 0 0 ⟨#[]⟩) (hb8 : BoxOn w0 p8 0 0 ⟨#[]⟩) (hb10 : BoxOn w0 p10 0 0 ⟨#[]⟩) (aw : AwIs w0) (hx1 : xs 1 = .pointer (some ⟨p1, 0, none⟩)) (hx3 : xs 3 = .pointer (some ⟨p3, 0, none⟩)) (hx8 : xs 8 = .pointer (some ⟨p8, 0, none⟩)) (hx10 : xs 10 = .pointer (some ⟨p10, 0, none⟩)) (hx9 : xs 9 = .int .i64 0) (hx11 : xs 11 = .int .i64 0) : OpStep Tryz.prog nu18Ops Q (nu18F ka na sa p1 p3 RA p8 p10) w0 144 xs 56 := by
  intro act w hb hk hF
  have g117 : act.eval (.tmp 117) = .bool true := hF 55 (of_decide_eq_true (by kernel_rfl)) 117 (by kernel_rfl)
  have g8 : act.eval (.tmp 8) = .pointer (some ⟨p8, 0, none⟩) := (hk 8 (by decide) (by kernel_rfl)).trans hx8
  exact step_loadB (show opO nu18Ops 56 = some (.load 24 (.tmp 8)) by kernel_rfl) (.told 55 true 117 (by kernel_rfl) (by kernel_rfl) g117) g8 (hb8 w hb) ⟨rfl, Below.refl _ _⟩

theorem nu18_s57 {Q : Exit → Act → World → Prop} {w0 : World} {xs : Nat → Value} (ka na : Int) (sa : ByteArray) (p1 p3 : Nat) (RA : Hid (Rt ka na sa)) (p8 p10 : Nat) (hb1 : BoxOn w0 p1 ka na sa) (hb3 : BoxOn w0 p3 0 0 ⟨#[]⟩) (hb8 : BoxOn w0 p8 0 0 ⟨#[]⟩) (hb10 : BoxOn w0 p10 0 0 ⟨#[]⟩) (aw : AwIs w0) (hx1 : xs 1 = .pointer (some ⟨p1, 0, none⟩)) (hx3 : xs 3 = .pointer (some ⟨p3, 0, none⟩)) (hx8 : xs 8 = .pointer (some ⟨p8, 0, none⟩)) (hx10 : xs 10 = .pointer (some ⟨p10, 0, none⟩)) (hx9 : xs 9 = .int .i64 0) (hx11 : xs 11 = .int .i64 0) : OpStep Tryz.prog nu18Ops Q (nu18F ka na sa p1 p3 RA p8 p10) w0 144 xs 57 := by
  intro act w hb hk hF
  have g117 : act.eval (.tmp 117) = .bool true := hF 55 (of_decide_eq_true (by kernel_rfl)) 117 (by kernel_rfl)
  have g3 : act.eval (.tmp 3) = .pointer (some ⟨p3, 0, none⟩) := (hk 3 (by decide) (by kernel_rfl)).trans hx3
  exact step_loadB (show opO nu18Ops 57 = some (.load 24 (.tmp 3)) by kernel_rfl) (.told 55 true 117 (by kernel_rfl) (by kernel_rfl) g117) g3 (hb3 w hb) ⟨rfl, Below.refl _ _⟩

theorem nu18_s58 {Q : Exit → Act → World → Prop} {w0 : World} {xs : Nat → Value} (ka na : Int) (sa : ByteArray) (p1 p3 : Nat) (RA : Hid (Rt ka na sa)) (p8 p10 : Nat) (hb1 : BoxOn w0 p1 ka na sa) (hb3 : BoxOn w0 p3 0 0 ⟨#[]⟩) (hb8 : BoxOn w0 p8 0 0 ⟨#[]⟩) (hb10 : BoxOn w0 p10 0 0 ⟨#[]⟩) (aw : AwIs w0) (hx1 : xs 1 = .pointer (some ⟨p1, 0, none⟩)) (hx3 : xs 3 = .pointer (some ⟨p3, 0, none⟩)) (hx8 : xs 8 = .pointer (some ⟨p8, 0, none⟩)) (hx10 : xs 10 = .pointer (some ⟨p10, 0, none⟩)) (hx9 : xs 9 = .int .i64 0) (hx11 : xs 11 = .int .i64 0) : OpStep Tryz.prog nu18Ops Q (nu18F ka na sa p1 p3 RA p8 p10) w0 144 xs 58 := by
  intro act w hb hk hF
  have g117 : act.eval (.tmp 117) = .bool true := hF 55 (of_decide_eq_true (by kernel_rfl)) 117 (by kernel_rfl)
  have g118 : act.eval (.tmp 118) = vv 0 0 ⟨#[]⟩ := hF 56 (of_decide_eq_true (by kernel_rfl)) 118 (by kernel_rfl)
  have g119 : act.eval (.tmp 119) = vv 0 0 ⟨#[]⟩ := hF 57 (of_decide_eq_true (by kernel_rfl)) 119 (by kernel_rfl)
  exact step_eqV (show opO nu18Ops 58 = some (.binOp .eql 24 (.tmp 118) (.tmp 119) 24) by kernel_rfl) (.told 55 true 117 (by kernel_rfl) (by kernel_rfl) g117) g118 g119 (same_self _ _ _) ⟨rfl, Below.refl _ _⟩

theorem nu18_s59 {Q : Exit → Act → World → Prop} {w0 : World} {xs : Nat → Value} (ka na : Int) (sa : ByteArray) (p1 p3 : Nat) (RA : Hid (Rt ka na sa)) (p8 p10 : Nat) (hb1 : BoxOn w0 p1 ka na sa) (hb3 : BoxOn w0 p3 0 0 ⟨#[]⟩) (hb8 : BoxOn w0 p8 0 0 ⟨#[]⟩) (hb10 : BoxOn w0 p10 0 0 ⟨#[]⟩) (aw : AwIs w0) (hx1 : xs 1 = .pointer (some ⟨p1, 0, none⟩)) (hx3 : xs 3 = .pointer (some ⟨p3, 0, none⟩)) (hx8 : xs 8 = .pointer (some ⟨p8, 0, none⟩)) (hx10 : xs 10 = .pointer (some ⟨p10, 0, none⟩)) (hx9 : xs 9 = .int .i64 0) (hx11 : xs 11 = .int .i64 0) : OpStep Tryz.prog nu18Ops Q (nu18F ka na sa p1 p3 RA p8 p10) w0 144 xs 59 := by
  intro act w hb hk hF
  have g117 : act.eval (.tmp 117) = .bool true := hF 55 (of_decide_eq_true (by kernel_rfl)) 117 (by kernel_rfl)
  have g120 : act.eval (.tmp 120) = .bool true := hF 58 (of_decide_eq_true (by kernel_rfl)) 120 (by kernel_rfl)
  exact step_pickT (show opO nu18Ops 59 = some (.pick (.tmp 117) (.tmp 120) (.const (.bool false))) by kernel_rfl) (.free (by kernel_rfl)) g117 g120 ⟨rfl, Below.refl _ _⟩

theorem nu18_s60 {Q : Exit → Act → World → Prop} {w0 : World} {xs : Nat → Value} (ka na : Int) (sa : ByteArray) (p1 p3 : Nat) (RA : Hid (Rt ka na sa)) (p8 p10 : Nat) (hb1 : BoxOn w0 p1 ka na sa) (hb3 : BoxOn w0 p3 0 0 ⟨#[]⟩) (hb8 : BoxOn w0 p8 0 0 ⟨#[]⟩) (hb10 : BoxOn w0 p10 0 0 ⟨#[]⟩) (aw : AwIs w0) (hx1 : xs 1 = .pointer (some ⟨p1, 0, none⟩)) (hx3 : xs 3 = .pointer (some ⟨p3, 0, none⟩)) (hx8 : xs 8 = .pointer (some ⟨p8, 0, none⟩)) (hx10 : xs 10 = .pointer (some ⟨p10, 0, none⟩)) (hx9 : xs 9 = .int .i64 0) (hx11 : xs 11 = .int .i64 0) : OpStep Tryz.prog nu18Ops Q (nu18F ka na sa p1 p3 RA p8 p10) w0 144 xs 60 := by
  intro act w hb hk hF
  have g121 : act.eval (.tmp 121) = .bool true := hF 59 (of_decide_eq_true (by kernel_rfl)) 121 (by kernel_rfl)
  exact step_move (show opO nu18Ops 60 = some (.move (.tmp 121)) by kernel_rfl) (.free (by kernel_rfl)) g121 ⟨rfl, Below.refl _ _⟩

theorem nu18_s61 {Q : Exit → Act → World → Prop} {w0 : World} {xs : Nat → Value} (ka na : Int) (sa : ByteArray) (p1 p3 : Nat) (RA : Hid (Rt ka na sa)) (p8 p10 : Nat) (hb1 : BoxOn w0 p1 ka na sa) (hb3 : BoxOn w0 p3 0 0 ⟨#[]⟩) (hb8 : BoxOn w0 p8 0 0 ⟨#[]⟩) (hb10 : BoxOn w0 p10 0 0 ⟨#[]⟩) (aw : AwIs w0) (hx1 : xs 1 = .pointer (some ⟨p1, 0, none⟩)) (hx3 : xs 3 = .pointer (some ⟨p3, 0, none⟩)) (hx8 : xs 8 = .pointer (some ⟨p8, 0, none⟩)) (hx10 : xs 10 = .pointer (some ⟨p10, 0, none⟩)) (hx9 : xs 9 = .int .i64 0) (hx11 : xs 11 = .int .i64 0) : OpStep Tryz.prog nu18Ops Q (nu18F ka na sa p1 p3 RA p8 p10) w0 144 xs 61 := by
  intro act w hb hk hF
  have g122 : act.eval (.tmp 122) = .bool true := hF 60 (of_decide_eq_true (by kernel_rfl)) 122 (by kernel_rfl)
  have g10 : act.eval (.tmp 10) = .pointer (some ⟨p10, 0, none⟩) := (hk 10 (by decide) (by kernel_rfl)).trans hx10
  exact step_loadB (show opO nu18Ops 61 = some (.load 24 (.tmp 10)) by kernel_rfl) (.told 60 true 122 (by kernel_rfl) (by kernel_rfl) g122) g10 (hb10 w hb) ⟨rfl, Below.refl _ _⟩

theorem nu18_s62 {Q : Exit → Act → World → Prop} {w0 : World} {xs : Nat → Value} (ka na : Int) (sa : ByteArray) (p1 p3 : Nat) (RA : Hid (Rt ka na sa)) (p8 p10 : Nat) (hb1 : BoxOn w0 p1 ka na sa) (hb3 : BoxOn w0 p3 0 0 ⟨#[]⟩) (hb8 : BoxOn w0 p8 0 0 ⟨#[]⟩) (hb10 : BoxOn w0 p10 0 0 ⟨#[]⟩) (aw : AwIs w0) (hx1 : xs 1 = .pointer (some ⟨p1, 0, none⟩)) (hx3 : xs 3 = .pointer (some ⟨p3, 0, none⟩)) (hx8 : xs 8 = .pointer (some ⟨p8, 0, none⟩)) (hx10 : xs 10 = .pointer (some ⟨p10, 0, none⟩)) (hx9 : xs 9 = .int .i64 0) (hx11 : xs 11 = .int .i64 0) : OpStep Tryz.prog nu18Ops Q (nu18F ka na sa p1 p3 RA p8 p10) w0 144 xs 62 := by
  intro act w hb hk hF
  have g122 : act.eval (.tmp 122) = .bool true := hF 60 (of_decide_eq_true (by kernel_rfl)) 122 (by kernel_rfl)
  have g3 : act.eval (.tmp 3) = .pointer (some ⟨p3, 0, none⟩) := (hk 3 (by decide) (by kernel_rfl)).trans hx3
  exact step_loadB (show opO nu18Ops 62 = some (.load 24 (.tmp 3)) by kernel_rfl) (.told 60 true 122 (by kernel_rfl) (by kernel_rfl) g122) g3 (hb3 w hb) ⟨rfl, Below.refl _ _⟩

theorem nu18_s63 {Q : Exit → Act → World → Prop} {w0 : World} {xs : Nat → Value} (ka na : Int) (sa : ByteArray) (p1 p3 : Nat) (RA : Hid (Rt ka na sa)) (p8 p10 : Nat) (hb1 : BoxOn w0 p1 ka na sa) (hb3 : BoxOn w0 p3 0 0 ⟨#[]⟩) (hb8 : BoxOn w0 p8 0 0 ⟨#[]⟩) (hb10 : BoxOn w0 p10 0 0 ⟨#[]⟩) (aw : AwIs w0) (hx1 : xs 1 = .pointer (some ⟨p1, 0, none⟩)) (hx3 : xs 3 = .pointer (some ⟨p3, 0, none⟩)) (hx8 : xs 8 = .pointer (some ⟨p8, 0, none⟩)) (hx10 : xs 10 = .pointer (some ⟨p10, 0, none⟩)) (hx9 : xs 9 = .int .i64 0) (hx11 : xs 11 = .int .i64 0) : OpStep Tryz.prog nu18Ops Q (nu18F ka na sa p1 p3 RA p8 p10) w0 144 xs 63 := by
  intro act w hb hk hF
  have g122 : act.eval (.tmp 122) = .bool true := hF 60 (of_decide_eq_true (by kernel_rfl)) 122 (by kernel_rfl)
  have g123 : act.eval (.tmp 123) = vv 0 0 ⟨#[]⟩ := hF 61 (of_decide_eq_true (by kernel_rfl)) 123 (by kernel_rfl)
  have g124 : act.eval (.tmp 124) = vv 0 0 ⟨#[]⟩ := hF 62 (of_decide_eq_true (by kernel_rfl)) 124 (by kernel_rfl)
  exact step_eqV (show opO nu18Ops 63 = some (.binOp .eql 24 (.tmp 123) (.tmp 124) 24) by kernel_rfl) (.told 60 true 122 (by kernel_rfl) (by kernel_rfl) g122) g123 g124 (same_self _ _ _) ⟨rfl, Below.refl _ _⟩

theorem nu18_s64 {Q : Exit → Act → World → Prop} {w0 : World} {xs : Nat → Value} (ka na : Int) (sa : ByteArray) (p1 p3 : Nat) (RA : Hid (Rt ka na sa)) (p8 p10 : Nat) (hb1 : BoxOn w0 p1 ka na sa) (hb3 : BoxOn w0 p3 0 0 ⟨#[]⟩) (hb8 : BoxOn w0 p8 0 0 ⟨#[]⟩) (hb10 : BoxOn w0 p10 0 0 ⟨#[]⟩) (aw : AwIs w0) (hx1 : xs 1 = .pointer (some ⟨p1, 0, none⟩)) (hx3 : xs 3 = .pointer (some ⟨p3, 0, none⟩)) (hx8 : xs 8 = .pointer (some ⟨p8, 0, none⟩)) (hx10 : xs 10 = .pointer (some ⟨p10, 0, none⟩)) (hx9 : xs 9 = .int .i64 0) (hx11 : xs 11 = .int .i64 0) : OpStep Tryz.prog nu18Ops Q (nu18F ka na sa p1 p3 RA p8 p10) w0 144 xs 64 := by
  intro act w hb hk hF
  have g122 : act.eval (.tmp 122) = .bool true := hF 60 (of_decide_eq_true (by kernel_rfl)) 122 (by kernel_rfl)
  have g125 : act.eval (.tmp 125) = .bool true := hF 63 (of_decide_eq_true (by kernel_rfl)) 125 (by kernel_rfl)
  exact step_pickT (show opO nu18Ops 64 = some (.pick (.tmp 122) (.tmp 125) (.const (.bool false))) by kernel_rfl) (.free (by kernel_rfl)) g122 g125 ⟨rfl, Below.refl _ _⟩

theorem nu18_s65 {Q : Exit → Act → World → Prop} {w0 : World} {xs : Nat → Value} (ka na : Int) (sa : ByteArray) (p1 p3 : Nat) (RA : Hid (Rt ka na sa)) (p8 p10 : Nat) (hb1 : BoxOn w0 p1 ka na sa) (hb3 : BoxOn w0 p3 0 0 ⟨#[]⟩) (hb8 : BoxOn w0 p8 0 0 ⟨#[]⟩) (hb10 : BoxOn w0 p10 0 0 ⟨#[]⟩) (aw : AwIs w0) (hx1 : xs 1 = .pointer (some ⟨p1, 0, none⟩)) (hx3 : xs 3 = .pointer (some ⟨p3, 0, none⟩)) (hx8 : xs 8 = .pointer (some ⟨p8, 0, none⟩)) (hx10 : xs 10 = .pointer (some ⟨p10, 0, none⟩)) (hx9 : xs 9 = .int .i64 0) (hx11 : xs 11 = .int .i64 0) : OpStep Tryz.prog nu18Ops Q (nu18F ka na sa p1 p3 RA p8 p10) w0 144 xs 65 := by
  intro act w hb hk hF
  have g126 : act.eval (.tmp 126) = .bool true := hF 64 (of_decide_eq_true (by kernel_rfl)) 126 (by kernel_rfl)
  exact step_move (show opO nu18Ops 65 = some (.move (.tmp 126)) by kernel_rfl) (.free (by kernel_rfl)) g126 ⟨rfl, Below.refl _ _⟩

theorem nu18_s66 {Q : Exit → Act → World → Prop} {w0 : World} {xs : Nat → Value} (ka na : Int) (sa : ByteArray) (p1 p3 : Nat) (RA : Hid (Rt ka na sa)) (p8 p10 : Nat) (hb1 : BoxOn w0 p1 ka na sa) (hb3 : BoxOn w0 p3 0 0 ⟨#[]⟩) (hb8 : BoxOn w0 p8 0 0 ⟨#[]⟩) (hb10 : BoxOn w0 p10 0 0 ⟨#[]⟩) (aw : AwIs w0) (hx1 : xs 1 = .pointer (some ⟨p1, 0, none⟩)) (hx3 : xs 3 = .pointer (some ⟨p3, 0, none⟩)) (hx8 : xs 8 = .pointer (some ⟨p8, 0, none⟩)) (hx10 : xs 10 = .pointer (some ⟨p10, 0, none⟩)) (hx9 : xs 9 = .int .i64 0) (hx11 : xs 11 = .int .i64 0) : OpStep Tryz.prog nu18Ops Q (nu18F ka na sa p1 p3 RA p8 p10) w0 144 xs 66 := by
  intro act w hb hk hF
  have g127 : act.eval (.tmp 127) = .bool true := hF 65 (of_decide_eq_true (by kernel_rfl)) 127 (by kernel_rfl)
  have g9 : act.eval (.tmp 9) = .int .i64 0 := (hk 9 (by decide) (by kernel_rfl)).trans hx9
  exact step_move (show opO nu18Ops 66 = some (.move (.tmp 9)) by kernel_rfl) (.told 65 true 127 (by kernel_rfl) (by kernel_rfl) g127) g9 ⟨rfl, Below.refl _ _⟩

theorem nu18_s67 {Q : Exit → Act → World → Prop} {w0 : World} {xs : Nat → Value} (ka na : Int) (sa : ByteArray) (p1 p3 : Nat) (RA : Hid (Rt ka na sa)) (p8 p10 : Nat) (hb1 : BoxOn w0 p1 ka na sa) (hb3 : BoxOn w0 p3 0 0 ⟨#[]⟩) (hb8 : BoxOn w0 p8 0 0 ⟨#[]⟩) (hb10 : BoxOn w0 p10 0 0 ⟨#[]⟩) (aw : AwIs w0) (hx1 : xs 1 = .pointer (some ⟨p1, 0, none⟩)) (hx3 : xs 3 = .pointer (some ⟨p3, 0, none⟩)) (hx8 : xs 8 = .pointer (some ⟨p8, 0, none⟩)) (hx10 : xs 10 = .pointer (some ⟨p10, 0, none⟩)) (hx9 : xs 9 = .int .i64 0) (hx11 : xs 11 = .int .i64 0) : OpStep Tryz.prog nu18Ops Q (nu18F ka na sa p1 p3 RA p8 p10) w0 144 xs 67 := by
  intro act w hb hk hF
  have g127 : act.eval (.tmp 127) = .bool true := hF 65 (of_decide_eq_true (by kernel_rfl)) 127 (by kernel_rfl)
  have g128 : act.eval (.tmp 128) = .int .i64 0 := hF 66 (of_decide_eq_true (by kernel_rfl)) 128 (by kernel_rfl)
  exact step_eqI (show opO nu18Ops 67 = some (.binOp .eql 28 (.tmp 128) (.const (.int .i64 0)) 28) by kernel_rfl) (.told 65 true 127 (by kernel_rfl) (by kernel_rfl) g127) g128 rfl (by simp) ⟨rfl, Below.refl _ _⟩

theorem nu18_s68 {Q : Exit → Act → World → Prop} {w0 : World} {xs : Nat → Value} (ka na : Int) (sa : ByteArray) (p1 p3 : Nat) (RA : Hid (Rt ka na sa)) (p8 p10 : Nat) (hb1 : BoxOn w0 p1 ka na sa) (hb3 : BoxOn w0 p3 0 0 ⟨#[]⟩) (hb8 : BoxOn w0 p8 0 0 ⟨#[]⟩) (hb10 : BoxOn w0 p10 0 0 ⟨#[]⟩) (aw : AwIs w0) (hx1 : xs 1 = .pointer (some ⟨p1, 0, none⟩)) (hx3 : xs 3 = .pointer (some ⟨p3, 0, none⟩)) (hx8 : xs 8 = .pointer (some ⟨p8, 0, none⟩)) (hx10 : xs 10 = .pointer (some ⟨p10, 0, none⟩)) (hx9 : xs 9 = .int .i64 0) (hx11 : xs 11 = .int .i64 0) : OpStep Tryz.prog nu18Ops Q (nu18F ka na sa p1 p3 RA p8 p10) w0 144 xs 68 := by
  intro act w hb hk hF
  have g127 : act.eval (.tmp 127) = .bool true := hF 65 (of_decide_eq_true (by kernel_rfl)) 127 (by kernel_rfl)
  have g129 : act.eval (.tmp 129) = .bool true := hF 67 (of_decide_eq_true (by kernel_rfl)) 129 (by kernel_rfl)
  exact step_pickT (show opO nu18Ops 68 = some (.pick (.tmp 127) (.tmp 129) (.const (.bool false))) by kernel_rfl) (.free (by kernel_rfl)) g127 g129 ⟨rfl, Below.refl _ _⟩

theorem nu18_s69 {Q : Exit → Act → World → Prop} {w0 : World} {xs : Nat → Value} (ka na : Int) (sa : ByteArray) (p1 p3 : Nat) (RA : Hid (Rt ka na sa)) (p8 p10 : Nat) (hb1 : BoxOn w0 p1 ka na sa) (hb3 : BoxOn w0 p3 0 0 ⟨#[]⟩) (hb8 : BoxOn w0 p8 0 0 ⟨#[]⟩) (hb10 : BoxOn w0 p10 0 0 ⟨#[]⟩) (aw : AwIs w0) (hx1 : xs 1 = .pointer (some ⟨p1, 0, none⟩)) (hx3 : xs 3 = .pointer (some ⟨p3, 0, none⟩)) (hx8 : xs 8 = .pointer (some ⟨p8, 0, none⟩)) (hx10 : xs 10 = .pointer (some ⟨p10, 0, none⟩)) (hx9 : xs 9 = .int .i64 0) (hx11 : xs 11 = .int .i64 0) : OpStep Tryz.prog nu18Ops Q (nu18F ka na sa p1 p3 RA p8 p10) w0 144 xs 69 := by
  intro act w hb hk hF
  have g130 : act.eval (.tmp 130) = .bool true := hF 68 (of_decide_eq_true (by kernel_rfl)) 130 (by kernel_rfl)
  exact step_move (show opO nu18Ops 69 = some (.move (.tmp 130)) by kernel_rfl) (.free (by kernel_rfl)) g130 ⟨rfl, Below.refl _ _⟩

theorem nu18_s70 {Q : Exit → Act → World → Prop} {w0 : World} {xs : Nat → Value} (ka na : Int) (sa : ByteArray) (p1 p3 : Nat) (RA : Hid (Rt ka na sa)) (p8 p10 : Nat) (hb1 : BoxOn w0 p1 ka na sa) (hb3 : BoxOn w0 p3 0 0 ⟨#[]⟩) (hb8 : BoxOn w0 p8 0 0 ⟨#[]⟩) (hb10 : BoxOn w0 p10 0 0 ⟨#[]⟩) (aw : AwIs w0) (hx1 : xs 1 = .pointer (some ⟨p1, 0, none⟩)) (hx3 : xs 3 = .pointer (some ⟨p3, 0, none⟩)) (hx8 : xs 8 = .pointer (some ⟨p8, 0, none⟩)) (hx10 : xs 10 = .pointer (some ⟨p10, 0, none⟩)) (hx9 : xs 9 = .int .i64 0) (hx11 : xs 11 = .int .i64 0) : OpStep Tryz.prog nu18Ops Q (nu18F ka na sa p1 p3 RA p8 p10) w0 144 xs 70 := by
  intro act w hb hk hF
  have g131 : act.eval (.tmp 131) = .bool true := hF 69 (of_decide_eq_true (by kernel_rfl)) 131 (by kernel_rfl)
  have g11 : act.eval (.tmp 11) = .int .i64 0 := (hk 11 (by decide) (by kernel_rfl)).trans hx11
  exact step_move (show opO nu18Ops 70 = some (.move (.tmp 11)) by kernel_rfl) (.told 69 true 131 (by kernel_rfl) (by kernel_rfl) g131) g11 ⟨rfl, Below.refl _ _⟩

theorem nu18_s71 {Q : Exit → Act → World → Prop} {w0 : World} {xs : Nat → Value} (ka na : Int) (sa : ByteArray) (p1 p3 : Nat) (RA : Hid (Rt ka na sa)) (p8 p10 : Nat) (hb1 : BoxOn w0 p1 ka na sa) (hb3 : BoxOn w0 p3 0 0 ⟨#[]⟩) (hb8 : BoxOn w0 p8 0 0 ⟨#[]⟩) (hb10 : BoxOn w0 p10 0 0 ⟨#[]⟩) (aw : AwIs w0) (hx1 : xs 1 = .pointer (some ⟨p1, 0, none⟩)) (hx3 : xs 3 = .pointer (some ⟨p3, 0, none⟩)) (hx8 : xs 8 = .pointer (some ⟨p8, 0, none⟩)) (hx10 : xs 10 = .pointer (some ⟨p10, 0, none⟩)) (hx9 : xs 9 = .int .i64 0) (hx11 : xs 11 = .int .i64 0) : OpStep Tryz.prog nu18Ops Q (nu18F ka na sa p1 p3 RA p8 p10) w0 144 xs 71 := by
  intro act w hb hk hF
  have g131 : act.eval (.tmp 131) = .bool true := hF 69 (of_decide_eq_true (by kernel_rfl)) 131 (by kernel_rfl)
  have g132 : act.eval (.tmp 132) = .int .i64 0 := hF 70 (of_decide_eq_true (by kernel_rfl)) 132 (by kernel_rfl)
  exact step_eqI (show opO nu18Ops 71 = some (.binOp .eql 28 (.tmp 132) (.const (.int .i64 0)) 28) by kernel_rfl) (.told 69 true 131 (by kernel_rfl) (by kernel_rfl) g131) g132 rfl (by simp) ⟨rfl, Below.refl _ _⟩

theorem nu18_s72 {Q : Exit → Act → World → Prop} {w0 : World} {xs : Nat → Value} (ka na : Int) (sa : ByteArray) (p1 p3 : Nat) (RA : Hid (Rt ka na sa)) (p8 p10 : Nat) (hb1 : BoxOn w0 p1 ka na sa) (hb3 : BoxOn w0 p3 0 0 ⟨#[]⟩) (hb8 : BoxOn w0 p8 0 0 ⟨#[]⟩) (hb10 : BoxOn w0 p10 0 0 ⟨#[]⟩) (aw : AwIs w0) (hx1 : xs 1 = .pointer (some ⟨p1, 0, none⟩)) (hx3 : xs 3 = .pointer (some ⟨p3, 0, none⟩)) (hx8 : xs 8 = .pointer (some ⟨p8, 0, none⟩)) (hx10 : xs 10 = .pointer (some ⟨p10, 0, none⟩)) (hx9 : xs 9 = .int .i64 0) (hx11 : xs 11 = .int .i64 0) : OpStep Tryz.prog nu18Ops Q (nu18F ka na sa p1 p3 RA p8 p10) w0 144 xs 72 := by
  intro act w hb hk hF
  have g131 : act.eval (.tmp 131) = .bool true := hF 69 (of_decide_eq_true (by kernel_rfl)) 131 (by kernel_rfl)
  have g133 : act.eval (.tmp 133) = .bool true := hF 71 (of_decide_eq_true (by kernel_rfl)) 133 (by kernel_rfl)
  exact step_pickT (show opO nu18Ops 72 = some (.pick (.tmp 131) (.tmp 133) (.const (.bool false))) by kernel_rfl) (.free (by kernel_rfl)) g131 g133 ⟨rfl, Below.refl _ _⟩

theorem nu18_s73 {Q : Exit → Act → World → Prop} {w0 : World} {xs : Nat → Value} (ka na : Int) (sa : ByteArray) (p1 p3 : Nat) (RA : Hid (Rt ka na sa)) (p8 p10 : Nat) (hb1 : BoxOn w0 p1 ka na sa) (hb3 : BoxOn w0 p3 0 0 ⟨#[]⟩) (hb8 : BoxOn w0 p8 0 0 ⟨#[]⟩) (hb10 : BoxOn w0 p10 0 0 ⟨#[]⟩) (aw : AwIs w0) (hx1 : xs 1 = .pointer (some ⟨p1, 0, none⟩)) (hx3 : xs 3 = .pointer (some ⟨p3, 0, none⟩)) (hx8 : xs 8 = .pointer (some ⟨p8, 0, none⟩)) (hx10 : xs 10 = .pointer (some ⟨p10, 0, none⟩)) (hx9 : xs 9 = .int .i64 0) (hx11 : xs 11 = .int .i64 0) : OpStep Tryz.prog nu18Ops Q (nu18F ka na sa p1 p3 RA p8 p10) w0 144 xs 73 := by
  intro act w hb hk hF
  have g134 : act.eval (.tmp 134) = .bool true := hF 72 (of_decide_eq_true (by kernel_rfl)) 134 (by kernel_rfl)
  exact step_move (show opO nu18Ops 73 = some (.move (.tmp 134)) by kernel_rfl) (.free (by kernel_rfl)) g134 ⟨rfl, Below.refl _ _⟩

theorem nu18_s74 {Q : Exit → Act → World → Prop} {w0 : World} {xs : Nat → Value} (ka na : Int) (sa : ByteArray) (p1 p3 : Nat) (RA : Hid (Rt ka na sa)) (p8 p10 : Nat) (hb1 : BoxOn w0 p1 ka na sa) (hb3 : BoxOn w0 p3 0 0 ⟨#[]⟩) (hb8 : BoxOn w0 p8 0 0 ⟨#[]⟩) (hb10 : BoxOn w0 p10 0 0 ⟨#[]⟩) (aw : AwIs w0) (hx1 : xs 1 = .pointer (some ⟨p1, 0, none⟩)) (hx3 : xs 3 = .pointer (some ⟨p3, 0, none⟩)) (hx8 : xs 8 = .pointer (some ⟨p8, 0, none⟩)) (hx10 : xs 10 = .pointer (some ⟨p10, 0, none⟩)) (hx9 : xs 9 = .int .i64 0) (hx11 : xs 11 = .int .i64 0) : OpStep Tryz.prog nu18Ops Q (nu18F ka na sa p1 p3 RA p8 p10) w0 144 xs 74 := by
  intro act w hb hk hF
  have g135 : act.eval (.tmp 135) = .bool true := hF 73 (of_decide_eq_true (by kernel_rfl)) 135 (by kernel_rfl)
  have g3 : act.eval (.tmp 3) = .pointer (some ⟨p3, 0, none⟩) := (hk 3 (by decide) (by kernel_rfl)).trans hx3
  exact step_loadB (show opO nu18Ops 74 = some (.load 24 (.tmp 3)) by kernel_rfl) (.told 73 true 135 (by kernel_rfl) (by kernel_rfl) g135) g3 (hb3 w hb) ⟨rfl, Below.refl _ _⟩

theorem nu18_s75 {Q : Exit → Act → World → Prop} {w0 : World} {xs : Nat → Value} (ka na : Int) (sa : ByteArray) (p1 p3 : Nat) (RA : Hid (Rt ka na sa)) (p8 p10 : Nat) (hb1 : BoxOn w0 p1 ka na sa) (hb3 : BoxOn w0 p3 0 0 ⟨#[]⟩) (hb8 : BoxOn w0 p8 0 0 ⟨#[]⟩) (hb10 : BoxOn w0 p10 0 0 ⟨#[]⟩) (aw : AwIs w0) (hx1 : xs 1 = .pointer (some ⟨p1, 0, none⟩)) (hx3 : xs 3 = .pointer (some ⟨p3, 0, none⟩)) (hx8 : xs 8 = .pointer (some ⟨p8, 0, none⟩)) (hx10 : xs 10 = .pointer (some ⟨p10, 0, none⟩)) (hx9 : xs 9 = .int .i64 0) (hx11 : xs 11 = .int .i64 0) : OpStep Tryz.prog nu18Ops Q (nu18F ka na sa p1 p3 RA p8 p10) w0 144 xs 75 := by
  intro act w hb hk hF
  have g135 : act.eval (.tmp 135) = .bool true := hF 73 (of_decide_eq_true (by kernel_rfl)) 135 (by kernel_rfl)
  have g136 : act.eval (.tmp 136) = vv 0 0 ⟨#[]⟩ := hF 74 (of_decide_eq_true (by kernel_rfl)) 136 (by kernel_rfl)
  exact step_build1 (show opO nu18Ops 75 = some (.buildSlice 27 1 #[(0, .tmp 136)]) by kernel_rfl) (.told 73 true 135 (by kernel_rfl) (by kernel_rfl) g135) g136 fun b hR hb' => ⟨⟨b, rfl, hR⟩, hb'⟩

theorem nu18_s76 {Q : Exit → Act → World → Prop} {w0 : World} {xs : Nat → Value} (ka na : Int) (sa : ByteArray) (p1 p3 : Nat) (RA : Hid (Rt ka na sa)) (p8 p10 : Nat) (hb1 : BoxOn w0 p1 ka na sa) (hb3 : BoxOn w0 p3 0 0 ⟨#[]⟩) (hb8 : BoxOn w0 p8 0 0 ⟨#[]⟩) (hb10 : BoxOn w0 p10 0 0 ⟨#[]⟩) (aw : AwIs w0) (hx1 : xs 1 = .pointer (some ⟨p1, 0, none⟩)) (hx3 : xs 3 = .pointer (some ⟨p3, 0, none⟩)) (hx8 : xs 8 = .pointer (some ⟨p8, 0, none⟩)) (hx10 : xs 10 = .pointer (some ⟨p10, 0, none⟩)) (hx9 : xs 9 = .int .i64 0) (hx11 : xs 11 = .int .i64 0) : OpStep Tryz.prog nu18Ops Q (nu18F ka na sa p1 p3 RA p8 p10) w0 144 xs 76 := by
  intro act w hb hk hF
  have g135 : act.eval (.tmp 135) = .bool true := hF 73 (of_decide_eq_true (by kernel_rfl)) 135 (by kernel_rfl)
  exact step_make1 (show opO nu18Ops 76 = some (.makeSlice 27 (.const (.int .i64 1)) (.const (.int .i64 1))) by kernel_rfl) (.told 73 true 135 (by kernel_rfl) (by kernel_rfl) g135) fun b hR hb' => ⟨⟨b, rfl, hR⟩, hb'⟩

theorem nu18_s77 {Q : Exit → Act → World → Prop} {w0 : World} {xs : Nat → Value} (ka na : Int) (sa : ByteArray) (p1 p3 : Nat) (RA : Hid (Rt ka na sa)) (p8 p10 : Nat) (hb1 : BoxOn w0 p1 ka na sa) (hb3 : BoxOn w0 p3 0 0 ⟨#[]⟩) (hb8 : BoxOn w0 p8 0 0 ⟨#[]⟩) (hb10 : BoxOn w0 p10 0 0 ⟨#[]⟩) (aw : AwIs w0) (hx1 : xs 1 = .pointer (some ⟨p1, 0, none⟩)) (hx3 : xs 3 = .pointer (some ⟨p3, 0, none⟩)) (hx8 : xs 8 = .pointer (some ⟨p8, 0, none⟩)) (hx10 : xs 10 = .pointer (some ⟨p10, 0, none⟩)) (hx9 : xs 9 = .int .i64 0) (hx11 : xs 11 = .int .i64 0) : OpStep Tryz.prog nu18Ops Q (nu18F ka na sa p1 p3 RA p8 p10) w0 144 xs 77 := by
  intro act w hb hk hF
  have g135 : act.eval (.tmp 135) = .bool true := hF 73 (of_decide_eq_true (by kernel_rfl)) 135 (by kernel_rfl)
  obtain ⟨b137, g137, hR137⟩ := (show IsL [(0, 0, ⟨#[]⟩)] _ w from hF 75 (of_decide_eq_true (by kernel_rfl)) 137 (by kernel_rfl))
  obtain ⟨b138, g138, hR138⟩ := (show IsL [(0, 0, ⟨#[]⟩)] _ w from hF 76 (of_decide_eq_true (by kernel_rfl)) 138 (by kernel_rfl))
  exact step_call (f := 41) (xs := #[.tmp 137, .tmp 138]) (by kernel_rfl) (.told 73 true 135 (by kernel_rfl) (by kernel_rfl) g135) (map2 g137 g138) (enters_of Tryz.func41 (by kernel_rfl) rfl) ((same_nul b137 b138 w hR137 hR138).mono fun e w' h => ⟨_, h.1, rfl, h.2⟩)

theorem nu18_s78 {Q : Exit → Act → World → Prop} {w0 : World} {xs : Nat → Value} (ka na : Int) (sa : ByteArray) (p1 p3 : Nat) (RA : Hid (Rt ka na sa)) (p8 p10 : Nat) (hb1 : BoxOn w0 p1 ka na sa) (hb3 : BoxOn w0 p3 0 0 ⟨#[]⟩) (hb8 : BoxOn w0 p8 0 0 ⟨#[]⟩) (hb10 : BoxOn w0 p10 0 0 ⟨#[]⟩) (aw : AwIs w0) (hx1 : xs 1 = .pointer (some ⟨p1, 0, none⟩)) (hx3 : xs 3 = .pointer (some ⟨p3, 0, none⟩)) (hx8 : xs 8 = .pointer (some ⟨p8, 0, none⟩)) (hx10 : xs 10 = .pointer (some ⟨p10, 0, none⟩)) (hx9 : xs 9 = .int .i64 0) (hx11 : xs 11 = .int .i64 0) : OpStep Tryz.prog nu18Ops Q (nu18F ka na sa p1 p3 RA p8 p10) w0 144 xs 78 := by
  intro act w hb hk hF
  have g135 : act.eval (.tmp 135) = .bool true := hF 73 (of_decide_eq_true (by kernel_rfl)) 135 (by kernel_rfl)
  have g139 : act.eval (.tmp 139) = .bool true := hF 77 (of_decide_eq_true (by kernel_rfl)) 139 (by kernel_rfl)
  exact step_pickT (show opO nu18Ops 78 = some (.pick (.tmp 135) (.tmp 139) (.const (.bool false))) by kernel_rfl) (.free (by kernel_rfl)) g135 g139 ⟨rfl, Below.refl _ _⟩

theorem nu18_s79 {Q : Exit → Act → World → Prop} {w0 : World} {xs : Nat → Value} (ka na : Int) (sa : ByteArray) (p1 p3 : Nat) (RA : Hid (Rt ka na sa)) (p8 p10 : Nat) (hb1 : BoxOn w0 p1 ka na sa) (hb3 : BoxOn w0 p3 0 0 ⟨#[]⟩) (hb8 : BoxOn w0 p8 0 0 ⟨#[]⟩) (hb10 : BoxOn w0 p10 0 0 ⟨#[]⟩) (aw : AwIs w0) (hx1 : xs 1 = .pointer (some ⟨p1, 0, none⟩)) (hx3 : xs 3 = .pointer (some ⟨p3, 0, none⟩)) (hx8 : xs 8 = .pointer (some ⟨p8, 0, none⟩)) (hx10 : xs 10 = .pointer (some ⟨p10, 0, none⟩)) (hx9 : xs 9 = .int .i64 0) (hx11 : xs 11 = .int .i64 0) : OpStep Tryz.prog nu18Ops Q (nu18F ka na sa p1 p3 RA p8 p10) w0 144 xs 79 := by
  intro act w hb hk hF
  have g140 : act.eval (.tmp 140) = .bool true := hF 78 (of_decide_eq_true (by kernel_rfl)) 140 (by kernel_rfl)
  exact step_move (show opO nu18Ops 79 = some (.move (.tmp 140)) by kernel_rfl) (.free (by kernel_rfl)) g140 ⟨rfl, Below.refl _ _⟩

theorem nu18_s80 {Q : Exit → Act → World → Prop} {w0 : World} {xs : Nat → Value} (ka na : Int) (sa : ByteArray) (p1 p3 : Nat) (RA : Hid (Rt ka na sa)) (p8 p10 : Nat) (hb1 : BoxOn w0 p1 ka na sa) (hb3 : BoxOn w0 p3 0 0 ⟨#[]⟩) (hb8 : BoxOn w0 p8 0 0 ⟨#[]⟩) (hb10 : BoxOn w0 p10 0 0 ⟨#[]⟩) (aw : AwIs w0) (hx1 : xs 1 = .pointer (some ⟨p1, 0, none⟩)) (hx3 : xs 3 = .pointer (some ⟨p3, 0, none⟩)) (hx8 : xs 8 = .pointer (some ⟨p8, 0, none⟩)) (hx10 : xs 10 = .pointer (some ⟨p10, 0, none⟩)) (hx9 : xs 9 = .int .i64 0) (hx11 : xs 11 = .int .i64 0) : OpStep Tryz.prog nu18Ops Q (nu18F ka na sa p1 p3 RA p8 p10) w0 144 xs 80 := by
  intro act w hb hk hF
  have g141 : act.eval (.tmp 141) = .bool true := hF 79 (of_decide_eq_true (by kernel_rfl)) 141 (by kernel_rfl)
  exact step_call (f := 26) (xs := #[]) (by kernel_rfl) (.told 79 true 141 (by kernel_rfl) (by kernel_rfl) g141) (map0 _) (enters_of Tryz.func26 (by kernel_rfl) rfl) ((aw w hb).mono fun e w' h => ⟨_, h.1, rfl, h.2⟩)

theorem nu18_s81 {Q : Exit → Act → World → Prop} {w0 : World} {xs : Nat → Value} (ka na : Int) (sa : ByteArray) (p1 p3 : Nat) (RA : Hid (Rt ka na sa)) (p8 p10 : Nat) (hb1 : BoxOn w0 p1 ka na sa) (hb3 : BoxOn w0 p3 0 0 ⟨#[]⟩) (hb8 : BoxOn w0 p8 0 0 ⟨#[]⟩) (hb10 : BoxOn w0 p10 0 0 ⟨#[]⟩) (aw : AwIs w0) (hx1 : xs 1 = .pointer (some ⟨p1, 0, none⟩)) (hx3 : xs 3 = .pointer (some ⟨p3, 0, none⟩)) (hx8 : xs 8 = .pointer (some ⟨p8, 0, none⟩)) (hx10 : xs 10 = .pointer (some ⟨p10, 0, none⟩)) (hx9 : xs 9 = .int .i64 0) (hx11 : xs 11 = .int .i64 0) : OpStep Tryz.prog nu18Ops Q (nu18F ka na sa p1 p3 RA p8 p10) w0 144 xs 81 := by
  intro act w hb hk hF
  have g141 : act.eval (.tmp 141) = .bool true := hF 79 (of_decide_eq_true (by kernel_rfl)) 141 (by kernel_rfl)
  have g142 : act.eval (.tmp 142) = .bool true := hF 80 (of_decide_eq_true (by kernel_rfl)) 142 (by kernel_rfl)
  exact step_pickT (show opO nu18Ops 81 = some (.pick (.tmp 141) (.tmp 142) (.const (.bool false))) by kernel_rfl) (.free (by kernel_rfl)) g141 g142 ⟨rfl, Below.refl _ _⟩

theorem nu18_s82 {Q : Exit → Act → World → Prop} {w0 : World} {xs : Nat → Value} (ka na : Int) (sa : ByteArray) (p1 p3 : Nat) (RA : Hid (Rt ka na sa)) (p8 p10 : Nat) (hb1 : BoxOn w0 p1 ka na sa) (hb3 : BoxOn w0 p3 0 0 ⟨#[]⟩) (hb8 : BoxOn w0 p8 0 0 ⟨#[]⟩) (hb10 : BoxOn w0 p10 0 0 ⟨#[]⟩) (aw : AwIs w0) (hx1 : xs 1 = .pointer (some ⟨p1, 0, none⟩)) (hx3 : xs 3 = .pointer (some ⟨p3, 0, none⟩)) (hx8 : xs 8 = .pointer (some ⟨p8, 0, none⟩)) (hx10 : xs 10 = .pointer (some ⟨p10, 0, none⟩)) (hx9 : xs 9 = .int .i64 0) (hx11 : xs 11 = .int .i64 0) : OpStep Tryz.prog nu18Ops Q (nu18F ka na sa p1 p3 RA p8 p10) w0 144 xs 82 := by
  intro act w hb hk hF
  have g143 : act.eval (.tmp 143) = .bool true := hF 81 (of_decide_eq_true (by kernel_rfl)) 143 (by kernel_rfl)
  exact step_assign (show opO nu18Ops 82 = some (.assign (.tmp 143)) by kernel_rfl) (.free (by kernel_rfl)) g143 ⟨rfl, Below.refl _ _⟩

theorem nu18 {bb : Bool} {Q : Exit → Act → World → Prop} {a0 : Act} {w0 : World} (ka na : Int) (sa : ByteArray) (p1 p3 : Nat) (RA : Hid (Rt ka na sa)) (p8 p10 : Nat) (hb1 : BoxOn w0 p1 ka na sa) (hb3 : BoxOn w0 p3 0 0 ⟨#[]⟩) (hb8 : BoxOn w0 p8 0 0 ⟨#[]⟩) (hb10 : BoxOn w0 p10 0 0 ⟨#[]⟩) (aw : AwIs w0) (hx1 : a0.tmps.getD 1 undef = .pointer (some ⟨p1, 0, none⟩)) (hx3 : a0.tmps.getD 3 undef = .pointer (some ⟨p3, 0, none⟩)) (hx8 : a0.tmps.getD 8 undef = .pointer (some ⟨p8, 0, none⟩)) (hx10 : a0.tmps.getD 10 undef = .pointer (some ⟨p10, 0, none⟩)) (hx9 : a0.tmps.getD 9 undef = .int .i64 0) (hx11 : a0.tmps.getD 11 undef = .int .i64 0) (hs : a0.tmps.size = 144)
    (hend : ∀ (V : Nat → Value) (X : World), Below w0.heap.size w0 X → V 82 = .bool true → Q .normal ⟨fillT nu18Ops a0.tmps V, a0.defers⟩ X) : (Code.region 18 nu18Ops bb).wp Tryz.prog Q a0 w0 := by
  refine wp_region_both (by kernel_rfl) (nu18F ka na sa p1 p3 RA p8 p10) (nu18F_mono ka na sa p1 p3 RA p8 p10) (by rw [hs]; kernel_rfl) ?_ ?_
  · rw [hs]
    have size_is : nu18Ops.size = 83 := by kernel_rfl
    rw [size_is]
    have u1 : ∀ i, i < 1 → OpStep Tryz.prog nu18Ops Q (nu18F ka na sa p1 p3 RA p8 p10) w0 144 (fun t => a0.tmps.getD t undef) i := upto_succ upto_zero (nu18_s0 ka na sa p1 p3 RA p8 p10 hb1 hb3 hb8 hb10 aw hx1 hx3 hx8 hx10 hx9 hx11)
    have u2 : ∀ i, i < 2 → OpStep Tryz.prog nu18Ops Q (nu18F ka na sa p1 p3 RA p8 p10) w0 144 (fun t => a0.tmps.getD t undef) i := upto_succ u1 (nu18_s1 ka na sa p1 p3 RA p8 p10 hb1 hb3 hb8 hb10 aw hx1 hx3 hx8 hx10 hx9 hx11)
    have u3 : ∀ i, i < 3 → OpStep Tryz.prog nu18Ops Q (nu18F ka na sa p1 p3 RA p8 p10) w0 144 (fun t => a0.tmps.getD t undef) i := upto_succ u2 (nu18_s2 ka na sa p1 p3 RA p8 p10 hb1 hb3 hb8 hb10 aw hx1 hx3 hx8 hx10 hx9 hx11)
    have u4 : ∀ i, i < 4 → OpStep Tryz.prog nu18Ops Q (nu18F ka na sa p1 p3 RA p8 p10) w0 144 (fun t => a0.tmps.getD t undef) i := upto_succ u3 (nu18_s3 ka na sa p1 p3 RA p8 p10 hb1 hb3 hb8 hb10 aw hx1 hx3 hx8 hx10 hx9 hx11)
    have u5 : ∀ i, i < 5 → OpStep Tryz.prog nu18Ops Q (nu18F ka na sa p1 p3 RA p8 p10) w0 144 (fun t => a0.tmps.getD t undef) i := upto_succ u4 (nu18_s4 ka na sa p1 p3 RA p8 p10 hb1 hb3 hb8 hb10 aw hx1 hx3 hx8 hx10 hx9 hx11)
    have u6 : ∀ i, i < 6 → OpStep Tryz.prog nu18Ops Q (nu18F ka na sa p1 p3 RA p8 p10) w0 144 (fun t => a0.tmps.getD t undef) i := upto_succ u5 (nu18_s5 ka na sa p1 p3 RA p8 p10 hb1 hb3 hb8 hb10 aw hx1 hx3 hx8 hx10 hx9 hx11)
    have u7 : ∀ i, i < 7 → OpStep Tryz.prog nu18Ops Q (nu18F ka na sa p1 p3 RA p8 p10) w0 144 (fun t => a0.tmps.getD t undef) i := upto_succ u6 (nu18_s6 ka na sa p1 p3 RA p8 p10 hb1 hb3 hb8 hb10 aw hx1 hx3 hx8 hx10 hx9 hx11)
    have u8 : ∀ i, i < 8 → OpStep Tryz.prog nu18Ops Q (nu18F ka na sa p1 p3 RA p8 p10) w0 144 (fun t => a0.tmps.getD t undef) i := upto_succ u7 (nu18_s7 ka na sa p1 p3 RA p8 p10 hb1 hb3 hb8 hb10 aw hx1 hx3 hx8 hx10 hx9 hx11)
    have u9 : ∀ i, i < 9 → OpStep Tryz.prog nu18Ops Q (nu18F ka na sa p1 p3 RA p8 p10) w0 144 (fun t => a0.tmps.getD t undef) i := upto_succ u8 (nu18_s8 ka na sa p1 p3 RA p8 p10 hb1 hb3 hb8 hb10 aw hx1 hx3 hx8 hx10 hx9 hx11)
    have u10 : ∀ i, i < 10 → OpStep Tryz.prog nu18Ops Q (nu18F ka na sa p1 p3 RA p8 p10) w0 144 (fun t => a0.tmps.getD t undef) i := upto_succ u9 (nu18_s9 ka na sa p1 p3 RA p8 p10 hb1 hb3 hb8 hb10 aw hx1 hx3 hx8 hx10 hx9 hx11)
    have u11 : ∀ i, i < 11 → OpStep Tryz.prog nu18Ops Q (nu18F ka na sa p1 p3 RA p8 p10) w0 144 (fun t => a0.tmps.getD t undef) i := upto_succ u10 (nu18_s10 ka na sa p1 p3 RA p8 p10 hb1 hb3 hb8 hb10 aw hx1 hx3 hx8 hx10 hx9 hx11)
    have u12 : ∀ i, i < 12 → OpStep Tryz.prog nu18Ops Q (nu18F ka na sa p1 p3 RA p8 p10) w0 144 (fun t => a0.tmps.getD t undef) i := upto_succ u11 (nu18_s11 ka na sa p1 p3 RA p8 p10 hb1 hb3 hb8 hb10 aw hx1 hx3 hx8 hx10 hx9 hx11)
    have u13 : ∀ i, i < 13 → OpStep Tryz.prog nu18Ops Q (nu18F ka na sa p1 p3 RA p8 p10) w0 144 (fun t => a0.tmps.getD t undef) i := upto_succ u12 (nu18_s12 ka na sa p1 p3 RA p8 p10 hb1 hb3 hb8 hb10 aw hx1 hx3 hx8 hx10 hx9 hx11)
    have u14 : ∀ i, i < 14 → OpStep Tryz.prog nu18Ops Q (nu18F ka na sa p1 p3 RA p8 p10) w0 144 (fun t => a0.tmps.getD t undef) i := upto_succ u13 (nu18_s13 ka na sa p1 p3 RA p8 p10 hb1 hb3 hb8 hb10 aw hx1 hx3 hx8 hx10 hx9 hx11)
    have u15 : ∀ i, i < 15 → OpStep Tryz.prog nu18Ops Q (nu18F ka na sa p1 p3 RA p8 p10) w0 144 (fun t => a0.tmps.getD t undef) i := upto_succ u14 (nu18_s14 ka na sa p1 p3 RA p8 p10 hb1 hb3 hb8 hb10 aw hx1 hx3 hx8 hx10 hx9 hx11)
    have u16 : ∀ i, i < 16 → OpStep Tryz.prog nu18Ops Q (nu18F ka na sa p1 p3 RA p8 p10) w0 144 (fun t => a0.tmps.getD t undef) i := upto_succ u15 (nu18_s15 ka na sa p1 p3 RA p8 p10 hb1 hb3 hb8 hb10 aw hx1 hx3 hx8 hx10 hx9 hx11)
    have u17 : ∀ i, i < 17 → OpStep Tryz.prog nu18Ops Q (nu18F ka na sa p1 p3 RA p8 p10) w0 144 (fun t => a0.tmps.getD t undef) i := upto_succ u16 (nu18_s16 ka na sa p1 p3 RA p8 p10 hb1 hb3 hb8 hb10 aw hx1 hx3 hx8 hx10 hx9 hx11)
    have u18 : ∀ i, i < 18 → OpStep Tryz.prog nu18Ops Q (nu18F ka na sa p1 p3 RA p8 p10) w0 144 (fun t => a0.tmps.getD t undef) i := upto_succ u17 (nu18_s17 ka na sa p1 p3 RA p8 p10 hb1 hb3 hb8 hb10 aw hx1 hx3 hx8 hx10 hx9 hx11)
    have u19 : ∀ i, i < 19 → OpStep Tryz.prog nu18Ops Q (nu18F ka na sa p1 p3 RA p8 p10) w0 144 (fun t => a0.tmps.getD t undef) i := upto_succ u18 (nu18_s18 ka na sa p1 p3 RA p8 p10 hb1 hb3 hb8 hb10 aw hx1 hx3 hx8 hx10 hx9 hx11)
    have u20 : ∀ i, i < 20 → OpStep Tryz.prog nu18Ops Q (nu18F ka na sa p1 p3 RA p8 p10) w0 144 (fun t => a0.tmps.getD t undef) i := upto_succ u19 (nu18_s19 ka na sa p1 p3 RA p8 p10 hb1 hb3 hb8 hb10 aw hx1 hx3 hx8 hx10 hx9 hx11)
    have u21 : ∀ i, i < 21 → OpStep Tryz.prog nu18Ops Q (nu18F ka na sa p1 p3 RA p8 p10) w0 144 (fun t => a0.tmps.getD t undef) i := upto_succ u20 (nu18_s20 ka na sa p1 p3 RA p8 p10 hb1 hb3 hb8 hb10 aw hx1 hx3 hx8 hx10 hx9 hx11)
    have u22 : ∀ i, i < 22 → OpStep Tryz.prog nu18Ops Q (nu18F ka na sa p1 p3 RA p8 p10) w0 144 (fun t => a0.tmps.getD t undef) i := upto_succ u21 (nu18_s21 ka na sa p1 p3 RA p8 p10 hb1 hb3 hb8 hb10 aw hx1 hx3 hx8 hx10 hx9 hx11)
    have u23 : ∀ i, i < 23 → OpStep Tryz.prog nu18Ops Q (nu18F ka na sa p1 p3 RA p8 p10) w0 144 (fun t => a0.tmps.getD t undef) i := upto_succ u22 (nu18_s22 ka na sa p1 p3 RA p8 p10 hb1 hb3 hb8 hb10 aw hx1 hx3 hx8 hx10 hx9 hx11)
    have u24 : ∀ i, i < 24 → OpStep Tryz.prog nu18Ops Q (nu18F ka na sa p1 p3 RA p8 p10) w0 144 (fun t => a0.tmps.getD t undef) i := upto_succ u23 (nu18_s23 ka na sa p1 p3 RA p8 p10 hb1 hb3 hb8 hb10 aw hx1 hx3 hx8 hx10 hx9 hx11)
    have u25 : ∀ i, i < 25 → OpStep Tryz.prog nu18Ops Q (nu18F ka na sa p1 p3 RA p8 p10) w0 144 (fun t => a0.tmps.getD t undef) i := upto_succ u24 (nu18_s24 ka na sa p1 p3 RA p8 p10 hb1 hb3 hb8 hb10 aw hx1 hx3 hx8 hx10 hx9 hx11)
    have u26 : ∀ i, i < 26 → OpStep Tryz.prog nu18Ops Q (nu18F ka na sa p1 p3 RA p8 p10) w0 144 (fun t => a0.tmps.getD t undef) i := upto_succ u25 (nu18_s25 ka na sa p1 p3 RA p8 p10 hb1 hb3 hb8 hb10 aw hx1 hx3 hx8 hx10 hx9 hx11)
    have u27 : ∀ i, i < 27 → OpStep Tryz.prog nu18Ops Q (nu18F ka na sa p1 p3 RA p8 p10) w0 144 (fun t => a0.tmps.getD t undef) i := upto_succ u26 (nu18_s26 ka na sa p1 p3 RA p8 p10 hb1 hb3 hb8 hb10 aw hx1 hx3 hx8 hx10 hx9 hx11)
    have u28 : ∀ i, i < 28 → OpStep Tryz.prog nu18Ops Q (nu18F ka na sa p1 p3 RA p8 p10) w0 144 (fun t => a0.tmps.getD t undef) i := upto_succ u27 (nu18_s27 ka na sa p1 p3 RA p8 p10 hb1 hb3 hb8 hb10 aw hx1 hx3 hx8 hx10 hx9 hx11)
    have u29 : ∀ i, i < 29 → OpStep Tryz.prog nu18Ops Q (nu18F ka na sa p1 p3 RA p8 p10) w0 144 (fun t => a0.tmps.getD t undef) i := upto_succ u28 (nu18_s28 ka na sa p1 p3 RA p8 p10 hb1 hb3 hb8 hb10 aw hx1 hx3 hx8 hx10 hx9 hx11)
    have u30 : ∀ i, i < 30 → OpStep Tryz.prog nu18Ops Q (nu18F ka na sa p1 p3 RA p8 p10) w0 144 (fun t => a0.tmps.getD t undef) i := upto_succ u29 (nu18_s29 ka na sa p1 p3 RA p8 p10 hb1 hb3 hb8 hb10 aw hx1 hx3 hx8 hx10 hx9 hx11)
    have u31 : ∀ i, i < 31 → OpStep Tryz.prog nu18Ops Q (nu18F ka na sa p1 p3 RA p8 p10) w0 144 (fun t => a0.tmps.getD t undef) i := upto_succ u30 (nu18_s30 ka na sa p1 p3 RA p8 p10 hb1 hb3 hb8 hb10 aw hx1 hx3 hx8 hx10 hx9 hx11)
    have u32 : ∀ i, i < 32 → OpStep Tryz.prog nu18Ops Q (nu18F ka na sa p1 p3 RA p8 p10) w0 144 (fun t => a0.tmps.getD t undef) i := upto_succ u31 (nu18_s31 ka na sa p1 p3 RA p8 p10 hb1 hb3 hb8 hb10 aw hx1 hx3 hx8 hx10 hx9 hx11)
    have u33 : ∀ i, i < 33 → OpStep Tryz.prog nu18Ops Q (nu18F ka na sa p1 p3 RA p8 p10) w0 144 (fun t => a0.tmps.getD t undef) i := upto_succ u32 (nu18_s32 ka na sa p1 p3 RA p8 p10 hb1 hb3 hb8 hb10 aw hx1 hx3 hx8 hx10 hx9 hx11)
    have u34 : ∀ i, i < 34 → OpStep Tryz.prog nu18Ops Q (nu18F ka na sa p1 p3 RA p8 p10) w0 144 (fun t => a0.tmps.getD t undef) i := upto_succ u33 (nu18_s33 ka na sa p1 p3 RA p8 p10 hb1 hb3 hb8 hb10 aw hx1 hx3 hx8 hx10 hx9 hx11)
    have u35 : ∀ i, i < 35 → OpStep Tryz.prog nu18Ops Q (nu18F ka na sa p1 p3 RA p8 p10) w0 144 (fun t => a0.tmps.getD t undef) i := upto_succ u34 (nu18_s34 ka na sa p1 p3 RA p8 p10 hb1 hb3 hb8 hb10 aw hx1 hx3 hx8 hx10 hx9 hx11)
    have u36 : ∀ i, i < 36 → OpStep Tryz.prog nu18Ops Q (nu18F ka na sa p1 p3 RA p8 p10) w0 144 (fun t => a0.tmps.getD t undef) i := upto_succ u35 (nu18_s35 ka na sa p1 p3 RA p8 p10 hb1 hb3 hb8 hb10 aw hx1 hx3 hx8 hx10 hx9 hx11)
    have u37 : ∀ i, i < 37 → OpStep Tryz.prog nu18Ops Q (nu18F ka na sa p1 p3 RA p8 p10) w0 144 (fun t => a0.tmps.getD t undef) i := upto_succ u36 (nu18_s36 ka na sa p1 p3 RA p8 p10 hb1 hb3 hb8 hb10 aw hx1 hx3 hx8 hx10 hx9 hx11)
    have u38 : ∀ i, i < 38 → OpStep Tryz.prog nu18Ops Q (nu18F ka na sa p1 p3 RA p8 p10) w0 144 (fun t => a0.tmps.getD t undef) i := upto_succ u37 (nu18_s37 ka na sa p1 p3 RA p8 p10 hb1 hb3 hb8 hb10 aw hx1 hx3 hx8 hx10 hx9 hx11)
    have u39 : ∀ i, i < 39 → OpStep Tryz.prog nu18Ops Q (nu18F ka na sa p1 p3 RA p8 p10) w0 144 (fun t => a0.tmps.getD t undef) i := upto_succ u38 (nu18_s38 ka na sa p1 p3 RA p8 p10 hb1 hb3 hb8 hb10 aw hx1 hx3 hx8 hx10 hx9 hx11)
    have u40 : ∀ i, i < 40 → OpStep Tryz.prog nu18Ops Q (nu18F ka na sa p1 p3 RA p8 p10) w0 144 (fun t => a0.tmps.getD t undef) i := upto_succ u39 (nu18_s39 ka na sa p1 p3 RA p8 p10 hb1 hb3 hb8 hb10 aw hx1 hx3 hx8 hx10 hx9 hx11)
    have u41 : ∀ i, i < 41 → OpStep Tryz.prog nu18Ops Q (nu18F ka na sa p1 p3 RA p8 p10) w0 144 (fun t => a0.tmps.getD t undef) i := upto_succ u40 (nu18_s40 ka na sa p1 p3 RA p8 p10 hb1 hb3 hb8 hb10 aw hx1 hx3 hx8 hx10 hx9 hx11)
    have u42 : ∀ i, i < 42 → OpStep Tryz.prog nu18Ops Q (nu18F ka na sa p1 p3 RA p8 p10) w0 144 (fun t => a0.tmps.getD t undef) i := upto_succ u41 (nu18_s41 ka na sa p1 p3 RA p8 p10 hb1 hb3 hb8 hb10 aw hx1 hx3 hx8 hx10 hx9 hx11)
    have u43 : ∀ i, i < 43 → OpStep Tryz.prog nu18Ops Q (nu18F ka na sa p1 p3 RA p8 p10) w0 144 (fun t => a0.tmps.getD t undef) i := upto_succ u42 (nu18_s42 ka na sa p1 p3 RA p8 p10 hb1 hb3 hb8 hb10 aw hx1 hx3 hx8 hx10 hx9 hx11)
    have u44 : ∀ i, i < 44 → OpStep Tryz.prog nu18Ops Q (nu18F ka na sa p1 p3 RA p8 p10) w0 144 (fun t => a0.tmps.getD t undef) i := upto_succ u43 (nu18_s43 ka na sa p1 p3 RA p8 p10 hb1 hb3 hb8 hb10 aw hx1 hx3 hx8 hx10 hx9 hx11)
    have u45 : ∀ i, i < 45 → OpStep Tryz.prog nu18Ops Q (nu18F ka na sa p1 p3 RA p8 p10) w0 144 (fun t => a0.tmps.getD t undef) i := upto_succ u44 (nu18_s44 ka na sa p1 p3 RA p8 p10 hb1 hb3 hb8 hb10 aw hx1 hx3 hx8 hx10 hx9 hx11)
    have u46 : ∀ i, i < 46 → OpStep Tryz.prog nu18Ops Q (nu18F ka na sa p1 p3 RA p8 p10) w0 144 (fun t => a0.tmps.getD t undef) i := upto_succ u45 (nu18_s45 ka na sa p1 p3 RA p8 p10 hb1 hb3 hb8 hb10 aw hx1 hx3 hx8 hx10 hx9 hx11)
    have u47 : ∀ i, i < 47 → OpStep Tryz.prog nu18Ops Q (nu18F ka na sa p1 p3 RA p8 p10) w0 144 (fun t => a0.tmps.getD t undef) i := upto_succ u46 (nu18_s46 ka na sa p1 p3 RA p8 p10 hb1 hb3 hb8 hb10 aw hx1 hx3 hx8 hx10 hx9 hx11)
    have u48 : ∀ i, i < 48 → OpStep Tryz.prog nu18Ops Q (nu18F ka na sa p1 p3 RA p8 p10) w0 144 (fun t => a0.tmps.getD t undef) i := upto_succ u47 (nu18_s47 ka na sa p1 p3 RA p8 p10 hb1 hb3 hb8 hb10 aw hx1 hx3 hx8 hx10 hx9 hx11)
    have u49 : ∀ i, i < 49 → OpStep Tryz.prog nu18Ops Q (nu18F ka na sa p1 p3 RA p8 p10) w0 144 (fun t => a0.tmps.getD t undef) i := upto_succ u48 (nu18_s48 ka na sa p1 p3 RA p8 p10 hb1 hb3 hb8 hb10 aw hx1 hx3 hx8 hx10 hx9 hx11)
    have u50 : ∀ i, i < 50 → OpStep Tryz.prog nu18Ops Q (nu18F ka na sa p1 p3 RA p8 p10) w0 144 (fun t => a0.tmps.getD t undef) i := upto_succ u49 (nu18_s49 ka na sa p1 p3 RA p8 p10 hb1 hb3 hb8 hb10 aw hx1 hx3 hx8 hx10 hx9 hx11)
    have u51 : ∀ i, i < 51 → OpStep Tryz.prog nu18Ops Q (nu18F ka na sa p1 p3 RA p8 p10) w0 144 (fun t => a0.tmps.getD t undef) i := upto_succ u50 (nu18_s50 ka na sa p1 p3 RA p8 p10 hb1 hb3 hb8 hb10 aw hx1 hx3 hx8 hx10 hx9 hx11)
    have u52 : ∀ i, i < 52 → OpStep Tryz.prog nu18Ops Q (nu18F ka na sa p1 p3 RA p8 p10) w0 144 (fun t => a0.tmps.getD t undef) i := upto_succ u51 (nu18_s51 ka na sa p1 p3 RA p8 p10 hb1 hb3 hb8 hb10 aw hx1 hx3 hx8 hx10 hx9 hx11)
    have u53 : ∀ i, i < 53 → OpStep Tryz.prog nu18Ops Q (nu18F ka na sa p1 p3 RA p8 p10) w0 144 (fun t => a0.tmps.getD t undef) i := upto_succ u52 (nu18_s52 ka na sa p1 p3 RA p8 p10 hb1 hb3 hb8 hb10 aw hx1 hx3 hx8 hx10 hx9 hx11)
    have u54 : ∀ i, i < 54 → OpStep Tryz.prog nu18Ops Q (nu18F ka na sa p1 p3 RA p8 p10) w0 144 (fun t => a0.tmps.getD t undef) i := upto_succ u53 (nu18_s53 ka na sa p1 p3 RA p8 p10 hb1 hb3 hb8 hb10 aw hx1 hx3 hx8 hx10 hx9 hx11)
    have u55 : ∀ i, i < 55 → OpStep Tryz.prog nu18Ops Q (nu18F ka na sa p1 p3 RA p8 p10) w0 144 (fun t => a0.tmps.getD t undef) i := upto_succ u54 (nu18_s54 ka na sa p1 p3 RA p8 p10 hb1 hb3 hb8 hb10 aw hx1 hx3 hx8 hx10 hx9 hx11)
    have u56 : ∀ i, i < 56 → OpStep Tryz.prog nu18Ops Q (nu18F ka na sa p1 p3 RA p8 p10) w0 144 (fun t => a0.tmps.getD t undef) i := upto_succ u55 (nu18_s55 ka na sa p1 p3 RA p8 p10 hb1 hb3 hb8 hb10 aw hx1 hx3 hx8 hx10 hx9 hx11)
    have u57 : ∀ i, i < 57 → OpStep Tryz.prog nu18Ops Q (nu18F ka na sa p1 p3 RA p8 p10) w0 144 (fun t => a0.tmps.getD t undef) i := upto_succ u56 (nu18_s56 ka na sa p1 p3 RA p8 p10 hb1 hb3 hb8 hb10 aw hx1 hx3 hx8 hx10 hx9 hx11)
    have u58 : ∀ i, i < 58 → OpStep Tryz.prog nu18Ops Q (nu18F ka na sa p1 p3 RA p8 p10) w0 144 (fun t => a0.tmps.getD t undef) i := upto_succ u57 (nu18_s57 ka na sa p1 p3 RA p8 p10 hb1 hb3 hb8 hb10 aw hx1 hx3 hx8 hx10 hx9 hx11)
    have u59 : ∀ i, i < 59 → OpStep Tryz.prog nu18Ops Q (nu18F ka na sa p1 p3 RA p8 p10) w0 144 (fun t => a0.tmps.getD t undef) i := upto_succ u58 (nu18_s58 ka na sa p1 p3 RA p8 p10 hb1 hb3 hb8 hb10 aw hx1 hx3 hx8 hx10 hx9 hx11)
    have u60 : ∀ i, i < 60 → OpStep Tryz.prog nu18Ops Q (nu18F ka na sa p1 p3 RA p8 p10) w0 144 (fun t => a0.tmps.getD t undef) i := upto_succ u59 (nu18_s59 ka na sa p1 p3 RA p8 p10 hb1 hb3 hb8 hb10 aw hx1 hx3 hx8 hx10 hx9 hx11)
    have u61 : ∀ i, i < 61 → OpStep Tryz.prog nu18Ops Q (nu18F ka na sa p1 p3 RA p8 p10) w0 144 (fun t => a0.tmps.getD t undef) i := upto_succ u60 (nu18_s60 ka na sa p1 p3 RA p8 p10 hb1 hb3 hb8 hb10 aw hx1 hx3 hx8 hx10 hx9 hx11)
    have u62 : ∀ i, i < 62 → OpStep Tryz.prog nu18Ops Q (nu18F ka na sa p1 p3 RA p8 p10) w0 144 (fun t => a0.tmps.getD t undef) i := upto_succ u61 (nu18_s61 ka na sa p1 p3 RA p8 p10 hb1 hb3 hb8 hb10 aw hx1 hx3 hx8 hx10 hx9 hx11)
    have u63 : ∀ i, i < 63 → OpStep Tryz.prog nu18Ops Q (nu18F ka na sa p1 p3 RA p8 p10) w0 144 (fun t => a0.tmps.getD t undef) i := upto_succ u62 (nu18_s62 ka na sa p1 p3 RA p8 p10 hb1 hb3 hb8 hb10 aw hx1 hx3 hx8 hx10 hx9 hx11)
    have u64 : ∀ i, i < 64 → OpStep Tryz.prog nu18Ops Q (nu18F ka na sa p1 p3 RA p8 p10) w0 144 (fun t => a0.tmps.getD t undef) i := upto_succ u63 (nu18_s63 ka na sa p1 p3 RA p8 p10 hb1 hb3 hb8 hb10 aw hx1 hx3 hx8 hx10 hx9 hx11)
    have u65 : ∀ i, i < 65 → OpStep Tryz.prog nu18Ops Q (nu18F ka na sa p1 p3 RA p8 p10) w0 144 (fun t => a0.tmps.getD t undef) i := upto_succ u64 (nu18_s64 ka na sa p1 p3 RA p8 p10 hb1 hb3 hb8 hb10 aw hx1 hx3 hx8 hx10 hx9 hx11)
    have u66 : ∀ i, i < 66 → OpStep Tryz.prog nu18Ops Q (nu18F ka na sa p1 p3 RA p8 p10) w0 144 (fun t => a0.tmps.getD t undef) i := upto_succ u65 (nu18_s65 ka na sa p1 p3 RA p8 p10 hb1 hb3 hb8 hb10 aw hx1 hx3 hx8 hx10 hx9 hx11)
    have u67 : ∀ i, i < 67 → OpStep Tryz.prog nu18Ops Q (nu18F ka na sa p1 p3 RA p8 p10) w0 144 (fun t => a0.tmps.getD t undef) i := upto_succ u66 (nu18_s66 ka na sa p1 p3 RA p8 p10 hb1 hb3 hb8 hb10 aw hx1 hx3 hx8 hx10 hx9 hx11)
    have u68 : ∀ i, i < 68 → OpStep Tryz.prog nu18Ops Q (nu18F ka na sa p1 p3 RA p8 p10) w0 144 (fun t => a0.tmps.getD t undef) i := upto_succ u67 (nu18_s67 ka na sa p1 p3 RA p8 p10 hb1 hb3 hb8 hb10 aw hx1 hx3 hx8 hx10 hx9 hx11)
    have u69 : ∀ i, i < 69 → OpStep Tryz.prog nu18Ops Q (nu18F ka na sa p1 p3 RA p8 p10) w0 144 (fun t => a0.tmps.getD t undef) i := upto_succ u68 (nu18_s68 ka na sa p1 p3 RA p8 p10 hb1 hb3 hb8 hb10 aw hx1 hx3 hx8 hx10 hx9 hx11)
    have u70 : ∀ i, i < 70 → OpStep Tryz.prog nu18Ops Q (nu18F ka na sa p1 p3 RA p8 p10) w0 144 (fun t => a0.tmps.getD t undef) i := upto_succ u69 (nu18_s69 ka na sa p1 p3 RA p8 p10 hb1 hb3 hb8 hb10 aw hx1 hx3 hx8 hx10 hx9 hx11)
    have u71 : ∀ i, i < 71 → OpStep Tryz.prog nu18Ops Q (nu18F ka na sa p1 p3 RA p8 p10) w0 144 (fun t => a0.tmps.getD t undef) i := upto_succ u70 (nu18_s70 ka na sa p1 p3 RA p8 p10 hb1 hb3 hb8 hb10 aw hx1 hx3 hx8 hx10 hx9 hx11)
    have u72 : ∀ i, i < 72 → OpStep Tryz.prog nu18Ops Q (nu18F ka na sa p1 p3 RA p8 p10) w0 144 (fun t => a0.tmps.getD t undef) i := upto_succ u71 (nu18_s71 ka na sa p1 p3 RA p8 p10 hb1 hb3 hb8 hb10 aw hx1 hx3 hx8 hx10 hx9 hx11)
    have u73 : ∀ i, i < 73 → OpStep Tryz.prog nu18Ops Q (nu18F ka na sa p1 p3 RA p8 p10) w0 144 (fun t => a0.tmps.getD t undef) i := upto_succ u72 (nu18_s72 ka na sa p1 p3 RA p8 p10 hb1 hb3 hb8 hb10 aw hx1 hx3 hx8 hx10 hx9 hx11)
    have u74 : ∀ i, i < 74 → OpStep Tryz.prog nu18Ops Q (nu18F ka na sa p1 p3 RA p8 p10) w0 144 (fun t => a0.tmps.getD t undef) i := upto_succ u73 (nu18_s73 ka na sa p1 p3 RA p8 p10 hb1 hb3 hb8 hb10 aw hx1 hx3 hx8 hx10 hx9 hx11)
    have u75 : ∀ i, i < 75 → OpStep Tryz.prog nu18Ops Q (nu18F ka na sa p1 p3 RA p8 p10) w0 144 (fun t => a0.tmps.getD t undef) i := upto_succ u74 (nu18_s74 ka na sa p1 p3 RA p8 p10 hb1 hb3 hb8 hb10 aw hx1 hx3 hx8 hx10 hx9 hx11)
    have u76 : ∀ i, i < 76 → OpStep Tryz.prog nu18Ops Q (nu18F ka na sa p1 p3 RA p8 p10) w0 144 (fun t => a0.tmps.getD t undef) i := upto_succ u75 (nu18_s75 ka na sa p1 p3 RA p8 p10 hb1 hb3 hb8 hb10 aw hx1 hx3 hx8 hx10 hx9 hx11)
    have u77 : ∀ i, i < 77 → OpStep Tryz.prog nu18Ops Q (nu18F ka na sa p1 p3 RA p8 p10) w0 144 (fun t => a0.tmps.getD t undef) i := upto_succ u76 (nu18_s76 ka na sa p1 p3 RA p8 p10 hb1 hb3 hb8 hb10 aw hx1 hx3 hx8 hx10 hx9 hx11)
    have u78 : ∀ i, i < 78 → OpStep Tryz.prog nu18Ops Q (nu18F ka na sa p1 p3 RA p8 p10) w0 144 (fun t => a0.tmps.getD t undef) i := upto_succ u77 (nu18_s77 ka na sa p1 p3 RA p8 p10 hb1 hb3 hb8 hb10 aw hx1 hx3 hx8 hx10 hx9 hx11)
    have u79 : ∀ i, i < 79 → OpStep Tryz.prog nu18Ops Q (nu18F ka na sa p1 p3 RA p8 p10) w0 144 (fun t => a0.tmps.getD t undef) i := upto_succ u78 (nu18_s78 ka na sa p1 p3 RA p8 p10 hb1 hb3 hb8 hb10 aw hx1 hx3 hx8 hx10 hx9 hx11)
    have u80 : ∀ i, i < 80 → OpStep Tryz.prog nu18Ops Q (nu18F ka na sa p1 p3 RA p8 p10) w0 144 (fun t => a0.tmps.getD t undef) i := upto_succ u79 (nu18_s79 ka na sa p1 p3 RA p8 p10 hb1 hb3 hb8 hb10 aw hx1 hx3 hx8 hx10 hx9 hx11)
    have u81 : ∀ i, i < 81 → OpStep Tryz.prog nu18Ops Q (nu18F ka na sa p1 p3 RA p8 p10) w0 144 (fun t => a0.tmps.getD t undef) i := upto_succ u80 (nu18_s80 ka na sa p1 p3 RA p8 p10 hb1 hb3 hb8 hb10 aw hx1 hx3 hx8 hx10 hx9 hx11)
    have u82 : ∀ i, i < 82 → OpStep Tryz.prog nu18Ops Q (nu18F ka na sa p1 p3 RA p8 p10) w0 144 (fun t => a0.tmps.getD t undef) i := upto_succ u81 (nu18_s81 ka na sa p1 p3 RA p8 p10 hb1 hb3 hb8 hb10 aw hx1 hx3 hx8 hx10 hx9 hx11)
    have u83 : ∀ i, i < 83 → OpStep Tryz.prog nu18Ops Q (nu18F ka na sa p1 p3 RA p8 p10) w0 144 (fun t => a0.tmps.getD t undef) i := upto_succ u82 (nu18_s82 ka na sa p1 p3 RA p8 p10 hb1 hb3 hb8 hb10 aw hx1 hx3 hx8 hx10 hx9 hx11)
    exact u83
  · intro V X hb hV
    exact hend V X hb (hV 82 (of_decide_eq_true (by kernel_rfl)) (by kernel_rfl))
end Go.Proofs.YtaidipdofomgoaaGreatDoor
