/-
  ValueCasts: its regions, operation by operation. Conditions: what is called tells what it tells.
-/
import Derived.Test.YtaidipdofomgoaaGreatDoorVCas
import Derived.Test.YtaidipdofomgoaaGreatDoorVSlot4
import Derived.Test.YtaidipdofomgoaaGreatDoorVNulM
namespace Go.Proofs.YtaidipdofomgoaaGreatDoor
open Go.ChangeShapes Go.WideShapes Go.ChangeAt Go.RowKit
set_option linter.unusedVariables false
set_option maxRecDepth 100000
def ShowOn (w0 : World) (k n : Int) (s : ByteArray) (x : ByteArray) : Prop := ∀ W, Below w0.heap.size w0 W → Calls Tryz.prog 37 #[vv k n s] W fun e w' => e = .returned (.string x) ∧ Below W.heap.size W w'
theorem ShowOn.on {w0 w1 : World} {k n : Int} {s x : ByteArray} (h : ShowOn w0 k n s x) (hb : Below w0.heap.size w0 w1) : ShowOn w1 k n s x := fun X hx => h X (hb.trans (hx.mono hb.size))

noncomputable def ca8Ops : Array Oper := regOf Tryz.f9 8
theorem ca8_fill {v0 v1 v2 v3 v4 v5 v6 v7 v8 v9 v10 v11 v12 v13 v14 v15 v16 v17 v18 v19 v20 v21 v22 v23 v24 v25 v26 v27 v28 v29 v30 v31 v32 v33 v34 v35 v36 v37 v38 v39 v40 v41 v42 v43 v44 v45 v46 v47 v48 v49 v50 v51 v52 v53 v54 v55 v56 v57 v58 v59 v60 v61 v62 v63 v64 v65 v66 v67 v68 v69 v70 v71 v72 v73 v74 v75 v76 v77 v78 v79 v80 v81 v82 v83 v84 v85 v86 v87 v88 v89 v90 v91 v92 v93 v94 : Value} (V : Nat → Value) : fillT ca8Ops #[v0, v1, v2, v3, v4, v5, v6, v7, v8, v9, v10, v11, v12, v13, v14, v15, v16, v17, v18, v19, v20, v21, v22, v23, v24, v25, v26, v27, v28, v29, v30, v31, v32, v33, v34, v35, v36, v37, v38, v39, v40, v41, v42, v43, v44, v45, v46, v47, v48, v49, v50, v51, v52, v53, v54, v55, v56, v57, v58, v59, v60, v61, v62, v63, v64, v65, v66, v67, v68, v69, v70, v71, v72, v73, v74, v75, v76, v77, v78, v79, v80, v81, v82, v83, v84, v85, v86, v87, v88, v89, v90, v91, v92, v93, v94] V = #[v0, v1, v2, v3, v4, v5, v6, v7, v8, v9, v10, v11, v12, v13, v14, v15, v16, v17, v18, v19, v20, v21, v22, v23, v24, v25, v26, v27, v28, v29, v30, v31, v32, v33, v34, v35, v36, v37, v38, V 0, V 1, V 2, V 3, V 4, V 5, V 6, V 7, V 8, V 9, V 10, V 11, V 12, V 13, V 14, V 15, V 16, V 17, V 18, V 19, v59, v60, v61, v62, v63, v64, v65, v66, v67, v68, v69, v70, v71, v72, v73, v74, v75, v76, v77, v78, v79, v80, v81, v82, v83, v84, v85, v86, v87, v88, v89, v90, v91, v92, v93, v94] := by
  kernel_rfl
def ca8L (ka na : Int) (sa : ByteArray) (kx nx : Int) (sx : ByteArray) (p2 p7 p9 : Nat) (κ : Bool) (e1 : Hid ((kx == 0) = κ)) (e2 : Hid ((ka == 0) = κ)) : List (Value → World → Prop) := [IsV (.int .i64 0), IsV (.bool false), IsV (.bool false), IsV (.int .i64 0), IsV (.bool false), IsV (.bool false), IsV (.bool false), IsV (vv kx nx sx), IsV (vv kx nx sx), IsV (.bool false), IsV (.bool false), IsV (.bool false), IsV (.pointer (some ⟨p7, 0, none⟩)), IsV (.int .u8 kx), IsV (cond κ (.bool true) (.bool false)), IsV (.pointer (some ⟨p2, 0, none⟩)), IsV (.int .u8 ka), IsV (cond κ (.bool true) (.bool false)), IsV (.bool false), IsV (.bool false)]
def ca8F (ka na : Int) (sa : ByteArray) (kx nx : Int) (sx : ByteArray) (p2 p7 p9 : Nat) (κ : Bool) (e1 : Hid ((kx == 0) = κ)) (e2 : Hid ((ka == 0) = κ)) (i : Nat) : Value → World → Prop := (ca8L ka na sa kx nx sx p2 p7 p9 κ e1 e2).getD i AnyF
theorem ca8F_mono (ka na : Int) (sa : ByteArray) (kx nx : Int) (sx : ByteArray) (p2 p7 p9 : Nat) (κ : Bool) (e1 : Hid ((kx == 0) = κ)) (e2 : Hid ((ka == 0) = κ)) (i : Nat) (v : Value) (w w' : World) (hp : (ca8F ka na sa kx nx sx p2 p7 p9 κ e1 e2) i v w) (hb : Below w.heap.size w w') : (ca8F ka na sa kx nx sx p2 p7 p9 κ e1 e2) i v w' := by
  refine monoL ?_ i v w w' hp hb
  unfold ca8L
  simp only [List.forall_mem_cons]
  exact ⟨mono_isV _, mono_isV _, mono_isV _, mono_isV _, mono_isV _, mono_isV _, mono_isV _, mono_isV _, mono_isV _, mono_isV _, mono_isV _, mono_isV _, mono_isV _, mono_isV _, mono_isV _, mono_isV _, mono_isV _, mono_isV _, mono_isV _, mono_isV _, fun _ h => by cases h⟩
theorem ca8_s0 {Q : Exit → Act → World → Prop} {w0 : World} {xs : Nat → Value} (ka na : Int) (sa : ByteArray) (kx nx : Int) (sx : ByteArray) (p2 p7 p9 : Nat) (κ : Bool) (e1 : Hid ((kx == 0) = κ)) (e2 : Hid ((ka == 0) = κ)) (hb2 : BoxOn w0 p2 ka na sa) (hb7 : BoxOn w0 p7 kx nx sx) (hb9 : BoxOn w0 p9 kx nx sx) (hx2 : xs 2 = .pointer (some ⟨p2, 0, none⟩)) (hx7 : xs 7 = .pointer (some ⟨p7, 0, none⟩)) (hx9 : xs 9 = .pointer (some ⟨p9, 0, none⟩)) (hx8 : xs 8 = .int .i64 0) (hx10 : xs 10 = .int .i64 0) : OpStep Tryz.prog ca8Ops Q (ca8F ka na sa kx nx sx p2 p7 p9 κ e1 e2) w0 95 xs 0 := by
  intro act w hb hk hF
  have g8 : act.eval (.tmp 8) = .int .i64 0 := (hk 8 (by decide) (by kernel_rfl)).trans hx8
  exact step_move (show opO ca8Ops 0 = some (.move (.tmp 8)) by kernel_rfl) (.free (by kernel_rfl)) g8 ⟨rfl, Below.refl _ _⟩

theorem ca8_s1 {Q : Exit → Act → World → Prop} {w0 : World} {xs : Nat → Value} (ka na : Int) (sa : ByteArray) (kx nx : Int) (sx : ByteArray) (p2 p7 p9 : Nat) (κ : Bool) (e1 : Hid ((kx == 0) = κ)) (e2 : Hid ((ka == 0) = κ)) (hb2 : BoxOn w0 p2 ka na sa) (hb7 : BoxOn w0 p7 kx nx sx) (hb9 : BoxOn w0 p9 kx nx sx) (hx2 : xs 2 = .pointer (some ⟨p2, 0, none⟩)) (hx7 : xs 7 = .pointer (some ⟨p7, 0, none⟩)) (hx9 : xs 9 = .pointer (some ⟨p9, 0, none⟩)) (hx8 : xs 8 = .int .i64 0) (hx10 : xs 10 = .int .i64 0) : OpStep Tryz.prog ca8Ops Q (ca8F ka na sa kx nx sx p2 p7 p9 κ e1 e2) w0 95 xs 1 := by
  intro act w hb hk hF
  have g39 : act.eval (.tmp 39) = .int .i64 0 := hF 0 (of_decide_eq_true (by kernel_rfl)) 39 (by kernel_rfl)
  exact step_neI (show opO ca8Ops 1 = some (.binOp .neq 28 (.tmp 39) (.const (.int .i64 0)) 28) by kernel_rfl) (.free (by kernel_rfl)) g39 rfl (by simp) ⟨rfl, Below.refl _ _⟩

theorem ca8_s2 {Q : Exit → Act → World → Prop} {w0 : World} {xs : Nat → Value} (ka na : Int) (sa : ByteArray) (kx nx : Int) (sx : ByteArray) (p2 p7 p9 : Nat) (κ : Bool) (e1 : Hid ((kx == 0) = κ)) (e2 : Hid ((ka == 0) = κ)) (hb2 : BoxOn w0 p2 ka na sa) (hb7 : BoxOn w0 p7 kx nx sx) (hb9 : BoxOn w0 p9 kx nx sx) (hx2 : xs 2 = .pointer (some ⟨p2, 0, none⟩)) (hx7 : xs 7 = .pointer (some ⟨p7, 0, none⟩)) (hx9 : xs 9 = .pointer (some ⟨p9, 0, none⟩)) (hx8 : xs 8 = .int .i64 0) (hx10 : xs 10 = .int .i64 0) : OpStep Tryz.prog ca8Ops Q (ca8F ka na sa kx nx sx p2 p7 p9 κ e1 e2) w0 95 xs 2 := by
  intro act w hb hk hF
  have g40 : act.eval (.tmp 40) = .bool false := hF 1 (of_decide_eq_true (by kernel_rfl)) 40 (by kernel_rfl)
  exact step_move (show opO ca8Ops 2 = some (.move (.tmp 40)) by kernel_rfl) (.free (by kernel_rfl)) g40 ⟨rfl, Below.refl _ _⟩

theorem ca8_s3 {Q : Exit → Act → World → Prop} {w0 : World} {xs : Nat → Value} (ka na : Int) (sa : ByteArray) (kx nx : Int) (sx : ByteArray) (p2 p7 p9 : Nat) (κ : Bool) (e1 : Hid ((kx == 0) = κ)) (e2 : Hid ((ka == 0) = κ)) (hb2 : BoxOn w0 p2 ka na sa) (hb7 : BoxOn w0 p7 kx nx sx) (hb9 : BoxOn w0 p9 kx nx sx) (hx2 : xs 2 = .pointer (some ⟨p2, 0, none⟩)) (hx7 : xs 7 = .pointer (some ⟨p7, 0, none⟩)) (hx9 : xs 9 = .pointer (some ⟨p9, 0, none⟩)) (hx8 : xs 8 = .int .i64 0) (hx10 : xs 10 = .int .i64 0) : OpStep Tryz.prog ca8Ops Q (ca8F ka na sa kx nx sx p2 p7 p9 κ e1 e2) w0 95 xs 3 := by
  intro act w hb hk hF
  have g41 : act.eval (.tmp 41) = .bool false := hF 2 (of_decide_eq_true (by kernel_rfl)) 41 (by kernel_rfl)
  have g10 : act.eval (.tmp 10) = .int .i64 0 := (hk 10 (by decide) (by kernel_rfl)).trans hx10
  exact step_move (show opO ca8Ops 3 = some (.move (.tmp 10)) by kernel_rfl) (.told 2 false 41 (by kernel_rfl) (by kernel_rfl) g41) g10 ⟨rfl, Below.refl _ _⟩

theorem ca8_s4 {Q : Exit → Act → World → Prop} {w0 : World} {xs : Nat → Value} (ka na : Int) (sa : ByteArray) (kx nx : Int) (sx : ByteArray) (p2 p7 p9 : Nat) (κ : Bool) (e1 : Hid ((kx == 0) = κ)) (e2 : Hid ((ka == 0) = κ)) (hb2 : BoxOn w0 p2 ka na sa) (hb7 : BoxOn w0 p7 kx nx sx) (hb9 : BoxOn w0 p9 kx nx sx) (hx2 : xs 2 = .pointer (some ⟨p2, 0, none⟩)) (hx7 : xs 7 = .pointer (some ⟨p7, 0, none⟩)) (hx9 : xs 9 = .pointer (some ⟨p9, 0, none⟩)) (hx8 : xs 8 = .int .i64 0) (hx10 : xs 10 = .int .i64 0) : OpStep Tryz.prog ca8Ops Q (ca8F ka na sa kx nx sx p2 p7 p9 κ e1 e2) w0 95 xs 4 := by
  intro act w hb hk hF
  have g41 : act.eval (.tmp 41) = .bool false := hF 2 (of_decide_eq_true (by kernel_rfl)) 41 (by kernel_rfl)
  have g42 : act.eval (.tmp 42) = .int .i64 0 := hF 3 (of_decide_eq_true (by kernel_rfl)) 42 (by kernel_rfl)
  exact step_neI (show opO ca8Ops 4 = some (.binOp .neq 28 (.tmp 42) (.const (.int .i64 0)) 28) by kernel_rfl) (.told 2 false 41 (by kernel_rfl) (by kernel_rfl) g41) g42 rfl (by simp) ⟨rfl, Below.refl _ _⟩

theorem ca8_s5 {Q : Exit → Act → World → Prop} {w0 : World} {xs : Nat → Value} (ka na : Int) (sa : ByteArray) (kx nx : Int) (sx : ByteArray) (p2 p7 p9 : Nat) (κ : Bool) (e1 : Hid ((kx == 0) = κ)) (e2 : Hid ((ka == 0) = κ)) (hb2 : BoxOn w0 p2 ka na sa) (hb7 : BoxOn w0 p7 kx nx sx) (hb9 : BoxOn w0 p9 kx nx sx) (hx2 : xs 2 = .pointer (some ⟨p2, 0, none⟩)) (hx7 : xs 7 = .pointer (some ⟨p7, 0, none⟩)) (hx9 : xs 9 = .pointer (some ⟨p9, 0, none⟩)) (hx8 : xs 8 = .int .i64 0) (hx10 : xs 10 = .int .i64 0) : OpStep Tryz.prog ca8Ops Q (ca8F ka na sa kx nx sx p2 p7 p9 κ e1 e2) w0 95 xs 5 := by
  intro act w hb hk hF
  have g41 : act.eval (.tmp 41) = .bool false := hF 2 (of_decide_eq_true (by kernel_rfl)) 41 (by kernel_rfl)
  have g43 : act.eval (.tmp 43) = .bool false := hF 4 (of_decide_eq_true (by kernel_rfl)) 43 (by kernel_rfl)
  exact step_pickF (show opO ca8Ops 5 = some (.pick (.tmp 41) (.const (.bool true)) (.tmp 43)) by kernel_rfl) (.free (by kernel_rfl)) g41 g43 ⟨rfl, Below.refl _ _⟩

theorem ca8_s6 {Q : Exit → Act → World → Prop} {w0 : World} {xs : Nat → Value} (ka na : Int) (sa : ByteArray) (kx nx : Int) (sx : ByteArray) (p2 p7 p9 : Nat) (κ : Bool) (e1 : Hid ((kx == 0) = κ)) (e2 : Hid ((ka == 0) = κ)) (hb2 : BoxOn w0 p2 ka na sa) (hb7 : BoxOn w0 p7 kx nx sx) (hb9 : BoxOn w0 p9 kx nx sx) (hx2 : xs 2 = .pointer (some ⟨p2, 0, none⟩)) (hx7 : xs 7 = .pointer (some ⟨p7, 0, none⟩)) (hx9 : xs 9 = .pointer (some ⟨p9, 0, none⟩)) (hx8 : xs 8 = .int .i64 0) (hx10 : xs 10 = .int .i64 0) : OpStep Tryz.prog ca8Ops Q (ca8F ka na sa kx nx sx p2 p7 p9 κ e1 e2) w0 95 xs 6 := by
  intro act w hb hk hF
  have g44 : act.eval (.tmp 44) = .bool false := hF 5 (of_decide_eq_true (by kernel_rfl)) 44 (by kernel_rfl)
  exact step_move (show opO ca8Ops 6 = some (.move (.tmp 44)) by kernel_rfl) (.free (by kernel_rfl)) g44 ⟨rfl, Below.refl _ _⟩

theorem ca8_s7 {Q : Exit → Act → World → Prop} {w0 : World} {xs : Nat → Value} (ka na : Int) (sa : ByteArray) (kx nx : Int) (sx : ByteArray) (p2 p7 p9 : Nat) (κ : Bool) (e1 : Hid ((kx == 0) = κ)) (e2 : Hid ((ka == 0) = κ)) (hb2 : BoxOn w0 p2 ka na sa) (hb7 : BoxOn w0 p7 kx nx sx) (hb9 : BoxOn w0 p9 kx nx sx) (hx2 : xs 2 = .pointer (some ⟨p2, 0, none⟩)) (hx7 : xs 7 = .pointer (some ⟨p7, 0, none⟩)) (hx9 : xs 9 = .pointer (some ⟨p9, 0, none⟩)) (hx8 : xs 8 = .int .i64 0) (hx10 : xs 10 = .int .i64 0) : OpStep Tryz.prog ca8Ops Q (ca8F ka na sa kx nx sx p2 p7 p9 κ e1 e2) w0 95 xs 7 := by
  intro act w hb hk hF
  have g45 : act.eval (.tmp 45) = .bool false := hF 6 (of_decide_eq_true (by kernel_rfl)) 45 (by kernel_rfl)
  have g7 : act.eval (.tmp 7) = .pointer (some ⟨p7, 0, none⟩) := (hk 7 (by decide) (by kernel_rfl)).trans hx7
  exact step_loadB (show opO ca8Ops 7 = some (.load 24 (.tmp 7)) by kernel_rfl) (.told 6 false 45 (by kernel_rfl) (by kernel_rfl) g45) g7 (hb7 w hb) ⟨rfl, Below.refl _ _⟩

theorem ca8_s8 {Q : Exit → Act → World → Prop} {w0 : World} {xs : Nat → Value} (ka na : Int) (sa : ByteArray) (kx nx : Int) (sx : ByteArray) (p2 p7 p9 : Nat) (κ : Bool) (e1 : Hid ((kx == 0) = κ)) (e2 : Hid ((ka == 0) = κ)) (hb2 : BoxOn w0 p2 ka na sa) (hb7 : BoxOn w0 p7 kx nx sx) (hb9 : BoxOn w0 p9 kx nx sx) (hx2 : xs 2 = .pointer (some ⟨p2, 0, none⟩)) (hx7 : xs 7 = .pointer (some ⟨p7, 0, none⟩)) (hx9 : xs 9 = .pointer (some ⟨p9, 0, none⟩)) (hx8 : xs 8 = .int .i64 0) (hx10 : xs 10 = .int .i64 0) : OpStep Tryz.prog ca8Ops Q (ca8F ka na sa kx nx sx p2 p7 p9 κ e1 e2) w0 95 xs 8 := by
  intro act w hb hk hF
  have g45 : act.eval (.tmp 45) = .bool false := hF 6 (of_decide_eq_true (by kernel_rfl)) 45 (by kernel_rfl)
  have g9 : act.eval (.tmp 9) = .pointer (some ⟨p9, 0, none⟩) := (hk 9 (by decide) (by kernel_rfl)).trans hx9
  exact step_loadB (show opO ca8Ops 8 = some (.load 24 (.tmp 9)) by kernel_rfl) (.told 6 false 45 (by kernel_rfl) (by kernel_rfl) g45) g9 (hb9 w hb) ⟨rfl, Below.refl _ _⟩

theorem ca8_s9 {Q : Exit → Act → World → Prop} {w0 : World} {xs : Nat → Value} (ka na : Int) (sa : ByteArray) (kx nx : Int) (sx : ByteArray) (p2 p7 p9 : Nat) (κ : Bool) (e1 : Hid ((kx == 0) = κ)) (e2 : Hid ((ka == 0) = κ)) (hb2 : BoxOn w0 p2 ka na sa) (hb7 : BoxOn w0 p7 kx nx sx) (hb9 : BoxOn w0 p9 kx nx sx) (hx2 : xs 2 = .pointer (some ⟨p2, 0, none⟩)) (hx7 : xs 7 = .pointer (some ⟨p7, 0, none⟩)) (hx9 : xs 9 = .pointer (some ⟨p9, 0, none⟩)) (hx8 : xs 8 = .int .i64 0) (hx10 : xs 10 = .int .i64 0) : OpStep Tryz.prog ca8Ops Q (ca8F ka na sa kx nx sx p2 p7 p9 κ e1 e2) w0 95 xs 9 := by
  intro act w hb hk hF
  have g45 : act.eval (.tmp 45) = .bool false := hF 6 (of_decide_eq_true (by kernel_rfl)) 45 (by kernel_rfl)
  have g46 : act.eval (.tmp 46) = vv kx nx sx := hF 7 (of_decide_eq_true (by kernel_rfl)) 46 (by kernel_rfl)
  have g47 : act.eval (.tmp 47) = vv kx nx sx := hF 8 (of_decide_eq_true (by kernel_rfl)) 47 (by kernel_rfl)
  exact step_neV (show opO ca8Ops 9 = some (.binOp .neq 24 (.tmp 46) (.tmp 47) 24) by kernel_rfl) (.told 6 false 45 (by kernel_rfl) (by kernel_rfl) g45) g46 g47 (by rw [same_self]; rfl) ⟨rfl, Below.refl _ _⟩

theorem ca8_s10 {Q : Exit → Act → World → Prop} {w0 : World} {xs : Nat → Value} (ka na : Int) (sa : ByteArray) (kx nx : Int) (sx : ByteArray) (p2 p7 p9 : Nat) (κ : Bool) (e1 : Hid ((kx == 0) = κ)) (e2 : Hid ((ka == 0) = κ)) (hb2 : BoxOn w0 p2 ka na sa) (hb7 : BoxOn w0 p7 kx nx sx) (hb9 : BoxOn w0 p9 kx nx sx) (hx2 : xs 2 = .pointer (some ⟨p2, 0, none⟩)) (hx7 : xs 7 = .pointer (some ⟨p7, 0, none⟩)) (hx9 : xs 9 = .pointer (some ⟨p9, 0, none⟩)) (hx8 : xs 8 = .int .i64 0) (hx10 : xs 10 = .int .i64 0) : OpStep Tryz.prog ca8Ops Q (ca8F ka na sa kx nx sx p2 p7 p9 κ e1 e2) w0 95 xs 10 := by
  intro act w hb hk hF
  have g45 : act.eval (.tmp 45) = .bool false := hF 6 (of_decide_eq_true (by kernel_rfl)) 45 (by kernel_rfl)
  have g48 : act.eval (.tmp 48) = .bool false := hF 9 (of_decide_eq_true (by kernel_rfl)) 48 (by kernel_rfl)
  exact step_pickF (show opO ca8Ops 10 = some (.pick (.tmp 45) (.const (.bool true)) (.tmp 48)) by kernel_rfl) (.free (by kernel_rfl)) g45 g48 ⟨rfl, Below.refl _ _⟩

theorem ca8_s11 {Q : Exit → Act → World → Prop} {w0 : World} {xs : Nat → Value} (ka na : Int) (sa : ByteArray) (kx nx : Int) (sx : ByteArray) (p2 p7 p9 : Nat) (κ : Bool) (e1 : Hid ((kx == 0) = κ)) (e2 : Hid ((ka == 0) = κ)) (hb2 : BoxOn w0 p2 ka na sa) (hb7 : BoxOn w0 p7 kx nx sx) (hb9 : BoxOn w0 p9 kx nx sx) (hx2 : xs 2 = .pointer (some ⟨p2, 0, none⟩)) (hx7 : xs 7 = .pointer (some ⟨p7, 0, none⟩)) (hx9 : xs 9 = .pointer (some ⟨p9, 0, none⟩)) (hx8 : xs 8 = .int .i64 0) (hx10 : xs 10 = .int .i64 0) : OpStep Tryz.prog ca8Ops Q (ca8F ka na sa kx nx sx p2 p7 p9 κ e1 e2) w0 95 xs 11 := by
  intro act w hb hk hF
  have g49 : act.eval (.tmp 49) = .bool false := hF 10 (of_decide_eq_true (by kernel_rfl)) 49 (by kernel_rfl)
  exact step_move (show opO ca8Ops 11 = some (.move (.tmp 49)) by kernel_rfl) (.free (by kernel_rfl)) g49 ⟨rfl, Below.refl _ _⟩

theorem ca8_s12 {Q : Exit → Act → World → Prop} {w0 : World} {xs : Nat → Value} (ka na : Int) (sa : ByteArray) (kx nx : Int) (sx : ByteArray) (p2 p7 p9 : Nat) (κ : Bool) (e1 : Hid ((kx == 0) = κ)) (e2 : Hid ((ka == 0) = κ)) (hb2 : BoxOn w0 p2 ka na sa) (hb7 : BoxOn w0 p7 kx nx sx) (hb9 : BoxOn w0 p9 kx nx sx) (hx2 : xs 2 = .pointer (some ⟨p2, 0, none⟩)) (hx7 : xs 7 = .pointer (some ⟨p7, 0, none⟩)) (hx9 : xs 9 = .pointer (some ⟨p9, 0, none⟩)) (hx8 : xs 8 = .int .i64 0) (hx10 : xs 10 = .int .i64 0) : OpStep Tryz.prog ca8Ops Q (ca8F ka na sa kx nx sx p2 p7 p9 κ e1 e2) w0 95 xs 12 := by
  intro act w hb hk hF
  have g50 : act.eval (.tmp 50) = .bool false := hF 11 (of_decide_eq_true (by kernel_rfl)) 50 (by kernel_rfl)
  have g7 : act.eval (.tmp 7) = .pointer (some ⟨p7, 0, none⟩) := (hk 7 (by decide) (by kernel_rfl)).trans hx7
  exact step_fieldK (show opO ca8Ops 12 = some (.fieldAddr 24 (.tmp 7) 0) by kernel_rfl) (.told 11 false 50 (by kernel_rfl) (by kernel_rfl) g50) g7 ⟨rfl, Below.refl _ _⟩

theorem ca8_s13 {Q : Exit → Act → World → Prop} {w0 : World} {xs : Nat → Value} (ka na : Int) (sa : ByteArray) (kx nx : Int) (sx : ByteArray) (p2 p7 p9 : Nat) (κ : Bool) (e1 : Hid ((kx == 0) = κ)) (e2 : Hid ((ka == 0) = κ)) (hb2 : BoxOn w0 p2 ka na sa) (hb7 : BoxOn w0 p7 kx nx sx) (hb9 : BoxOn w0 p9 kx nx sx) (hx2 : xs 2 = .pointer (some ⟨p2, 0, none⟩)) (hx7 : xs 7 = .pointer (some ⟨p7, 0, none⟩)) (hx9 : xs 9 = .pointer (some ⟨p9, 0, none⟩)) (hx8 : xs 8 = .int .i64 0) (hx10 : xs 10 = .int .i64 0) : OpStep Tryz.prog ca8Ops Q (ca8F ka na sa kx nx sx p2 p7 p9 κ e1 e2) w0 95 xs 13 := by
  intro act w hb hk hF
  have g50 : act.eval (.tmp 50) = .bool false := hF 11 (of_decide_eq_true (by kernel_rfl)) 50 (by kernel_rfl)
  have g51 : act.eval (.tmp 51) = .pointer (some ⟨p7, 0, none⟩) := hF 12 (of_decide_eq_true (by kernel_rfl)) 51 (by kernel_rfl)
  exact step_loadK (show opO ca8Ops 13 = some (.load 22 (.tmp 51)) by kernel_rfl) (.told 11 false 50 (by kernel_rfl) (by kernel_rfl) g50) g51 (hb7 w hb) ⟨rfl, Below.refl _ _⟩

theorem ca8_s14 {Q : Exit → Act → World → Prop} {w0 : World} {xs : Nat → Value} (ka na : Int) (sa : ByteArray) (kx nx : Int) (sx : ByteArray) (p2 p7 p9 : Nat) (κ : Bool) (e1 : Hid ((kx == 0) = κ)) (e2 : Hid ((ka == 0) = κ)) (hb2 : BoxOn w0 p2 ka na sa) (hb7 : BoxOn w0 p7 kx nx sx) (hb9 : BoxOn w0 p9 kx nx sx) (hx2 : xs 2 = .pointer (some ⟨p2, 0, none⟩)) (hx7 : xs 7 = .pointer (some ⟨p7, 0, none⟩)) (hx9 : xs 9 = .pointer (some ⟨p9, 0, none⟩)) (hx8 : xs 8 = .int .i64 0) (hx10 : xs 10 = .int .i64 0) : OpStep Tryz.prog ca8Ops Q (ca8F ka na sa kx nx sx p2 p7 p9 κ e1 e2) w0 95 xs 14 := by
  intro act w hb hk hF
  have g50 : act.eval (.tmp 50) = .bool false := hF 11 (of_decide_eq_true (by kernel_rfl)) 50 (by kernel_rfl)
  have g52 : act.eval (.tmp 52) = .int .u8 kx := hF 13 (of_decide_eq_true (by kernel_rfl)) 52 (by kernel_rfl)
  cases κ
  · exact step_eqI (show opO ca8Ops 14 = some (.binOp .eql 22 (.tmp 52) (.const (.int .u8 0)) 22) by kernel_rfl) (.told 11 false 50 (by kernel_rfl) (by kernel_rfl) g50) g52 rfl e1.out ⟨rfl, Below.refl _ _⟩
  · exact step_eqI (show opO ca8Ops 14 = some (.binOp .eql 22 (.tmp 52) (.const (.int .u8 0)) 22) by kernel_rfl) (.told 11 false 50 (by kernel_rfl) (by kernel_rfl) g50) g52 rfl e1.out ⟨rfl, Below.refl _ _⟩

theorem ca8_s15 {Q : Exit → Act → World → Prop} {w0 : World} {xs : Nat → Value} (ka na : Int) (sa : ByteArray) (kx nx : Int) (sx : ByteArray) (p2 p7 p9 : Nat) (κ : Bool) (e1 : Hid ((kx == 0) = κ)) (e2 : Hid ((ka == 0) = κ)) (hb2 : BoxOn w0 p2 ka na sa) (hb7 : BoxOn w0 p7 kx nx sx) (hb9 : BoxOn w0 p9 kx nx sx) (hx2 : xs 2 = .pointer (some ⟨p2, 0, none⟩)) (hx7 : xs 7 = .pointer (some ⟨p7, 0, none⟩)) (hx9 : xs 9 = .pointer (some ⟨p9, 0, none⟩)) (hx8 : xs 8 = .int .i64 0) (hx10 : xs 10 = .int .i64 0) : OpStep Tryz.prog ca8Ops Q (ca8F ka na sa kx nx sx p2 p7 p9 κ e1 e2) w0 95 xs 15 := by
  intro act w hb hk hF
  have g50 : act.eval (.tmp 50) = .bool false := hF 11 (of_decide_eq_true (by kernel_rfl)) 50 (by kernel_rfl)
  have g2 : act.eval (.tmp 2) = .pointer (some ⟨p2, 0, none⟩) := (hk 2 (by decide) (by kernel_rfl)).trans hx2
  exact step_fieldK (show opO ca8Ops 15 = some (.fieldAddr 24 (.tmp 2) 0) by kernel_rfl) (.told 11 false 50 (by kernel_rfl) (by kernel_rfl) g50) g2 ⟨rfl, Below.refl _ _⟩

theorem ca8_s16 {Q : Exit → Act → World → Prop} {w0 : World} {xs : Nat → Value} (ka na : Int) (sa : ByteArray) (kx nx : Int) (sx : ByteArray) (p2 p7 p9 : Nat) (κ : Bool) (e1 : Hid ((kx == 0) = κ)) (e2 : Hid ((ka == 0) = κ)) (hb2 : BoxOn w0 p2 ka na sa) (hb7 : BoxOn w0 p7 kx nx sx) (hb9 : BoxOn w0 p9 kx nx sx) (hx2 : xs 2 = .pointer (some ⟨p2, 0, none⟩)) (hx7 : xs 7 = .pointer (some ⟨p7, 0, none⟩)) (hx9 : xs 9 = .pointer (some ⟨p9, 0, none⟩)) (hx8 : xs 8 = .int .i64 0) (hx10 : xs 10 = .int .i64 0) : OpStep Tryz.prog ca8Ops Q (ca8F ka na sa kx nx sx p2 p7 p9 κ e1 e2) w0 95 xs 16 := by
  intro act w hb hk hF
  have g50 : act.eval (.tmp 50) = .bool false := hF 11 (of_decide_eq_true (by kernel_rfl)) 50 (by kernel_rfl)
  have g54 : act.eval (.tmp 54) = .pointer (some ⟨p2, 0, none⟩) := hF 15 (of_decide_eq_true (by kernel_rfl)) 54 (by kernel_rfl)
  exact step_loadK (show opO ca8Ops 16 = some (.load 22 (.tmp 54)) by kernel_rfl) (.told 11 false 50 (by kernel_rfl) (by kernel_rfl) g50) g54 (hb2 w hb) ⟨rfl, Below.refl _ _⟩

theorem ca8_s17 {Q : Exit → Act → World → Prop} {w0 : World} {xs : Nat → Value} (ka na : Int) (sa : ByteArray) (kx nx : Int) (sx : ByteArray) (p2 p7 p9 : Nat) (κ : Bool) (e1 : Hid ((kx == 0) = κ)) (e2 : Hid ((ka == 0) = κ)) (hb2 : BoxOn w0 p2 ka na sa) (hb7 : BoxOn w0 p7 kx nx sx) (hb9 : BoxOn w0 p9 kx nx sx) (hx2 : xs 2 = .pointer (some ⟨p2, 0, none⟩)) (hx7 : xs 7 = .pointer (some ⟨p7, 0, none⟩)) (hx9 : xs 9 = .pointer (some ⟨p9, 0, none⟩)) (hx8 : xs 8 = .int .i64 0) (hx10 : xs 10 = .int .i64 0) : OpStep Tryz.prog ca8Ops Q (ca8F ka na sa kx nx sx p2 p7 p9 κ e1 e2) w0 95 xs 17 := by
  intro act w hb hk hF
  have g50 : act.eval (.tmp 50) = .bool false := hF 11 (of_decide_eq_true (by kernel_rfl)) 50 (by kernel_rfl)
  have g55 : act.eval (.tmp 55) = .int .u8 ka := hF 16 (of_decide_eq_true (by kernel_rfl)) 55 (by kernel_rfl)
  cases κ
  · exact step_eqI (show opO ca8Ops 17 = some (.binOp .eql 22 (.tmp 55) (.const (.int .u8 0)) 22) by kernel_rfl) (.told 11 false 50 (by kernel_rfl) (by kernel_rfl) g50) g55 rfl e2.out ⟨rfl, Below.refl _ _⟩
  · exact step_eqI (show opO ca8Ops 17 = some (.binOp .eql 22 (.tmp 55) (.const (.int .u8 0)) 22) by kernel_rfl) (.told 11 false 50 (by kernel_rfl) (by kernel_rfl) g50) g55 rfl e2.out ⟨rfl, Below.refl _ _⟩

theorem ca8_s18 {Q : Exit → Act → World → Prop} {w0 : World} {xs : Nat → Value} (ka na : Int) (sa : ByteArray) (kx nx : Int) (sx : ByteArray) (p2 p7 p9 : Nat) (κ : Bool) (e1 : Hid ((kx == 0) = κ)) (e2 : Hid ((ka == 0) = κ)) (hb2 : BoxOn w0 p2 ka na sa) (hb7 : BoxOn w0 p7 kx nx sx) (hb9 : BoxOn w0 p9 kx nx sx) (hx2 : xs 2 = .pointer (some ⟨p2, 0, none⟩)) (hx7 : xs 7 = .pointer (some ⟨p7, 0, none⟩)) (hx9 : xs 9 = .pointer (some ⟨p9, 0, none⟩)) (hx8 : xs 8 = .int .i64 0) (hx10 : xs 10 = .int .i64 0) : OpStep Tryz.prog ca8Ops Q (ca8F ka na sa kx nx sx p2 p7 p9 κ e1 e2) w0 95 xs 18 := by
  intro act w hb hk hF
  have g50 : act.eval (.tmp 50) = .bool false := hF 11 (of_decide_eq_true (by kernel_rfl)) 50 (by kernel_rfl)
  have g53 : act.eval (.tmp 53) = cond κ (.bool true) (.bool false) := hF 14 (of_decide_eq_true (by kernel_rfl)) 53 (by kernel_rfl)
  have g56 : act.eval (.tmp 56) = cond κ (.bool true) (.bool false) := hF 17 (of_decide_eq_true (by kernel_rfl)) 56 (by kernel_rfl)
  cases κ
  · exact step_neB (show opO ca8Ops 18 = some (.binOp .neq 4 (.tmp 53) (.tmp 56) 4) by kernel_rfl) (.told 11 false 50 (by kernel_rfl) (by kernel_rfl) g50) g53 g56 rfl ⟨rfl, Below.refl _ _⟩
  · exact step_neB (show opO ca8Ops 18 = some (.binOp .neq 4 (.tmp 53) (.tmp 56) 4) by kernel_rfl) (.told 11 false 50 (by kernel_rfl) (by kernel_rfl) g50) g53 g56 rfl ⟨rfl, Below.refl _ _⟩

theorem ca8_s19 {Q : Exit → Act → World → Prop} {w0 : World} {xs : Nat → Value} (ka na : Int) (sa : ByteArray) (kx nx : Int) (sx : ByteArray) (p2 p7 p9 : Nat) (κ : Bool) (e1 : Hid ((kx == 0) = κ)) (e2 : Hid ((ka == 0) = κ)) (hb2 : BoxOn w0 p2 ka na sa) (hb7 : BoxOn w0 p7 kx nx sx) (hb9 : BoxOn w0 p9 kx nx sx) (hx2 : xs 2 = .pointer (some ⟨p2, 0, none⟩)) (hx7 : xs 7 = .pointer (some ⟨p7, 0, none⟩)) (hx9 : xs 9 = .pointer (some ⟨p9, 0, none⟩)) (hx8 : xs 8 = .int .i64 0) (hx10 : xs 10 = .int .i64 0) : OpStep Tryz.prog ca8Ops Q (ca8F ka na sa kx nx sx p2 p7 p9 κ e1 e2) w0 95 xs 19 := by
  intro act w hb hk hF
  have g50 : act.eval (.tmp 50) = .bool false := hF 11 (of_decide_eq_true (by kernel_rfl)) 50 (by kernel_rfl)
  have g57 : act.eval (.tmp 57) = .bool false := hF 18 (of_decide_eq_true (by kernel_rfl)) 57 (by kernel_rfl)
  exact step_pickF (show opO ca8Ops 19 = some (.pick (.tmp 50) (.const (.bool true)) (.tmp 57)) by kernel_rfl) (.free (by kernel_rfl)) g50 g57 ⟨rfl, Below.refl _ _⟩

theorem ca8 {bb : Bool} {Q : Exit → Act → World → Prop} {a0 : Act} {w0 : World} (ka na : Int) (sa : ByteArray) (kx nx : Int) (sx : ByteArray) (p2 p7 p9 : Nat) (κ : Bool) (e1 : Hid ((kx == 0) = κ)) (e2 : Hid ((ka == 0) = κ)) (hb2 : BoxOn w0 p2 ka na sa) (hb7 : BoxOn w0 p7 kx nx sx) (hb9 : BoxOn w0 p9 kx nx sx) (hx2 : a0.tmps.getD 2 undef = .pointer (some ⟨p2, 0, none⟩)) (hx7 : a0.tmps.getD 7 undef = .pointer (some ⟨p7, 0, none⟩)) (hx9 : a0.tmps.getD 9 undef = .pointer (some ⟨p9, 0, none⟩)) (hx8 : a0.tmps.getD 8 undef = .int .i64 0) (hx10 : a0.tmps.getD 10 undef = .int .i64 0) (hs : a0.tmps.size = 95)
    (hend : ∀ (V : Nat → Value) (X : World), Below w0.heap.size w0 X → V 19 = .bool false → Q .normal ⟨fillT ca8Ops a0.tmps V, a0.defers⟩ X) : (Code.region 8 ca8Ops bb).wp Tryz.prog Q a0 w0 := by
  refine wp_region_both (by kernel_rfl) (ca8F ka na sa kx nx sx p2 p7 p9 κ e1 e2) (ca8F_mono ka na sa kx nx sx p2 p7 p9 κ e1 e2) (by rw [hs]; kernel_rfl) ?_ ?_
  · rw [hs]
    have size_is : ca8Ops.size = 20 := by kernel_rfl
    rw [size_is]
    have u1 : ∀ i, i < 1 → OpStep Tryz.prog ca8Ops Q (ca8F ka na sa kx nx sx p2 p7 p9 κ e1 e2) w0 95 (fun t => a0.tmps.getD t undef) i := upto_succ upto_zero (ca8_s0 ka na sa kx nx sx p2 p7 p9 κ e1 e2 hb2 hb7 hb9 hx2 hx7 hx9 hx8 hx10)
    have u2 : ∀ i, i < 2 → OpStep Tryz.prog ca8Ops Q (ca8F ka na sa kx nx sx p2 p7 p9 κ e1 e2) w0 95 (fun t => a0.tmps.getD t undef) i := upto_succ u1 (ca8_s1 ka na sa kx nx sx p2 p7 p9 κ e1 e2 hb2 hb7 hb9 hx2 hx7 hx9 hx8 hx10)
    have u3 : ∀ i, i < 3 → OpStep Tryz.prog ca8Ops Q (ca8F ka na sa kx nx sx p2 p7 p9 κ e1 e2) w0 95 (fun t => a0.tmps.getD t undef) i := upto_succ u2 (ca8_s2 ka na sa kx nx sx p2 p7 p9 κ e1 e2 hb2 hb7 hb9 hx2 hx7 hx9 hx8 hx10)
    have u4 : ∀ i, i < 4 → OpStep Tryz.prog ca8Ops Q (ca8F ka na sa kx nx sx p2 p7 p9 κ e1 e2) w0 95 (fun t => a0.tmps.getD t undef) i := upto_succ u3 (ca8_s3 ka na sa kx nx sx p2 p7 p9 κ e1 e2 hb2 hb7 hb9 hx2 hx7 hx9 hx8 hx10)
    have u5 : ∀ i, i < 5 → OpStep Tryz.prog ca8Ops Q (ca8F ka na sa kx nx sx p2 p7 p9 κ e1 e2) w0 95 (fun t => a0.tmps.getD t undef) i := upto_succ u4 (ca8_s4 ka na sa kx nx sx p2 p7 p9 κ e1 e2 hb2 hb7 hb9 hx2 hx7 hx9 hx8 hx10)
    have u6 : ∀ i, i < 6 → OpStep Tryz.prog ca8Ops Q (ca8F ka na sa kx nx sx p2 p7 p9 κ e1 e2) w0 95 (fun t => a0.tmps.getD t undef) i := upto_succ u5 (ca8_s5 ka na sa kx nx sx p2 p7 p9 κ e1 e2 hb2 hb7 hb9 hx2 hx7 hx9 hx8 hx10)
    have u7 : ∀ i, i < 7 → OpStep Tryz.prog ca8Ops Q (ca8F ka na sa kx nx sx p2 p7 p9 κ e1 e2) w0 95 (fun t => a0.tmps.getD t undef) i := upto_succ u6 (ca8_s6 ka na sa kx nx sx p2 p7 p9 κ e1 e2 hb2 hb7 hb9 hx2 hx7 hx9 hx8 hx10)
    have u8 : ∀ i, i < 8 → OpStep Tryz.prog ca8Ops Q (ca8F ka na sa kx nx sx p2 p7 p9 κ e1 e2) w0 95 (fun t => a0.tmps.getD t undef) i := upto_succ u7 (ca8_s7 ka na sa kx nx sx p2 p7 p9 κ e1 e2 hb2 hb7 hb9 hx2 hx7 hx9 hx8 hx10)
    have u9 : ∀ i, i < 9 → OpStep Tryz.prog ca8Ops Q (ca8F ka na sa kx nx sx p2 p7 p9 κ e1 e2) w0 95 (fun t => a0.tmps.getD t undef) i := upto_succ u8 (ca8_s8 ka na sa kx nx sx p2 p7 p9 κ e1 e2 hb2 hb7 hb9 hx2 hx7 hx9 hx8 hx10)
    have u10 : ∀ i, i < 10 → OpStep Tryz.prog ca8Ops Q (ca8F ka na sa kx nx sx p2 p7 p9 κ e1 e2) w0 95 (fun t => a0.tmps.getD t undef) i := upto_succ u9 (ca8_s9 ka na sa kx nx sx p2 p7 p9 κ e1 e2 hb2 hb7 hb9 hx2 hx7 hx9 hx8 hx10)
    have u11 : ∀ i, i < 11 → OpStep Tryz.prog ca8Ops Q (ca8F ka na sa kx nx sx p2 p7 p9 κ e1 e2) w0 95 (fun t => a0.tmps.getD t undef) i := upto_succ u10 (ca8_s10 ka na sa kx nx sx p2 p7 p9 κ e1 e2 hb2 hb7 hb9 hx2 hx7 hx9 hx8 hx10)
    have u12 : ∀ i, i < 12 → OpStep Tryz.prog ca8Ops Q (ca8F ka na sa kx nx sx p2 p7 p9 κ e1 e2) w0 95 (fun t => a0.tmps.getD t undef) i := upto_succ u11 (ca8_s11 ka na sa kx nx sx p2 p7 p9 κ e1 e2 hb2 hb7 hb9 hx2 hx7 hx9 hx8 hx10)
    have u13 : ∀ i, i < 13 → OpStep Tryz.prog ca8Ops Q (ca8F ka na sa kx nx sx p2 p7 p9 κ e1 e2) w0 95 (fun t => a0.tmps.getD t undef) i := upto_succ u12 (ca8_s12 ka na sa kx nx sx p2 p7 p9 κ e1 e2 hb2 hb7 hb9 hx2 hx7 hx9 hx8 hx10)
    have u14 : ∀ i, i < 14 → OpStep Tryz.prog ca8Ops Q (ca8F ka na sa kx nx sx p2 p7 p9 κ e1 e2) w0 95 (fun t => a0.tmps.getD t undef) i := upto_succ u13 (ca8_s13 ka na sa kx nx sx p2 p7 p9 κ e1 e2 hb2 hb7 hb9 hx2 hx7 hx9 hx8 hx10)
    have u15 : ∀ i, i < 15 → OpStep Tryz.prog ca8Ops Q (ca8F ka na sa kx nx sx p2 p7 p9 κ e1 e2) w0 95 (fun t => a0.tmps.getD t undef) i := upto_succ u14 (ca8_s14 ka na sa kx nx sx p2 p7 p9 κ e1 e2 hb2 hb7 hb9 hx2 hx7 hx9 hx8 hx10)
    have u16 : ∀ i, i < 16 → OpStep Tryz.prog ca8Ops Q (ca8F ka na sa kx nx sx p2 p7 p9 κ e1 e2) w0 95 (fun t => a0.tmps.getD t undef) i := upto_succ u15 (ca8_s15 ka na sa kx nx sx p2 p7 p9 κ e1 e2 hb2 hb7 hb9 hx2 hx7 hx9 hx8 hx10)
    have u17 : ∀ i, i < 17 → OpStep Tryz.prog ca8Ops Q (ca8F ka na sa kx nx sx p2 p7 p9 κ e1 e2) w0 95 (fun t => a0.tmps.getD t undef) i := upto_succ u16 (ca8_s16 ka na sa kx nx sx p2 p7 p9 κ e1 e2 hb2 hb7 hb9 hx2 hx7 hx9 hx8 hx10)
    have u18 : ∀ i, i < 18 → OpStep Tryz.prog ca8Ops Q (ca8F ka na sa kx nx sx p2 p7 p9 κ e1 e2) w0 95 (fun t => a0.tmps.getD t undef) i := upto_succ u17 (ca8_s17 ka na sa kx nx sx p2 p7 p9 κ e1 e2 hb2 hb7 hb9 hx2 hx7 hx9 hx8 hx10)
    have u19 : ∀ i, i < 19 → OpStep Tryz.prog ca8Ops Q (ca8F ka na sa kx nx sx p2 p7 p9 κ e1 e2) w0 95 (fun t => a0.tmps.getD t undef) i := upto_succ u18 (ca8_s18 ka na sa kx nx sx p2 p7 p9 κ e1 e2 hb2 hb7 hb9 hx2 hx7 hx9 hx8 hx10)
    have u20 : ∀ i, i < 20 → OpStep Tryz.prog ca8Ops Q (ca8F ka na sa kx nx sx p2 p7 p9 κ e1 e2) w0 95 (fun t => a0.tmps.getD t undef) i := upto_succ u19 (ca8_s19 ka na sa kx nx sx p2 p7 p9 κ e1 e2 hb2 hb7 hb9 hx2 hx7 hx9 hx8 hx10)
    exact u20
  · intro V X hb hV
    exact hend V X hb (hV 19 (of_decide_eq_true (by kernel_rfl)) (by kernel_rfl))
noncomputable def ca14Ops : Array Oper := regOf Tryz.f9 14
theorem ca14_fill {v0 v1 v2 v3 v4 v5 v6 v7 v8 v9 v10 v11 v12 v13 v14 v15 v16 v17 v18 v19 v20 v21 v22 v23 v24 v25 v26 v27 v28 v29 v30 v31 v32 v33 v34 v35 v36 v37 v38 v39 v40 v41 v42 v43 v44 v45 v46 v47 v48 v49 v50 v51 v52 v53 v54 v55 v56 v57 v58 v59 v60 v61 v62 v63 v64 v65 v66 v67 v68 v69 v70 v71 v72 v73 v74 v75 v76 v77 v78 v79 v80 v81 v82 v83 v84 v85 v86 v87 v88 v89 v90 v91 v92 v93 v94 : Value} (V : Nat → Value) : fillT ca14Ops #[v0, v1, v2, v3, v4, v5, v6, v7, v8, v9, v10, v11, v12, v13, v14, v15, v16, v17, v18, v19, v20, v21, v22, v23, v24, v25, v26, v27, v28, v29, v30, v31, v32, v33, v34, v35, v36, v37, v38, v39, v40, v41, v42, v43, v44, v45, v46, v47, v48, v49, v50, v51, v52, v53, v54, v55, v56, v57, v58, v59, v60, v61, v62, v63, v64, v65, v66, v67, v68, v69, v70, v71, v72, v73, v74, v75, v76, v77, v78, v79, v80, v81, v82, v83, v84, v85, v86, v87, v88, v89, v90, v91, v92, v93, v94] V = #[v0, v1, v2, v3, v4, v5, v6, v7, v8, v9, v10, v11, v12, v13, v14, v15, v16, v17, v18, v19, v20, v21, v22, v23, v24, v25, v26, v27, v28, v29, v30, v31, v32, v33, v34, v35, v36, v37, v38, v39, v40, v41, v42, v43, v44, v45, v46, v47, v48, v49, v50, v51, v52, v53, v54, v55, v56, v57, v58, v59, v60, v61, v62, v63, v64, v65, v66, v67, v68, v69, v70, v71, v72, V 0, V 1, V 2, V 3, V 4, V 5, V 6, V 7, V 8, V 9, v83, v84, v85, v86, v87, v88, v89, v90, v91, v92, v93, v94] := by
  kernel_rfl
def ca14L (ka na : Int) (sa t : ByteArray) (p2 p11 p13 : Nat) (c : BothIs ⟨#[43]⟩ 2 0 t 1 0 ⟨#[]⟩ 1 na ⟨#[]⟩) (q : Hid ((!sameV 1 na ⟨#[]⟩ ka na sa) = false)) : List (Value → World → Prop) := [IsV (vv 1 na ⟨#[]⟩), IsV (vv ka na sa), IsV (.bool false), IsV (.bool false), IsV (vv 2 0 t), IsV (vv 1 0 ⟨#[]⟩), IsV (vv 1 na ⟨#[]⟩), IsV (vv ka na sa), IsV (.bool false), IsV (.bool false)]
def ca14F (ka na : Int) (sa t : ByteArray) (p2 p11 p13 : Nat) (c : BothIs ⟨#[43]⟩ 2 0 t 1 0 ⟨#[]⟩ 1 na ⟨#[]⟩) (q : Hid ((!sameV 1 na ⟨#[]⟩ ka na sa) = false)) (i : Nat) : Value → World → Prop := (ca14L ka na sa t p2 p11 p13 c q).getD i AnyF
theorem ca14F_mono (ka na : Int) (sa t : ByteArray) (p2 p11 p13 : Nat) (c : BothIs ⟨#[43]⟩ 2 0 t 1 0 ⟨#[]⟩ 1 na ⟨#[]⟩) (q : Hid ((!sameV 1 na ⟨#[]⟩ ka na sa) = false)) (i : Nat) (v : Value) (w w' : World) (hp : (ca14F ka na sa t p2 p11 p13 c q) i v w) (hb : Below w.heap.size w w') : (ca14F ka na sa t p2 p11 p13 c q) i v w' := by
  refine monoL ?_ i v w w' hp hb
  unfold ca14L
  simp only [List.forall_mem_cons]
  exact ⟨mono_isV _, mono_isV _, mono_isV _, mono_isV _, mono_isV _, mono_isV _, mono_isV _, mono_isV _, mono_isV _, mono_isV _, fun _ h => by cases h⟩
theorem ca14_s0 {Q : Exit → Act → World → Prop} {w0 : World} {xs : Nat → Value} (ka na : Int) (sa t : ByteArray) (p2 p11 p13 : Nat) (c : BothIs ⟨#[43]⟩ 2 0 t 1 0 ⟨#[]⟩ 1 na ⟨#[]⟩) (q : Hid ((!sameV 1 na ⟨#[]⟩ ka na sa) = false)) (hb2 : BoxOn w0 p2 ka na sa) (hb11 : BoxOn w0 p11 2 0 t) (hb13 : BoxOn w0 p13 1 na ⟨#[]⟩) (hx2 : xs 2 = .pointer (some ⟨p2, 0, none⟩)) (hx11 : xs 11 = .pointer (some ⟨p11, 0, none⟩)) (hx13 : xs 13 = .pointer (some ⟨p13, 0, none⟩)) : OpStep Tryz.prog ca14Ops Q (ca14F ka na sa t p2 p11 p13 c q) w0 95 xs 0 := by
  intro act w hb hk hF
  have g13 : act.eval (.tmp 13) = .pointer (some ⟨p13, 0, none⟩) := (hk 13 (by decide) (by kernel_rfl)).trans hx13
  exact step_loadB (show opO ca14Ops 0 = some (.load 24 (.tmp 13)) by kernel_rfl) (.free (by kernel_rfl)) g13 (hb13 w hb) ⟨rfl, Below.refl _ _⟩

theorem ca14_s1 {Q : Exit → Act → World → Prop} {w0 : World} {xs : Nat → Value} (ka na : Int) (sa t : ByteArray) (p2 p11 p13 : Nat) (c : BothIs ⟨#[43]⟩ 2 0 t 1 0 ⟨#[]⟩ 1 na ⟨#[]⟩) (q : Hid ((!sameV 1 na ⟨#[]⟩ ka na sa) = false)) (hb2 : BoxOn w0 p2 ka na sa) (hb11 : BoxOn w0 p11 2 0 t) (hb13 : BoxOn w0 p13 1 na ⟨#[]⟩) (hx2 : xs 2 = .pointer (some ⟨p2, 0, none⟩)) (hx11 : xs 11 = .pointer (some ⟨p11, 0, none⟩)) (hx13 : xs 13 = .pointer (some ⟨p13, 0, none⟩)) : OpStep Tryz.prog ca14Ops Q (ca14F ka na sa t p2 p11 p13 c q) w0 95 xs 1 := by
  intro act w hb hk hF
  have g2 : act.eval (.tmp 2) = .pointer (some ⟨p2, 0, none⟩) := (hk 2 (by decide) (by kernel_rfl)).trans hx2
  exact step_loadB (show opO ca14Ops 1 = some (.load 24 (.tmp 2)) by kernel_rfl) (.free (by kernel_rfl)) g2 (hb2 w hb) ⟨rfl, Below.refl _ _⟩

theorem ca14_s2 {Q : Exit → Act → World → Prop} {w0 : World} {xs : Nat → Value} (ka na : Int) (sa t : ByteArray) (p2 p11 p13 : Nat) (c : BothIs ⟨#[43]⟩ 2 0 t 1 0 ⟨#[]⟩ 1 na ⟨#[]⟩) (q : Hid ((!sameV 1 na ⟨#[]⟩ ka na sa) = false)) (hb2 : BoxOn w0 p2 ka na sa) (hb11 : BoxOn w0 p11 2 0 t) (hb13 : BoxOn w0 p13 1 na ⟨#[]⟩) (hx2 : xs 2 = .pointer (some ⟨p2, 0, none⟩)) (hx11 : xs 11 = .pointer (some ⟨p11, 0, none⟩)) (hx13 : xs 13 = .pointer (some ⟨p13, 0, none⟩)) : OpStep Tryz.prog ca14Ops Q (ca14F ka na sa t p2 p11 p13 c q) w0 95 xs 2 := by
  intro act w hb hk hF
  have g73 : act.eval (.tmp 73) = vv 1 na ⟨#[]⟩ := hF 0 (of_decide_eq_true (by kernel_rfl)) 73 (by kernel_rfl)
  have g74 : act.eval (.tmp 74) = vv ka na sa := hF 1 (of_decide_eq_true (by kernel_rfl)) 74 (by kernel_rfl)
  exact step_neV (show opO ca14Ops 2 = some (.binOp .neq 24 (.tmp 73) (.tmp 74) 24) by kernel_rfl) (.free (by kernel_rfl)) g73 g74 q.out ⟨rfl, Below.refl _ _⟩

theorem ca14_s3 {Q : Exit → Act → World → Prop} {w0 : World} {xs : Nat → Value} (ka na : Int) (sa t : ByteArray) (p2 p11 p13 : Nat) (c : BothIs ⟨#[43]⟩ 2 0 t 1 0 ⟨#[]⟩ 1 na ⟨#[]⟩) (q : Hid ((!sameV 1 na ⟨#[]⟩ ka na sa) = false)) (hb2 : BoxOn w0 p2 ka na sa) (hb11 : BoxOn w0 p11 2 0 t) (hb13 : BoxOn w0 p13 1 na ⟨#[]⟩) (hx2 : xs 2 = .pointer (some ⟨p2, 0, none⟩)) (hx11 : xs 11 = .pointer (some ⟨p11, 0, none⟩)) (hx13 : xs 13 = .pointer (some ⟨p13, 0, none⟩)) : OpStep Tryz.prog ca14Ops Q (ca14F ka na sa t p2 p11 p13 c q) w0 95 xs 3 := by
  intro act w hb hk hF
  have g75 : act.eval (.tmp 75) = .bool false := hF 2 (of_decide_eq_true (by kernel_rfl)) 75 (by kernel_rfl)
  exact step_move (show opO ca14Ops 3 = some (.move (.tmp 75)) by kernel_rfl) (.free (by kernel_rfl)) g75 ⟨rfl, Below.refl _ _⟩

theorem ca14_s4 {Q : Exit → Act → World → Prop} {w0 : World} {xs : Nat → Value} (ka na : Int) (sa t : ByteArray) (p2 p11 p13 : Nat) (c : BothIs ⟨#[43]⟩ 2 0 t 1 0 ⟨#[]⟩ 1 na ⟨#[]⟩) (q : Hid ((!sameV 1 na ⟨#[]⟩ ka na sa) = false)) (hb2 : BoxOn w0 p2 ka na sa) (hb11 : BoxOn w0 p11 2 0 t) (hb13 : BoxOn w0 p13 1 na ⟨#[]⟩) (hx2 : xs 2 = .pointer (some ⟨p2, 0, none⟩)) (hx11 : xs 11 = .pointer (some ⟨p11, 0, none⟩)) (hx13 : xs 13 = .pointer (some ⟨p13, 0, none⟩)) : OpStep Tryz.prog ca14Ops Q (ca14F ka na sa t p2 p11 p13 c q) w0 95 xs 4 := by
  intro act w hb hk hF
  have g76 : act.eval (.tmp 76) = .bool false := hF 3 (of_decide_eq_true (by kernel_rfl)) 76 (by kernel_rfl)
  have g11 : act.eval (.tmp 11) = .pointer (some ⟨p11, 0, none⟩) := (hk 11 (by decide) (by kernel_rfl)).trans hx11
  exact step_loadB (show opO ca14Ops 4 = some (.load 24 (.tmp 11)) by kernel_rfl) (.told 3 false 76 (by kernel_rfl) (by kernel_rfl) g76) g11 (hb11 w hb) ⟨rfl, Below.refl _ _⟩

theorem ca14_s5 {Q : Exit → Act → World → Prop} {w0 : World} {xs : Nat → Value} (ka na : Int) (sa t : ByteArray) (p2 p11 p13 : Nat) (c : BothIs ⟨#[43]⟩ 2 0 t 1 0 ⟨#[]⟩ 1 na ⟨#[]⟩) (q : Hid ((!sameV 1 na ⟨#[]⟩ ka na sa) = false)) (hb2 : BoxOn w0 p2 ka na sa) (hb11 : BoxOn w0 p11 2 0 t) (hb13 : BoxOn w0 p13 1 na ⟨#[]⟩) (hx2 : xs 2 = .pointer (some ⟨p2, 0, none⟩)) (hx11 : xs 11 = .pointer (some ⟨p11, 0, none⟩)) (hx13 : xs 13 = .pointer (some ⟨p13, 0, none⟩)) : OpStep Tryz.prog ca14Ops Q (ca14F ka na sa t p2 p11 p13 c q) w0 95 xs 5 := by
  intro act w hb hk hF
  have g76 : act.eval (.tmp 76) = .bool false := hF 3 (of_decide_eq_true (by kernel_rfl)) 76 (by kernel_rfl)
  exact step_call (f := 15) (xs := #[.const (.int .i64 0)]) (by kernel_rfl) (.told 3 false 76 (by kernel_rfl) (by kernel_rfl) g76) (map1 rfl) (enters_of Tryz.func15 (by kernel_rfl) rfl) ((num_any 0 w).mono fun e w' h => ⟨_, h.1, rfl, h.2⟩)

theorem ca14_s6 {Q : Exit → Act → World → Prop} {w0 : World} {xs : Nat → Value} (ka na : Int) (sa t : ByteArray) (p2 p11 p13 : Nat) (c : BothIs ⟨#[43]⟩ 2 0 t 1 0 ⟨#[]⟩ 1 na ⟨#[]⟩) (q : Hid ((!sameV 1 na ⟨#[]⟩ ka na sa) = false)) (hb2 : BoxOn w0 p2 ka na sa) (hb11 : BoxOn w0 p11 2 0 t) (hb13 : BoxOn w0 p13 1 na ⟨#[]⟩) (hx2 : xs 2 = .pointer (some ⟨p2, 0, none⟩)) (hx11 : xs 11 = .pointer (some ⟨p11, 0, none⟩)) (hx13 : xs 13 = .pointer (some ⟨p13, 0, none⟩)) : OpStep Tryz.prog ca14Ops Q (ca14F ka na sa t p2 p11 p13 c q) w0 95 xs 6 := by
  intro act w hb hk hF
  have g76 : act.eval (.tmp 76) = .bool false := hF 3 (of_decide_eq_true (by kernel_rfl)) 76 (by kernel_rfl)
  have g77 : act.eval (.tmp 77) = vv 2 0 t := hF 4 (of_decide_eq_true (by kernel_rfl)) 77 (by kernel_rfl)
  have g78 : act.eval (.tmp 78) = vv 1 0 ⟨#[]⟩ := hF 5 (of_decide_eq_true (by kernel_rfl)) 78 (by kernel_rfl)
  exact step_call (f := 29) (xs := #[.const (.string ⟨#[43]⟩), .tmp 77, .tmp 78]) (by kernel_rfl) (.told 3 false 76 (by kernel_rfl) (by kernel_rfl) g76) (map3 rfl g77 g78) (enters_of Tryz.func29 (by kernel_rfl) rfl) ((c w).mono fun e w' h => ⟨_, h.1, rfl, h.2⟩)

theorem ca14_s7 {Q : Exit → Act → World → Prop} {w0 : World} {xs : Nat → Value} (ka na : Int) (sa t : ByteArray) (p2 p11 p13 : Nat) (c : BothIs ⟨#[43]⟩ 2 0 t 1 0 ⟨#[]⟩ 1 na ⟨#[]⟩) (q : Hid ((!sameV 1 na ⟨#[]⟩ ka na sa) = false)) (hb2 : BoxOn w0 p2 ka na sa) (hb11 : BoxOn w0 p11 2 0 t) (hb13 : BoxOn w0 p13 1 na ⟨#[]⟩) (hx2 : xs 2 = .pointer (some ⟨p2, 0, none⟩)) (hx11 : xs 11 = .pointer (some ⟨p11, 0, none⟩)) (hx13 : xs 13 = .pointer (some ⟨p13, 0, none⟩)) : OpStep Tryz.prog ca14Ops Q (ca14F ka na sa t p2 p11 p13 c q) w0 95 xs 7 := by
  intro act w hb hk hF
  have g76 : act.eval (.tmp 76) = .bool false := hF 3 (of_decide_eq_true (by kernel_rfl)) 76 (by kernel_rfl)
  have g2 : act.eval (.tmp 2) = .pointer (some ⟨p2, 0, none⟩) := (hk 2 (by decide) (by kernel_rfl)).trans hx2
  exact step_loadB (show opO ca14Ops 7 = some (.load 24 (.tmp 2)) by kernel_rfl) (.told 3 false 76 (by kernel_rfl) (by kernel_rfl) g76) g2 (hb2 w hb) ⟨rfl, Below.refl _ _⟩

theorem ca14_s8 {Q : Exit → Act → World → Prop} {w0 : World} {xs : Nat → Value} (ka na : Int) (sa t : ByteArray) (p2 p11 p13 : Nat) (c : BothIs ⟨#[43]⟩ 2 0 t 1 0 ⟨#[]⟩ 1 na ⟨#[]⟩) (q : Hid ((!sameV 1 na ⟨#[]⟩ ka na sa) = false)) (hb2 : BoxOn w0 p2 ka na sa) (hb11 : BoxOn w0 p11 2 0 t) (hb13 : BoxOn w0 p13 1 na ⟨#[]⟩) (hx2 : xs 2 = .pointer (some ⟨p2, 0, none⟩)) (hx11 : xs 11 = .pointer (some ⟨p11, 0, none⟩)) (hx13 : xs 13 = .pointer (some ⟨p13, 0, none⟩)) : OpStep Tryz.prog ca14Ops Q (ca14F ka na sa t p2 p11 p13 c q) w0 95 xs 8 := by
  intro act w hb hk hF
  have g76 : act.eval (.tmp 76) = .bool false := hF 3 (of_decide_eq_true (by kernel_rfl)) 76 (by kernel_rfl)
  have g79 : act.eval (.tmp 79) = vv 1 na ⟨#[]⟩ := hF 6 (of_decide_eq_true (by kernel_rfl)) 79 (by kernel_rfl)
  have g80 : act.eval (.tmp 80) = vv ka na sa := hF 7 (of_decide_eq_true (by kernel_rfl)) 80 (by kernel_rfl)
  exact step_neV (show opO ca14Ops 8 = some (.binOp .neq 24 (.tmp 79) (.tmp 80) 24) by kernel_rfl) (.told 3 false 76 (by kernel_rfl) (by kernel_rfl) g76) g79 g80 q.out ⟨rfl, Below.refl _ _⟩

theorem ca14_s9 {Q : Exit → Act → World → Prop} {w0 : World} {xs : Nat → Value} (ka na : Int) (sa t : ByteArray) (p2 p11 p13 : Nat) (c : BothIs ⟨#[43]⟩ 2 0 t 1 0 ⟨#[]⟩ 1 na ⟨#[]⟩) (q : Hid ((!sameV 1 na ⟨#[]⟩ ka na sa) = false)) (hb2 : BoxOn w0 p2 ka na sa) (hb11 : BoxOn w0 p11 2 0 t) (hb13 : BoxOn w0 p13 1 na ⟨#[]⟩) (hx2 : xs 2 = .pointer (some ⟨p2, 0, none⟩)) (hx11 : xs 11 = .pointer (some ⟨p11, 0, none⟩)) (hx13 : xs 13 = .pointer (some ⟨p13, 0, none⟩)) : OpStep Tryz.prog ca14Ops Q (ca14F ka na sa t p2 p11 p13 c q) w0 95 xs 9 := by
  intro act w hb hk hF
  have g76 : act.eval (.tmp 76) = .bool false := hF 3 (of_decide_eq_true (by kernel_rfl)) 76 (by kernel_rfl)
  have g81 : act.eval (.tmp 81) = .bool false := hF 8 (of_decide_eq_true (by kernel_rfl)) 81 (by kernel_rfl)
  exact step_pickF (show opO ca14Ops 9 = some (.pick (.tmp 76) (.const (.bool true)) (.tmp 81)) by kernel_rfl) (.free (by kernel_rfl)) g76 g81 ⟨rfl, Below.refl _ _⟩

theorem ca14 {bb : Bool} {Q : Exit → Act → World → Prop} {a0 : Act} {w0 : World} (ka na : Int) (sa t : ByteArray) (p2 p11 p13 : Nat) (c : BothIs ⟨#[43]⟩ 2 0 t 1 0 ⟨#[]⟩ 1 na ⟨#[]⟩) (q : Hid ((!sameV 1 na ⟨#[]⟩ ka na sa) = false)) (hb2 : BoxOn w0 p2 ka na sa) (hb11 : BoxOn w0 p11 2 0 t) (hb13 : BoxOn w0 p13 1 na ⟨#[]⟩) (hx2 : a0.tmps.getD 2 undef = .pointer (some ⟨p2, 0, none⟩)) (hx11 : a0.tmps.getD 11 undef = .pointer (some ⟨p11, 0, none⟩)) (hx13 : a0.tmps.getD 13 undef = .pointer (some ⟨p13, 0, none⟩)) (hs : a0.tmps.size = 95)
    (hend : ∀ (V : Nat → Value) (X : World), Below w0.heap.size w0 X → V 9 = .bool false → Q .normal ⟨fillT ca14Ops a0.tmps V, a0.defers⟩ X) : (Code.region 14 ca14Ops bb).wp Tryz.prog Q a0 w0 := by
  refine wp_region_both (by kernel_rfl) (ca14F ka na sa t p2 p11 p13 c q) (ca14F_mono ka na sa t p2 p11 p13 c q) (by rw [hs]; kernel_rfl) ?_ ?_
  · rw [hs]
    have size_is : ca14Ops.size = 10 := by kernel_rfl
    rw [size_is]
    have u1 : ∀ i, i < 1 → OpStep Tryz.prog ca14Ops Q (ca14F ka na sa t p2 p11 p13 c q) w0 95 (fun t => a0.tmps.getD t undef) i := upto_succ upto_zero (ca14_s0 ka na sa t p2 p11 p13 c q hb2 hb11 hb13 hx2 hx11 hx13)
    have u2 : ∀ i, i < 2 → OpStep Tryz.prog ca14Ops Q (ca14F ka na sa t p2 p11 p13 c q) w0 95 (fun t => a0.tmps.getD t undef) i := upto_succ u1 (ca14_s1 ka na sa t p2 p11 p13 c q hb2 hb11 hb13 hx2 hx11 hx13)
    have u3 : ∀ i, i < 3 → OpStep Tryz.prog ca14Ops Q (ca14F ka na sa t p2 p11 p13 c q) w0 95 (fun t => a0.tmps.getD t undef) i := upto_succ u2 (ca14_s2 ka na sa t p2 p11 p13 c q hb2 hb11 hb13 hx2 hx11 hx13)
    have u4 : ∀ i, i < 4 → OpStep Tryz.prog ca14Ops Q (ca14F ka na sa t p2 p11 p13 c q) w0 95 (fun t => a0.tmps.getD t undef) i := upto_succ u3 (ca14_s3 ka na sa t p2 p11 p13 c q hb2 hb11 hb13 hx2 hx11 hx13)
    have u5 : ∀ i, i < 5 → OpStep Tryz.prog ca14Ops Q (ca14F ka na sa t p2 p11 p13 c q) w0 95 (fun t => a0.tmps.getD t undef) i := upto_succ u4 (ca14_s4 ka na sa t p2 p11 p13 c q hb2 hb11 hb13 hx2 hx11 hx13)
    have u6 : ∀ i, i < 6 → OpStep Tryz.prog ca14Ops Q (ca14F ka na sa t p2 p11 p13 c q) w0 95 (fun t => a0.tmps.getD t undef) i := upto_succ u5 (ca14_s5 ka na sa t p2 p11 p13 c q hb2 hb11 hb13 hx2 hx11 hx13)
    have u7 : ∀ i, i < 7 → OpStep Tryz.prog ca14Ops Q (ca14F ka na sa t p2 p11 p13 c q) w0 95 (fun t => a0.tmps.getD t undef) i := upto_succ u6 (ca14_s6 ka na sa t p2 p11 p13 c q hb2 hb11 hb13 hx2 hx11 hx13)
    have u8 : ∀ i, i < 8 → OpStep Tryz.prog ca14Ops Q (ca14F ka na sa t p2 p11 p13 c q) w0 95 (fun t => a0.tmps.getD t undef) i := upto_succ u7 (ca14_s7 ka na sa t p2 p11 p13 c q hb2 hb11 hb13 hx2 hx11 hx13)
    have u9 : ∀ i, i < 9 → OpStep Tryz.prog ca14Ops Q (ca14F ka na sa t p2 p11 p13 c q) w0 95 (fun t => a0.tmps.getD t undef) i := upto_succ u8 (ca14_s8 ka na sa t p2 p11 p13 c q hb2 hb11 hb13 hx2 hx11 hx13)
    have u10 : ∀ i, i < 10 → OpStep Tryz.prog ca14Ops Q (ca14F ka na sa t p2 p11 p13 c q) w0 95 (fun t => a0.tmps.getD t undef) i := upto_succ u9 (ca14_s9 ka na sa t p2 p11 p13 c q hb2 hb11 hb13 hx2 hx11 hx13)
    exact u10
  · intro V X hb hV
    exact hend V X hb (hV 9 (of_decide_eq_true (by kernel_rfl)) (by kernel_rfl))
noncomputable def ca16Ops : Array Oper := regOf Tryz.f9 16
theorem ca16_fill {v0 v1 v2 v3 v4 v5 v6 v7 v8 v9 v10 v11 v12 v13 v14 v15 v16 v17 v18 v19 v20 v21 v22 v23 v24 v25 v26 v27 v28 v29 v30 v31 v32 v33 v34 v35 v36 v37 v38 v39 v40 v41 v42 v43 v44 v45 v46 v47 v48 v49 v50 v51 v52 v53 v54 v55 v56 v57 v58 v59 v60 v61 v62 v63 v64 v65 v66 v67 v68 v69 v70 v71 v72 v73 v74 v75 v76 v77 v78 v79 v80 v81 v82 v83 v84 v85 v86 v87 v88 v89 v90 v91 v92 v93 v94 : Value} (V : Nat → Value) : fillT ca16Ops #[v0, v1, v2, v3, v4, v5, v6, v7, v8, v9, v10, v11, v12, v13, v14, v15, v16, v17, v18, v19, v20, v21, v22, v23, v24, v25, v26, v27, v28, v29, v30, v31, v32, v33, v34, v35, v36, v37, v38, v39, v40, v41, v42, v43, v44, v45, v46, v47, v48, v49, v50, v51, v52, v53, v54, v55, v56, v57, v58, v59, v60, v61, v62, v63, v64, v65, v66, v67, v68, v69, v70, v71, v72, v73, v74, v75, v76, v77, v78, v79, v80, v81, v82, v83, v84, v85, v86, v87, v88, v89, v90, v91, v92, v93, v94] V = #[v0, v1, v2, v3, V 12, v5, v6, v7, v8, v9, v10, v11, v12, v13, v14, v15, v16, v17, v18, v19, v20, v21, v22, v23, v24, v25, v26, v27, v28, v29, v30, v31, v32, v33, v34, v35, v36, v37, v38, v39, v40, v41, v42, v43, v44, v45, v46, v47, v48, v49, v50, v51, v52, v53, v54, v55, v56, v57, v58, v59, v60, v61, v62, v63, v64, v65, v66, v67, v68, v69, v70, v71, v72, v73, v74, v75, v76, v77, v78, v79, v80, v81, v82, V 0, V 1, V 2, V 3, V 4, V 5, V 6, V 7, V 8, V 9, V 10, V 11] := by
  kernel_rfl
def ca16L (ka na : Int) (sa : ByteArray) (kb nb : Int) (sb x y : ByteArray) (p2 p3 : Nat) (ε : Bool) (e1 : Hid ((x.toList == y.toList) = ε)) (e2 : Hid (sameV ka na sa kb nb sb = ε)) : List (Value → World → Prop) := [IsV (vv ka na sa), IsV (.string x), IsV (vv kb nb sb), IsV (.string y), IsV (cond ε (.bool true) (.bool false)), IsV (vv ka na sa), IsV (vv kb nb sb), IsV (cond ε (.bool true) (.bool false)), IsV (.bool true), IsV (.bool true), IsV (.bool true), IsV (.bool true), IsV (.bool true)]
def ca16F (ka na : Int) (sa : ByteArray) (kb nb : Int) (sb x y : ByteArray) (p2 p3 : Nat) (ε : Bool) (e1 : Hid ((x.toList == y.toList) = ε)) (e2 : Hid (sameV ka na sa kb nb sb = ε)) (i : Nat) : Value → World → Prop := (ca16L ka na sa kb nb sb x y p2 p3 ε e1 e2).getD i AnyF
theorem ca16F_mono (ka na : Int) (sa : ByteArray) (kb nb : Int) (sb x y : ByteArray) (p2 p3 : Nat) (ε : Bool) (e1 : Hid ((x.toList == y.toList) = ε)) (e2 : Hid (sameV ka na sa kb nb sb = ε)) (i : Nat) (v : Value) (w w' : World) (hp : (ca16F ka na sa kb nb sb x y p2 p3 ε e1 e2) i v w) (hb : Below w.heap.size w w') : (ca16F ka na sa kb nb sb x y p2 p3 ε e1 e2) i v w' := by
  refine monoL ?_ i v w w' hp hb
  unfold ca16L
  simp only [List.forall_mem_cons]
  exact ⟨mono_isV _, mono_isV _, mono_isV _, mono_isV _, mono_isV _, mono_isV _, mono_isV _, mono_isV _, mono_isV _, mono_isV _, mono_isV _, mono_isV _, mono_isV _, fun _ h => by cases h⟩
theorem ca16_s0 {Q : Exit → Act → World → Prop} {w0 : World} {xs : Nat → Value} (ka na : Int) (sa : ByteArray) (kb nb : Int) (sb x y : ByteArray) (p2 p3 : Nat) (ε : Bool) (e1 : Hid ((x.toList == y.toList) = ε)) (e2 : Hid (sameV ka na sa kb nb sb = ε)) (hb2 : BoxOn w0 p2 ka na sa) (hb3 : BoxOn w0 p3 kb nb sb) (aw : AwIs w0) (s1 : ShowOn w0 ka na sa x) (s2 : ShowOn w0 kb nb sb y) (hx2 : xs 2 = .pointer (some ⟨p2, 0, none⟩)) (hx3 : xs 3 = .pointer (some ⟨p3, 0, none⟩)) : OpStep Tryz.prog ca16Ops Q (ca16F ka na sa kb nb sb x y p2 p3 ε e1 e2) w0 95 xs 0 := by
  intro act w hb hk hF
  have g2 : act.eval (.tmp 2) = .pointer (some ⟨p2, 0, none⟩) := (hk 2 (by decide) (by kernel_rfl)).trans hx2
  exact step_loadB (show opO ca16Ops 0 = some (.load 24 (.tmp 2)) by kernel_rfl) (.free (by kernel_rfl)) g2 (hb2 w hb) ⟨rfl, Below.refl _ _⟩

theorem ca16_s1 {Q : Exit → Act → World → Prop} {w0 : World} {xs : Nat → Value} (ka na : Int) (sa : ByteArray) (kb nb : Int) (sb x y : ByteArray) (p2 p3 : Nat) (ε : Bool) (e1 : Hid ((x.toList == y.toList) = ε)) (e2 : Hid (sameV ka na sa kb nb sb = ε)) (hb2 : BoxOn w0 p2 ka na sa) (hb3 : BoxOn w0 p3 kb nb sb) (aw : AwIs w0) (s1 : ShowOn w0 ka na sa x) (s2 : ShowOn w0 kb nb sb y) (hx2 : xs 2 = .pointer (some ⟨p2, 0, none⟩)) (hx3 : xs 3 = .pointer (some ⟨p3, 0, none⟩)) : OpStep Tryz.prog ca16Ops Q (ca16F ka na sa kb nb sb x y p2 p3 ε e1 e2) w0 95 xs 1 := by
  intro act w hb hk hF
  have g83 : act.eval (.tmp 83) = vv ka na sa := hF 0 (of_decide_eq_true (by kernel_rfl)) 83 (by kernel_rfl)
  exact step_call (f := 37) (xs := #[.tmp 83]) (by kernel_rfl) (.free (by kernel_rfl)) (map1 g83) (enters_of Tryz.func37 (by kernel_rfl) rfl) ((s1 w hb).mono fun e w' h => ⟨_, h.1, rfl, h.2⟩)

theorem ca16_s2 {Q : Exit → Act → World → Prop} {w0 : World} {xs : Nat → Value} (ka na : Int) (sa : ByteArray) (kb nb : Int) (sb x y : ByteArray) (p2 p3 : Nat) (ε : Bool) (e1 : Hid ((x.toList == y.toList) = ε)) (e2 : Hid (sameV ka na sa kb nb sb = ε)) (hb2 : BoxOn w0 p2 ka na sa) (hb3 : BoxOn w0 p3 kb nb sb) (aw : AwIs w0) (s1 : ShowOn w0 ka na sa x) (s2 : ShowOn w0 kb nb sb y) (hx2 : xs 2 = .pointer (some ⟨p2, 0, none⟩)) (hx3 : xs 3 = .pointer (some ⟨p3, 0, none⟩)) : OpStep Tryz.prog ca16Ops Q (ca16F ka na sa kb nb sb x y p2 p3 ε e1 e2) w0 95 xs 2 := by
  intro act w hb hk hF
  have g3 : act.eval (.tmp 3) = .pointer (some ⟨p3, 0, none⟩) := (hk 3 (by decide) (by kernel_rfl)).trans hx3
  exact step_loadB (show opO ca16Ops 2 = some (.load 24 (.tmp 3)) by kernel_rfl) (.free (by kernel_rfl)) g3 (hb3 w hb) ⟨rfl, Below.refl _ _⟩

theorem ca16_s3 {Q : Exit → Act → World → Prop} {w0 : World} {xs : Nat → Value} (ka na : Int) (sa : ByteArray) (kb nb : Int) (sb x y : ByteArray) (p2 p3 : Nat) (ε : Bool) (e1 : Hid ((x.toList == y.toList) = ε)) (e2 : Hid (sameV ka na sa kb nb sb = ε)) (hb2 : BoxOn w0 p2 ka na sa) (hb3 : BoxOn w0 p3 kb nb sb) (aw : AwIs w0) (s1 : ShowOn w0 ka na sa x) (s2 : ShowOn w0 kb nb sb y) (hx2 : xs 2 = .pointer (some ⟨p2, 0, none⟩)) (hx3 : xs 3 = .pointer (some ⟨p3, 0, none⟩)) : OpStep Tryz.prog ca16Ops Q (ca16F ka na sa kb nb sb x y p2 p3 ε e1 e2) w0 95 xs 3 := by
  intro act w hb hk hF
  have g85 : act.eval (.tmp 85) = vv kb nb sb := hF 2 (of_decide_eq_true (by kernel_rfl)) 85 (by kernel_rfl)
  exact step_call (f := 37) (xs := #[.tmp 85]) (by kernel_rfl) (.free (by kernel_rfl)) (map1 g85) (enters_of Tryz.func37 (by kernel_rfl) rfl) ((s2 w hb).mono fun e w' h => ⟨_, h.1, rfl, h.2⟩)

theorem ca16_s4 {Q : Exit → Act → World → Prop} {w0 : World} {xs : Nat → Value} (ka na : Int) (sa : ByteArray) (kb nb : Int) (sb x y : ByteArray) (p2 p3 : Nat) (ε : Bool) (e1 : Hid ((x.toList == y.toList) = ε)) (e2 : Hid (sameV ka na sa kb nb sb = ε)) (hb2 : BoxOn w0 p2 ka na sa) (hb3 : BoxOn w0 p3 kb nb sb) (aw : AwIs w0) (s1 : ShowOn w0 ka na sa x) (s2 : ShowOn w0 kb nb sb y) (hx2 : xs 2 = .pointer (some ⟨p2, 0, none⟩)) (hx3 : xs 3 = .pointer (some ⟨p3, 0, none⟩)) : OpStep Tryz.prog ca16Ops Q (ca16F ka na sa kb nb sb x y p2 p3 ε e1 e2) w0 95 xs 4 := by
  intro act w hb hk hF
  have g84 : act.eval (.tmp 84) = .string x := hF 1 (of_decide_eq_true (by kernel_rfl)) 84 (by kernel_rfl)
  have g86 : act.eval (.tmp 86) = .string y := hF 3 (of_decide_eq_true (by kernel_rfl)) 86 (by kernel_rfl)
  cases ε
  · exact step_eqS (show opO ca16Ops 4 = some (.binOp .eql 9 (.tmp 84) (.tmp 86) 9) by kernel_rfl) (.free (by kernel_rfl)) g84 g86 e1.out ⟨rfl, Below.refl _ _⟩
  · exact step_eqS (show opO ca16Ops 4 = some (.binOp .eql 9 (.tmp 84) (.tmp 86) 9) by kernel_rfl) (.free (by kernel_rfl)) g84 g86 e1.out ⟨rfl, Below.refl _ _⟩

theorem ca16_s5 {Q : Exit → Act → World → Prop} {w0 : World} {xs : Nat → Value} (ka na : Int) (sa : ByteArray) (kb nb : Int) (sb x y : ByteArray) (p2 p3 : Nat) (ε : Bool) (e1 : Hid ((x.toList == y.toList) = ε)) (e2 : Hid (sameV ka na sa kb nb sb = ε)) (hb2 : BoxOn w0 p2 ka na sa) (hb3 : BoxOn w0 p3 kb nb sb) (aw : AwIs w0) (s1 : ShowOn w0 ka na sa x) (s2 : ShowOn w0 kb nb sb y) (hx2 : xs 2 = .pointer (some ⟨p2, 0, none⟩)) (hx3 : xs 3 = .pointer (some ⟨p3, 0, none⟩)) : OpStep Tryz.prog ca16Ops Q (ca16F ka na sa kb nb sb x y p2 p3 ε e1 e2) w0 95 xs 5 := by
  intro act w hb hk hF
  have g2 : act.eval (.tmp 2) = .pointer (some ⟨p2, 0, none⟩) := (hk 2 (by decide) (by kernel_rfl)).trans hx2
  exact step_loadB (show opO ca16Ops 5 = some (.load 24 (.tmp 2)) by kernel_rfl) (.free (by kernel_rfl)) g2 (hb2 w hb) ⟨rfl, Below.refl _ _⟩

theorem ca16_s6 {Q : Exit → Act → World → Prop} {w0 : World} {xs : Nat → Value} (ka na : Int) (sa : ByteArray) (kb nb : Int) (sb x y : ByteArray) (p2 p3 : Nat) (ε : Bool) (e1 : Hid ((x.toList == y.toList) = ε)) (e2 : Hid (sameV ka na sa kb nb sb = ε)) (hb2 : BoxOn w0 p2 ka na sa) (hb3 : BoxOn w0 p3 kb nb sb) (aw : AwIs w0) (s1 : ShowOn w0 ka na sa x) (s2 : ShowOn w0 kb nb sb y) (hx2 : xs 2 = .pointer (some ⟨p2, 0, none⟩)) (hx3 : xs 3 = .pointer (some ⟨p3, 0, none⟩)) : OpStep Tryz.prog ca16Ops Q (ca16F ka na sa kb nb sb x y p2 p3 ε e1 e2) w0 95 xs 6 := by
  intro act w hb hk hF
  have g3 : act.eval (.tmp 3) = .pointer (some ⟨p3, 0, none⟩) := (hk 3 (by decide) (by kernel_rfl)).trans hx3
  exact step_loadB (show opO ca16Ops 6 = some (.load 24 (.tmp 3)) by kernel_rfl) (.free (by kernel_rfl)) g3 (hb3 w hb) ⟨rfl, Below.refl _ _⟩

theorem ca16_s7 {Q : Exit → Act → World → Prop} {w0 : World} {xs : Nat → Value} (ka na : Int) (sa : ByteArray) (kb nb : Int) (sb x y : ByteArray) (p2 p3 : Nat) (ε : Bool) (e1 : Hid ((x.toList == y.toList) = ε)) (e2 : Hid (sameV ka na sa kb nb sb = ε)) (hb2 : BoxOn w0 p2 ka na sa) (hb3 : BoxOn w0 p3 kb nb sb) (aw : AwIs w0) (s1 : ShowOn w0 ka na sa x) (s2 : ShowOn w0 kb nb sb y) (hx2 : xs 2 = .pointer (some ⟨p2, 0, none⟩)) (hx3 : xs 3 = .pointer (some ⟨p3, 0, none⟩)) : OpStep Tryz.prog ca16Ops Q (ca16F ka na sa kb nb sb x y p2 p3 ε e1 e2) w0 95 xs 7 := by
  intro act w hb hk hF
  have g88 : act.eval (.tmp 88) = vv ka na sa := hF 5 (of_decide_eq_true (by kernel_rfl)) 88 (by kernel_rfl)
  have g89 : act.eval (.tmp 89) = vv kb nb sb := hF 6 (of_decide_eq_true (by kernel_rfl)) 89 (by kernel_rfl)
  cases ε
  · exact step_eqV (show opO ca16Ops 7 = some (.binOp .eql 24 (.tmp 88) (.tmp 89) 24) by kernel_rfl) (.free (by kernel_rfl)) g88 g89 e2.out ⟨rfl, Below.refl _ _⟩
  · exact step_eqV (show opO ca16Ops 7 = some (.binOp .eql 24 (.tmp 88) (.tmp 89) 24) by kernel_rfl) (.free (by kernel_rfl)) g88 g89 e2.out ⟨rfl, Below.refl _ _⟩

theorem ca16_s8 {Q : Exit → Act → World → Prop} {w0 : World} {xs : Nat → Value} (ka na : Int) (sa : ByteArray) (kb nb : Int) (sb x y : ByteArray) (p2 p3 : Nat) (ε : Bool) (e1 : Hid ((x.toList == y.toList) = ε)) (e2 : Hid (sameV ka na sa kb nb sb = ε)) (hb2 : BoxOn w0 p2 ka na sa) (hb3 : BoxOn w0 p3 kb nb sb) (aw : AwIs w0) (s1 : ShowOn w0 ka na sa x) (s2 : ShowOn w0 kb nb sb y) (hx2 : xs 2 = .pointer (some ⟨p2, 0, none⟩)) (hx3 : xs 3 = .pointer (some ⟨p3, 0, none⟩)) : OpStep Tryz.prog ca16Ops Q (ca16F ka na sa kb nb sb x y p2 p3 ε e1 e2) w0 95 xs 8 := by
  intro act w hb hk hF
  have g87 : act.eval (.tmp 87) = cond ε (.bool true) (.bool false) := hF 4 (of_decide_eq_true (by kernel_rfl)) 87 (by kernel_rfl)
  have g90 : act.eval (.tmp 90) = cond ε (.bool true) (.bool false) := hF 7 (of_decide_eq_true (by kernel_rfl)) 90 (by kernel_rfl)
  cases ε
  · exact step_eqB (show opO ca16Ops 8 = some (.binOp .eql 4 (.tmp 87) (.tmp 90) 4) by kernel_rfl) (.free (by kernel_rfl)) g87 g90 rfl ⟨rfl, Below.refl _ _⟩
  · exact step_eqB (show opO ca16Ops 8 = some (.binOp .eql 4 (.tmp 87) (.tmp 90) 4) by kernel_rfl) (.free (by kernel_rfl)) g87 g90 rfl ⟨rfl, Below.refl _ _⟩

theorem ca16_s9 {Q : Exit → Act → World → Prop} {w0 : World} {xs : Nat → Value} (ka na : Int) (sa : ByteArray) (kb nb : Int) (sb x y : ByteArray) (p2 p3 : Nat) (ε : Bool) (e1 : Hid ((x.toList == y.toList) = ε)) (e2 : Hid (sameV ka na sa kb nb sb = ε)) (hb2 : BoxOn w0 p2 ka na sa) (hb3 : BoxOn w0 p3 kb nb sb) (aw : AwIs w0) (s1 : ShowOn w0 ka na sa x) (s2 : ShowOn w0 kb nb sb y) (hx2 : xs 2 = .pointer (some ⟨p2, 0, none⟩)) (hx3 : xs 3 = .pointer (some ⟨p3, 0, none⟩)) : OpStep Tryz.prog ca16Ops Q (ca16F ka na sa kb nb sb x y p2 p3 ε e1 e2) w0 95 xs 9 := by
  intro act w hb hk hF
  have g91 : act.eval (.tmp 91) = .bool true := hF 8 (of_decide_eq_true (by kernel_rfl)) 91 (by kernel_rfl)
  exact step_move (show opO ca16Ops 9 = some (.move (.tmp 91)) by kernel_rfl) (.free (by kernel_rfl)) g91 ⟨rfl, Below.refl _ _⟩

theorem ca16_s10 {Q : Exit → Act → World → Prop} {w0 : World} {xs : Nat → Value} (ka na : Int) (sa : ByteArray) (kb nb : Int) (sb x y : ByteArray) (p2 p3 : Nat) (ε : Bool) (e1 : Hid ((x.toList == y.toList) = ε)) (e2 : Hid (sameV ka na sa kb nb sb = ε)) (hb2 : BoxOn w0 p2 ka na sa) (hb3 : BoxOn w0 p3 kb nb sb) (aw : AwIs w0) (s1 : ShowOn w0 ka na sa x) (s2 : ShowOn w0 kb nb sb y) (hx2 : xs 2 = .pointer (some ⟨p2, 0, none⟩)) (hx3 : xs 3 = .pointer (some ⟨p3, 0, none⟩)) : OpStep Tryz.prog ca16Ops Q (ca16F ka na sa kb nb sb x y p2 p3 ε e1 e2) w0 95 xs 10 := by
  intro act w hb hk hF
  have g92 : act.eval (.tmp 92) = .bool true := hF 9 (of_decide_eq_true (by kernel_rfl)) 92 (by kernel_rfl)
  exact step_call (f := 26) (xs := #[]) (by kernel_rfl) (.told 9 true 92 (by kernel_rfl) (by kernel_rfl) g92) (map0 _) (enters_of Tryz.func26 (by kernel_rfl) rfl) ((aw w hb).mono fun e w' h => ⟨_, h.1, rfl, h.2⟩)

theorem ca16_s11 {Q : Exit → Act → World → Prop} {w0 : World} {xs : Nat → Value} (ka na : Int) (sa : ByteArray) (kb nb : Int) (sb x y : ByteArray) (p2 p3 : Nat) (ε : Bool) (e1 : Hid ((x.toList == y.toList) = ε)) (e2 : Hid (sameV ka na sa kb nb sb = ε)) (hb2 : BoxOn w0 p2 ka na sa) (hb3 : BoxOn w0 p3 kb nb sb) (aw : AwIs w0) (s1 : ShowOn w0 ka na sa x) (s2 : ShowOn w0 kb nb sb y) (hx2 : xs 2 = .pointer (some ⟨p2, 0, none⟩)) (hx3 : xs 3 = .pointer (some ⟨p3, 0, none⟩)) : OpStep Tryz.prog ca16Ops Q (ca16F ka na sa kb nb sb x y p2 p3 ε e1 e2) w0 95 xs 11 := by
  intro act w hb hk hF
  have g92 : act.eval (.tmp 92) = .bool true := hF 9 (of_decide_eq_true (by kernel_rfl)) 92 (by kernel_rfl)
  have g93 : act.eval (.tmp 93) = .bool true := hF 10 (of_decide_eq_true (by kernel_rfl)) 93 (by kernel_rfl)
  exact step_pickT (show opO ca16Ops 11 = some (.pick (.tmp 92) (.tmp 93) (.const (.bool false))) by kernel_rfl) (.free (by kernel_rfl)) g92 g93 ⟨rfl, Below.refl _ _⟩

theorem ca16_s12 {Q : Exit → Act → World → Prop} {w0 : World} {xs : Nat → Value} (ka na : Int) (sa : ByteArray) (kb nb : Int) (sb x y : ByteArray) (p2 p3 : Nat) (ε : Bool) (e1 : Hid ((x.toList == y.toList) = ε)) (e2 : Hid (sameV ka na sa kb nb sb = ε)) (hb2 : BoxOn w0 p2 ka na sa) (hb3 : BoxOn w0 p3 kb nb sb) (aw : AwIs w0) (s1 : ShowOn w0 ka na sa x) (s2 : ShowOn w0 kb nb sb y) (hx2 : xs 2 = .pointer (some ⟨p2, 0, none⟩)) (hx3 : xs 3 = .pointer (some ⟨p3, 0, none⟩)) : OpStep Tryz.prog ca16Ops Q (ca16F ka na sa kb nb sb x y p2 p3 ε e1 e2) w0 95 xs 12 := by
  intro act w hb hk hF
  have g94 : act.eval (.tmp 94) = .bool true := hF 11 (of_decide_eq_true (by kernel_rfl)) 94 (by kernel_rfl)
  exact step_assign (show opO ca16Ops 12 = some (.assign (.tmp 94)) by kernel_rfl) (.free (by kernel_rfl)) g94 ⟨rfl, Below.refl _ _⟩

theorem ca16 {bb : Bool} {Q : Exit → Act → World → Prop} {a0 : Act} {w0 : World} (ka na : Int) (sa : ByteArray) (kb nb : Int) (sb x y : ByteArray) (p2 p3 : Nat) (ε : Bool) (e1 : Hid ((x.toList == y.toList) = ε)) (e2 : Hid (sameV ka na sa kb nb sb = ε)) (hb2 : BoxOn w0 p2 ka na sa) (hb3 : BoxOn w0 p3 kb nb sb) (aw : AwIs w0) (s1 : ShowOn w0 ka na sa x) (s2 : ShowOn w0 kb nb sb y) (hx2 : a0.tmps.getD 2 undef = .pointer (some ⟨p2, 0, none⟩)) (hx3 : a0.tmps.getD 3 undef = .pointer (some ⟨p3, 0, none⟩)) (hs : a0.tmps.size = 95)
    (hend : ∀ (V : Nat → Value) (X : World), Below w0.heap.size w0 X → V 12 = .bool true → Q .normal ⟨fillT ca16Ops a0.tmps V, a0.defers⟩ X) : (Code.region 16 ca16Ops bb).wp Tryz.prog Q a0 w0 := by
  refine wp_region_both (by kernel_rfl) (ca16F ka na sa kb nb sb x y p2 p3 ε e1 e2) (ca16F_mono ka na sa kb nb sb x y p2 p3 ε e1 e2) (by rw [hs]; kernel_rfl) ?_ ?_
  · rw [hs]
    have size_is : ca16Ops.size = 13 := by kernel_rfl
    rw [size_is]
    have u1 : ∀ i, i < 1 → OpStep Tryz.prog ca16Ops Q (ca16F ka na sa kb nb sb x y p2 p3 ε e1 e2) w0 95 (fun t => a0.tmps.getD t undef) i := upto_succ upto_zero (ca16_s0 ka na sa kb nb sb x y p2 p3 ε e1 e2 hb2 hb3 aw s1 s2 hx2 hx3)
    have u2 : ∀ i, i < 2 → OpStep Tryz.prog ca16Ops Q (ca16F ka na sa kb nb sb x y p2 p3 ε e1 e2) w0 95 (fun t => a0.tmps.getD t undef) i := upto_succ u1 (ca16_s1 ka na sa kb nb sb x y p2 p3 ε e1 e2 hb2 hb3 aw s1 s2 hx2 hx3)
    have u3 : ∀ i, i < 3 → OpStep Tryz.prog ca16Ops Q (ca16F ka na sa kb nb sb x y p2 p3 ε e1 e2) w0 95 (fun t => a0.tmps.getD t undef) i := upto_succ u2 (ca16_s2 ka na sa kb nb sb x y p2 p3 ε e1 e2 hb2 hb3 aw s1 s2 hx2 hx3)
    have u4 : ∀ i, i < 4 → OpStep Tryz.prog ca16Ops Q (ca16F ka na sa kb nb sb x y p2 p3 ε e1 e2) w0 95 (fun t => a0.tmps.getD t undef) i := upto_succ u3 (ca16_s3 ka na sa kb nb sb x y p2 p3 ε e1 e2 hb2 hb3 aw s1 s2 hx2 hx3)
    have u5 : ∀ i, i < 5 → OpStep Tryz.prog ca16Ops Q (ca16F ka na sa kb nb sb x y p2 p3 ε e1 e2) w0 95 (fun t => a0.tmps.getD t undef) i := upto_succ u4 (ca16_s4 ka na sa kb nb sb x y p2 p3 ε e1 e2 hb2 hb3 aw s1 s2 hx2 hx3)
    have u6 : ∀ i, i < 6 → OpStep Tryz.prog ca16Ops Q (ca16F ka na sa kb nb sb x y p2 p3 ε e1 e2) w0 95 (fun t => a0.tmps.getD t undef) i := upto_succ u5 (ca16_s5 ka na sa kb nb sb x y p2 p3 ε e1 e2 hb2 hb3 aw s1 s2 hx2 hx3)
    have u7 : ∀ i, i < 7 → OpStep Tryz.prog ca16Ops Q (ca16F ka na sa kb nb sb x y p2 p3 ε e1 e2) w0 95 (fun t => a0.tmps.getD t undef) i := upto_succ u6 (ca16_s6 ka na sa kb nb sb x y p2 p3 ε e1 e2 hb2 hb3 aw s1 s2 hx2 hx3)
    have u8 : ∀ i, i < 8 → OpStep Tryz.prog ca16Ops Q (ca16F ka na sa kb nb sb x y p2 p3 ε e1 e2) w0 95 (fun t => a0.tmps.getD t undef) i := upto_succ u7 (ca16_s7 ka na sa kb nb sb x y p2 p3 ε e1 e2 hb2 hb3 aw s1 s2 hx2 hx3)
    have u9 : ∀ i, i < 9 → OpStep Tryz.prog ca16Ops Q (ca16F ka na sa kb nb sb x y p2 p3 ε e1 e2) w0 95 (fun t => a0.tmps.getD t undef) i := upto_succ u8 (ca16_s8 ka na sa kb nb sb x y p2 p3 ε e1 e2 hb2 hb3 aw s1 s2 hx2 hx3)
    have u10 : ∀ i, i < 10 → OpStep Tryz.prog ca16Ops Q (ca16F ka na sa kb nb sb x y p2 p3 ε e1 e2) w0 95 (fun t => a0.tmps.getD t undef) i := upto_succ u9 (ca16_s9 ka na sa kb nb sb x y p2 p3 ε e1 e2 hb2 hb3 aw s1 s2 hx2 hx3)
    have u11 : ∀ i, i < 11 → OpStep Tryz.prog ca16Ops Q (ca16F ka na sa kb nb sb x y p2 p3 ε e1 e2) w0 95 (fun t => a0.tmps.getD t undef) i := upto_succ u10 (ca16_s10 ka na sa kb nb sb x y p2 p3 ε e1 e2 hb2 hb3 aw s1 s2 hx2 hx3)
    have u12 : ∀ i, i < 12 → OpStep Tryz.prog ca16Ops Q (ca16F ka na sa kb nb sb x y p2 p3 ε e1 e2) w0 95 (fun t => a0.tmps.getD t undef) i := upto_succ u11 (ca16_s11 ka na sa kb nb sb x y p2 p3 ε e1 e2 hb2 hb3 aw s1 s2 hx2 hx3)
    have u13 : ∀ i, i < 13 → OpStep Tryz.prog ca16Ops Q (ca16F ka na sa kb nb sb x y p2 p3 ε e1 e2) w0 95 (fun t => a0.tmps.getD t undef) i := upto_succ u12 (ca16_s12 ka na sa kb nb sb x y p2 p3 ε e1 e2 hb2 hb3 aw s1 s2 hx2 hx3)
    exact u13
  · intro V X hb hV
    exact hend V X hb (hV 12 (of_decide_eq_true (by kernel_rfl)) (by kernel_rfl))
end Go.Proofs.YtaidipdofomgoaaGreatDoor
