/-
  Layer 13, eval: the statements' helper awake. Conditions: the library's variables are as its text lays them.
-/
import Derived.Test.YteijijoiifbjlaaGreatDoorEAwR
namespace Go.Proofs.YteijijoiifbjlaaGreatDoor
open Go.ChangeShapes Go.WideShapes Go.ChangeAt Go.RowKit
set_option linter.unusedVariables false
set_option linter.unusedSimpArgs false
set_option maxRecDepth 100000

abbrev cells2 (k1 n1 k2 n2 : Int) : Obj := .cells #[.int .u8 k1, .string ⟨#[]⟩, .string ⟨#[]⟩, .int .i64 n1, .int .i64 0, .slice none 0 0, .int .u8 k2, .string ⟨#[]⟩, .string ⟨#[]⟩, .int .i64 n2, .int .i64 0, .slice none 0 0] 25
abbrev cells3E (k1 n1 k2 n2 k3 n3 : Int) : Obj := .cells #[.int .u8 k1, .string ⟨#[]⟩, .string ⟨#[]⟩, .int .i64 n1, .int .i64 0, .slice none 0 0, .int .u8 k2, .string ⟨#[]⟩, .string ⟨#[]⟩, .int .i64 n2, .int .i64 0, .slice none 0 0, .int .u8 k3, .string ⟨#[]⟩, .string ⟨#[]⟩, .int .i64 n3, .int .i64 0, .slice none 0 0] 25
theorem exk3 (w : World) (k1 n1 k2 n2 k3 n3 : Int) : ExK (w.alloc (cells3E k1 n1 k2 n2 k3 n3)) [lf k1 n1, lf k2 n2, lf k3 n3] (some ⟨w.heap.size, 0, none⟩) := by
  simp only [ExK]
  refine ⟨_, 0, rfl, ⟨none, 0, ⟨?_, ?_, ?_, ?_, ?_, ?_⟩, Nat.le_refl _, trivial⟩, _, 0 + 6, rfl, ⟨none, 0, ⟨?_, ?_, ?_, ?_, ?_, ?_⟩, Nat.le_refl _, trivial⟩, _, 0 + 6 + 6, rfl, ⟨none, 0, ⟨?_, ?_, ?_, ?_, ?_, ?_⟩, Nat.le_refl _, trivial⟩, trivial⟩ <;> simp [go_sem]
theorem exk2 (w : World) (k1 n1 k2 n2 : Int) : ExK (w.alloc (cells2 k1 n1 k2 n2)) [lf k1 n1, lf k2 n2] (some ⟨w.heap.size, 0, none⟩) := by
  simp only [ExK]
  refine ⟨_, 0, rfl, ⟨none, 0, ⟨?_, ?_, ?_, ?_, ?_, ?_⟩, Nat.le_refl _, trivial⟩, _, 0 + 6, rfl, ⟨none, 0, ⟨?_, ?_, ?_, ?_, ?_, ?_⟩, Nat.le_refl _, trivial⟩, trivial⟩ <;> simp [go_sem]
theorem leaves2 (w : World) : Leaves (w.alloc (cells2 13 0 13 0)) (some ⟨w.heap.size, 0, none⟩) 2 := by
  refine .inr ⟨w.heap.size, 0, rfl, fun j hj => ?_⟩
  match j, hj with
  | 0, _ => refine ⟨?_, ?_, ?_, ?_, ?_, ?_⟩ <;> simp [go_sem]
  | 1, _ => refine ⟨?_, ?_, ?_, ?_, ?_, ?_⟩ <;> simp [go_sem]
theorem ecell_new (w : World) (k : Int) (s t : ByteArray) (n a : Int) (A : Option Addr) (len cap : Nat) : ECell (w.alloc (.cells #[.int .u8 k, .string s, .string t, .int .i64 n, .int .i64 a, .slice A len cap] 25)) w.heap.size 0 k s t n a A len cap := by
  refine ⟨?_, ?_, ?_, ?_, ?_, ?_⟩ <;> simp [go_sem]
set_option maxHeartbeats 4000000 in
theorem awake_any (w : World) (hW : Wd w) : Calls Tryz.prog 8 #[] w fun e w' => e = .returned (.bool true) ∧ Below w.heap.size w w' := by
  have HW := Lib.hid hW
  clear hW
  go_enter Tryz.func8, Tryz.ntmps8
  go_upto_region 2 with (fail)
  obtain ⟨w1, hw1⟩ : ∃ X, w.alloc (.cells #[.int .u8 1, .string ⟨#[]⟩, .string ⟨#[]⟩, .int .i64 0, .int .i64 0, .slice none 0 0] 25) = X := ⟨_, rfl⟩
  have hal1 : Below w.heap.size w w1 := by rw [← hw1]; exact (Below.refl _ _).alloc (Nat.le_refl _) _
  have hc1 : ECell w1 w.heap.size 0 1 ⟨#[]⟩ ⟨#[]⟩ 0 0 none 0 0 := by rw [← hw1]; exact ecell_new _ _ _ _ _ _ _ _ _
  rw [hw1]
  have HB1 := Lib.hid hal1
  clear hw1 hal1
  generalize w.heap.size = g1 at hc1 ⊢
  refine region_asE (ops' := aw2Ops) (by kernel_rfl) ?_
  refine aw2 g1 hc1 (evOn_of (HW.out.on HB1.out) env0_ok env0_t (fit_mk _ _ _ _ _ (by decide) (by decide) (by simp) (fun e he => by simp at he; rcases he with rfl | rfl | rfl <;> exact fit_lf _ _ (by decide) (by decide))) ex1) rfl rfl ?_
  intro V2 p2 X2 hb2 hV2 _ _ hx2 hV3
  rw [aw2_fill V2, hV2, hV3]
  have HC1 := Lib.hid (hc1.on hb2)
  have HP2 := Lib.hid hx2
  have HB2 := Lib.hid (HB1.out.trans (hb2.mono HB1.out.size))
  clear hV2 hV3 hx2 hb2 hc1 HB1
  go_upto_region 3 with (fail)
  refine region_asE (ops' := aw3Ops) (by kernel_rfl) ?_
  refine aw3 g1 HC1.out (evOn_of (HW.out.on HB2.out) env0_ok env0_t (fit_mk _ _ _ _ _ (by decide) (by decide) (by simp) (fun e he => by simp at he; rcases he with rfl | rfl | rfl <;> exact fit_lf _ _ (by decide) (by decide))) ex2) rfl rfl ?_
  intro V3 p4 X3 hb3 hV4 _ _ hx4 hV5
  rw [aw3_fill V3, hV4, hV5]
  have HP2 := Lib.hid (HP2.out.on hb3)
  have HP4 := Lib.hid hx4
  have HB3 := Lib.hid (HB2.out.trans (hb3.mono HB2.out.size))
  have HEV3 := Lib.hid (evOn_of (HW.out.on HB3.out) env0_ok env0_t (fit_mk _ _ _ _ _ (by decide) (by decide) (by simp) (fun e he => by simp at he; rcases he with rfl | rfl | rfl <;> exact fit_lf _ _ (by decide) (by decide))) ex3)
  clear hV4 hV5 hx4 hb3 HB2 HC1
  have hcur := Lib.hid (Below.refl X3.heap.size X3)
  go_upto_region 5 with (first
    | (go_at_call 16; refine (num_any _ _).mono ?_; rintro e wa ⟨rfl, ba⟩; have hcur := Lib.hid (hcur.out.trans (ba.mono hcur.out.size)); clear ba)
    | (go_at_call 15; refine (in_val 1 _ 3 3 _).mono ?_; rintro e wd ⟨rfl, bd⟩; have HD := Lib.hid bd; have HK3 := Lib.hid ((exk3 wa 2 2 2 1 2 3).on bd); clear bd)
    | (go_at_call 10; refine (HEV3.out _ _ _ ((hcur.out.alloc hcur.out.size _).trans (HD.out.mono (by have := hcur.out.size; simp; omega))) (by simp only [ExV]; exact ⟨_, 3, rfl, Nat.le_refl _, HK3.out⟩) (env_nul _)).mono ?_; rintro e we ⟨rfl, be⟩; have HCW := Lib.hid (((hcur.out.alloc hcur.out.size _).trans (HD.out.mono (by have := hcur.out.size; simp; omega))).trans (be.mono (by have := hcur.out.size; have := HD.out.size; simp at *; omega))); clear be))
  obtain ⟨X4, hX4⟩ : ∃ X, we.alloc (.cells #[.int .u8 1, .int .i64 1, .string ⟨#[]⟩] 38) = X := ⟨_, rfl⟩
  have hb4 : Below X3.heap.size X3 X4 := by rw [← hX4]; exact HCW.out.alloc HCW.out.size _
  have hx6 : BoxF we.heap.size (intT 1) X4 := by rw [← hX4]; exact BoxF.new we 1 1 ⟨#[]⟩
  rw [hX4]
  have HP2 := Lib.hid (HP2.out.on hb4)
  have HP4 := Lib.hid (HP4.out.on hb4)
  have HP6 := Lib.hid hx6
  have HB4 := Lib.hid (HB3.out.trans (hb4.mono HB3.out.size))
  have HEV4 := Lib.hid (evOn_of (HW.out.on HB4.out) env0_ok env0_t (fit_mk 13 ⟨#[]⟩ 0 3 [] (by decide) (by decide) (by simp) (by simp)) ex4)
  clear hX4 hb4 hx6 HB3 HCW HK3 HD HEV3 hcur
  generalize we.heap.size = p6 at *
  go_upto_region 6 with (go_at_call 10; refine (HEV4.out _ _ _ (Below.refl _ _) (by simp only [ExV]; exact ⟨none, 0, rfl, Nat.le_refl _, by simp only [ExK]⟩) (env_nul _)).mono ?_; rintro e wf ⟨rfl, bf⟩; have HBF := Lib.hid bf; clear bf)
  obtain ⟨X5, hX5⟩ : ∃ X, wf.alloc (.cells #[.int .u8 0, .int .i64 0, .string ⟨#[]⟩] 38) = X := ⟨_, rfl⟩
  have hb5 : Below X4.heap.size X4 X5 := by rw [← hX5]; exact HBF.out.alloc HBF.out.size _
  have hx8 : BoxF wf.heap.size nulT X5 := by rw [← hX5]; exact BoxF.new wf 0 0 ⟨#[]⟩
  rw [hX5]
  have HP2 := Lib.hid (HP2.out.on hb5)
  have HP4 := Lib.hid (HP4.out.on hb5)
  have HP6 := Lib.hid (HP6.out.on hb5)
  have HP8 := Lib.hid hx8
  have HB5 := Lib.hid (HB4.out.trans (hb5.mono HB4.out.size))
  clear hX5 hb5 hx8 HB4 HBF HEV4
  generalize wf.heap.size = p8 at *
  go_upto_region 7 with (fail)
  obtain ⟨X6, hX6⟩ : ∃ X, X5.alloc (.cells #[.int .u8 13, .string ⟨#[]⟩, .string ⟨#[]⟩, .int .i64 0, .int .i64 0, .slice none 0 0] 25) = X := ⟨_, rfl⟩
  have hb6 : Below X5.heap.size X5 X6 := by rw [← hX6]; exact (Below.refl _ _).alloc (Nat.le_refl _) _
  have hc10 : ECell X6 X5.heap.size 0 13 ⟨#[]⟩ ⟨#[]⟩ 0 0 none 0 0 := by rw [← hX6]; exact ecell_new _ _ _ _ _ _ _ _ _
  rw [hX6]
  have HP2 := Lib.hid (HP2.out.on hb6)
  have HP4 := Lib.hid (HP4.out.on hb6)
  have HP6 := Lib.hid (HP6.out.on hb6)
  have HP8 := Lib.hid (HP8.out.on hb6)
  have HB6 := Lib.hid (HB5.out.trans (hb6.mono HB5.out.size))
  clear hX6 hb6 HB5
  generalize X5.heap.size = g10 at *
  refine region_asE (ops' := aw7Ops) (by kernel_rfl) ?_
  refine aw7 g10 hc10 (evOn_of (HW.out.on HB6.out) env5_ok env5_t (fit_mk _ _ _ _ _ (by decide) (by decide) (by simp) (fun e he => by simp at he; rcases he with rfl | rfl <;> exact fit_lf _ _ (by decide) (by decide))) ex5) rfl rfl ?_
  intro V7 p11 X7 hb7 hV11 _ _ hx11 hV12
  rw [aw7_fill V7, hV11, hV12]
  have HP2 := Lib.hid (HP2.out.on hb7)
  have HP4 := Lib.hid (HP4.out.on hb7)
  have HP6 := Lib.hid (HP6.out.on hb7)
  have HP8 := Lib.hid (HP8.out.on hb7)
  have HC10 := Lib.hid (hc10.on hb7)
  have HB7 := Lib.hid (HB6.out.trans (hb7.mono HB6.out.size))
  clear hV11 hV12 hx11 hb7 hc10 HB6
  go_upto_region 9 with (fail)
  obtain ⟨X8, hX8⟩ : ∃ X, X7.alloc (.cells #[.int .u8 1, .int .i64 1, .string ⟨#[]⟩] 38) = X := ⟨_, rfl⟩
  have hb8 : Below X7.heap.size X7 X8 := by rw [← hX8]; exact (Below.refl _ _).alloc (Nat.le_refl _) _
  have hx13 : BoxF X7.heap.size (intT 1) X8 := by rw [← hX8]; exact BoxF.new _ 1 1 ⟨#[]⟩
  rw [hX8]
  obtain ⟨⟨y0, y1, y2⟩, -⟩ := HP2.out.on hb8
  obtain ⟨⟨y3, y4, y5⟩, -⟩ := HP4.out.on hb8
  obtain ⟨⟨y6, y7, y8⟩, -⟩ := HP6.out.on hb8
  obtain ⟨⟨y9, ya, yb⟩, -⟩ := HP8.out.on hb8
  obtain ⟨⟨yc, yd, ye⟩, -⟩ := hx13
  have HC10 := Lib.hid (HC10.out.on hb8)
  obtain ⟨c0, c1, c2, c3, c4, c5⟩ := HC10.out
  simp only [Nat.zero_add] at c0 c1 c2 c3 c4 c5
  have HB8 := Lib.hid (HB7.out.trans (hb8.mono HB7.out.size))
  clear hX8 hb8 HP2 HP4 HP6 HP8 HB7
  generalize X7.heap.size = p13 at *
  have hcur := Lib.hid (Below.refl X8.heap.size X8)
  go_wp2_with (first
    | (go_at_call 11; refine (op_val _ _ 2 2 _).mono ?_; rintro e wd ⟨rfl, bd⟩; have HL := Lib.hid ((leaves2 _).on bd); have hcur := Lib.hid ((hcur.out.alloc hcur.out.size _).trans (bd.mono (Nat.le_trans hcur.out.size (by simp)))); clear bd)
    | (go_at_call 17; (first | (with_reducible refine (safe_eq _ 2 _ HL.out).mono ?_) | (with_reducible refine (safe_add _ 2 _ HL.out).mono ?_)); rintro e we ⟨rfl, be⟩; have hcur := Lib.hid (hcur.out.trans (be.mono hcur.out.size)); clear c0 c1 c2 c3 c4 c5; obtain ⟨c0, c1, c2, c3, c4, c5⟩ := HC10.out.on hcur.out; simp only [Nat.zero_add] at c0 c1 c2 c3 c4 c5; clear be))
  go_ret
  exact ⟨rfl, HB8.out.trans (hcur.out.mono HB8.out.size)⟩
end Go.Proofs.YteijijoiifbjlaaGreatDoor
