/-
  ValueParts of a number by another one, not 0, where the quotient is within 64 bits: the walk, case by case. Conditions: numbers of 64 bits; the library's variables are as its text lays them.
-/
import Derived.Test.YtaidipdofomgoaaGreatDoorVPartsR
namespace Go.Proofs.YtaidipdofomgoaaGreatDoor
open Go.ChangeShapes Go.WideShapes Go.ChangeAt Go.RowKit
set_option linter.unusedVariables false

theorem pr7 {Q : Exit → Act → World → Prop} {a0 : Act} {w0 : World} (a b q r : Int) (HA64 : Hid (In64 a)) (HB64 : Hid (In64 b)) (H0 : Hid (b ≠ 0)) (M1 : Hid (In64 q)) (M2 : Hid (In64 r)) (M3 : Hid (In64 (q * b))) (M4 : Hid (q * b + r = a)) (M5 : Hid (r ≠ 0 → (r < 0 ↔ a < 0))) (p5 p7 : Nat) (hb5 : BoxOn w0 p5 1 q ⟨#[]⟩) (hb7 : BoxOn w0 p7 1 r ⟨#[]⟩)
    (hx0 : a0.tmps.getD 0 undef = .int .i64 a) (hx1 : a0.tmps.getD 1 undef = .int .i64 b) (hx5 : a0.tmps.getD 5 undef = .pointer (some ⟨p5, 0, none⟩)) (hx6 : a0.tmps.getD 6 undef = .int .i64 0) (hx7 : a0.tmps.getD 7 undef = .pointer (some ⟨p7, 0, none⟩)) (hx8 : a0.tmps.getD 8 undef = .int .i64 0) (hs : a0.tmps.size = 164)
    (hend : ∀ (V : Nat → Value) (X : World), Below w0.heap.size w0 X → V 29 = .bool false → Q .normal ⟨fillT pr7Ops a0.tmps V, a0.defers⟩ X) : (Code.region 7 pr7Ops true).wp Tryz.prog Q a0 w0 := by
  by_cases h : r = 0
  · exact pr7a a b q r HA64 HB64 H0 M1 M2 M3 M4 p5 p7 (Lib.hid (by simp [h])) hb5 hb7 hx0 hx1 hx5 hx6 hx7 hx8 hs hend
  · exact pr7b a b q r HA64 HB64 H0 M1 M2 M3 M4 p5 p7 (Lib.hid (by simpa using h)) (decide (a < 0)) (Lib.hid (decide_eq_decide.2 (M5.out h))) (Lib.hid rfl) hb5 hb7 hx0 hx1 hx5 hx6 hx7 hx8 hs hend

set_option maxRecDepth 100000 in
set_option maxHeartbeats 4000000 in
theorem parts_00 (a b q r : Int) (w : World) (HA64 : Hid (In64 a)) (HB64 : Hid (In64 b)) (H0 : Hid (b ≠ 0)) (HF : Hid (¬ (a = -9223372036854775808 ∧ b = -1))) (HQD : Hid (a.tdiv b = q)) (HRD : Hid (a.tmod b = r)) (M1 : Hid (In64 q)) (M2 : Hid (In64 r)) (M3 : Hid (In64 (q * b))) (M4 : Hid (q * b + r = a)) (M5 : Hid (r ≠ 0 → (r < 0 ↔ a < 0)))
    (ha1 : -9223372036854775808 ≤ a) (ha2 : a ≤ 9223372036854775807) (hb1 : -9223372036854775808 ≤ b) (hb2 : b ≤ 9223372036854775807) (e0 : (b == 0) = false) (hmin : (a == -9223372036854775808) = false) (hbs : b < 0) (hbm : -9223372036854775808 < b) (hrb : b < r) (hrb2 : r < -b) (HW : Hid (Wd w)) :
    Calls Tryz.prog 7 #[.int .i64 a, .int .i64 b] w fun e w' => e = .returned (.bool true) ∧ Below w.heap.size w w' := by
  go_enter Tryz.func7, Tryz.ntmps7
  go_wp2_with fail
  refine (num_any _ _).mono ?_
  rintro e x1 ⟨rfl, b1⟩
  go_wp2_with fail
  refine (num_any _ _).mono ?_
  rintro e x2 ⟨rfl, b2⟩
  go_wp2_with fail
  refine (opI_quo' a b q _ HA64.out H0.out HF.out HQD.out).mono ?_
  rintro e x3 ⟨rfl, b3⟩
  have HB := Lib.hid ((b1.trans (b2.mono b1.size)).trans (b3.mono (Nat.le_trans b1.size b2.size)))
  clear b1 b2 b3
  go_wp2_with fail
  refine (num_any _ _).mono ?_
  rintro e x4 ⟨rfl, b4⟩
  go_wp2_with fail
  refine (num_any _ _).mono ?_
  rintro e x5 ⟨rfl, b5⟩
  go_wp2_with fail
  refine (opI_rem' a b r _ HA64.out H0.out HRD.out).mono ?_
  rintro e x6 ⟨rfl, b6⟩
  have HQ := Lib.hid ((b4.trans (b5.mono b4.size)).trans (b6.mono (Nat.le_trans b4.size b5.size)))
  have HB := Lib.hid ((HB.out.alloc HB.out.size (box 1 q ⟨#[]⟩)).trans (HQ.out.mono (Nat.le_trans HB.out.size (by simp))))
  obtain ⟨q0, q1, q2⟩ := box_at HQ.out
  have hz : x3.heap.size < x6.heap.size := by have := HQ.out.size; simp at this; omega
  clear b4 b5 b6
  have HB := Lib.hid (HB.out.alloc HB.out.size (box 1 r ⟨#[]⟩))
  have hr := Lib.hid (Below.refl (x6.alloc (box 1 r ⟨#[]⟩)).heap.size (x6.alloc (box 1 r ⟨#[]⟩)))
  have hq := Lib.hid (HQ.out.alloc HQ.out.size (box 1 r ⟨#[]⟩))
  clear q0 q1 q2 HQ
  go_wp2_with fail
  refine region_as (ops' := pr7Ops) (by kernel_rfl) ?_
  refine pr7 a b q r HA64 HB64 H0 M1 M2 M3 M4 M5 x3.heap.size x6.heap.size (fun W hb => box_at (hq.out.trans (hb.mono hq.out.size))) (fun W hb => box_at hb) rfl rfl rfl rfl rfl rfl rfl ?_
  intro V Y hb hv
  have HB := Lib.hid (HB.out.trans (hb.mono HB.out.size))
  obtain ⟨n0, n1, n2⟩ := box_at (hr.out.trans hb)
  have hzy : x6.heap.size < Y.heap.size := by have := hb.size; simp at this; omega
  rw [pr7_fill _ rfl V, hv]
  clear hb hv hq hr
  go_wp2_with fail
  refine (num_any _ _).mono ?_
  rintro e x7 ⟨rfl, b7⟩
  go_wp2_with fail
  refine (num_any _ _).mono ?_
  rintro e x8 ⟨rfl, b8⟩
  by_cases hp : In64 (a * b)
  · have HP := Lib.hid hp
    clear hp
    go_wp2_with fail
    refine (opI_mul' a b _ _ HA64.out HB64.out rfl HP.out).mono ?_
    rintro e x9 ⟨rfl, b9⟩
    have HB := Lib.hid (((HB.out.trans (b7.mono HB.out.size)).trans (b8.mono (Nat.le_trans HB.out.size b7.size))).trans (b9.mono (Nat.le_trans (Nat.le_trans HB.out.size b7.size) b8.size)))
    have HB := Lib.hid (HB.out.alloc HB.out.size (box 1 (a * b) ⟨#[]⟩))
    clear b7 b8 b9
    go_wp2_with fail
    refine region_as (ops' := pr12Ops) (by kernel_rfl) ?_
    refine pr12a a b HA64 HB64 H0 x9.heap.size HP (fun W hb => box_at hb) (fun W hb => HW.out.on (HB.out.trans (hb.mono HB.out.size))) rfl rfl rfl rfl rfl ?_
    intro V Z hb hv
    have HB := Lib.hid (HB.out.trans (hb.mono HB.out.size))
    rw [pr12_fill _ rfl V, hv]
    clear hb hv
    go_wp2_with fail
    go_ret
    exact ⟨rfl, HB.out⟩
  · have HP := Lib.hid hp
    clear hp
    go_wp2_with fail
    refine (opI_mul_no a b _ HA64.out HB64.out HP.out).mono ?_
    rintro e x9 ⟨rfl, b9⟩
    have HB := Lib.hid (((HB.out.trans (b7.mono HB.out.size)).trans (b8.mono (Nat.le_trans HB.out.size b7.size))).trans (b9.mono (Nat.le_trans (Nat.le_trans HB.out.size b7.size) b8.size)))
    have HB := Lib.hid (HB.out.alloc HB.out.size (box 0 0 ⟨#[]⟩))
    clear b7 b8 b9
    go_wp2_with fail
    refine region_as (ops' := pr12Ops) (by kernel_rfl) ?_
    refine pr12b a b HA64 HB64 H0 x9.heap.size (fun W hb => box_at hb) (fun W hb => HW.out.on (HB.out.trans (hb.mono HB.out.size))) rfl rfl rfl rfl rfl ?_
    intro V Z hb hv
    have HB := Lib.hid (HB.out.trans (hb.mono HB.out.size))
    rw [pr12_fill _ rfl V, hv]
    clear hb hv
    go_wp2_with fail
    go_ret
    exact ⟨rfl, HB.out⟩

set_option maxRecDepth 100000 in
set_option maxHeartbeats 4000000 in
theorem parts_01 (a b q r : Int) (w : World) (HA64 : Hid (In64 a)) (HB64 : Hid (In64 b)) (H0 : Hid (b ≠ 0)) (HF : Hid (¬ (a = -9223372036854775808 ∧ b = -1))) (HQD : Hid (a.tdiv b = q)) (HRD : Hid (a.tmod b = r)) (M1 : Hid (In64 q)) (M2 : Hid (In64 r)) (M3 : Hid (In64 (q * b))) (M4 : Hid (q * b + r = a)) (M5 : Hid (r ≠ 0 → (r < 0 ↔ a < 0)))
    (ha1 : -9223372036854775808 ≤ a) (ha2 : a ≤ 9223372036854775807) (hb1 : -9223372036854775808 ≤ b) (hb2 : b ≤ 9223372036854775807) (e0 : (b == 0) = false) (hmin : (a == -9223372036854775808) = false) (hbs : 0 < b) (hrb : r < b) (hrb2 : -b < r) (HW : Hid (Wd w)) :
    Calls Tryz.prog 7 #[.int .i64 a, .int .i64 b] w fun e w' => e = .returned (.bool true) ∧ Below w.heap.size w w' := by
  go_enter Tryz.func7, Tryz.ntmps7
  go_wp2_with fail
  refine (num_any _ _).mono ?_
  rintro e x1 ⟨rfl, b1⟩
  go_wp2_with fail
  refine (num_any _ _).mono ?_
  rintro e x2 ⟨rfl, b2⟩
  go_wp2_with fail
  refine (opI_quo' a b q _ HA64.out H0.out HF.out HQD.out).mono ?_
  rintro e x3 ⟨rfl, b3⟩
  have HB := Lib.hid ((b1.trans (b2.mono b1.size)).trans (b3.mono (Nat.le_trans b1.size b2.size)))
  clear b1 b2 b3
  go_wp2_with fail
  refine (num_any _ _).mono ?_
  rintro e x4 ⟨rfl, b4⟩
  go_wp2_with fail
  refine (num_any _ _).mono ?_
  rintro e x5 ⟨rfl, b5⟩
  go_wp2_with fail
  refine (opI_rem' a b r _ HA64.out H0.out HRD.out).mono ?_
  rintro e x6 ⟨rfl, b6⟩
  have HQ := Lib.hid ((b4.trans (b5.mono b4.size)).trans (b6.mono (Nat.le_trans b4.size b5.size)))
  have HB := Lib.hid ((HB.out.alloc HB.out.size (box 1 q ⟨#[]⟩)).trans (HQ.out.mono (Nat.le_trans HB.out.size (by simp))))
  obtain ⟨q0, q1, q2⟩ := box_at HQ.out
  have hz : x3.heap.size < x6.heap.size := by have := HQ.out.size; simp at this; omega
  clear b4 b5 b6
  have HB := Lib.hid (HB.out.alloc HB.out.size (box 1 r ⟨#[]⟩))
  have hr := Lib.hid (Below.refl (x6.alloc (box 1 r ⟨#[]⟩)).heap.size (x6.alloc (box 1 r ⟨#[]⟩)))
  have hq := Lib.hid (HQ.out.alloc HQ.out.size (box 1 r ⟨#[]⟩))
  clear q0 q1 q2 HQ
  go_wp2_with fail
  refine region_as (ops' := pr7Ops) (by kernel_rfl) ?_
  refine pr7 a b q r HA64 HB64 H0 M1 M2 M3 M4 M5 x3.heap.size x6.heap.size (fun W hb => box_at (hq.out.trans (hb.mono hq.out.size))) (fun W hb => box_at hb) rfl rfl rfl rfl rfl rfl rfl ?_
  intro V Y hb hv
  have HB := Lib.hid (HB.out.trans (hb.mono HB.out.size))
  obtain ⟨n0, n1, n2⟩ := box_at (hr.out.trans hb)
  have hzy : x6.heap.size < Y.heap.size := by have := hb.size; simp at this; omega
  rw [pr7_fill _ rfl V, hv]
  clear hb hv hq hr
  go_wp2_with fail
  refine (num_any _ _).mono ?_
  rintro e x7 ⟨rfl, b7⟩
  go_wp2_with fail
  refine (num_any _ _).mono ?_
  rintro e x8 ⟨rfl, b8⟩
  by_cases hp : In64 (a * b)
  · have HP := Lib.hid hp
    clear hp
    go_wp2_with fail
    refine (opI_mul' a b _ _ HA64.out HB64.out rfl HP.out).mono ?_
    rintro e x9 ⟨rfl, b9⟩
    have HB := Lib.hid (((HB.out.trans (b7.mono HB.out.size)).trans (b8.mono (Nat.le_trans HB.out.size b7.size))).trans (b9.mono (Nat.le_trans (Nat.le_trans HB.out.size b7.size) b8.size)))
    have HB := Lib.hid (HB.out.alloc HB.out.size (box 1 (a * b) ⟨#[]⟩))
    clear b7 b8 b9
    go_wp2_with fail
    refine region_as (ops' := pr12Ops) (by kernel_rfl) ?_
    refine pr12a a b HA64 HB64 H0 x9.heap.size HP (fun W hb => box_at hb) (fun W hb => HW.out.on (HB.out.trans (hb.mono HB.out.size))) rfl rfl rfl rfl rfl ?_
    intro V Z hb hv
    have HB := Lib.hid (HB.out.trans (hb.mono HB.out.size))
    rw [pr12_fill _ rfl V, hv]
    clear hb hv
    go_wp2_with fail
    go_ret
    exact ⟨rfl, HB.out⟩
  · have HP := Lib.hid hp
    clear hp
    go_wp2_with fail
    refine (opI_mul_no a b _ HA64.out HB64.out HP.out).mono ?_
    rintro e x9 ⟨rfl, b9⟩
    have HB := Lib.hid (((HB.out.trans (b7.mono HB.out.size)).trans (b8.mono (Nat.le_trans HB.out.size b7.size))).trans (b9.mono (Nat.le_trans (Nat.le_trans HB.out.size b7.size) b8.size)))
    have HB := Lib.hid (HB.out.alloc HB.out.size (box 0 0 ⟨#[]⟩))
    clear b7 b8 b9
    go_wp2_with fail
    refine region_as (ops' := pr12Ops) (by kernel_rfl) ?_
    refine pr12b a b HA64 HB64 H0 x9.heap.size (fun W hb => box_at hb) (fun W hb => HW.out.on (HB.out.trans (hb.mono HB.out.size))) rfl rfl rfl rfl rfl ?_
    intro V Z hb hv
    have HB := Lib.hid (HB.out.trans (hb.mono HB.out.size))
    rw [pr12_fill _ rfl V, hv]
    clear hb hv
    go_wp2_with fail
    go_ret
    exact ⟨rfl, HB.out⟩

set_option maxRecDepth 100000 in
set_option maxHeartbeats 4000000 in
theorem parts_02 (a b q r : Int) (w : World) (HA64 : Hid (In64 a)) (HB64 : Hid (In64 b)) (H0 : Hid (b ≠ 0)) (HF : Hid (¬ (a = -9223372036854775808 ∧ b = -1))) (HQD : Hid (a.tdiv b = q)) (HRD : Hid (a.tmod b = r)) (M1 : Hid (In64 q)) (M2 : Hid (In64 r)) (M3 : Hid (In64 (q * b))) (M4 : Hid (q * b + r = a)) (M5 : Hid (r ≠ 0 → (r < 0 ↔ a < 0)))
    (ha1 : -9223372036854775808 ≤ a) (ha2 : a ≤ 9223372036854775807) (hb1 : -9223372036854775808 ≤ b) (hb2 : b ≤ 9223372036854775807) (e0 : (b == 0) = false) (hmin : (a == -9223372036854775808) = false) (hbs : b < 0) (hbm : b ≤ -9223372036854775808) (hrb : b < r) (hrb2 : r < -b) (HW : Hid (Wd w)) :
    Calls Tryz.prog 7 #[.int .i64 a, .int .i64 b] w fun e w' => e = .returned (.bool true) ∧ Below w.heap.size w w' := by
  go_enter Tryz.func7, Tryz.ntmps7
  go_wp2_with fail
  refine (num_any _ _).mono ?_
  rintro e x1 ⟨rfl, b1⟩
  go_wp2_with fail
  refine (num_any _ _).mono ?_
  rintro e x2 ⟨rfl, b2⟩
  go_wp2_with fail
  refine (opI_quo' a b q _ HA64.out H0.out HF.out HQD.out).mono ?_
  rintro e x3 ⟨rfl, b3⟩
  have HB := Lib.hid ((b1.trans (b2.mono b1.size)).trans (b3.mono (Nat.le_trans b1.size b2.size)))
  clear b1 b2 b3
  go_wp2_with fail
  refine (num_any _ _).mono ?_
  rintro e x4 ⟨rfl, b4⟩
  go_wp2_with fail
  refine (num_any _ _).mono ?_
  rintro e x5 ⟨rfl, b5⟩
  go_wp2_with fail
  refine (opI_rem' a b r _ HA64.out H0.out HRD.out).mono ?_
  rintro e x6 ⟨rfl, b6⟩
  have HQ := Lib.hid ((b4.trans (b5.mono b4.size)).trans (b6.mono (Nat.le_trans b4.size b5.size)))
  have HB := Lib.hid ((HB.out.alloc HB.out.size (box 1 q ⟨#[]⟩)).trans (HQ.out.mono (Nat.le_trans HB.out.size (by simp))))
  obtain ⟨q0, q1, q2⟩ := box_at HQ.out
  have hz : x3.heap.size < x6.heap.size := by have := HQ.out.size; simp at this; omega
  clear b4 b5 b6
  have HB := Lib.hid (HB.out.alloc HB.out.size (box 1 r ⟨#[]⟩))
  have hr := Lib.hid (Below.refl (x6.alloc (box 1 r ⟨#[]⟩)).heap.size (x6.alloc (box 1 r ⟨#[]⟩)))
  have hq := Lib.hid (HQ.out.alloc HQ.out.size (box 1 r ⟨#[]⟩))
  clear q0 q1 q2 HQ
  go_wp2_with fail
  refine region_as (ops' := pr7Ops) (by kernel_rfl) ?_
  refine pr7 a b q r HA64 HB64 H0 M1 M2 M3 M4 M5 x3.heap.size x6.heap.size (fun W hb => box_at (hq.out.trans (hb.mono hq.out.size))) (fun W hb => box_at hb) rfl rfl rfl rfl rfl rfl rfl ?_
  intro V Y hb hv
  have HB := Lib.hid (HB.out.trans (hb.mono HB.out.size))
  obtain ⟨n0, n1, n2⟩ := box_at (hr.out.trans hb)
  have hzy : x6.heap.size < Y.heap.size := by have := hb.size; simp at this; omega
  rw [pr7_fill _ rfl V, hv]
  clear hb hv hq hr
  go_wp2_with fail
  refine (num_any _ _).mono ?_
  rintro e x7 ⟨rfl, b7⟩
  go_wp2_with fail
  refine (num_any _ _).mono ?_
  rintro e x8 ⟨rfl, b8⟩
  by_cases hp : In64 (a * b)
  · have HP := Lib.hid hp
    clear hp
    go_wp2_with fail
    refine (opI_mul' a b _ _ HA64.out HB64.out rfl HP.out).mono ?_
    rintro e x9 ⟨rfl, b9⟩
    have HB := Lib.hid (((HB.out.trans (b7.mono HB.out.size)).trans (b8.mono (Nat.le_trans HB.out.size b7.size))).trans (b9.mono (Nat.le_trans (Nat.le_trans HB.out.size b7.size) b8.size)))
    have HB := Lib.hid (HB.out.alloc HB.out.size (box 1 (a * b) ⟨#[]⟩))
    clear b7 b8 b9
    go_wp2_with fail
    refine region_as (ops' := pr12Ops) (by kernel_rfl) ?_
    refine pr12a a b HA64 HB64 H0 x9.heap.size HP (fun W hb => box_at hb) (fun W hb => HW.out.on (HB.out.trans (hb.mono HB.out.size))) rfl rfl rfl rfl rfl ?_
    intro V Z hb hv
    have HB := Lib.hid (HB.out.trans (hb.mono HB.out.size))
    rw [pr12_fill _ rfl V, hv]
    clear hb hv
    go_wp2_with fail
    go_ret
    exact ⟨rfl, HB.out⟩
  · have HP := Lib.hid hp
    clear hp
    go_wp2_with fail
    refine (opI_mul_no a b _ HA64.out HB64.out HP.out).mono ?_
    rintro e x9 ⟨rfl, b9⟩
    have HB := Lib.hid (((HB.out.trans (b7.mono HB.out.size)).trans (b8.mono (Nat.le_trans HB.out.size b7.size))).trans (b9.mono (Nat.le_trans (Nat.le_trans HB.out.size b7.size) b8.size)))
    have HB := Lib.hid (HB.out.alloc HB.out.size (box 0 0 ⟨#[]⟩))
    clear b7 b8 b9
    go_wp2_with fail
    refine region_as (ops' := pr12Ops) (by kernel_rfl) ?_
    refine pr12b a b HA64 HB64 H0 x9.heap.size (fun W hb => box_at hb) (fun W hb => HW.out.on (HB.out.trans (hb.mono HB.out.size))) rfl rfl rfl rfl rfl ?_
    intro V Z hb hv
    have HB := Lib.hid (HB.out.trans (hb.mono HB.out.size))
    rw [pr12_fill _ rfl V, hv]
    clear hb hv
    go_wp2_with fail
    go_ret
    exact ⟨rfl, HB.out⟩

set_option maxRecDepth 100000 in
set_option maxHeartbeats 4000000 in
theorem parts_10 (a b q r : Int) (w : World) (HA64 : Hid (In64 a)) (HB64 : Hid (In64 b)) (H0 : Hid (b ≠ 0)) (HF : Hid (¬ (a = -9223372036854775808 ∧ b = -1))) (HQD : Hid (a.tdiv b = q)) (HRD : Hid (a.tmod b = r)) (M1 : Hid (In64 q)) (M2 : Hid (In64 r)) (M3 : Hid (In64 (q * b))) (M4 : Hid (q * b + r = a)) (M5 : Hid (r ≠ 0 → (r < 0 ↔ a < 0)))
    (ha1 : -9223372036854775808 ≤ a) (ha2 : a ≤ 9223372036854775807) (hb1 : -9223372036854775808 ≤ b) (hb2 : b ≤ 9223372036854775807) (e0 : (b == 0) = false) (hmin : (a == -9223372036854775808) = true) (hm1 : (b == -1) = false) (hbs : b < 0) (hbm : -9223372036854775808 < b) (hrb : b < r) (hrb2 : r < -b) (HW : Hid (Wd w)) :
    Calls Tryz.prog 7 #[.int .i64 a, .int .i64 b] w fun e w' => e = .returned (.bool true) ∧ Below w.heap.size w w' := by
  go_enter Tryz.func7, Tryz.ntmps7
  go_wp2_with fail
  refine (num_any _ _).mono ?_
  rintro e x1 ⟨rfl, b1⟩
  go_wp2_with fail
  refine (num_any _ _).mono ?_
  rintro e x2 ⟨rfl, b2⟩
  go_wp2_with fail
  refine (opI_quo' a b q _ HA64.out H0.out HF.out HQD.out).mono ?_
  rintro e x3 ⟨rfl, b3⟩
  have HB := Lib.hid ((b1.trans (b2.mono b1.size)).trans (b3.mono (Nat.le_trans b1.size b2.size)))
  clear b1 b2 b3
  go_wp2_with fail
  refine (num_any _ _).mono ?_
  rintro e x4 ⟨rfl, b4⟩
  go_wp2_with fail
  refine (num_any _ _).mono ?_
  rintro e x5 ⟨rfl, b5⟩
  go_wp2_with fail
  refine (opI_rem' a b r _ HA64.out H0.out HRD.out).mono ?_
  rintro e x6 ⟨rfl, b6⟩
  have HQ := Lib.hid ((b4.trans (b5.mono b4.size)).trans (b6.mono (Nat.le_trans b4.size b5.size)))
  have HB := Lib.hid ((HB.out.alloc HB.out.size (box 1 q ⟨#[]⟩)).trans (HQ.out.mono (Nat.le_trans HB.out.size (by simp))))
  obtain ⟨q0, q1, q2⟩ := box_at HQ.out
  have hz : x3.heap.size < x6.heap.size := by have := HQ.out.size; simp at this; omega
  clear b4 b5 b6
  have HB := Lib.hid (HB.out.alloc HB.out.size (box 1 r ⟨#[]⟩))
  have hr := Lib.hid (Below.refl (x6.alloc (box 1 r ⟨#[]⟩)).heap.size (x6.alloc (box 1 r ⟨#[]⟩)))
  have hq := Lib.hid (HQ.out.alloc HQ.out.size (box 1 r ⟨#[]⟩))
  clear q0 q1 q2 HQ
  go_wp2_with fail
  refine region_as (ops' := pr7Ops) (by kernel_rfl) ?_
  refine pr7 a b q r HA64 HB64 H0 M1 M2 M3 M4 M5 x3.heap.size x6.heap.size (fun W hb => box_at (hq.out.trans (hb.mono hq.out.size))) (fun W hb => box_at hb) rfl rfl rfl rfl rfl rfl rfl ?_
  intro V Y hb hv
  have HB := Lib.hid (HB.out.trans (hb.mono HB.out.size))
  obtain ⟨n0, n1, n2⟩ := box_at (hr.out.trans hb)
  have hzy : x6.heap.size < Y.heap.size := by have := hb.size; simp at this; omega
  rw [pr7_fill _ rfl V, hv]
  clear hb hv hq hr
  go_wp2_with fail
  refine (num_any _ _).mono ?_
  rintro e x7 ⟨rfl, b7⟩
  go_wp2_with fail
  refine (num_any _ _).mono ?_
  rintro e x8 ⟨rfl, b8⟩
  by_cases hp : In64 (a * b)
  · have HP := Lib.hid hp
    clear hp
    go_wp2_with fail
    refine (opI_mul' a b _ _ HA64.out HB64.out rfl HP.out).mono ?_
    rintro e x9 ⟨rfl, b9⟩
    have HB := Lib.hid (((HB.out.trans (b7.mono HB.out.size)).trans (b8.mono (Nat.le_trans HB.out.size b7.size))).trans (b9.mono (Nat.le_trans (Nat.le_trans HB.out.size b7.size) b8.size)))
    have HB := Lib.hid (HB.out.alloc HB.out.size (box 1 (a * b) ⟨#[]⟩))
    clear b7 b8 b9
    go_wp2_with fail
    refine region_as (ops' := pr12Ops) (by kernel_rfl) ?_
    refine pr12a a b HA64 HB64 H0 x9.heap.size HP (fun W hb => box_at hb) (fun W hb => HW.out.on (HB.out.trans (hb.mono HB.out.size))) rfl rfl rfl rfl rfl ?_
    intro V Z hb hv
    have HB := Lib.hid (HB.out.trans (hb.mono HB.out.size))
    rw [pr12_fill _ rfl V, hv]
    clear hb hv
    go_wp2_with fail
    go_ret
    exact ⟨rfl, HB.out⟩
  · have HP := Lib.hid hp
    clear hp
    go_wp2_with fail
    refine (opI_mul_no a b _ HA64.out HB64.out HP.out).mono ?_
    rintro e x9 ⟨rfl, b9⟩
    have HB := Lib.hid (((HB.out.trans (b7.mono HB.out.size)).trans (b8.mono (Nat.le_trans HB.out.size b7.size))).trans (b9.mono (Nat.le_trans (Nat.le_trans HB.out.size b7.size) b8.size)))
    have HB := Lib.hid (HB.out.alloc HB.out.size (box 0 0 ⟨#[]⟩))
    clear b7 b8 b9
    go_wp2_with fail
    refine region_as (ops' := pr12Ops) (by kernel_rfl) ?_
    refine pr12b a b HA64 HB64 H0 x9.heap.size (fun W hb => box_at hb) (fun W hb => HW.out.on (HB.out.trans (hb.mono HB.out.size))) rfl rfl rfl rfl rfl ?_
    intro V Z hb hv
    have HB := Lib.hid (HB.out.trans (hb.mono HB.out.size))
    rw [pr12_fill _ rfl V, hv]
    clear hb hv
    go_wp2_with fail
    go_ret
    exact ⟨rfl, HB.out⟩

set_option maxRecDepth 100000 in
set_option maxHeartbeats 4000000 in
theorem parts_11 (a b q r : Int) (w : World) (HA64 : Hid (In64 a)) (HB64 : Hid (In64 b)) (H0 : Hid (b ≠ 0)) (HF : Hid (¬ (a = -9223372036854775808 ∧ b = -1))) (HQD : Hid (a.tdiv b = q)) (HRD : Hid (a.tmod b = r)) (M1 : Hid (In64 q)) (M2 : Hid (In64 r)) (M3 : Hid (In64 (q * b))) (M4 : Hid (q * b + r = a)) (M5 : Hid (r ≠ 0 → (r < 0 ↔ a < 0)))
    (ha1 : -9223372036854775808 ≤ a) (ha2 : a ≤ 9223372036854775807) (hb1 : -9223372036854775808 ≤ b) (hb2 : b ≤ 9223372036854775807) (e0 : (b == 0) = false) (hmin : (a == -9223372036854775808) = true) (hm1 : (b == -1) = false) (hbs : 0 < b) (hrb : r < b) (hrb2 : -b < r) (HW : Hid (Wd w)) :
    Calls Tryz.prog 7 #[.int .i64 a, .int .i64 b] w fun e w' => e = .returned (.bool true) ∧ Below w.heap.size w w' := by
  go_enter Tryz.func7, Tryz.ntmps7
  go_wp2_with fail
  refine (num_any _ _).mono ?_
  rintro e x1 ⟨rfl, b1⟩
  go_wp2_with fail
  refine (num_any _ _).mono ?_
  rintro e x2 ⟨rfl, b2⟩
  go_wp2_with fail
  refine (opI_quo' a b q _ HA64.out H0.out HF.out HQD.out).mono ?_
  rintro e x3 ⟨rfl, b3⟩
  have HB := Lib.hid ((b1.trans (b2.mono b1.size)).trans (b3.mono (Nat.le_trans b1.size b2.size)))
  clear b1 b2 b3
  go_wp2_with fail
  refine (num_any _ _).mono ?_
  rintro e x4 ⟨rfl, b4⟩
  go_wp2_with fail
  refine (num_any _ _).mono ?_
  rintro e x5 ⟨rfl, b5⟩
  go_wp2_with fail
  refine (opI_rem' a b r _ HA64.out H0.out HRD.out).mono ?_
  rintro e x6 ⟨rfl, b6⟩
  have HQ := Lib.hid ((b4.trans (b5.mono b4.size)).trans (b6.mono (Nat.le_trans b4.size b5.size)))
  have HB := Lib.hid ((HB.out.alloc HB.out.size (box 1 q ⟨#[]⟩)).trans (HQ.out.mono (Nat.le_trans HB.out.size (by simp))))
  obtain ⟨q0, q1, q2⟩ := box_at HQ.out
  have hz : x3.heap.size < x6.heap.size := by have := HQ.out.size; simp at this; omega
  clear b4 b5 b6
  have HB := Lib.hid (HB.out.alloc HB.out.size (box 1 r ⟨#[]⟩))
  have hr := Lib.hid (Below.refl (x6.alloc (box 1 r ⟨#[]⟩)).heap.size (x6.alloc (box 1 r ⟨#[]⟩)))
  have hq := Lib.hid (HQ.out.alloc HQ.out.size (box 1 r ⟨#[]⟩))
  clear q0 q1 q2 HQ
  go_wp2_with fail
  refine region_as (ops' := pr7Ops) (by kernel_rfl) ?_
  refine pr7 a b q r HA64 HB64 H0 M1 M2 M3 M4 M5 x3.heap.size x6.heap.size (fun W hb => box_at (hq.out.trans (hb.mono hq.out.size))) (fun W hb => box_at hb) rfl rfl rfl rfl rfl rfl rfl ?_
  intro V Y hb hv
  have HB := Lib.hid (HB.out.trans (hb.mono HB.out.size))
  obtain ⟨n0, n1, n2⟩ := box_at (hr.out.trans hb)
  have hzy : x6.heap.size < Y.heap.size := by have := hb.size; simp at this; omega
  rw [pr7_fill _ rfl V, hv]
  clear hb hv hq hr
  go_wp2_with fail
  refine (num_any _ _).mono ?_
  rintro e x7 ⟨rfl, b7⟩
  go_wp2_with fail
  refine (num_any _ _).mono ?_
  rintro e x8 ⟨rfl, b8⟩
  by_cases hp : In64 (a * b)
  · have HP := Lib.hid hp
    clear hp
    go_wp2_with fail
    refine (opI_mul' a b _ _ HA64.out HB64.out rfl HP.out).mono ?_
    rintro e x9 ⟨rfl, b9⟩
    have HB := Lib.hid (((HB.out.trans (b7.mono HB.out.size)).trans (b8.mono (Nat.le_trans HB.out.size b7.size))).trans (b9.mono (Nat.le_trans (Nat.le_trans HB.out.size b7.size) b8.size)))
    have HB := Lib.hid (HB.out.alloc HB.out.size (box 1 (a * b) ⟨#[]⟩))
    clear b7 b8 b9
    go_wp2_with fail
    refine region_as (ops' := pr12Ops) (by kernel_rfl) ?_
    refine pr12a a b HA64 HB64 H0 x9.heap.size HP (fun W hb => box_at hb) (fun W hb => HW.out.on (HB.out.trans (hb.mono HB.out.size))) rfl rfl rfl rfl rfl ?_
    intro V Z hb hv
    have HB := Lib.hid (HB.out.trans (hb.mono HB.out.size))
    rw [pr12_fill _ rfl V, hv]
    clear hb hv
    go_wp2_with fail
    go_ret
    exact ⟨rfl, HB.out⟩
  · have HP := Lib.hid hp
    clear hp
    go_wp2_with fail
    refine (opI_mul_no a b _ HA64.out HB64.out HP.out).mono ?_
    rintro e x9 ⟨rfl, b9⟩
    have HB := Lib.hid (((HB.out.trans (b7.mono HB.out.size)).trans (b8.mono (Nat.le_trans HB.out.size b7.size))).trans (b9.mono (Nat.le_trans (Nat.le_trans HB.out.size b7.size) b8.size)))
    have HB := Lib.hid (HB.out.alloc HB.out.size (box 0 0 ⟨#[]⟩))
    clear b7 b8 b9
    go_wp2_with fail
    refine region_as (ops' := pr12Ops) (by kernel_rfl) ?_
    refine pr12b a b HA64 HB64 H0 x9.heap.size (fun W hb => box_at hb) (fun W hb => HW.out.on (HB.out.trans (hb.mono HB.out.size))) rfl rfl rfl rfl rfl ?_
    intro V Z hb hv
    have HB := Lib.hid (HB.out.trans (hb.mono HB.out.size))
    rw [pr12_fill _ rfl V, hv]
    clear hb hv
    go_wp2_with fail
    go_ret
    exact ⟨rfl, HB.out⟩

set_option maxRecDepth 100000 in
set_option maxHeartbeats 4000000 in
theorem parts_12 (a b q r : Int) (w : World) (HA64 : Hid (In64 a)) (HB64 : Hid (In64 b)) (H0 : Hid (b ≠ 0)) (HF : Hid (¬ (a = -9223372036854775808 ∧ b = -1))) (HQD : Hid (a.tdiv b = q)) (HRD : Hid (a.tmod b = r)) (M1 : Hid (In64 q)) (M2 : Hid (In64 r)) (M3 : Hid (In64 (q * b))) (M4 : Hid (q * b + r = a)) (M5 : Hid (r ≠ 0 → (r < 0 ↔ a < 0)))
    (ha1 : -9223372036854775808 ≤ a) (ha2 : a ≤ 9223372036854775807) (hb1 : -9223372036854775808 ≤ b) (hb2 : b ≤ 9223372036854775807) (e0 : (b == 0) = false) (hmin : (a == -9223372036854775808) = true) (hm1 : (b == -1) = false) (hbs : b < 0) (hbm : b ≤ -9223372036854775808) (hrb : b < r) (hrb2 : r < -b) (HW : Hid (Wd w)) :
    Calls Tryz.prog 7 #[.int .i64 a, .int .i64 b] w fun e w' => e = .returned (.bool true) ∧ Below w.heap.size w w' := by
  go_enter Tryz.func7, Tryz.ntmps7
  go_wp2_with fail
  refine (num_any _ _).mono ?_
  rintro e x1 ⟨rfl, b1⟩
  go_wp2_with fail
  refine (num_any _ _).mono ?_
  rintro e x2 ⟨rfl, b2⟩
  go_wp2_with fail
  refine (opI_quo' a b q _ HA64.out H0.out HF.out HQD.out).mono ?_
  rintro e x3 ⟨rfl, b3⟩
  have HB := Lib.hid ((b1.trans (b2.mono b1.size)).trans (b3.mono (Nat.le_trans b1.size b2.size)))
  clear b1 b2 b3
  go_wp2_with fail
  refine (num_any _ _).mono ?_
  rintro e x4 ⟨rfl, b4⟩
  go_wp2_with fail
  refine (num_any _ _).mono ?_
  rintro e x5 ⟨rfl, b5⟩
  go_wp2_with fail
  refine (opI_rem' a b r _ HA64.out H0.out HRD.out).mono ?_
  rintro e x6 ⟨rfl, b6⟩
  have HQ := Lib.hid ((b4.trans (b5.mono b4.size)).trans (b6.mono (Nat.le_trans b4.size b5.size)))
  have HB := Lib.hid ((HB.out.alloc HB.out.size (box 1 q ⟨#[]⟩)).trans (HQ.out.mono (Nat.le_trans HB.out.size (by simp))))
  obtain ⟨q0, q1, q2⟩ := box_at HQ.out
  have hz : x3.heap.size < x6.heap.size := by have := HQ.out.size; simp at this; omega
  clear b4 b5 b6
  have HB := Lib.hid (HB.out.alloc HB.out.size (box 1 r ⟨#[]⟩))
  have hr := Lib.hid (Below.refl (x6.alloc (box 1 r ⟨#[]⟩)).heap.size (x6.alloc (box 1 r ⟨#[]⟩)))
  have hq := Lib.hid (HQ.out.alloc HQ.out.size (box 1 r ⟨#[]⟩))
  clear q0 q1 q2 HQ
  go_wp2_with fail
  refine region_as (ops' := pr7Ops) (by kernel_rfl) ?_
  refine pr7 a b q r HA64 HB64 H0 M1 M2 M3 M4 M5 x3.heap.size x6.heap.size (fun W hb => box_at (hq.out.trans (hb.mono hq.out.size))) (fun W hb => box_at hb) rfl rfl rfl rfl rfl rfl rfl ?_
  intro V Y hb hv
  have HB := Lib.hid (HB.out.trans (hb.mono HB.out.size))
  obtain ⟨n0, n1, n2⟩ := box_at (hr.out.trans hb)
  have hzy : x6.heap.size < Y.heap.size := by have := hb.size; simp at this; omega
  rw [pr7_fill _ rfl V, hv]
  clear hb hv hq hr
  go_wp2_with fail
  refine (num_any _ _).mono ?_
  rintro e x7 ⟨rfl, b7⟩
  go_wp2_with fail
  refine (num_any _ _).mono ?_
  rintro e x8 ⟨rfl, b8⟩
  by_cases hp : In64 (a * b)
  · have HP := Lib.hid hp
    clear hp
    go_wp2_with fail
    refine (opI_mul' a b _ _ HA64.out HB64.out rfl HP.out).mono ?_
    rintro e x9 ⟨rfl, b9⟩
    have HB := Lib.hid (((HB.out.trans (b7.mono HB.out.size)).trans (b8.mono (Nat.le_trans HB.out.size b7.size))).trans (b9.mono (Nat.le_trans (Nat.le_trans HB.out.size b7.size) b8.size)))
    have HB := Lib.hid (HB.out.alloc HB.out.size (box 1 (a * b) ⟨#[]⟩))
    clear b7 b8 b9
    go_wp2_with fail
    refine region_as (ops' := pr12Ops) (by kernel_rfl) ?_
    refine pr12a a b HA64 HB64 H0 x9.heap.size HP (fun W hb => box_at hb) (fun W hb => HW.out.on (HB.out.trans (hb.mono HB.out.size))) rfl rfl rfl rfl rfl ?_
    intro V Z hb hv
    have HB := Lib.hid (HB.out.trans (hb.mono HB.out.size))
    rw [pr12_fill _ rfl V, hv]
    clear hb hv
    go_wp2_with fail
    go_ret
    exact ⟨rfl, HB.out⟩
  · have HP := Lib.hid hp
    clear hp
    go_wp2_with fail
    refine (opI_mul_no a b _ HA64.out HB64.out HP.out).mono ?_
    rintro e x9 ⟨rfl, b9⟩
    have HB := Lib.hid (((HB.out.trans (b7.mono HB.out.size)).trans (b8.mono (Nat.le_trans HB.out.size b7.size))).trans (b9.mono (Nat.le_trans (Nat.le_trans HB.out.size b7.size) b8.size)))
    have HB := Lib.hid (HB.out.alloc HB.out.size (box 0 0 ⟨#[]⟩))
    clear b7 b8 b9
    go_wp2_with fail
    refine region_as (ops' := pr12Ops) (by kernel_rfl) ?_
    refine pr12b a b HA64 HB64 H0 x9.heap.size (fun W hb => box_at hb) (fun W hb => HW.out.on (HB.out.trans (hb.mono HB.out.size))) rfl rfl rfl rfl rfl ?_
    intro V Z hb hv
    have HB := Lib.hid (HB.out.trans (hb.mono HB.out.size))
    rw [pr12_fill _ rfl V, hv]
    clear hb hv
    go_wp2_with fail
    go_ret
    exact ⟨rfl, HB.out⟩

theorem parts_walk (a b : Int) (w : World) (ha : In64 a) (hb : In64 b) (hW : Wd w) :
    Calls Tryz.prog 7 #[.int .i64 a, .int .i64 b] w fun e w' => e = .returned (.bool true) ∧ Below w.heap.size w w' := by
  have HA : Aw w := fun X hX => awake_any X (hW.on hX)
  by_cases h0 : b = 0
  · subst h0
    exact parts_zero a w HA
  by_cases hf : a = -9223372036854775808 ∧ b = -1
  · obtain ⟨rfl, rfl⟩ := hf
    exact parts_far w HA
  obtain ⟨q, hqd⟩ : ∃ q, a.tdiv b = q := ⟨_, rfl⟩
  obtain ⟨r, hrd⟩ : ∃ r, a.tmod b = r := ⟨_, rfl⟩
  obtain ⟨m1, m2, m3, m4, m5, m6, m7⟩ := parts_math a b q r ha hb h0 hf hqd hrd
  have e0 : (b == 0) = false := by simpa using h0
  cases hm : (a == -9223372036854775808)
  · rcases Int.lt_or_gt_of_ne h0 with hbs | hbs
    · by_cases hbm : -9223372036854775808 < b
      · exact parts_00 a b q r w (Lib.hid ha) (Lib.hid hb) (Lib.hid h0) (Lib.hid hf) (Lib.hid hqd) (Lib.hid hrd) (Lib.hid m1) (Lib.hid m2) (Lib.hid m3) (Lib.hid m4) (Lib.hid m5) ha.1 ha.2 hb.1 hb.2 e0 hm hbs hbm (m7 hbs).1 (m7 hbs).2 (Lib.hid hW)
      · exact parts_02 a b q r w (Lib.hid ha) (Lib.hid hb) (Lib.hid h0) (Lib.hid hf) (Lib.hid hqd) (Lib.hid hrd) (Lib.hid m1) (Lib.hid m2) (Lib.hid m3) (Lib.hid m4) (Lib.hid m5) ha.1 ha.2 hb.1 hb.2 e0 hm hbs (by omega) (m7 hbs).1 (m7 hbs).2 (Lib.hid hW)
    · exact parts_01 a b q r w (Lib.hid ha) (Lib.hid hb) (Lib.hid h0) (Lib.hid hf) (Lib.hid hqd) (Lib.hid hrd) (Lib.hid m1) (Lib.hid m2) (Lib.hid m3) (Lib.hid m4) (Lib.hid m5) ha.1 ha.2 hb.1 hb.2 e0 hm hbs (m6 hbs).1 (m6 hbs).2 (Lib.hid hW)
  · have hm1 : (b == -1) = false := by
      simp only [beq_eq_false_iff_ne, ne_eq]
      exact fun h3 => hf ⟨by simpa using hm, h3⟩
    rcases Int.lt_or_gt_of_ne h0 with hbs | hbs
    · by_cases hbm : -9223372036854775808 < b
      · exact parts_10 a b q r w (Lib.hid ha) (Lib.hid hb) (Lib.hid h0) (Lib.hid hf) (Lib.hid hqd) (Lib.hid hrd) (Lib.hid m1) (Lib.hid m2) (Lib.hid m3) (Lib.hid m4) (Lib.hid m5) ha.1 ha.2 hb.1 hb.2 e0 hm hm1 hbs hbm (m7 hbs).1 (m7 hbs).2 (Lib.hid hW)
      · exact parts_12 a b q r w (Lib.hid ha) (Lib.hid hb) (Lib.hid h0) (Lib.hid hf) (Lib.hid hqd) (Lib.hid hrd) (Lib.hid m1) (Lib.hid m2) (Lib.hid m3) (Lib.hid m4) (Lib.hid m5) ha.1 ha.2 hb.1 hb.2 e0 hm hm1 hbs (by omega) (m7 hbs).1 (m7 hbs).2 (Lib.hid hW)
    · exact parts_11 a b q r w (Lib.hid ha) (Lib.hid hb) (Lib.hid h0) (Lib.hid hf) (Lib.hid hqd) (Lib.hid hrd) (Lib.hid m1) (Lib.hid m2) (Lib.hid m3) (Lib.hid m4) (Lib.hid m5) ha.1 ha.2 hb.1 hb.2 e0 hm hm1 hbs (m6 hbs).1 (m6 hbs).2 (Lib.hid hW)
end Go.Proofs.YtaidipdofomgoaaGreatDoor
