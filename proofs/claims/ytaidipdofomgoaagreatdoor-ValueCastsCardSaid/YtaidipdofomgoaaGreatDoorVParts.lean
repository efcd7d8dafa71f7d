/-
  ValueParts: the walk. Conditions: numbers of 64 bits; the library's variables are as its text lays them.
-/
import Derived.Test.YtaidipdofomgoaaGreatDoorVAwake
namespace Go.Proofs.YtaidipdofomgoaaGreatDoor
open Go.ChangeShapes Go.WideShapes Go.ChangeAt Go.RowKit
set_option linter.unusedVariables false

theorem int1 (n : Int) : intV 1 n ⟨#[]⟩ = n := rfl
/-- signs between two ints -/
theorem opI_add (a b : Int) (w : World) (ha : In64 a) (hb : In64 b) (h : In64 (a + b)) : Calls Tryz.prog 14 #[.string ⟨#[43]⟩, vv 1 a ⟨#[]⟩, vv 1 b ⟨#[]⟩] w (RetV (vv 1 (a + b) ⟨#[]⟩) 0 w) :=
  Op_add _ _ _ _ _ _ w (Rt_int _) (Rt_int _) (by omega) (by omega) _ _ _ _ fun X _ => ofTwo_add 1 a ⟨#[]⟩ 1 b ⟨#[]⟩ X sz0 sz0 ha hb h
theorem opI_mul (a b : Int) (w : World) (ha : In64 a) (hb : In64 b) (h : In64 (a * b)) : Calls Tryz.prog 14 #[.string ⟨#[42]⟩, vv 1 a ⟨#[]⟩, vv 1 b ⟨#[]⟩] w (RetV (vv 1 (a * b) ⟨#[]⟩) 0 w) :=
  Op_mul _ _ _ _ _ _ w (Rt_int _) (Rt_int _) (by omega) (by omega) _ _ _ _ fun X _ => ofTwo_mul 1 a ⟨#[]⟩ 1 b ⟨#[]⟩ X sz0 sz0 ha hb h
theorem opI_mul_no (a b : Int) (w : World) (ha : In64 a) (hb : In64 b) (h : ¬ In64 (a * b)) : Calls Tryz.prog 14 #[.string ⟨#[42]⟩, vv 1 a ⟨#[]⟩, vv 1 b ⟨#[]⟩] w (RetV nul 20 w) :=
  Op_mul _ _ _ _ _ _ w (Rt_int _) (Rt_int _) (by omega) (by omega) _ _ _ _ fun X _ => ofTwo_mul_no 1 a ⟨#[]⟩ 1 b ⟨#[]⟩ X sz0 sz0 ha hb h
theorem opI_quo (a b : Int) (w : World) (ha : In64 a) (h0 : b ≠ 0) (hf : ¬ (a = -9223372036854775808 ∧ b = -1)) : Calls Tryz.prog 14 #[.string ⟨#[47]⟩, vv 1 a ⟨#[]⟩, vv 1 b ⟨#[]⟩] w (RetV (vv 1 (a.tdiv b) ⟨#[]⟩) 0 w) :=
  Op_quo _ _ _ _ _ _ w (Rt_int _) (Rt_int _) (by omega) (by omega) _ _ _ _ fun X _ => ofTwo_quo 1 a ⟨#[]⟩ 1 b ⟨#[]⟩ X sz0 sz0 ha h0 hf
theorem opI_quo0 (a : Int) (w : World) : Calls Tryz.prog 14 #[.string ⟨#[47]⟩, vv 1 a ⟨#[]⟩, vv 1 0 ⟨#[]⟩] w (RetV nul 0 w) :=
  Op_quo _ _ _ _ _ _ w (Rt_int _) (Rt_int _) (by omega) (by omega) _ _ _ _ fun X _ => ofTwo_quo_zero 1 a ⟨#[]⟩ 1 0 ⟨#[]⟩ X sz0 sz0 rfl
theorem opI_quoF (w : World) : Calls Tryz.prog 14 #[.string ⟨#[47]⟩, vv 1 (-9223372036854775808) ⟨#[]⟩, vv 1 (-1) ⟨#[]⟩] w (RetV nul 20 w) :=
  Op_quo _ _ _ _ _ _ w (Rt_int _) (Rt_int _) (by omega) (by omega) _ _ _ _ fun X _ => ofTwo_quo_far 1 _ ⟨#[]⟩ 1 _ ⟨#[]⟩ X sz0 sz0 rfl rfl
theorem opI_rem (a b : Int) (w : World) (ha : In64 a) (h0 : b ≠ 0) : Calls Tryz.prog 14 #[.string ⟨#[37]⟩, vv 1 a ⟨#[]⟩, vv 1 b ⟨#[]⟩] w (RetV (vv 1 (a.tmod b) ⟨#[]⟩) 0 w) :=
  Op_rem _ _ _ _ _ _ w (Rt_int _) (Rt_int _) (by omega) (by omega) _ _ _ _ fun X _ => ofTwo_rem 1 a ⟨#[]⟩ 1 b ⟨#[]⟩ X sz0 sz0 ha h0
theorem opI_rem0 (a : Int) (w : World) : Calls Tryz.prog 14 #[.string ⟨#[37]⟩, vv 1 a ⟨#[]⟩, vv 1 0 ⟨#[]⟩] w (RetV nul 0 w) :=
  Op_rem _ _ _ _ _ _ w (Rt_int _) (Rt_int _) (by omega) (by omega) _ _ _ _ fun X _ => ofTwo_rem_zero 1 a ⟨#[]⟩ 1 0 ⟨#[]⟩ X sz0 sz0 rfl

/-- what a boxed value is later on -/
theorem box_at {W X : World} {k n : Int} {s : ByteArray} (h : Below (W.alloc (box k n s)).heap.size (W.alloc (box k n s)) X) :
    X.cell? ⟨W.heap.size, 0, none⟩ = some (.int .u8 k) ∧ X.cell? ⟨W.heap.size, 1, none⟩ = some (.int .i64 n) ∧ X.cell? ⟨W.heap.size, 2, none⟩ = some (.string s) := by
  obtain ⟨hc, hf⟩ := bcell h
  refine ⟨?_, ?_, ?_⟩
  · rw [hc _ _ (by simp)]; simp [go_sem]
  · rw [hc _ _ (by simp)]; simp [go_sem]
  · rw [hc _ _ (by simp)]; simp [go_sem]

theorem opI_quo' (a b q : Int) (w : World) (ha : In64 a) (h0 : b ≠ 0) (hf : ¬ (a = -9223372036854775808 ∧ b = -1)) (hq : a.tdiv b = q) : Calls Tryz.prog 14 #[.string ⟨#[47]⟩, vv 1 a ⟨#[]⟩, vv 1 b ⟨#[]⟩] w (RetV (vv 1 q ⟨#[]⟩) 0 w) := by
  subst hq
  exact opI_quo a b w ha h0 hf
theorem opI_rem' (a b r : Int) (w : World) (ha : In64 a) (h0 : b ≠ 0) (hr : a.tmod b = r) : Calls Tryz.prog 14 #[.string ⟨#[37]⟩, vv 1 a ⟨#[]⟩, vv 1 b ⟨#[]⟩] w (RetV (vv 1 r ⟨#[]⟩) 0 w) := by
  subst hr
  exact opI_rem a b w ha h0
theorem opI_mul' (a b p : Int) (w : World) (ha : In64 a) (hb : In64 b) (hp : a * b = p) (h : In64 p) : Calls Tryz.prog 14 #[.string ⟨#[42]⟩, vv 1 a ⟨#[]⟩, vv 1 b ⟨#[]⟩] w (RetV (vv 1 p ⟨#[]⟩) 0 w) := by
  subst hp
  exact opI_mul a b w ha hb h
theorem opI_add' (a b p : Int) (w : World) (ha : In64 a) (hb : In64 b) (hp : a + b = p) (h : In64 p) : Calls Tryz.prog 14 #[.string ⟨#[43]⟩, vv 1 a ⟨#[]⟩, vv 1 b ⟨#[]⟩] w (RetV (vv 1 p ⟨#[]⟩) 0 w) := by
  subst hp
  exact opI_add a b w ha hb h

abbrev Aw (w : World) : Prop := ∀ X, Below w.heap.size w X → Calls Tryz.prog 26 #[] X fun e w' => e = .returned (.bool true) ∧ Below X.heap.size X w'

/-- six numbers of a quotient and its rest -/
theorem parts_math (a b q r : Int) (ha : In64 a) (hb : In64 b) (h0 : b ≠ 0) (hf : ¬ (a = -9223372036854775808 ∧ b = -1)) (hq : a.tdiv b = q) (hr : a.tmod b = r) :
    In64 q ∧ In64 r ∧ In64 (q * b) ∧ q * b + r = a ∧ (r ≠ 0 → (r < 0 ↔ a < 0)) ∧ (0 < b → r < b ∧ -b < r) ∧ (b < 0 → b < r ∧ r < -b) := by
  have e := Int.mul_tdiv_add_tmod a b
  rw [hq, hr] at e
  have hn := Int.natAbs_tmod a b
  have hl : (a.tmod b).natAbs < b.natAbs := by rw [hn]; exact Nat.mod_lt _ (by omega)
  have h2 := Int.tmod_nonneg (a := a) b
  have h3 := Int.tmod_nonneg (a := -a) b
  have hle : (a.tmod b).natAbs ≤ a.natAbs := by rw [hn]; exact Nat.mod_le _ _
  rw [Int.neg_tmod] at h3
  rw [hr] at hl h2 h3 hle
  have hq64 : In64 q := by rw [← hq]; exact tdiv_64 ha hf
  rw [Int.mul_comm b q] at e
  refine ⟨hq64, ?_, ?_, by omega, ?_, ?_, ?_⟩
  · unfold In64 at *; omega
  · unfold In64 at *
    generalize q * b = m at *
    omega
  · omega
  · omega
  · omega
theorem back_math (a b p : Int) (ha : In64 a) (hp : a * b = p) (h0 : b ≠ 0) : p.tdiv b = a ∧ p.tmod b = 0 ∧ ¬ (p = -9223372036854775808 ∧ b = -1) := by
  subst hp
  refine ⟨Int.mul_tdiv_cancel _ h0, Int.mul_tmod_left _ _, ?_⟩
  rintro ⟨h1, rfl⟩
  unfold In64 at ha
  omega

set_option maxRecDepth 100000 in
set_option maxHeartbeats 2000000 in
theorem parts_zero (a : Int) (w : World) (HA : Aw w) :
    Calls Tryz.prog 7 #[.int .i64 a, .int .i64 0] w fun e w' => e = .returned (.bool true) ∧ Below w.heap.size w w' := by
  have HAW := Lib.hid HA
  clear HA
  go_enter Tryz.func7, Tryz.ntmps7
  go_wp2_with fail
  refine (num_any _ _).mono ?_
  rintro e x1 ⟨rfl, b1⟩
  go_wp2_with fail
  refine (num_any _ _).mono ?_
  rintro e x2 ⟨rfl, b2⟩
  go_wp2_with fail
  refine (opI_quo0 _ _).mono ?_
  rintro e x3 ⟨rfl, b3⟩
  have HB := Lib.hid ((b1.trans (b2.mono b1.size)).trans (b3.mono (Nat.le_trans b1.size b2.size)))
  clear b1 b2 b3
  go_wp2_with fail
  refine (num_any _ _).mono ?_
  rintro e x4 ⟨rfl, b4⟩
  go_wp2_with fail
  refine (num_any _ _).mono ?_
  rintro e x5 ⟨rfl, b5⟩
  go_wp2_with fail
  refine (opI_rem0 _ _).mono ?_
  rintro e x6 ⟨rfl, b6⟩
  have HQ := Lib.hid ((b4.trans (b5.mono b4.size)).trans (b6.mono (Nat.le_trans b4.size b5.size)))
  have HB := Lib.hid ((HB.out.alloc HB.out.size (box 0 0 ⟨#[]⟩)).trans (HQ.out.mono (Nat.le_trans HB.out.size (by simp))))
  obtain ⟨q0, q1, q2⟩ := box_at HQ.out
  have hz : x3.heap.size < x6.heap.size := by have := HQ.out.size; simp at this; omega
  clear b4 b5 b6
  go_wp2_with fail
  refine (HAW.out _ (HB.out.alloc HB.out.size _)).mono ?_
  rintro e x7 ⟨rfl, b7⟩
  go_wp2_with fail
  go_ret
  exact ⟨rfl, (HB.out.alloc HB.out.size _).trans (b7.mono (Nat.le_trans HB.out.size (by simp)))⟩

set_option maxRecDepth 100000 in
set_option maxHeartbeats 2000000 in
theorem parts_far (w : World) (HA : Aw w) :
    Calls Tryz.prog 7 #[.int .i64 (-9223372036854775808), .int .i64 (-1)] w fun e w' => e = .returned (.bool true) ∧ Below w.heap.size w w' := by
  have HAW := Lib.hid HA
  clear HA
  go_enter Tryz.func7, Tryz.ntmps7
  go_wp2_with fail
  refine (num_any _ _).mono ?_
  rintro e x1 ⟨rfl, b1⟩
  go_wp2_with fail
  refine (num_any _ _).mono ?_
  rintro e x2 ⟨rfl, b2⟩
  go_wp2_with fail
  refine (opI_quoF _).mono ?_
  rintro e x3 ⟨rfl, b3⟩
  have HB := Lib.hid ((b1.trans (b2.mono b1.size)).trans (b3.mono (Nat.le_trans b1.size b2.size)))
  clear b1 b2 b3
  go_wp2_with fail
  refine (num_any _ _).mono ?_
  rintro e x4 ⟨rfl, b4⟩
  go_wp2_with fail
  refine (num_any _ _).mono ?_
  rintro e x5 ⟨rfl, b5⟩
  go_wp2_with fail
  refine (opI_rem' _ _ 0 _ (by decide) (by decide) (by decide)).mono ?_
  rintro e x6 ⟨rfl, b6⟩
  have HQ := Lib.hid ((b4.trans (b5.mono b4.size)).trans (b6.mono (Nat.le_trans b4.size b5.size)))
  have HB := Lib.hid ((HB.out.alloc HB.out.size (box 0 0 ⟨#[]⟩)).trans (HQ.out.mono (Nat.le_trans HB.out.size (by simp))))
  obtain ⟨q0, q1, q2⟩ := box_at HQ.out
  have hz : x3.heap.size < x6.heap.size := by have := HQ.out.size; simp at this; omega
  clear b4 b5 b6
  have hcur := Lib.hid (HB.out.alloc HB.out.size (box 1 0 ⟨#[]⟩))
  have hr := Lib.hid (Below.refl (x6.alloc (box 1 0 ⟨#[]⟩)).heap.size (x6.alloc (box 1 0 ⟨#[]⟩)))
  go_wp2_with fail
  go_region_held3 (fun X => X.cell? ⟨x6.heap.size, 0, none⟩ = some (.int .u8 1) ∧ X.cell? ⟨x6.heap.size, 1, none⟩ = some (.int .i64 0) ∧ X.cell? ⟨x6.heap.size, 2, none⟩ = some (.string ⟨#[]⟩))
    (first | exact box_at hr.out | exact box_at hr.out.drew)
    (first
      | (go_at_call 15; refine (num_any _ _).mono ?_; rintro e wa ⟨rfl, ba⟩; have hcur := Lib.hid (hcur.out.drew.trans (ba.mono hcur.out.size)); have hr := Lib.hid (hr.out.drew.trans (ba.mono hr.out.size)))
      | (go_at_call 26; refine (HAW.out _ hcur.out).mono ?_; rintro e wa ⟨rfl, ba⟩; have hcur := Lib.hid (hcur.out.trans (ba.mono hcur.out.size)); have hr := Lib.hid (hr.out.trans (ba.mono hr.out.size))))
  go_wp2_with fail
  go_ret
  exact ⟨rfl, hcur.out⟩

end Go.Proofs.YtaidipdofomgoaaGreatDoor
