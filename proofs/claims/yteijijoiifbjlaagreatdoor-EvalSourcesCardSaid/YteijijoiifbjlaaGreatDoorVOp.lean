/-
  Op and One (layer 2, value). Conditions: sizes of values.
-/
import Derived.Test.YteijijoiifbjlaaGreatDoorVTwo
namespace Go.Proofs.YteijijoiifbjlaaGreatDoor
open Go.ChangeShapes Go.WideShapes Go.ChangeAt Go.RowKit
set_option linter.unusedVariables false

theorem holds_eq (c : Int) (w : World) :
    Calls Tryz.prog 108 #[.string ⟨#[61]⟩, .int .i64 c] w fun e w' => e = .returned (.bool (c == 0)) ∧ w = w' := by
  go_enter Tryz.func108, Tryz.ntmps108
  go_wp2_with fail
  go_ret
  exact ⟨rfl, rfl⟩

theorem holds_ne (c : Int) (w : World) :
    Calls Tryz.prog 108 #[.string ⟨#[60, 62]⟩, .int .i64 c] w fun e w' => e = .returned (.bool (c != 0)) ∧ w = w' := by
  go_enter Tryz.func108, Tryz.ntmps108
  go_wp2_with fail
  go_ret
  exact ⟨rfl, rfl⟩

theorem holds_lt (c : Int) (w : World) :
    Calls Tryz.prog 108 #[.string ⟨#[60]⟩, .int .i64 c] w fun e w' => e = .returned (.bool (decide (c < 0))) ∧ w = w' := by
  go_enter Tryz.func108, Tryz.ntmps108
  go_wp2_with fail
  go_ret
  exact ⟨rfl, rfl⟩

theorem holds_le (c : Int) (w : World) :
    Calls Tryz.prog 108 #[.string ⟨#[60, 61]⟩, .int .i64 c] w fun e w' => e = .returned (.bool (decide (c ≤ 0))) ∧ w = w' := by
  go_enter Tryz.func108, Tryz.ntmps108
  go_wp2_with fail
  go_ret
  exact ⟨rfl, rfl⟩

theorem holds_gt (c : Int) (w : World) :
    Calls Tryz.prog 108 #[.string ⟨#[62]⟩, .int .i64 c] w fun e w' => e = .returned (.bool (decide (0 < c))) ∧ w = w' := by
  go_enter Tryz.func108, Tryz.ntmps108
  go_wp2_with fail
  go_ret
  exact ⟨rfl, rfl⟩

theorem holds_ge (c : Int) (w : World) :
    Calls Tryz.prog 108 #[.string ⟨#[62, 61]⟩, .int .i64 c] w fun e w' => e = .returned (.bool (decide (0 ≤ c))) ∧ w = w' := by
  go_enter Tryz.func108, Tryz.ntmps108
  go_wp2_with fail
  go_ret
  exact ⟨rfl, rfl⟩

set_option maxHeartbeats 400000 in
theorem ofTwo_eq (k n : Int) (s : ByteArray) (k' n' : Int) (s' : ByteArray) (w : World) :
    Calls Tryz.prog 97 #[.string ⟨#[61]⟩, vv k n s, vv k' n' s'] w (RetV (vv 1 (if (cmpV k n s k' n' s') == 0 then 1 else 0) ⟨#[]⟩) 0 w) := by
  have F := w3_cells w k n s k' n' s'
  go_enter Tryz.func97, Tryz.ntmps97
  go_wp2_with (first
    | (go_at_call 109; refine (Compare_any _ _ _ _ _ _ _).mono ?_; rintro e wa ⟨rfl, ba⟩; generalize hcv : cmpV k n s k' n' s' = c at *; clear hcv; (first | (have hcur := Lib.hid (hcur.out.trans (ba.mono hcur.out.size))) | (have hcur := Lib.hid ((Below.refl (w3 w k n s k' n' s').heap.size (w3 w k n s k' n' s')).trans ba))); obtain ⟨g0, g1, g2, g3, g4, g5⟩ := F _ (hcur.out.mono (by simp)))
    | (go_at_call 108; refine (holds_eq _ _).mono ?_; rintro e wa ⟨rfl, rfl⟩; generalize hbv : (c == 0) = bv at *; clear hbv)
    | (go_at_call 92; refine (flagValue_any _ _).mono ?_; rintro e wa ⟨rfl, ba⟩; generalize hiv : (if bv = true then (1 : Int) else 0) = iv at *; clear hiv; have hcur := Lib.hid (hcur.out.trans (ba.mono hcur.out.size)); obtain ⟨hc0, hc1, hc2, hf0, hf1, hf2⟩ := w3_out _ _ _ _ _ _ _ _ hcur.out; have hz : w.heap.size + 2 < wa.heap.size := (by have := hcur.out.size; simp at this; omega)))
  exact bodyPost_ret (v := .tuple #[vv 1 iv ⟨#[]⟩, .int .i64 0]) (by simp [results, Tryz.results97, go_sem, hc0, hc1, hc2]) rfl ⟨rfl, w3_end _ _ _ _ _ _ _ _ hcur.out _ _ _⟩

set_option maxHeartbeats 400000 in
theorem ofTwo_ne (k n : Int) (s : ByteArray) (k' n' : Int) (s' : ByteArray) (w : World) :
    Calls Tryz.prog 97 #[.string ⟨#[60, 62]⟩, vv k n s, vv k' n' s'] w (RetV (vv 1 (if (cmpV k n s k' n' s') != 0 then 1 else 0) ⟨#[]⟩) 0 w) := by
  have F := w3_cells w k n s k' n' s'
  go_enter Tryz.func97, Tryz.ntmps97
  go_wp2_with (first
    | (go_at_call 109; refine (Compare_any _ _ _ _ _ _ _).mono ?_; rintro e wa ⟨rfl, ba⟩; generalize hcv : cmpV k n s k' n' s' = c at *; clear hcv; (first | (have hcur := Lib.hid (hcur.out.trans (ba.mono hcur.out.size))) | (have hcur := Lib.hid ((Below.refl (w3 w k n s k' n' s').heap.size (w3 w k n s k' n' s')).trans ba))); obtain ⟨g0, g1, g2, g3, g4, g5⟩ := F _ (hcur.out.mono (by simp)))
    | (go_at_call 108; refine (holds_ne _ _).mono ?_; rintro e wa ⟨rfl, rfl⟩; generalize hbv : (c != 0) = bv at *; clear hbv)
    | (go_at_call 92; refine (flagValue_any _ _).mono ?_; rintro e wa ⟨rfl, ba⟩; generalize hiv : (if bv = true then (1 : Int) else 0) = iv at *; clear hiv; have hcur := Lib.hid (hcur.out.trans (ba.mono hcur.out.size)); obtain ⟨hc0, hc1, hc2, hf0, hf1, hf2⟩ := w3_out _ _ _ _ _ _ _ _ hcur.out; have hz : w.heap.size + 2 < wa.heap.size := (by have := hcur.out.size; simp at this; omega)))
  exact bodyPost_ret (v := .tuple #[vv 1 iv ⟨#[]⟩, .int .i64 0]) (by simp [results, Tryz.results97, go_sem, hc0, hc1, hc2]) rfl ⟨rfl, w3_end _ _ _ _ _ _ _ _ hcur.out _ _ _⟩

set_option maxHeartbeats 400000 in
theorem ofTwo_lt (k n : Int) (s : ByteArray) (k' n' : Int) (s' : ByteArray) (w : World) :
    Calls Tryz.prog 97 #[.string ⟨#[60]⟩, vv k n s, vv k' n' s'] w (RetV (vv 1 (if decide (cmpV k n s k' n' s' < 0) then 1 else 0) ⟨#[]⟩) 0 w) := by
  have F := w3_cells w k n s k' n' s'
  go_enter Tryz.func97, Tryz.ntmps97
  go_wp2_with (first
    | (go_at_call 109; refine (Compare_any _ _ _ _ _ _ _).mono ?_; rintro e wa ⟨rfl, ba⟩; generalize hcv : cmpV k n s k' n' s' = c at *; clear hcv; (first | (have hcur := Lib.hid (hcur.out.trans (ba.mono hcur.out.size))) | (have hcur := Lib.hid ((Below.refl (w3 w k n s k' n' s').heap.size (w3 w k n s k' n' s')).trans ba))); obtain ⟨g0, g1, g2, g3, g4, g5⟩ := F _ (hcur.out.mono (by simp)))
    | (go_at_call 108; refine (holds_lt _ _).mono ?_; rintro e wa ⟨rfl, rfl⟩; generalize hbv : (decide (c < 0)) = bv at *; clear hbv)
    | (go_at_call 92; refine (flagValue_any _ _).mono ?_; rintro e wa ⟨rfl, ba⟩; generalize hiv : (if bv = true then (1 : Int) else 0) = iv at *; clear hiv; have hcur := Lib.hid (hcur.out.trans (ba.mono hcur.out.size)); obtain ⟨hc0, hc1, hc2, hf0, hf1, hf2⟩ := w3_out _ _ _ _ _ _ _ _ hcur.out; have hz : w.heap.size + 2 < wa.heap.size := (by have := hcur.out.size; simp at this; omega)))
  exact bodyPost_ret (v := .tuple #[vv 1 iv ⟨#[]⟩, .int .i64 0]) (by simp [results, Tryz.results97, go_sem, hc0, hc1, hc2]) rfl ⟨rfl, w3_end _ _ _ _ _ _ _ _ hcur.out _ _ _⟩

set_option maxHeartbeats 400000 in
theorem ofTwo_le (k n : Int) (s : ByteArray) (k' n' : Int) (s' : ByteArray) (w : World) :
    Calls Tryz.prog 97 #[.string ⟨#[60, 61]⟩, vv k n s, vv k' n' s'] w (RetV (vv 1 (if decide (cmpV k n s k' n' s' ≤ 0) then 1 else 0) ⟨#[]⟩) 0 w) := by
  have F := w3_cells w k n s k' n' s'
  go_enter Tryz.func97, Tryz.ntmps97
  go_wp2_with (first
    | (go_at_call 109; refine (Compare_any _ _ _ _ _ _ _).mono ?_; rintro e wa ⟨rfl, ba⟩; generalize hcv : cmpV k n s k' n' s' = c at *; clear hcv; (first | (have hcur := Lib.hid (hcur.out.trans (ba.mono hcur.out.size))) | (have hcur := Lib.hid ((Below.refl (w3 w k n s k' n' s').heap.size (w3 w k n s k' n' s')).trans ba))); obtain ⟨g0, g1, g2, g3, g4, g5⟩ := F _ (hcur.out.mono (by simp)))
    | (go_at_call 108; refine (holds_le _ _).mono ?_; rintro e wa ⟨rfl, rfl⟩; generalize hbv : (decide (c ≤ 0)) = bv at *; clear hbv)
    | (go_at_call 92; refine (flagValue_any _ _).mono ?_; rintro e wa ⟨rfl, ba⟩; generalize hiv : (if bv = true then (1 : Int) else 0) = iv at *; clear hiv; have hcur := Lib.hid (hcur.out.trans (ba.mono hcur.out.size)); obtain ⟨hc0, hc1, hc2, hf0, hf1, hf2⟩ := w3_out _ _ _ _ _ _ _ _ hcur.out; have hz : w.heap.size + 2 < wa.heap.size := (by have := hcur.out.size; simp at this; omega)))
  exact bodyPost_ret (v := .tuple #[vv 1 iv ⟨#[]⟩, .int .i64 0]) (by simp [results, Tryz.results97, go_sem, hc0, hc1, hc2]) rfl ⟨rfl, w3_end _ _ _ _ _ _ _ _ hcur.out _ _ _⟩

set_option maxHeartbeats 400000 in
theorem ofTwo_gt (k n : Int) (s : ByteArray) (k' n' : Int) (s' : ByteArray) (w : World) :
    Calls Tryz.prog 97 #[.string ⟨#[62]⟩, vv k n s, vv k' n' s'] w (RetV (vv 1 (if decide (0 < cmpV k n s k' n' s') then 1 else 0) ⟨#[]⟩) 0 w) := by
  have F := w3_cells w k n s k' n' s'
  go_enter Tryz.func97, Tryz.ntmps97
  go_wp2_with (first
    | (go_at_call 109; refine (Compare_any _ _ _ _ _ _ _).mono ?_; rintro e wa ⟨rfl, ba⟩; generalize hcv : cmpV k n s k' n' s' = c at *; clear hcv; (first | (have hcur := Lib.hid (hcur.out.trans (ba.mono hcur.out.size))) | (have hcur := Lib.hid ((Below.refl (w3 w k n s k' n' s').heap.size (w3 w k n s k' n' s')).trans ba))); obtain ⟨g0, g1, g2, g3, g4, g5⟩ := F _ (hcur.out.mono (by simp)))
    | (go_at_call 108; refine (holds_gt _ _).mono ?_; rintro e wa ⟨rfl, rfl⟩; generalize hbv : (decide (0 < c)) = bv at *; clear hbv)
    | (go_at_call 92; refine (flagValue_any _ _).mono ?_; rintro e wa ⟨rfl, ba⟩; generalize hiv : (if bv = true then (1 : Int) else 0) = iv at *; clear hiv; have hcur := Lib.hid (hcur.out.trans (ba.mono hcur.out.size)); obtain ⟨hc0, hc1, hc2, hf0, hf1, hf2⟩ := w3_out _ _ _ _ _ _ _ _ hcur.out; have hz : w.heap.size + 2 < wa.heap.size := (by have := hcur.out.size; simp at this; omega)))
  exact bodyPost_ret (v := .tuple #[vv 1 iv ⟨#[]⟩, .int .i64 0]) (by simp [results, Tryz.results97, go_sem, hc0, hc1, hc2]) rfl ⟨rfl, w3_end _ _ _ _ _ _ _ _ hcur.out _ _ _⟩

set_option maxHeartbeats 400000 in
theorem ofTwo_ge (k n : Int) (s : ByteArray) (k' n' : Int) (s' : ByteArray) (w : World) :
    Calls Tryz.prog 97 #[.string ⟨#[62, 61]⟩, vv k n s, vv k' n' s'] w (RetV (vv 1 (if decide (0 ≤ cmpV k n s k' n' s') then 1 else 0) ⟨#[]⟩) 0 w) := by
  have F := w3_cells w k n s k' n' s'
  go_enter Tryz.func97, Tryz.ntmps97
  go_wp2_with (first
    | (go_at_call 109; refine (Compare_any _ _ _ _ _ _ _).mono ?_; rintro e wa ⟨rfl, ba⟩; generalize hcv : cmpV k n s k' n' s' = c at *; clear hcv; (first | (have hcur := Lib.hid (hcur.out.trans (ba.mono hcur.out.size))) | (have hcur := Lib.hid ((Below.refl (w3 w k n s k' n' s').heap.size (w3 w k n s k' n' s')).trans ba))); obtain ⟨g0, g1, g2, g3, g4, g5⟩ := F _ (hcur.out.mono (by simp)))
    | (go_at_call 108; refine (holds_ge _ _).mono ?_; rintro e wa ⟨rfl, rfl⟩; generalize hbv : (decide (0 ≤ c)) = bv at *; clear hbv)
    | (go_at_call 92; refine (flagValue_any _ _).mono ?_; rintro e wa ⟨rfl, ba⟩; generalize hiv : (if bv = true then (1 : Int) else 0) = iv at *; clear hiv; have hcur := Lib.hid (hcur.out.trans (ba.mono hcur.out.size)); obtain ⟨hc0, hc1, hc2, hf0, hf1, hf2⟩ := w3_out _ _ _ _ _ _ _ _ hcur.out; have hz : w.heap.size + 2 < wa.heap.size := (by have := hcur.out.size; simp at this; omega)))
  exact bodyPost_ret (v := .tuple #[vv 1 iv ⟨#[]⟩, .int .i64 0]) (by simp [results, Tryz.results97, go_sem, hc0, hc1, hc2]) rfl ⟨rfl, w3_end _ _ _ _ _ _ _ _ hcur.out _ _ _⟩

theorem w3_end0 (w : World) (k n : Int) (s : ByteArray) (k' n' : Int) (s' : ByteArray) (X : World) (h : Below (w3 w k n s k' n' s').heap.size (w3 w k n s k' n' s') X) : Below w.heap.size w X :=
  (w3_below w k n s k' n' s').trans (h.mono (by rw [w3_size]; omega))
theorem Rt_size {k n : Int} {s : ByteArray} (h : Rt k n s) : s.size ≤ 65536 := by
  unfold Rt at h
  omega

set_option maxHeartbeats 400000 in
theorem Op_add (k n : Int) (s : ByteArray) (k' n' : Int) (s' : ByteArray) (w : World) (hr : Rt k n s) (hr' : Rt k' n' s') (hk : k ≠ 0) (hk' : k' ≠ 0) (a b : Int) (c : ByteArray) (er : Int)
    (H : ∀ W, Below w.heap.size w W → Calls Tryz.prog 97 #[.string ⟨#[43]⟩, vv k n s, vv k' n' s'] W (RetV (vv a b c) er W)) :
    Calls Tryz.prog 77 #[.string ⟨#[43]⟩, vv k n s, vv k' n' s'] w (RetV (vv a b c) er w) := by
  have F := w3_cells w k n s k' n' s'
  have HR := Lib.hid hr
  have HR' := Lib.hid hr'
  have hs : s.size ≤ 9223372036854775807 := by have := Rt_size hr; omega
  have hs' : s'.size ≤ 9223372036854775807 := by have := Rt_size hr'; omega
  clear hr hr'
  have e0 : (k == 0) = false := by simpa using hk
  have e0' : (k' == 0) = false := by simpa using hk'
  clear hk hk'
  go_enter Tryz.func77, Tryz.ntmps77
  go_wp2_with (first
    | (go_at_call 12; refine (Right_any _ _ _ _ (by assumption)).mono ?_; rintro e wa ⟨rfl, ba⟩; (first | rw [decide_eq_true HR.out] | rw [decide_eq_true HR'.out]); (first | (have hcur := Lib.hid (hcur.out.trans (ba.mono hcur.out.size))) | (have hcur := Lib.hid ((Below.refl (w3 w k n s k' n' s').heap.size (w3 w k n s k' n' s')).trans ba))); obtain ⟨g0, g1, g2, g3, g4, g5⟩ := F _ (hcur.out.mono (by simp)))
    | (go_at_call 34; refine (isNull_any _ _ _ _).mono ?_; rintro e wa ⟨rfl, ba⟩; (first | (have hcur := Lib.hid (hcur.out.trans (ba.mono hcur.out.size))) | (have hcur := Lib.hid ((Below.refl (w3 w k n s k' n' s').heap.size (w3 w k n s k' n' s')).trans ba))); obtain ⟨g0, g1, g2, g3, g4, g5⟩ := F _ (hcur.out.mono (by simp)))
    | (go_at_call 97; refine (H _ (w3_end0 _ _ _ _ _ _ _ _ hcur.out)).mono ?_; rintro e wa ⟨rfl, ba⟩; have hcur := Lib.hid (hcur.out.trans (ba.mono hcur.out.size)); obtain ⟨hc0, hc1, hc2, hf0, hf1, hf2⟩ := w3_out _ _ _ _ _ _ _ _ hcur.out; have hz : w.heap.size + 2 < wa.heap.size := (by have := hcur.out.size; simp at this; omega)))
  exact bodyPost_ret (v := .tuple #[vv a b c, .int .i64 er]) (by simp [results, Tryz.results77, go_sem, hc0, hc1, hc2]) rfl ⟨rfl, w3_end _ _ _ _ _ _ _ _ hcur.out _ _ _⟩

set_option maxHeartbeats 400000 in
theorem Op_sub (k n : Int) (s : ByteArray) (k' n' : Int) (s' : ByteArray) (w : World) (hr : Rt k n s) (hr' : Rt k' n' s') (hk : k ≠ 0) (hk' : k' ≠ 0) (a b : Int) (c : ByteArray) (er : Int)
    (H : ∀ W, Below w.heap.size w W → Calls Tryz.prog 97 #[.string ⟨#[45]⟩, vv k n s, vv k' n' s'] W (RetV (vv a b c) er W)) :
    Calls Tryz.prog 77 #[.string ⟨#[45]⟩, vv k n s, vv k' n' s'] w (RetV (vv a b c) er w) := by
  have F := w3_cells w k n s k' n' s'
  have HR := Lib.hid hr
  have HR' := Lib.hid hr'
  have hs : s.size ≤ 9223372036854775807 := by have := Rt_size hr; omega
  have hs' : s'.size ≤ 9223372036854775807 := by have := Rt_size hr'; omega
  clear hr hr'
  have e0 : (k == 0) = false := by simpa using hk
  have e0' : (k' == 0) = false := by simpa using hk'
  clear hk hk'
  go_enter Tryz.func77, Tryz.ntmps77
  go_wp2_with (first
    | (go_at_call 12; refine (Right_any _ _ _ _ (by assumption)).mono ?_; rintro e wa ⟨rfl, ba⟩; (first | rw [decide_eq_true HR.out] | rw [decide_eq_true HR'.out]); (first | (have hcur := Lib.hid (hcur.out.trans (ba.mono hcur.out.size))) | (have hcur := Lib.hid ((Below.refl (w3 w k n s k' n' s').heap.size (w3 w k n s k' n' s')).trans ba))); obtain ⟨g0, g1, g2, g3, g4, g5⟩ := F _ (hcur.out.mono (by simp)))
    | (go_at_call 34; refine (isNull_any _ _ _ _).mono ?_; rintro e wa ⟨rfl, ba⟩; (first | (have hcur := Lib.hid (hcur.out.trans (ba.mono hcur.out.size))) | (have hcur := Lib.hid ((Below.refl (w3 w k n s k' n' s').heap.size (w3 w k n s k' n' s')).trans ba))); obtain ⟨g0, g1, g2, g3, g4, g5⟩ := F _ (hcur.out.mono (by simp)))
    | (go_at_call 97; refine (H _ (w3_end0 _ _ _ _ _ _ _ _ hcur.out)).mono ?_; rintro e wa ⟨rfl, ba⟩; have hcur := Lib.hid (hcur.out.trans (ba.mono hcur.out.size)); obtain ⟨hc0, hc1, hc2, hf0, hf1, hf2⟩ := w3_out _ _ _ _ _ _ _ _ hcur.out; have hz : w.heap.size + 2 < wa.heap.size := (by have := hcur.out.size; simp at this; omega)))
  exact bodyPost_ret (v := .tuple #[vv a b c, .int .i64 er]) (by simp [results, Tryz.results77, go_sem, hc0, hc1, hc2]) rfl ⟨rfl, w3_end _ _ _ _ _ _ _ _ hcur.out _ _ _⟩

set_option maxHeartbeats 400000 in
theorem Op_mul (k n : Int) (s : ByteArray) (k' n' : Int) (s' : ByteArray) (w : World) (hr : Rt k n s) (hr' : Rt k' n' s') (hk : k ≠ 0) (hk' : k' ≠ 0) (a b : Int) (c : ByteArray) (er : Int)
    (H : ∀ W, Below w.heap.size w W → Calls Tryz.prog 97 #[.string ⟨#[42]⟩, vv k n s, vv k' n' s'] W (RetV (vv a b c) er W)) :
    Calls Tryz.prog 77 #[.string ⟨#[42]⟩, vv k n s, vv k' n' s'] w (RetV (vv a b c) er w) := by
  have F := w3_cells w k n s k' n' s'
  have HR := Lib.hid hr
  have HR' := Lib.hid hr'
  have hs : s.size ≤ 9223372036854775807 := by have := Rt_size hr; omega
  have hs' : s'.size ≤ 9223372036854775807 := by have := Rt_size hr'; omega
  clear hr hr'
  have e0 : (k == 0) = false := by simpa using hk
  have e0' : (k' == 0) = false := by simpa using hk'
  clear hk hk'
  go_enter Tryz.func77, Tryz.ntmps77
  go_wp2_with (first
    | (go_at_call 12; refine (Right_any _ _ _ _ (by assumption)).mono ?_; rintro e wa ⟨rfl, ba⟩; (first | rw [decide_eq_true HR.out] | rw [decide_eq_true HR'.out]); (first | (have hcur := Lib.hid (hcur.out.trans (ba.mono hcur.out.size))) | (have hcur := Lib.hid ((Below.refl (w3 w k n s k' n' s').heap.size (w3 w k n s k' n' s')).trans ba))); obtain ⟨g0, g1, g2, g3, g4, g5⟩ := F _ (hcur.out.mono (by simp)))
    | (go_at_call 34; refine (isNull_any _ _ _ _).mono ?_; rintro e wa ⟨rfl, ba⟩; (first | (have hcur := Lib.hid (hcur.out.trans (ba.mono hcur.out.size))) | (have hcur := Lib.hid ((Below.refl (w3 w k n s k' n' s').heap.size (w3 w k n s k' n' s')).trans ba))); obtain ⟨g0, g1, g2, g3, g4, g5⟩ := F _ (hcur.out.mono (by simp)))
    | (go_at_call 97; refine (H _ (w3_end0 _ _ _ _ _ _ _ _ hcur.out)).mono ?_; rintro e wa ⟨rfl, ba⟩; have hcur := Lib.hid (hcur.out.trans (ba.mono hcur.out.size)); obtain ⟨hc0, hc1, hc2, hf0, hf1, hf2⟩ := w3_out _ _ _ _ _ _ _ _ hcur.out; have hz : w.heap.size + 2 < wa.heap.size := (by have := hcur.out.size; simp at this; omega)))
  exact bodyPost_ret (v := .tuple #[vv a b c, .int .i64 er]) (by simp [results, Tryz.results77, go_sem, hc0, hc1, hc2]) rfl ⟨rfl, w3_end _ _ _ _ _ _ _ _ hcur.out _ _ _⟩

set_option maxHeartbeats 400000 in
theorem Op_quo (k n : Int) (s : ByteArray) (k' n' : Int) (s' : ByteArray) (w : World) (hr : Rt k n s) (hr' : Rt k' n' s') (hk : k ≠ 0) (hk' : k' ≠ 0) (a b : Int) (c : ByteArray) (er : Int)
    (H : ∀ W, Below w.heap.size w W → Calls Tryz.prog 97 #[.string ⟨#[47]⟩, vv k n s, vv k' n' s'] W (RetV (vv a b c) er W)) :
    Calls Tryz.prog 77 #[.string ⟨#[47]⟩, vv k n s, vv k' n' s'] w (RetV (vv a b c) er w) := by
  have F := w3_cells w k n s k' n' s'
  have HR := Lib.hid hr
  have HR' := Lib.hid hr'
  have hs : s.size ≤ 9223372036854775807 := by have := Rt_size hr; omega
  have hs' : s'.size ≤ 9223372036854775807 := by have := Rt_size hr'; omega
  clear hr hr'
  have e0 : (k == 0) = false := by simpa using hk
  have e0' : (k' == 0) = false := by simpa using hk'
  clear hk hk'
  go_enter Tryz.func77, Tryz.ntmps77
  go_wp2_with (first
    | (go_at_call 12; refine (Right_any _ _ _ _ (by assumption)).mono ?_; rintro e wa ⟨rfl, ba⟩; (first | rw [decide_eq_true HR.out] | rw [decide_eq_true HR'.out]); (first | (have hcur := Lib.hid (hcur.out.trans (ba.mono hcur.out.size))) | (have hcur := Lib.hid ((Below.refl (w3 w k n s k' n' s').heap.size (w3 w k n s k' n' s')).trans ba))); obtain ⟨g0, g1, g2, g3, g4, g5⟩ := F _ (hcur.out.mono (by simp)))
    | (go_at_call 34; refine (isNull_any _ _ _ _).mono ?_; rintro e wa ⟨rfl, ba⟩; (first | (have hcur := Lib.hid (hcur.out.trans (ba.mono hcur.out.size))) | (have hcur := Lib.hid ((Below.refl (w3 w k n s k' n' s').heap.size (w3 w k n s k' n' s')).trans ba))); obtain ⟨g0, g1, g2, g3, g4, g5⟩ := F _ (hcur.out.mono (by simp)))
    | (go_at_call 97; refine (H _ (w3_end0 _ _ _ _ _ _ _ _ hcur.out)).mono ?_; rintro e wa ⟨rfl, ba⟩; have hcur := Lib.hid (hcur.out.trans (ba.mono hcur.out.size)); obtain ⟨hc0, hc1, hc2, hf0, hf1, hf2⟩ := w3_out _ _ _ _ _ _ _ _ hcur.out; have hz : w.heap.size + 2 < wa.heap.size := (by have := hcur.out.size; simp at this; omega)))
  exact bodyPost_ret (v := .tuple #[vv a b c, .int .i64 er]) (by simp [results, Tryz.results77, go_sem, hc0, hc1, hc2]) rfl ⟨rfl, w3_end _ _ _ _ _ _ _ _ hcur.out _ _ _⟩

set_option maxHeartbeats 400000 in
theorem Op_rem (k n : Int) (s : ByteArray) (k' n' : Int) (s' : ByteArray) (w : World) (hr : Rt k n s) (hr' : Rt k' n' s') (hk : k ≠ 0) (hk' : k' ≠ 0) (a b : Int) (c : ByteArray) (er : Int)
    (H : ∀ W, Below w.heap.size w W → Calls Tryz.prog 97 #[.string ⟨#[37]⟩, vv k n s, vv k' n' s'] W (RetV (vv a b c) er W)) :
    Calls Tryz.prog 77 #[.string ⟨#[37]⟩, vv k n s, vv k' n' s'] w (RetV (vv a b c) er w) := by
  have F := w3_cells w k n s k' n' s'
  have HR := Lib.hid hr
  have HR' := Lib.hid hr'
  have hs : s.size ≤ 9223372036854775807 := by have := Rt_size hr; omega
  have hs' : s'.size ≤ 9223372036854775807 := by have := Rt_size hr'; omega
  clear hr hr'
  have e0 : (k == 0) = false := by simpa using hk
  have e0' : (k' == 0) = false := by simpa using hk'
  clear hk hk'
  go_enter Tryz.func77, Tryz.ntmps77
  go_wp2_with (first
    | (go_at_call 12; refine (Right_any _ _ _ _ (by assumption)).mono ?_; rintro e wa ⟨rfl, ba⟩; (first | rw [decide_eq_true HR.out] | rw [decide_eq_true HR'.out]); (first | (have hcur := Lib.hid (hcur.out.trans (ba.mono hcur.out.size))) | (have hcur := Lib.hid ((Below.refl (w3 w k n s k' n' s').heap.size (w3 w k n s k' n' s')).trans ba))); obtain ⟨g0, g1, g2, g3, g4, g5⟩ := F _ (hcur.out.mono (by simp)))
    | (go_at_call 34; refine (isNull_any _ _ _ _).mono ?_; rintro e wa ⟨rfl, ba⟩; (first | (have hcur := Lib.hid (hcur.out.trans (ba.mono hcur.out.size))) | (have hcur := Lib.hid ((Below.refl (w3 w k n s k' n' s').heap.size (w3 w k n s k' n' s')).trans ba))); obtain ⟨g0, g1, g2, g3, g4, g5⟩ := F _ (hcur.out.mono (by simp)))
    | (go_at_call 97; refine (H _ (w3_end0 _ _ _ _ _ _ _ _ hcur.out)).mono ?_; rintro e wa ⟨rfl, ba⟩; have hcur := Lib.hid (hcur.out.trans (ba.mono hcur.out.size)); obtain ⟨hc0, hc1, hc2, hf0, hf1, hf2⟩ := w3_out _ _ _ _ _ _ _ _ hcur.out; have hz : w.heap.size + 2 < wa.heap.size := (by have := hcur.out.size; simp at this; omega)))
  exact bodyPost_ret (v := .tuple #[vv a b c, .int .i64 er]) (by simp [results, Tryz.results77, go_sem, hc0, hc1, hc2]) rfl ⟨rfl, w3_end _ _ _ _ _ _ _ _ hcur.out _ _ _⟩

set_option maxHeartbeats 400000 in
theorem Op_cat (k n : Int) (s : ByteArray) (k' n' : Int) (s' : ByteArray) (w : World) (hr : Rt k n s) (hr' : Rt k' n' s') (hk : k ≠ 0) (hk' : k' ≠ 0) (a b : Int) (c : ByteArray) (er : Int)
    (H : ∀ W, Below w.heap.size w W → Calls Tryz.prog 97 #[.string ⟨#[124, 124]⟩, vv k n s, vv k' n' s'] W (RetV (vv a b c) er W)) :
    Calls Tryz.prog 77 #[.string ⟨#[124, 124]⟩, vv k n s, vv k' n' s'] w (RetV (vv a b c) er w) := by
  have F := w3_cells w k n s k' n' s'
  have HR := Lib.hid hr
  have HR' := Lib.hid hr'
  have hs : s.size ≤ 9223372036854775807 := by have := Rt_size hr; omega
  have hs' : s'.size ≤ 9223372036854775807 := by have := Rt_size hr'; omega
  clear hr hr'
  have e0 : (k == 0) = false := by simpa using hk
  have e0' : (k' == 0) = false := by simpa using hk'
  clear hk hk'
  go_enter Tryz.func77, Tryz.ntmps77
  go_wp2_with (first
    | (go_at_call 12; refine (Right_any _ _ _ _ (by assumption)).mono ?_; rintro e wa ⟨rfl, ba⟩; (first | rw [decide_eq_true HR.out] | rw [decide_eq_true HR'.out]); (first | (have hcur := Lib.hid (hcur.out.trans (ba.mono hcur.out.size))) | (have hcur := Lib.hid ((Below.refl (w3 w k n s k' n' s').heap.size (w3 w k n s k' n' s')).trans ba))); obtain ⟨g0, g1, g2, g3, g4, g5⟩ := F _ (hcur.out.mono (by simp)))
    | (go_at_call 34; refine (isNull_any _ _ _ _).mono ?_; rintro e wa ⟨rfl, ba⟩; (first | (have hcur := Lib.hid (hcur.out.trans (ba.mono hcur.out.size))) | (have hcur := Lib.hid ((Below.refl (w3 w k n s k' n' s').heap.size (w3 w k n s k' n' s')).trans ba))); obtain ⟨g0, g1, g2, g3, g4, g5⟩ := F _ (hcur.out.mono (by simp)))
    | (go_at_call 97; refine (H _ (w3_end0 _ _ _ _ _ _ _ _ hcur.out)).mono ?_; rintro e wa ⟨rfl, ba⟩; have hcur := Lib.hid (hcur.out.trans (ba.mono hcur.out.size)); obtain ⟨hc0, hc1, hc2, hf0, hf1, hf2⟩ := w3_out _ _ _ _ _ _ _ _ hcur.out; have hz : w.heap.size + 2 < wa.heap.size := (by have := hcur.out.size; simp at this; omega)))
  exact bodyPost_ret (v := .tuple #[vv a b c, .int .i64 er]) (by simp [results, Tryz.results77, go_sem, hc0, hc1, hc2]) rfl ⟨rfl, w3_end _ _ _ _ _ _ _ _ hcur.out _ _ _⟩

set_option maxHeartbeats 400000 in
theorem Op_eq (k n : Int) (s : ByteArray) (k' n' : Int) (s' : ByteArray) (w : World) (hr : Rt k n s) (hr' : Rt k' n' s') (hk : k ≠ 0) (hk' : k' ≠ 0) (a b : Int) (c : ByteArray) (er : Int)
    (H : ∀ W, Below w.heap.size w W → Calls Tryz.prog 97 #[.string ⟨#[61]⟩, vv k n s, vv k' n' s'] W (RetV (vv a b c) er W)) :
    Calls Tryz.prog 77 #[.string ⟨#[61]⟩, vv k n s, vv k' n' s'] w (RetV (vv a b c) er w) := by
  have F := w3_cells w k n s k' n' s'
  have HR := Lib.hid hr
  have HR' := Lib.hid hr'
  have hs : s.size ≤ 9223372036854775807 := by have := Rt_size hr; omega
  have hs' : s'.size ≤ 9223372036854775807 := by have := Rt_size hr'; omega
  clear hr hr'
  have e0 : (k == 0) = false := by simpa using hk
  have e0' : (k' == 0) = false := by simpa using hk'
  clear hk hk'
  go_enter Tryz.func77, Tryz.ntmps77
  go_wp2_with (first
    | (go_at_call 12; refine (Right_any _ _ _ _ (by assumption)).mono ?_; rintro e wa ⟨rfl, ba⟩; (first | rw [decide_eq_true HR.out] | rw [decide_eq_true HR'.out]); (first | (have hcur := Lib.hid (hcur.out.trans (ba.mono hcur.out.size))) | (have hcur := Lib.hid ((Below.refl (w3 w k n s k' n' s').heap.size (w3 w k n s k' n' s')).trans ba))); obtain ⟨g0, g1, g2, g3, g4, g5⟩ := F _ (hcur.out.mono (by simp)))
    | (go_at_call 34; refine (isNull_any _ _ _ _).mono ?_; rintro e wa ⟨rfl, ba⟩; (first | (have hcur := Lib.hid (hcur.out.trans (ba.mono hcur.out.size))) | (have hcur := Lib.hid ((Below.refl (w3 w k n s k' n' s').heap.size (w3 w k n s k' n' s')).trans ba))); obtain ⟨g0, g1, g2, g3, g4, g5⟩ := F _ (hcur.out.mono (by simp)))
    | (go_at_call 97; refine (H _ (w3_end0 _ _ _ _ _ _ _ _ hcur.out)).mono ?_; rintro e wa ⟨rfl, ba⟩; have hcur := Lib.hid (hcur.out.trans (ba.mono hcur.out.size)); obtain ⟨hc0, hc1, hc2, hf0, hf1, hf2⟩ := w3_out _ _ _ _ _ _ _ _ hcur.out; have hz : w.heap.size + 2 < wa.heap.size := (by have := hcur.out.size; simp at this; omega)))
  exact bodyPost_ret (v := .tuple #[vv a b c, .int .i64 er]) (by simp [results, Tryz.results77, go_sem, hc0, hc1, hc2]) rfl ⟨rfl, w3_end _ _ _ _ _ _ _ _ hcur.out _ _ _⟩

set_option maxHeartbeats 400000 in
theorem Op_ne (k n : Int) (s : ByteArray) (k' n' : Int) (s' : ByteArray) (w : World) (hr : Rt k n s) (hr' : Rt k' n' s') (hk : k ≠ 0) (hk' : k' ≠ 0) (a b : Int) (c : ByteArray) (er : Int)
    (H : ∀ W, Below w.heap.size w W → Calls Tryz.prog 97 #[.string ⟨#[60, 62]⟩, vv k n s, vv k' n' s'] W (RetV (vv a b c) er W)) :
    Calls Tryz.prog 77 #[.string ⟨#[60, 62]⟩, vv k n s, vv k' n' s'] w (RetV (vv a b c) er w) := by
  have F := w3_cells w k n s k' n' s'
  have HR := Lib.hid hr
  have HR' := Lib.hid hr'
  have hs : s.size ≤ 9223372036854775807 := by have := Rt_size hr; omega
  have hs' : s'.size ≤ 9223372036854775807 := by have := Rt_size hr'; omega
  clear hr hr'
  have e0 : (k == 0) = false := by simpa using hk
  have e0' : (k' == 0) = false := by simpa using hk'
  clear hk hk'
  go_enter Tryz.func77, Tryz.ntmps77
  go_wp2_with (first
    | (go_at_call 12; refine (Right_any _ _ _ _ (by assumption)).mono ?_; rintro e wa ⟨rfl, ba⟩; (first | rw [decide_eq_true HR.out] | rw [decide_eq_true HR'.out]); (first | (have hcur := Lib.hid (hcur.out.trans (ba.mono hcur.out.size))) | (have hcur := Lib.hid ((Below.refl (w3 w k n s k' n' s').heap.size (w3 w k n s k' n' s')).trans ba))); obtain ⟨g0, g1, g2, g3, g4, g5⟩ := F _ (hcur.out.mono (by simp)))
    | (go_at_call 34; refine (isNull_any _ _ _ _).mono ?_; rintro e wa ⟨rfl, ba⟩; (first | (have hcur := Lib.hid (hcur.out.trans (ba.mono hcur.out.size))) | (have hcur := Lib.hid ((Below.refl (w3 w k n s k' n' s').heap.size (w3 w k n s k' n' s')).trans ba))); obtain ⟨g0, g1, g2, g3, g4, g5⟩ := F _ (hcur.out.mono (by simp)))
    | (go_at_call 97; refine (H _ (w3_end0 _ _ _ _ _ _ _ _ hcur.out)).mono ?_; rintro e wa ⟨rfl, ba⟩; have hcur := Lib.hid (hcur.out.trans (ba.mono hcur.out.size)); obtain ⟨hc0, hc1, hc2, hf0, hf1, hf2⟩ := w3_out _ _ _ _ _ _ _ _ hcur.out; have hz : w.heap.size + 2 < wa.heap.size := (by have := hcur.out.size; simp at this; omega)))
  exact bodyPost_ret (v := .tuple #[vv a b c, .int .i64 er]) (by simp [results, Tryz.results77, go_sem, hc0, hc1, hc2]) rfl ⟨rfl, w3_end _ _ _ _ _ _ _ _ hcur.out _ _ _⟩

set_option maxHeartbeats 400000 in
theorem Op_lt (k n : Int) (s : ByteArray) (k' n' : Int) (s' : ByteArray) (w : World) (hr : Rt k n s) (hr' : Rt k' n' s') (hk : k ≠ 0) (hk' : k' ≠ 0) (a b : Int) (c : ByteArray) (er : Int)
    (H : ∀ W, Below w.heap.size w W → Calls Tryz.prog 97 #[.string ⟨#[60]⟩, vv k n s, vv k' n' s'] W (RetV (vv a b c) er W)) :
    Calls Tryz.prog 77 #[.string ⟨#[60]⟩, vv k n s, vv k' n' s'] w (RetV (vv a b c) er w) := by
  have F := w3_cells w k n s k' n' s'
  have HR := Lib.hid hr
  have HR' := Lib.hid hr'
  have hs : s.size ≤ 9223372036854775807 := by have := Rt_size hr; omega
  have hs' : s'.size ≤ 9223372036854775807 := by have := Rt_size hr'; omega
  clear hr hr'
  have e0 : (k == 0) = false := by simpa using hk
  have e0' : (k' == 0) = false := by simpa using hk'
  clear hk hk'
  go_enter Tryz.func77, Tryz.ntmps77
  go_wp2_with (first
    | (go_at_call 12; refine (Right_any _ _ _ _ (by assumption)).mono ?_; rintro e wa ⟨rfl, ba⟩; (first | rw [decide_eq_true HR.out] | rw [decide_eq_true HR'.out]); (first | (have hcur := Lib.hid (hcur.out.trans (ba.mono hcur.out.size))) | (have hcur := Lib.hid ((Below.refl (w3 w k n s k' n' s').heap.size (w3 w k n s k' n' s')).trans ba))); obtain ⟨g0, g1, g2, g3, g4, g5⟩ := F _ (hcur.out.mono (by simp)))
    | (go_at_call 34; refine (isNull_any _ _ _ _).mono ?_; rintro e wa ⟨rfl, ba⟩; (first | (have hcur := Lib.hid (hcur.out.trans (ba.mono hcur.out.size))) | (have hcur := Lib.hid ((Below.refl (w3 w k n s k' n' s').heap.size (w3 w k n s k' n' s')).trans ba))); obtain ⟨g0, g1, g2, g3, g4, g5⟩ := F _ (hcur.out.mono (by simp)))
    | (go_at_call 97; refine (H _ (w3_end0 _ _ _ _ _ _ _ _ hcur.out)).mono ?_; rintro e wa ⟨rfl, ba⟩; have hcur := Lib.hid (hcur.out.trans (ba.mono hcur.out.size)); obtain ⟨hc0, hc1, hc2, hf0, hf1, hf2⟩ := w3_out _ _ _ _ _ _ _ _ hcur.out; have hz : w.heap.size + 2 < wa.heap.size := (by have := hcur.out.size; simp at this; omega)))
  exact bodyPost_ret (v := .tuple #[vv a b c, .int .i64 er]) (by simp [results, Tryz.results77, go_sem, hc0, hc1, hc2]) rfl ⟨rfl, w3_end _ _ _ _ _ _ _ _ hcur.out _ _ _⟩

set_option maxHeartbeats 400000 in
theorem Op_le (k n : Int) (s : ByteArray) (k' n' : Int) (s' : ByteArray) (w : World) (hr : Rt k n s) (hr' : Rt k' n' s') (hk : k ≠ 0) (hk' : k' ≠ 0) (a b : Int) (c : ByteArray) (er : Int)
    (H : ∀ W, Below w.heap.size w W → Calls Tryz.prog 97 #[.string ⟨#[60, 61]⟩, vv k n s, vv k' n' s'] W (RetV (vv a b c) er W)) :
    Calls Tryz.prog 77 #[.string ⟨#[60, 61]⟩, vv k n s, vv k' n' s'] w (RetV (vv a b c) er w) := by
  have F := w3_cells w k n s k' n' s'
  have HR := Lib.hid hr
  have HR' := Lib.hid hr'
  have hs : s.size ≤ 9223372036854775807 := by have := Rt_size hr; omega
  have hs' : s'.size ≤ 9223372036854775807 := by have := Rt_size hr'; omega
  clear hr hr'
  have e0 : (k == 0) = false := by simpa using hk
  have e0' : (k' == 0) = false := by simpa using hk'
  clear hk hk'
  go_enter Tryz.func77, Tryz.ntmps77
  go_wp2_with (first
    | (go_at_call 12; refine (Right_any _ _ _ _ (by assumption)).mono ?_; rintro e wa ⟨rfl, ba⟩; (first | rw [decide_eq_true HR.out] | rw [decide_eq_true HR'.out]); (first | (have hcur := Lib.hid (hcur.out.trans (ba.mono hcur.out.size))) | (have hcur := Lib.hid ((Below.refl (w3 w k n s k' n' s').heap.size (w3 w k n s k' n' s')).trans ba))); obtain ⟨g0, g1, g2, g3, g4, g5⟩ := F _ (hcur.out.mono (by simp)))
    | (go_at_call 34; refine (isNull_any _ _ _ _).mono ?_; rintro e wa ⟨rfl, ba⟩; (first | (have hcur := Lib.hid (hcur.out.trans (ba.mono hcur.out.size))) | (have hcur := Lib.hid ((Below.refl (w3 w k n s k' n' s').heap.size (w3 w k n s k' n' s')).trans ba))); obtain ⟨g0, g1, g2, g3, g4, g5⟩ := F _ (hcur.out.mono (by simp)))
    | (go_at_call 97; refine (H _ (w3_end0 _ _ _ _ _ _ _ _ hcur.out)).mono ?_; rintro e wa ⟨rfl, ba⟩; have hcur := Lib.hid (hcur.out.trans (ba.mono hcur.out.size)); obtain ⟨hc0, hc1, hc2, hf0, hf1, hf2⟩ := w3_out _ _ _ _ _ _ _ _ hcur.out; have hz : w.heap.size + 2 < wa.heap.size := (by have := hcur.out.size; simp at this; omega)))
  exact bodyPost_ret (v := .tuple #[vv a b c, .int .i64 er]) (by simp [results, Tryz.results77, go_sem, hc0, hc1, hc2]) rfl ⟨rfl, w3_end _ _ _ _ _ _ _ _ hcur.out _ _ _⟩

set_option maxHeartbeats 400000 in
theorem Op_gt (k n : Int) (s : ByteArray) (k' n' : Int) (s' : ByteArray) (w : World) (hr : Rt k n s) (hr' : Rt k' n' s') (hk : k ≠ 0) (hk' : k' ≠ 0) (a b : Int) (c : ByteArray) (er : Int)
    (H : ∀ W, Below w.heap.size w W → Calls Tryz.prog 97 #[.string ⟨#[62]⟩, vv k n s, vv k' n' s'] W (RetV (vv a b c) er W)) :
    Calls Tryz.prog 77 #[.string ⟨#[62]⟩, vv k n s, vv k' n' s'] w (RetV (vv a b c) er w) := by
  have F := w3_cells w k n s k' n' s'
  have HR := Lib.hid hr
  have HR' := Lib.hid hr'
  have hs : s.size ≤ 9223372036854775807 := by have := Rt_size hr; omega
  have hs' : s'.size ≤ 9223372036854775807 := by have := Rt_size hr'; omega
  clear hr hr'
  have e0 : (k == 0) = false := by simpa using hk
  have e0' : (k' == 0) = false := by simpa using hk'
  clear hk hk'
  go_enter Tryz.func77, Tryz.ntmps77
  go_wp2_with (first
    | (go_at_call 12; refine (Right_any _ _ _ _ (by assumption)).mono ?_; rintro e wa ⟨rfl, ba⟩; (first | rw [decide_eq_true HR.out] | rw [decide_eq_true HR'.out]); (first | (have hcur := Lib.hid (hcur.out.trans (ba.mono hcur.out.size))) | (have hcur := Lib.hid ((Below.refl (w3 w k n s k' n' s').heap.size (w3 w k n s k' n' s')).trans ba))); obtain ⟨g0, g1, g2, g3, g4, g5⟩ := F _ (hcur.out.mono (by simp)))
    | (go_at_call 34; refine (isNull_any _ _ _ _).mono ?_; rintro e wa ⟨rfl, ba⟩; (first | (have hcur := Lib.hid (hcur.out.trans (ba.mono hcur.out.size))) | (have hcur := Lib.hid ((Below.refl (w3 w k n s k' n' s').heap.size (w3 w k n s k' n' s')).trans ba))); obtain ⟨g0, g1, g2, g3, g4, g5⟩ := F _ (hcur.out.mono (by simp)))
    | (go_at_call 97; refine (H _ (w3_end0 _ _ _ _ _ _ _ _ hcur.out)).mono ?_; rintro e wa ⟨rfl, ba⟩; have hcur := Lib.hid (hcur.out.trans (ba.mono hcur.out.size)); obtain ⟨hc0, hc1, hc2, hf0, hf1, hf2⟩ := w3_out _ _ _ _ _ _ _ _ hcur.out; have hz : w.heap.size + 2 < wa.heap.size := (by have := hcur.out.size; simp at this; omega)))
  exact bodyPost_ret (v := .tuple #[vv a b c, .int .i64 er]) (by simp [results, Tryz.results77, go_sem, hc0, hc1, hc2]) rfl ⟨rfl, w3_end _ _ _ _ _ _ _ _ hcur.out _ _ _⟩

set_option maxHeartbeats 400000 in
theorem Op_ge (k n : Int) (s : ByteArray) (k' n' : Int) (s' : ByteArray) (w : World) (hr : Rt k n s) (hr' : Rt k' n' s') (hk : k ≠ 0) (hk' : k' ≠ 0) (a b : Int) (c : ByteArray) (er : Int)
    (H : ∀ W, Below w.heap.size w W → Calls Tryz.prog 97 #[.string ⟨#[62, 61]⟩, vv k n s, vv k' n' s'] W (RetV (vv a b c) er W)) :
    Calls Tryz.prog 77 #[.string ⟨#[62, 61]⟩, vv k n s, vv k' n' s'] w (RetV (vv a b c) er w) := by
  have F := w3_cells w k n s k' n' s'
  have HR := Lib.hid hr
  have HR' := Lib.hid hr'
  have hs : s.size ≤ 9223372036854775807 := by have := Rt_size hr; omega
  have hs' : s'.size ≤ 9223372036854775807 := by have := Rt_size hr'; omega
  clear hr hr'
  have e0 : (k == 0) = false := by simpa using hk
  have e0' : (k' == 0) = false := by simpa using hk'
  clear hk hk'
  go_enter Tryz.func77, Tryz.ntmps77
  go_wp2_with (first
    | (go_at_call 12; refine (Right_any _ _ _ _ (by assumption)).mono ?_; rintro e wa ⟨rfl, ba⟩; (first | rw [decide_eq_true HR.out] | rw [decide_eq_true HR'.out]); (first | (have hcur := Lib.hid (hcur.out.trans (ba.mono hcur.out.size))) | (have hcur := Lib.hid ((Below.refl (w3 w k n s k' n' s').heap.size (w3 w k n s k' n' s')).trans ba))); obtain ⟨g0, g1, g2, g3, g4, g5⟩ := F _ (hcur.out.mono (by simp)))
    | (go_at_call 34; refine (isNull_any _ _ _ _).mono ?_; rintro e wa ⟨rfl, ba⟩; (first | (have hcur := Lib.hid (hcur.out.trans (ba.mono hcur.out.size))) | (have hcur := Lib.hid ((Below.refl (w3 w k n s k' n' s').heap.size (w3 w k n s k' n' s')).trans ba))); obtain ⟨g0, g1, g2, g3, g4, g5⟩ := F _ (hcur.out.mono (by simp)))
    | (go_at_call 97; refine (H _ (w3_end0 _ _ _ _ _ _ _ _ hcur.out)).mono ?_; rintro e wa ⟨rfl, ba⟩; have hcur := Lib.hid (hcur.out.trans (ba.mono hcur.out.size)); obtain ⟨hc0, hc1, hc2, hf0, hf1, hf2⟩ := w3_out _ _ _ _ _ _ _ _ hcur.out; have hz : w.heap.size + 2 < wa.heap.size := (by have := hcur.out.size; simp at this; omega)))
  exact bodyPost_ret (v := .tuple #[vv a b c, .int .i64 er]) (by simp [results, Tryz.results77, go_sem, hc0, hc1, hc2]) rfl ⟨rfl, w3_end _ _ _ _ _ _ _ _ hcur.out _ _ _⟩

set_option maxHeartbeats 400000 in
theorem Op_like (k n : Int) (s : ByteArray) (k' n' : Int) (s' : ByteArray) (w : World) (hr : Rt k n s) (hr' : Rt k' n' s') (hk : k ≠ 0) (hk' : k' ≠ 0) (a b : Int) (c : ByteArray) (er : Int)
    (H : ∀ W, Below w.heap.size w W → Calls Tryz.prog 97 #[.string ⟨#[108, 105, 107, 101]⟩, vv k n s, vv k' n' s'] W (RetV (vv a b c) er W)) :
    Calls Tryz.prog 77 #[.string ⟨#[108, 105, 107, 101]⟩, vv k n s, vv k' n' s'] w (RetV (vv a b c) er w) := by
  have F := w3_cells w k n s k' n' s'
  have HR := Lib.hid hr
  have HR' := Lib.hid hr'
  have hs : s.size ≤ 9223372036854775807 := by have := Rt_size hr; omega
  have hs' : s'.size ≤ 9223372036854775807 := by have := Rt_size hr'; omega
  clear hr hr'
  have e0 : (k == 0) = false := by simpa using hk
  have e0' : (k' == 0) = false := by simpa using hk'
  clear hk hk'
  go_enter Tryz.func77, Tryz.ntmps77
  go_wp2_with (first
    | (go_at_call 12; refine (Right_any _ _ _ _ (by assumption)).mono ?_; rintro e wa ⟨rfl, ba⟩; (first | rw [decide_eq_true HR.out] | rw [decide_eq_true HR'.out]); (first | (have hcur := Lib.hid (hcur.out.trans (ba.mono hcur.out.size))) | (have hcur := Lib.hid ((Below.refl (w3 w k n s k' n' s').heap.size (w3 w k n s k' n' s')).trans ba))); obtain ⟨g0, g1, g2, g3, g4, g5⟩ := F _ (hcur.out.mono (by simp)))
    | (go_at_call 34; refine (isNull_any _ _ _ _).mono ?_; rintro e wa ⟨rfl, ba⟩; (first | (have hcur := Lib.hid (hcur.out.trans (ba.mono hcur.out.size))) | (have hcur := Lib.hid ((Below.refl (w3 w k n s k' n' s').heap.size (w3 w k n s k' n' s')).trans ba))); obtain ⟨g0, g1, g2, g3, g4, g5⟩ := F _ (hcur.out.mono (by simp)))
    | (go_at_call 97; refine (H _ (w3_end0 _ _ _ _ _ _ _ _ hcur.out)).mono ?_; rintro e wa ⟨rfl, ba⟩; have hcur := Lib.hid (hcur.out.trans (ba.mono hcur.out.size)); obtain ⟨hc0, hc1, hc2, hf0, hf1, hf2⟩ := w3_out _ _ _ _ _ _ _ _ hcur.out; have hz : w.heap.size + 2 < wa.heap.size := (by have := hcur.out.size; simp at this; omega)))
  exact bodyPost_ret (v := .tuple #[vv a b c, .int .i64 er]) (by simp [results, Tryz.results77, go_sem, hc0, hc1, hc2]) rfl ⟨rfl, w3_end _ _ _ _ _ _ _ _ hcur.out _ _ _⟩

end Go.Proofs.YteijijoiifbjlaaGreatDoor
