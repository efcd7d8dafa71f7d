/-
  Layer 2: what is refused: Op, One, Cast of values that are not right, of signs that are none. Conditions: sizes.
-/
import Derived.Test.YteijijoiifbjlaaGreatDoorVOne
namespace Go.Proofs.YteijijoiifbjlaaGreatDoor
open Go.ChangeShapes Go.WideShapes Go.ChangeAt Go.RowKit
set_option linter.unusedVariables false

set_option maxHeartbeats 400000 in
theorem Op_bad1 (sign : ByteArray) (k n : Int) (s : ByteArray) (k' n' : Int) (s' : ByteArray) (w : World) (hr : ¬ Rt k n s) (hs : s.size ≤ 9223372036854775807) :
    Calls Tryz.prog 77 #[.string sign, vv k n s, vv k' n' s'] w (RetV nul 2 w) := by
  have F := w3_cells w k n s k' n' s'
  have HR := Lib.hid hr
  clear hr
  go_enter Tryz.func77, Tryz.ntmps77
  go_wp2_with (go_at_call 12; refine (Right_any _ _ _ _ (by assumption)).mono ?_; rintro e wa ⟨rfl, ba⟩; rw [decide_eq_false HR.out]; (first | (have hcur := Lib.hid (hcur.out.trans (ba.mono hcur.out.size))) | (have hcur := Lib.hid ((Below.refl (w3 w k n s k' n' s').heap.size (w3 w k n s k' n' s')).trans ba))); obtain ⟨g0, g1, g2, g3, g4, g5⟩ := F _ (hcur.out.mono (by simp)); obtain ⟨hc0, hc1, hc2, hf0, hf1, hf2⟩ := w3_out _ _ _ _ _ _ _ _ hcur.out; have hz : w.heap.size + 2 < wa.heap.size := (by have := hcur.out.size; simp at this; omega))
  exact bodyPost_ret (v := .tuple #[nul, .int .i64 2]) (by simp [results, Tryz.results77, go_sem, hc0, hc1, hc2]) rfl ⟨rfl, w3_end _ _ _ _ _ _ _ _ hcur.out _ _ _⟩

set_option maxHeartbeats 400000 in
theorem Op_bad2 (sign : ByteArray) (k n : Int) (s : ByteArray) (k' n' : Int) (s' : ByteArray) (w : World) (hr : Rt k n s) (hr' : ¬ Rt k' n' s') (hs' : s'.size ≤ 9223372036854775807) :
    Calls Tryz.prog 77 #[.string sign, vv k n s, vv k' n' s'] w (RetV nul 2 w) := by
  have F := w3_cells w k n s k' n' s'
  have HR := Lib.hid hr
  have HR' := Lib.hid hr'
  have hs : s.size ≤ 9223372036854775807 := by have := Rt_size hr; omega
  clear hr hr'
  go_enter Tryz.func77, Tryz.ntmps77
  go_wp2_with (go_at_call 12; refine (Right_any _ _ _ _ (by assumption)).mono ?_; rintro e wa ⟨rfl, ba⟩; (first | rw [decide_eq_true HR.out] | rw [decide_eq_false HR'.out]); (first | (have hcur := Lib.hid (hcur.out.trans (ba.mono hcur.out.size))) | (have hcur := Lib.hid ((Below.refl (w3 w k n s k' n' s').heap.size (w3 w k n s k' n' s')).trans ba))); obtain ⟨g0, g1, g2, g3, g4, g5⟩ := F _ (hcur.out.mono (by simp)); obtain ⟨hc0, hc1, hc2, hf0, hf1, hf2⟩ := w3_out _ _ _ _ _ _ _ _ hcur.out; have hz : w.heap.size + 2 < wa.heap.size := (by have := hcur.out.size; simp at this; omega))
  exact bodyPost_ret (v := .tuple #[nul, .int .i64 2]) (by simp [results, Tryz.results77, go_sem, hc0, hc1, hc2]) rfl ⟨rfl, w3_end _ _ _ _ _ _ _ _ hcur.out _ _ _⟩

set_option maxHeartbeats 400000 in
theorem Op_none (k n : Int) (s : ByteArray) (k' n' : Int) (s' : ByteArray) (w : World) (hr : Rt k n s) (hr' : Rt k' n' s') :
    Calls Tryz.prog 77 #[.string ⟨#[65, 78, 68]⟩, vv k n s, vv k' n' s'] w (RetV nul 2 w) := by
  have F := w3_cells w k n s k' n' s'
  have HR := Lib.hid hr
  have HR' := Lib.hid hr'
  have hs : s.size ≤ 9223372036854775807 := by have := Rt_size hr; omega
  have hs' : s'.size ≤ 9223372036854775807 := by have := Rt_size hr'; omega
  clear hr hr'
  go_enter Tryz.func77, Tryz.ntmps77
  go_wp2_with (go_at_call 12; refine (Right_any _ _ _ _ (by assumption)).mono ?_; rintro e wa ⟨rfl, ba⟩; (first | rw [decide_eq_true HR.out] | rw [decide_eq_true HR'.out]); (first | (have hcur := Lib.hid (hcur.out.trans (ba.mono hcur.out.size))) | (have hcur := Lib.hid ((Below.refl (w3 w k n s k' n' s').heap.size (w3 w k n s k' n' s')).trans ba))); obtain ⟨g0, g1, g2, g3, g4, g5⟩ := F _ (hcur.out.mono (by simp)); obtain ⟨hc0, hc1, hc2, hf0, hf1, hf2⟩ := w3_out _ _ _ _ _ _ _ _ hcur.out; have hz : w.heap.size + 2 < wa.heap.size := (by have := hcur.out.size; simp at this; omega))
  exact bodyPost_ret (v := .tuple #[nul, .int .i64 2]) (by simp [results, Tryz.results77, go_sem, hc0, hc1, hc2]) rfl ⟨rfl, w3_end _ _ _ _ _ _ _ _ hcur.out _ _ _⟩

set_option maxHeartbeats 400000 in
theorem One_bad (sign : ByteArray) (k n : Int) (s : ByteArray) (w : World) (hr : ¬ Rt k n s) (hs : s.size ≤ 9223372036854775807) :
    Calls Tryz.prog 76 #[.string sign, vv k n s] w (RetV nul 2 w) := by
  have HR := Lib.hid hr
  clear hr
  go_enter Tryz.func76, Tryz.ntmps76
  go_wp2_with (go_at_call 12; refine (Right_any _ _ _ _ hs).mono ?_; rintro e wa ⟨rfl, ba⟩; rw [decide_eq_false HR.out]; (first | (have hcur := Lib.hid (hcur.out.trans (ba.mono hcur.out.size))) | (have hcur := Lib.hid ba)); obtain ⟨g0, g1, g2⟩ := w2_cells _ _ _ _ _ hcur.out; obtain ⟨_, u0, u1, u2, v0, v1, v2⟩ := w2_out _ _ _ _ _ hcur.out; have hz : w.heap.size + 1 < wa.heap.size := (by have := hcur.out.size; rw [w2_size] at this; omega); clear ba)
  exact bodyPost_ret (v := .tuple #[nul, .int .i64 2]) (by simp [results, Tryz.results76, go_sem, u0, u1, u2]) rfl ⟨rfl, w2_end _ _ _ _ _ hcur.out _ _ _⟩

set_option maxHeartbeats 400000 in
theorem One_none (k n : Int) (s : ByteArray) (w : World) (hr : Rt k n s) :
    Calls Tryz.prog 76 #[.string ⟨#[43]⟩, vv k n s] w (RetV nul 2 w) := by
  have HR := Lib.hid hr
  have hs : s.size ≤ 9223372036854775807 := by have := Rt_size hr; omega
  clear hr
  go_enter Tryz.func76, Tryz.ntmps76
  go_wp2_with (go_at_call 12; refine (Right_any _ _ _ _ hs).mono ?_; rintro e wa ⟨rfl, ba⟩; rw [decide_eq_true HR.out]; (first | (have hcur := Lib.hid (hcur.out.trans (ba.mono hcur.out.size))) | (have hcur := Lib.hid ba)); obtain ⟨g0, g1, g2⟩ := w2_cells _ _ _ _ _ hcur.out; obtain ⟨_, u0, u1, u2, v0, v1, v2⟩ := w2_out _ _ _ _ _ hcur.out; have hz : w.heap.size + 1 < wa.heap.size := (by have := hcur.out.size; rw [w2_size] at this; omega); clear ba)
  exact bodyPost_ret (v := .tuple #[nul, .int .i64 2]) (by simp [results, Tryz.results76, go_sem, u0, u1, u2]) rfl ⟨rfl, w2_end _ _ _ _ _ hcur.out _ _ _⟩

set_option maxHeartbeats 400000 in
theorem Cast_bad (sign : ByteArray) (k n : Int) (s : ByteArray) (w : World) (hr : ¬ Rt k n s) (hs : s.size ≤ 9223372036854775807) :
    Calls Tryz.prog 61 #[.string sign, vv k n s] w (RetV nul 2 w) := by
  have HR := Lib.hid hr
  clear hr
  go_enter Tryz.func61, Tryz.ntmps61
  go_wp2_with (go_at_call 12; refine (Right_any _ _ _ _ hs).mono ?_; rintro e wa ⟨rfl, ba⟩; rw [decide_eq_false HR.out]; (first | (have hcur := Lib.hid (hcur.out.trans (ba.mono hcur.out.size))) | (have hcur := Lib.hid ba)); obtain ⟨g0, g1, g2⟩ := w2_cells _ _ _ _ _ hcur.out; obtain ⟨_, u0, u1, u2, v0, v1, v2⟩ := w2_out _ _ _ _ _ hcur.out; have hz : w.heap.size + 1 < wa.heap.size := (by have := hcur.out.size; rw [w2_size] at this; omega); clear ba)
  exact bodyPost_ret (v := .tuple #[nul, .int .i64 2]) (by simp [results, Tryz.results61, go_sem, u0, u1, u2]) rfl ⟨rfl, w2_end _ _ _ _ _ hcur.out _ _ _⟩

set_option maxHeartbeats 400000 in
theorem Cast_none (k n : Int) (s : ByteArray) (w : World) (hr : Rt k n s) :
    Calls Tryz.prog 61 #[.string ⟨#[98, 108, 111, 98]⟩, vv k n s] w (RetV nul 2 w) := by
  have HR := Lib.hid hr
  have hs : s.size ≤ 9223372036854775807 := by have := Rt_size hr; omega
  clear hr
  go_enter Tryz.func61, Tryz.ntmps61
  go_wp2_with (go_at_call 12; refine (Right_any _ _ _ _ hs).mono ?_; rintro e wa ⟨rfl, ba⟩; rw [decide_eq_true HR.out]; (first | (have hcur := Lib.hid (hcur.out.trans (ba.mono hcur.out.size))) | (have hcur := Lib.hid ba)); obtain ⟨g0, g1, g2⟩ := w2_cells _ _ _ _ _ hcur.out; obtain ⟨_, u0, u1, u2, v0, v1, v2⟩ := w2_out _ _ _ _ _ hcur.out; have hz : w.heap.size + 1 < wa.heap.size := (by have := hcur.out.size; rw [w2_size] at this; omega); clear ba)
  exact bodyPost_ret (v := .tuple #[nul, .int .i64 2]) (by simp [results, Tryz.results61, go_sem, u0, u1, u2]) rfl ⟨rfl, w2_end _ _ _ _ _ hcur.out _ _ _⟩
end Go.Proofs.YteijijoiifbjlaaGreatDoor
