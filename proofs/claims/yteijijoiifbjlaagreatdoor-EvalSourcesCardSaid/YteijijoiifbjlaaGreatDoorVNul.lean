/-
  Op where one of two is NULL (layer 2, value): NULL, for each sign but and, or. Conditions: right values.
-/
import Derived.Test.YteijijoiifbjlaaGreatDoorVOp
namespace Go.Proofs.YteijijoiifbjlaaGreatDoor
open Go.ChangeShapes Go.WideShapes Go.ChangeAt Go.RowKit
set_option linter.unusedVariables false

set_option maxHeartbeats 400000 in
theorem Op_add_null (k n : Int) (s : ByteArray) (k' n' : Int) (s' : ByteArray) (w : World) (hr : Rt k n s) (hr' : Rt k' n' s') (hk : k = 0 ∨ k' = 0) :
    Calls Tryz.prog 77 #[.string ⟨#[43]⟩, vv k n s, vv k' n' s'] w (RetV nul 0 w) := by
  have F := w3_cells w k n s k' n' s'
  have HR := Lib.hid hr
  have HR' := Lib.hid hr'
  have hs : s.size ≤ 9223372036854775807 := by have := Rt_size hr; omega
  have hs' : s'.size ≤ 9223372036854775807 := by have := Rt_size hr'; omega
  have e1 : (k == 0) = true ∨ ((k == 0) = false ∧ (k' == 0) = true) := by
    by_cases h : k = 0
    · exact .inl (by simp [h])
    · exact .inr ⟨by simpa using h, by simpa using hk.resolve_left h⟩
  clear hr hr' hk
  rcases e1 with e1 | ⟨e1, e2⟩
  all_goals
    go_enter Tryz.func77, Tryz.ntmps77
    go_wp2_with (first
      | (go_at_call 12; refine (Right_any _ _ _ _ (by assumption)).mono ?_; rintro e wa ⟨rfl, ba⟩; (first | rw [decide_eq_true HR.out] | rw [decide_eq_true HR'.out]); (first | (have hcur := Lib.hid (hcur.out.trans (ba.mono hcur.out.size))) | (have hcur := Lib.hid ((Below.refl (w3 w k n s k' n' s').heap.size (w3 w k n s k' n' s')).trans ba))); obtain ⟨g0, g1, g2, g3, g4, g5⟩ := F _ (hcur.out.mono (by simp)); obtain ⟨hc0, hc1, hc2, hf0, hf1, hf2⟩ := w3_out _ _ _ _ _ _ _ _ hcur.out; have hz : w.heap.size + 2 < wa.heap.size := (by have := hcur.out.size; simp at this; omega); clear ba)
      | (go_at_call 34; refine (isNull_any _ _ _ _).mono ?_; rintro e wa ⟨rfl, ba⟩; (first | (have hcur := Lib.hid (hcur.out.trans (ba.mono hcur.out.size))) | (have hcur := Lib.hid ((Below.refl (w3 w k n s k' n' s').heap.size (w3 w k n s k' n' s')).trans ba))); obtain ⟨g0, g1, g2, g3, g4, g5⟩ := F _ (hcur.out.mono (by simp)); obtain ⟨hc0, hc1, hc2, hf0, hf1, hf2⟩ := w3_out _ _ _ _ _ _ _ _ hcur.out; have hz : w.heap.size + 2 < wa.heap.size := (by have := hcur.out.size; simp at this; omega); clear ba))
    exact bodyPost_ret (v := .tuple #[nul, .int .i64 0]) (by simp [results, Tryz.results77, go_sem, hc0, hc1, hc2]) rfl ⟨rfl, w3_end _ _ _ _ _ _ _ _ hcur.out _ _ _⟩

set_option maxHeartbeats 400000 in
theorem Op_sub_null (k n : Int) (s : ByteArray) (k' n' : Int) (s' : ByteArray) (w : World) (hr : Rt k n s) (hr' : Rt k' n' s') (hk : k = 0 ∨ k' = 0) :
    Calls Tryz.prog 77 #[.string ⟨#[45]⟩, vv k n s, vv k' n' s'] w (RetV nul 0 w) := by
  have F := w3_cells w k n s k' n' s'
  have HR := Lib.hid hr
  have HR' := Lib.hid hr'
  have hs : s.size ≤ 9223372036854775807 := by have := Rt_size hr; omega
  have hs' : s'.size ≤ 9223372036854775807 := by have := Rt_size hr'; omega
  have e1 : (k == 0) = true ∨ ((k == 0) = false ∧ (k' == 0) = true) := by
    by_cases h : k = 0
    · exact .inl (by simp [h])
    · exact .inr ⟨by simpa using h, by simpa using hk.resolve_left h⟩
  clear hr hr' hk
  rcases e1 with e1 | ⟨e1, e2⟩
  all_goals
    go_enter Tryz.func77, Tryz.ntmps77
    go_wp2_with (first
      | (go_at_call 12; refine (Right_any _ _ _ _ (by assumption)).mono ?_; rintro e wa ⟨rfl, ba⟩; (first | rw [decide_eq_true HR.out] | rw [decide_eq_true HR'.out]); (first | (have hcur := Lib.hid (hcur.out.trans (ba.mono hcur.out.size))) | (have hcur := Lib.hid ((Below.refl (w3 w k n s k' n' s').heap.size (w3 w k n s k' n' s')).trans ba))); obtain ⟨g0, g1, g2, g3, g4, g5⟩ := F _ (hcur.out.mono (by simp)); obtain ⟨hc0, hc1, hc2, hf0, hf1, hf2⟩ := w3_out _ _ _ _ _ _ _ _ hcur.out; have hz : w.heap.size + 2 < wa.heap.size := (by have := hcur.out.size; simp at this; omega); clear ba)
      | (go_at_call 34; refine (isNull_any _ _ _ _).mono ?_; rintro e wa ⟨rfl, ba⟩; (first | (have hcur := Lib.hid (hcur.out.trans (ba.mono hcur.out.size))) | (have hcur := Lib.hid ((Below.refl (w3 w k n s k' n' s').heap.size (w3 w k n s k' n' s')).trans ba))); obtain ⟨g0, g1, g2, g3, g4, g5⟩ := F _ (hcur.out.mono (by simp)); obtain ⟨hc0, hc1, hc2, hf0, hf1, hf2⟩ := w3_out _ _ _ _ _ _ _ _ hcur.out; have hz : w.heap.size + 2 < wa.heap.size := (by have := hcur.out.size; simp at this; omega); clear ba))
    exact bodyPost_ret (v := .tuple #[nul, .int .i64 0]) (by simp [results, Tryz.results77, go_sem, hc0, hc1, hc2]) rfl ⟨rfl, w3_end _ _ _ _ _ _ _ _ hcur.out _ _ _⟩

set_option maxHeartbeats 400000 in
theorem Op_mul_null (k n : Int) (s : ByteArray) (k' n' : Int) (s' : ByteArray) (w : World) (hr : Rt k n s) (hr' : Rt k' n' s') (hk : k = 0 ∨ k' = 0) :
    Calls Tryz.prog 77 #[.string ⟨#[42]⟩, vv k n s, vv k' n' s'] w (RetV nul 0 w) := by
  have F := w3_cells w k n s k' n' s'
  have HR := Lib.hid hr
  have HR' := Lib.hid hr'
  have hs : s.size ≤ 9223372036854775807 := by have := Rt_size hr; omega
  have hs' : s'.size ≤ 9223372036854775807 := by have := Rt_size hr'; omega
  have e1 : (k == 0) = true ∨ ((k == 0) = false ∧ (k' == 0) = true) := by
    by_cases h : k = 0
    · exact .inl (by simp [h])
    · exact .inr ⟨by simpa using h, by simpa using hk.resolve_left h⟩
  clear hr hr' hk
  rcases e1 with e1 | ⟨e1, e2⟩
  all_goals
    go_enter Tryz.func77, Tryz.ntmps77
    go_wp2_with (first
      | (go_at_call 12; refine (Right_any _ _ _ _ (by assumption)).mono ?_; rintro e wa ⟨rfl, ba⟩; (first | rw [decide_eq_true HR.out] | rw [decide_eq_true HR'.out]); (first | (have hcur := Lib.hid (hcur.out.trans (ba.mono hcur.out.size))) | (have hcur := Lib.hid ((Below.refl (w3 w k n s k' n' s').heap.size (w3 w k n s k' n' s')).trans ba))); obtain ⟨g0, g1, g2, g3, g4, g5⟩ := F _ (hcur.out.mono (by simp)); obtain ⟨hc0, hc1, hc2, hf0, hf1, hf2⟩ := w3_out _ _ _ _ _ _ _ _ hcur.out; have hz : w.heap.size + 2 < wa.heap.size := (by have := hcur.out.size; simp at this; omega); clear ba)
      | (go_at_call 34; refine (isNull_any _ _ _ _).mono ?_; rintro e wa ⟨rfl, ba⟩; (first | (have hcur := Lib.hid (hcur.out.trans (ba.mono hcur.out.size))) | (have hcur := Lib.hid ((Below.refl (w3 w k n s k' n' s').heap.size (w3 w k n s k' n' s')).trans ba))); obtain ⟨g0, g1, g2, g3, g4, g5⟩ := F _ (hcur.out.mono (by simp)); obtain ⟨hc0, hc1, hc2, hf0, hf1, hf2⟩ := w3_out _ _ _ _ _ _ _ _ hcur.out; have hz : w.heap.size + 2 < wa.heap.size := (by have := hcur.out.size; simp at this; omega); clear ba))
    exact bodyPost_ret (v := .tuple #[nul, .int .i64 0]) (by simp [results, Tryz.results77, go_sem, hc0, hc1, hc2]) rfl ⟨rfl, w3_end _ _ _ _ _ _ _ _ hcur.out _ _ _⟩

set_option maxHeartbeats 400000 in
theorem Op_quo_null (k n : Int) (s : ByteArray) (k' n' : Int) (s' : ByteArray) (w : World) (hr : Rt k n s) (hr' : Rt k' n' s') (hk : k = 0 ∨ k' = 0) :
    Calls Tryz.prog 77 #[.string ⟨#[47]⟩, vv k n s, vv k' n' s'] w (RetV nul 0 w) := by
  have F := w3_cells w k n s k' n' s'
  have HR := Lib.hid hr
  have HR' := Lib.hid hr'
  have hs : s.size ≤ 9223372036854775807 := by have := Rt_size hr; omega
  have hs' : s'.size ≤ 9223372036854775807 := by have := Rt_size hr'; omega
  have e1 : (k == 0) = true ∨ ((k == 0) = false ∧ (k' == 0) = true) := by
    by_cases h : k = 0
    · exact .inl (by simp [h])
    · exact .inr ⟨by simpa using h, by simpa using hk.resolve_left h⟩
  clear hr hr' hk
  rcases e1 with e1 | ⟨e1, e2⟩
  all_goals
    go_enter Tryz.func77, Tryz.ntmps77
    go_wp2_with (first
      | (go_at_call 12; refine (Right_any _ _ _ _ (by assumption)).mono ?_; rintro e wa ⟨rfl, ba⟩; (first | rw [decide_eq_true HR.out] | rw [decide_eq_true HR'.out]); (first | (have hcur := Lib.hid (hcur.out.trans (ba.mono hcur.out.size))) | (have hcur := Lib.hid ((Below.refl (w3 w k n s k' n' s').heap.size (w3 w k n s k' n' s')).trans ba))); obtain ⟨g0, g1, g2, g3, g4, g5⟩ := F _ (hcur.out.mono (by simp)); obtain ⟨hc0, hc1, hc2, hf0, hf1, hf2⟩ := w3_out _ _ _ _ _ _ _ _ hcur.out; have hz : w.heap.size + 2 < wa.heap.size := (by have := hcur.out.size; simp at this; omega); clear ba)
      | (go_at_call 34; refine (isNull_any _ _ _ _).mono ?_; rintro e wa ⟨rfl, ba⟩; (first | (have hcur := Lib.hid (hcur.out.trans (ba.mono hcur.out.size))) | (have hcur := Lib.hid ((Below.refl (w3 w k n s k' n' s').heap.size (w3 w k n s k' n' s')).trans ba))); obtain ⟨g0, g1, g2, g3, g4, g5⟩ := F _ (hcur.out.mono (by simp)); obtain ⟨hc0, hc1, hc2, hf0, hf1, hf2⟩ := w3_out _ _ _ _ _ _ _ _ hcur.out; have hz : w.heap.size + 2 < wa.heap.size := (by have := hcur.out.size; simp at this; omega); clear ba))
    exact bodyPost_ret (v := .tuple #[nul, .int .i64 0]) (by simp [results, Tryz.results77, go_sem, hc0, hc1, hc2]) rfl ⟨rfl, w3_end _ _ _ _ _ _ _ _ hcur.out _ _ _⟩

set_option maxHeartbeats 400000 in
theorem Op_rem_null (k n : Int) (s : ByteArray) (k' n' : Int) (s' : ByteArray) (w : World) (hr : Rt k n s) (hr' : Rt k' n' s') (hk : k = 0 ∨ k' = 0) :
    Calls Tryz.prog 77 #[.string ⟨#[37]⟩, vv k n s, vv k' n' s'] w (RetV nul 0 w) := by
  have F := w3_cells w k n s k' n' s'
  have HR := Lib.hid hr
  have HR' := Lib.hid hr'
  have hs : s.size ≤ 9223372036854775807 := by have := Rt_size hr; omega
  have hs' : s'.size ≤ 9223372036854775807 := by have := Rt_size hr'; omega
  have e1 : (k == 0) = true ∨ ((k == 0) = false ∧ (k' == 0) = true) := by
    by_cases h : k = 0
    · exact .inl (by simp [h])
    · exact .inr ⟨by simpa using h, by simpa using hk.resolve_left h⟩
  clear hr hr' hk
  rcases e1 with e1 | ⟨e1, e2⟩
  all_goals
    go_enter Tryz.func77, Tryz.ntmps77
    go_wp2_with (first
      | (go_at_call 12; refine (Right_any _ _ _ _ (by assumption)).mono ?_; rintro e wa ⟨rfl, ba⟩; (first | rw [decide_eq_true HR.out] | rw [decide_eq_true HR'.out]); (first | (have hcur := Lib.hid (hcur.out.trans (ba.mono hcur.out.size))) | (have hcur := Lib.hid ((Below.refl (w3 w k n s k' n' s').heap.size (w3 w k n s k' n' s')).trans ba))); obtain ⟨g0, g1, g2, g3, g4, g5⟩ := F _ (hcur.out.mono (by simp)); obtain ⟨hc0, hc1, hc2, hf0, hf1, hf2⟩ := w3_out _ _ _ _ _ _ _ _ hcur.out; have hz : w.heap.size + 2 < wa.heap.size := (by have := hcur.out.size; simp at this; omega); clear ba)
      | (go_at_call 34; refine (isNull_any _ _ _ _).mono ?_; rintro e wa ⟨rfl, ba⟩; (first | (have hcur := Lib.hid (hcur.out.trans (ba.mono hcur.out.size))) | (have hcur := Lib.hid ((Below.refl (w3 w k n s k' n' s').heap.size (w3 w k n s k' n' s')).trans ba))); obtain ⟨g0, g1, g2, g3, g4, g5⟩ := F _ (hcur.out.mono (by simp)); obtain ⟨hc0, hc1, hc2, hf0, hf1, hf2⟩ := w3_out _ _ _ _ _ _ _ _ hcur.out; have hz : w.heap.size + 2 < wa.heap.size := (by have := hcur.out.size; simp at this; omega); clear ba))
    exact bodyPost_ret (v := .tuple #[nul, .int .i64 0]) (by simp [results, Tryz.results77, go_sem, hc0, hc1, hc2]) rfl ⟨rfl, w3_end _ _ _ _ _ _ _ _ hcur.out _ _ _⟩

set_option maxHeartbeats 400000 in
theorem Op_cat_null (k n : Int) (s : ByteArray) (k' n' : Int) (s' : ByteArray) (w : World) (hr : Rt k n s) (hr' : Rt k' n' s') (hk : k = 0 ∨ k' = 0) :
    Calls Tryz.prog 77 #[.string ⟨#[124, 124]⟩, vv k n s, vv k' n' s'] w (RetV nul 0 w) := by
  have F := w3_cells w k n s k' n' s'
  have HR := Lib.hid hr
  have HR' := Lib.hid hr'
  have hs : s.size ≤ 9223372036854775807 := by have := Rt_size hr; omega
  have hs' : s'.size ≤ 9223372036854775807 := by have := Rt_size hr'; omega
  have e1 : (k == 0) = true ∨ ((k == 0) = false ∧ (k' == 0) = true) := by
    by_cases h : k = 0
    · exact .inl (by simp [h])
    · exact .inr ⟨by simpa using h, by simpa using hk.resolve_left h⟩
  clear hr hr' hk
  rcases e1 with e1 | ⟨e1, e2⟩
  all_goals
    go_enter Tryz.func77, Tryz.ntmps77
    go_wp2_with (first
      | (go_at_call 12; refine (Right_any _ _ _ _ (by assumption)).mono ?_; rintro e wa ⟨rfl, ba⟩; (first | rw [decide_eq_true HR.out] | rw [decide_eq_true HR'.out]); (first | (have hcur := Lib.hid (hcur.out.trans (ba.mono hcur.out.size))) | (have hcur := Lib.hid ((Below.refl (w3 w k n s k' n' s').heap.size (w3 w k n s k' n' s')).trans ba))); obtain ⟨g0, g1, g2, g3, g4, g5⟩ := F _ (hcur.out.mono (by simp)); obtain ⟨hc0, hc1, hc2, hf0, hf1, hf2⟩ := w3_out _ _ _ _ _ _ _ _ hcur.out; have hz : w.heap.size + 2 < wa.heap.size := (by have := hcur.out.size; simp at this; omega); clear ba)
      | (go_at_call 34; refine (isNull_any _ _ _ _).mono ?_; rintro e wa ⟨rfl, ba⟩; (first | (have hcur := Lib.hid (hcur.out.trans (ba.mono hcur.out.size))) | (have hcur := Lib.hid ((Below.refl (w3 w k n s k' n' s').heap.size (w3 w k n s k' n' s')).trans ba))); obtain ⟨g0, g1, g2, g3, g4, g5⟩ := F _ (hcur.out.mono (by simp)); obtain ⟨hc0, hc1, hc2, hf0, hf1, hf2⟩ := w3_out _ _ _ _ _ _ _ _ hcur.out; have hz : w.heap.size + 2 < wa.heap.size := (by have := hcur.out.size; simp at this; omega); clear ba))
    exact bodyPost_ret (v := .tuple #[nul, .int .i64 0]) (by simp [results, Tryz.results77, go_sem, hc0, hc1, hc2]) rfl ⟨rfl, w3_end _ _ _ _ _ _ _ _ hcur.out _ _ _⟩

set_option maxHeartbeats 400000 in
theorem Op_eq_null (k n : Int) (s : ByteArray) (k' n' : Int) (s' : ByteArray) (w : World) (hr : Rt k n s) (hr' : Rt k' n' s') (hk : k = 0 ∨ k' = 0) :
    Calls Tryz.prog 77 #[.string ⟨#[61]⟩, vv k n s, vv k' n' s'] w (RetV nul 0 w) := by
  have F := w3_cells w k n s k' n' s'
  have HR := Lib.hid hr
  have HR' := Lib.hid hr'
  have hs : s.size ≤ 9223372036854775807 := by have := Rt_size hr; omega
  have hs' : s'.size ≤ 9223372036854775807 := by have := Rt_size hr'; omega
  have e1 : (k == 0) = true ∨ ((k == 0) = false ∧ (k' == 0) = true) := by
    by_cases h : k = 0
    · exact .inl (by simp [h])
    · exact .inr ⟨by simpa using h, by simpa using hk.resolve_left h⟩
  clear hr hr' hk
  rcases e1 with e1 | ⟨e1, e2⟩
  all_goals
    go_enter Tryz.func77, Tryz.ntmps77
    go_wp2_with (first
      | (go_at_call 12; refine (Right_any _ _ _ _ (by assumption)).mono ?_; rintro e wa ⟨rfl, ba⟩; (first | rw [decide_eq_true HR.out] | rw [decide_eq_true HR'.out]); (first | (have hcur := Lib.hid (hcur.out.trans (ba.mono hcur.out.size))) | (have hcur := Lib.hid ((Below.refl (w3 w k n s k' n' s').heap.size (w3 w k n s k' n' s')).trans ba))); obtain ⟨g0, g1, g2, g3, g4, g5⟩ := F _ (hcur.out.mono (by simp)); obtain ⟨hc0, hc1, hc2, hf0, hf1, hf2⟩ := w3_out _ _ _ _ _ _ _ _ hcur.out; have hz : w.heap.size + 2 < wa.heap.size := (by have := hcur.out.size; simp at this; omega); clear ba)
      | (go_at_call 34; refine (isNull_any _ _ _ _).mono ?_; rintro e wa ⟨rfl, ba⟩; (first | (have hcur := Lib.hid (hcur.out.trans (ba.mono hcur.out.size))) | (have hcur := Lib.hid ((Below.refl (w3 w k n s k' n' s').heap.size (w3 w k n s k' n' s')).trans ba))); obtain ⟨g0, g1, g2, g3, g4, g5⟩ := F _ (hcur.out.mono (by simp)); obtain ⟨hc0, hc1, hc2, hf0, hf1, hf2⟩ := w3_out _ _ _ _ _ _ _ _ hcur.out; have hz : w.heap.size + 2 < wa.heap.size := (by have := hcur.out.size; simp at this; omega); clear ba))
    exact bodyPost_ret (v := .tuple #[nul, .int .i64 0]) (by simp [results, Tryz.results77, go_sem, hc0, hc1, hc2]) rfl ⟨rfl, w3_end _ _ _ _ _ _ _ _ hcur.out _ _ _⟩

set_option maxHeartbeats 400000 in
theorem Op_ne_null (k n : Int) (s : ByteArray) (k' n' : Int) (s' : ByteArray) (w : World) (hr : Rt k n s) (hr' : Rt k' n' s') (hk : k = 0 ∨ k' = 0) :
    Calls Tryz.prog 77 #[.string ⟨#[60, 62]⟩, vv k n s, vv k' n' s'] w (RetV nul 0 w) := by
  have F := w3_cells w k n s k' n' s'
  have HR := Lib.hid hr
  have HR' := Lib.hid hr'
  have hs : s.size ≤ 9223372036854775807 := by have := Rt_size hr; omega
  have hs' : s'.size ≤ 9223372036854775807 := by have := Rt_size hr'; omega
  have e1 : (k == 0) = true ∨ ((k == 0) = false ∧ (k' == 0) = true) := by
    by_cases h : k = 0
    · exact .inl (by simp [h])
    · exact .inr ⟨by simpa using h, by simpa using hk.resolve_left h⟩
  clear hr hr' hk
  rcases e1 with e1 | ⟨e1, e2⟩
  all_goals
    go_enter Tryz.func77, Tryz.ntmps77
    go_wp2_with (first
      | (go_at_call 12; refine (Right_any _ _ _ _ (by assumption)).mono ?_; rintro e wa ⟨rfl, ba⟩; (first | rw [decide_eq_true HR.out] | rw [decide_eq_true HR'.out]); (first | (have hcur := Lib.hid (hcur.out.trans (ba.mono hcur.out.size))) | (have hcur := Lib.hid ((Below.refl (w3 w k n s k' n' s').heap.size (w3 w k n s k' n' s')).trans ba))); obtain ⟨g0, g1, g2, g3, g4, g5⟩ := F _ (hcur.out.mono (by simp)); obtain ⟨hc0, hc1, hc2, hf0, hf1, hf2⟩ := w3_out _ _ _ _ _ _ _ _ hcur.out; have hz : w.heap.size + 2 < wa.heap.size := (by have := hcur.out.size; simp at this; omega); clear ba)
      | (go_at_call 34; refine (isNull_any _ _ _ _).mono ?_; rintro e wa ⟨rfl, ba⟩; (first | (have hcur := Lib.hid (hcur.out.trans (ba.mono hcur.out.size))) | (have hcur := Lib.hid ((Below.refl (w3 w k n s k' n' s').heap.size (w3 w k n s k' n' s')).trans ba))); obtain ⟨g0, g1, g2, g3, g4, g5⟩ := F _ (hcur.out.mono (by simp)); obtain ⟨hc0, hc1, hc2, hf0, hf1, hf2⟩ := w3_out _ _ _ _ _ _ _ _ hcur.out; have hz : w.heap.size + 2 < wa.heap.size := (by have := hcur.out.size; simp at this; omega); clear ba))
    exact bodyPost_ret (v := .tuple #[nul, .int .i64 0]) (by simp [results, Tryz.results77, go_sem, hc0, hc1, hc2]) rfl ⟨rfl, w3_end _ _ _ _ _ _ _ _ hcur.out _ _ _⟩

set_option maxHeartbeats 400000 in
theorem Op_lt_null (k n : Int) (s : ByteArray) (k' n' : Int) (s' : ByteArray) (w : World) (hr : Rt k n s) (hr' : Rt k' n' s') (hk : k = 0 ∨ k' = 0) :
    Calls Tryz.prog 77 #[.string ⟨#[60]⟩, vv k n s, vv k' n' s'] w (RetV nul 0 w) := by
  have F := w3_cells w k n s k' n' s'
  have HR := Lib.hid hr
  have HR' := Lib.hid hr'
  have hs : s.size ≤ 9223372036854775807 := by have := Rt_size hr; omega
  have hs' : s'.size ≤ 9223372036854775807 := by have := Rt_size hr'; omega
  have e1 : (k == 0) = true ∨ ((k == 0) = false ∧ (k' == 0) = true) := by
    by_cases h : k = 0
    · exact .inl (by simp [h])
    · exact .inr ⟨by simpa using h, by simpa using hk.resolve_left h⟩
  clear hr hr' hk
  rcases e1 with e1 | ⟨e1, e2⟩
  all_goals
    go_enter Tryz.func77, Tryz.ntmps77
    go_wp2_with (first
      | (go_at_call 12; refine (Right_any _ _ _ _ (by assumption)).mono ?_; rintro e wa ⟨rfl, ba⟩; (first | rw [decide_eq_true HR.out] | rw [decide_eq_true HR'.out]); (first | (have hcur := Lib.hid (hcur.out.trans (ba.mono hcur.out.size))) | (have hcur := Lib.hid ((Below.refl (w3 w k n s k' n' s').heap.size (w3 w k n s k' n' s')).trans ba))); obtain ⟨g0, g1, g2, g3, g4, g5⟩ := F _ (hcur.out.mono (by simp)); obtain ⟨hc0, hc1, hc2, hf0, hf1, hf2⟩ := w3_out _ _ _ _ _ _ _ _ hcur.out; have hz : w.heap.size + 2 < wa.heap.size := (by have := hcur.out.size; simp at this; omega); clear ba)
      | (go_at_call 34; refine (isNull_any _ _ _ _).mono ?_; rintro e wa ⟨rfl, ba⟩; (first | (have hcur := Lib.hid (hcur.out.trans (ba.mono hcur.out.size))) | (have hcur := Lib.hid ((Below.refl (w3 w k n s k' n' s').heap.size (w3 w k n s k' n' s')).trans ba))); obtain ⟨g0, g1, g2, g3, g4, g5⟩ := F _ (hcur.out.mono (by simp)); obtain ⟨hc0, hc1, hc2, hf0, hf1, hf2⟩ := w3_out _ _ _ _ _ _ _ _ hcur.out; have hz : w.heap.size + 2 < wa.heap.size := (by have := hcur.out.size; simp at this; omega); clear ba))
    exact bodyPost_ret (v := .tuple #[nul, .int .i64 0]) (by simp [results, Tryz.results77, go_sem, hc0, hc1, hc2]) rfl ⟨rfl, w3_end _ _ _ _ _ _ _ _ hcur.out _ _ _⟩

set_option maxHeartbeats 400000 in
theorem Op_le_null (k n : Int) (s : ByteArray) (k' n' : Int) (s' : ByteArray) (w : World) (hr : Rt k n s) (hr' : Rt k' n' s') (hk : k = 0 ∨ k' = 0) :
    Calls Tryz.prog 77 #[.string ⟨#[60, 61]⟩, vv k n s, vv k' n' s'] w (RetV nul 0 w) := by
  have F := w3_cells w k n s k' n' s'
  have HR := Lib.hid hr
  have HR' := Lib.hid hr'
  have hs : s.size ≤ 9223372036854775807 := by have := Rt_size hr; omega
  have hs' : s'.size ≤ 9223372036854775807 := by have := Rt_size hr'; omega
  have e1 : (k == 0) = true ∨ ((k == 0) = false ∧ (k' == 0) = true) := by
    by_cases h : k = 0
    · exact .inl (by simp [h])
    · exact .inr ⟨by simpa using h, by simpa using hk.resolve_left h⟩
  clear hr hr' hk
  rcases e1 with e1 | ⟨e1, e2⟩
  all_goals
    go_enter Tryz.func77, Tryz.ntmps77
    go_wp2_with (first
      | (go_at_call 12; refine (Right_any _ _ _ _ (by assumption)).mono ?_; rintro e wa ⟨rfl, ba⟩; (first | rw [decide_eq_true HR.out] | rw [decide_eq_true HR'.out]); (first | (have hcur := Lib.hid (hcur.out.trans (ba.mono hcur.out.size))) | (have hcur := Lib.hid ((Below.refl (w3 w k n s k' n' s').heap.size (w3 w k n s k' n' s')).trans ba))); obtain ⟨g0, g1, g2, g3, g4, g5⟩ := F _ (hcur.out.mono (by simp)); obtain ⟨hc0, hc1, hc2, hf0, hf1, hf2⟩ := w3_out _ _ _ _ _ _ _ _ hcur.out; have hz : w.heap.size + 2 < wa.heap.size := (by have := hcur.out.size; simp at this; omega); clear ba)
      | (go_at_call 34; refine (isNull_any _ _ _ _).mono ?_; rintro e wa ⟨rfl, ba⟩; (first | (have hcur := Lib.hid (hcur.out.trans (ba.mono hcur.out.size))) | (have hcur := Lib.hid ((Below.refl (w3 w k n s k' n' s').heap.size (w3 w k n s k' n' s')).trans ba))); obtain ⟨g0, g1, g2, g3, g4, g5⟩ := F _ (hcur.out.mono (by simp)); obtain ⟨hc0, hc1, hc2, hf0, hf1, hf2⟩ := w3_out _ _ _ _ _ _ _ _ hcur.out; have hz : w.heap.size + 2 < wa.heap.size := (by have := hcur.out.size; simp at this; omega); clear ba))
    exact bodyPost_ret (v := .tuple #[nul, .int .i64 0]) (by simp [results, Tryz.results77, go_sem, hc0, hc1, hc2]) rfl ⟨rfl, w3_end _ _ _ _ _ _ _ _ hcur.out _ _ _⟩

set_option maxHeartbeats 400000 in
theorem Op_gt_null (k n : Int) (s : ByteArray) (k' n' : Int) (s' : ByteArray) (w : World) (hr : Rt k n s) (hr' : Rt k' n' s') (hk : k = 0 ∨ k' = 0) :
    Calls Tryz.prog 77 #[.string ⟨#[62]⟩, vv k n s, vv k' n' s'] w (RetV nul 0 w) := by
  have F := w3_cells w k n s k' n' s'
  have HR := Lib.hid hr
  have HR' := Lib.hid hr'
  have hs : s.size ≤ 9223372036854775807 := by have := Rt_size hr; omega
  have hs' : s'.size ≤ 9223372036854775807 := by have := Rt_size hr'; omega
  have e1 : (k == 0) = true ∨ ((k == 0) = false ∧ (k' == 0) = true) := by
    by_cases h : k = 0
    · exact .inl (by simp [h])
    · exact .inr ⟨by simpa using h, by simpa using hk.resolve_left h⟩
  clear hr hr' hk
  rcases e1 with e1 | ⟨e1, e2⟩
  all_goals
    go_enter Tryz.func77, Tryz.ntmps77
    go_wp2_with (first
      | (go_at_call 12; refine (Right_any _ _ _ _ (by assumption)).mono ?_; rintro e wa ⟨rfl, ba⟩; (first | rw [decide_eq_true HR.out] | rw [decide_eq_true HR'.out]); (first | (have hcur := Lib.hid (hcur.out.trans (ba.mono hcur.out.size))) | (have hcur := Lib.hid ((Below.refl (w3 w k n s k' n' s').heap.size (w3 w k n s k' n' s')).trans ba))); obtain ⟨g0, g1, g2, g3, g4, g5⟩ := F _ (hcur.out.mono (by simp)); obtain ⟨hc0, hc1, hc2, hf0, hf1, hf2⟩ := w3_out _ _ _ _ _ _ _ _ hcur.out; have hz : w.heap.size + 2 < wa.heap.size := (by have := hcur.out.size; simp at this; omega); clear ba)
      | (go_at_call 34; refine (isNull_any _ _ _ _).mono ?_; rintro e wa ⟨rfl, ba⟩; (first | (have hcur := Lib.hid (hcur.out.trans (ba.mono hcur.out.size))) | (have hcur := Lib.hid ((Below.refl (w3 w k n s k' n' s').heap.size (w3 w k n s k' n' s')).trans ba))); obtain ⟨g0, g1, g2, g3, g4, g5⟩ := F _ (hcur.out.mono (by simp)); obtain ⟨hc0, hc1, hc2, hf0, hf1, hf2⟩ := w3_out _ _ _ _ _ _ _ _ hcur.out; have hz : w.heap.size + 2 < wa.heap.size := (by have := hcur.out.size; simp at this; omega); clear ba))
    exact bodyPost_ret (v := .tuple #[nul, .int .i64 0]) (by simp [results, Tryz.results77, go_sem, hc0, hc1, hc2]) rfl ⟨rfl, w3_end _ _ _ _ _ _ _ _ hcur.out _ _ _⟩

set_option maxHeartbeats 400000 in
theorem Op_ge_null (k n : Int) (s : ByteArray) (k' n' : Int) (s' : ByteArray) (w : World) (hr : Rt k n s) (hr' : Rt k' n' s') (hk : k = 0 ∨ k' = 0) :
    Calls Tryz.prog 77 #[.string ⟨#[62, 61]⟩, vv k n s, vv k' n' s'] w (RetV nul 0 w) := by
  have F := w3_cells w k n s k' n' s'
  have HR := Lib.hid hr
  have HR' := Lib.hid hr'
  have hs : s.size ≤ 9223372036854775807 := by have := Rt_size hr; omega
  have hs' : s'.size ≤ 9223372036854775807 := by have := Rt_size hr'; omega
  have e1 : (k == 0) = true ∨ ((k == 0) = false ∧ (k' == 0) = true) := by
    by_cases h : k = 0
    · exact .inl (by simp [h])
    · exact .inr ⟨by simpa using h, by simpa using hk.resolve_left h⟩
  clear hr hr' hk
  rcases e1 with e1 | ⟨e1, e2⟩
  all_goals
    go_enter Tryz.func77, Tryz.ntmps77
    go_wp2_with (first
      | (go_at_call 12; refine (Right_any _ _ _ _ (by assumption)).mono ?_; rintro e wa ⟨rfl, ba⟩; (first | rw [decide_eq_true HR.out] | rw [decide_eq_true HR'.out]); (first | (have hcur := Lib.hid (hcur.out.trans (ba.mono hcur.out.size))) | (have hcur := Lib.hid ((Below.refl (w3 w k n s k' n' s').heap.size (w3 w k n s k' n' s')).trans ba))); obtain ⟨g0, g1, g2, g3, g4, g5⟩ := F _ (hcur.out.mono (by simp)); obtain ⟨hc0, hc1, hc2, hf0, hf1, hf2⟩ := w3_out _ _ _ _ _ _ _ _ hcur.out; have hz : w.heap.size + 2 < wa.heap.size := (by have := hcur.out.size; simp at this; omega); clear ba)
      | (go_at_call 34; refine (isNull_any _ _ _ _).mono ?_; rintro e wa ⟨rfl, ba⟩; (first | (have hcur := Lib.hid (hcur.out.trans (ba.mono hcur.out.size))) | (have hcur := Lib.hid ((Below.refl (w3 w k n s k' n' s').heap.size (w3 w k n s k' n' s')).trans ba))); obtain ⟨g0, g1, g2, g3, g4, g5⟩ := F _ (hcur.out.mono (by simp)); obtain ⟨hc0, hc1, hc2, hf0, hf1, hf2⟩ := w3_out _ _ _ _ _ _ _ _ hcur.out; have hz : w.heap.size + 2 < wa.heap.size := (by have := hcur.out.size; simp at this; omega); clear ba))
    exact bodyPost_ret (v := .tuple #[nul, .int .i64 0]) (by simp [results, Tryz.results77, go_sem, hc0, hc1, hc2]) rfl ⟨rfl, w3_end _ _ _ _ _ _ _ _ hcur.out _ _ _⟩

set_option maxHeartbeats 400000 in
theorem Op_like_null (k n : Int) (s : ByteArray) (k' n' : Int) (s' : ByteArray) (w : World) (hr : Rt k n s) (hr' : Rt k' n' s') (hk : k = 0 ∨ k' = 0) :
    Calls Tryz.prog 77 #[.string ⟨#[108, 105, 107, 101]⟩, vv k n s, vv k' n' s'] w (RetV nul 0 w) := by
  have F := w3_cells w k n s k' n' s'
  have HR := Lib.hid hr
  have HR' := Lib.hid hr'
  have hs : s.size ≤ 9223372036854775807 := by have := Rt_size hr; omega
  have hs' : s'.size ≤ 9223372036854775807 := by have := Rt_size hr'; omega
  have e1 : (k == 0) = true ∨ ((k == 0) = false ∧ (k' == 0) = true) := by
    by_cases h : k = 0
    · exact .inl (by simp [h])
    · exact .inr ⟨by simpa using h, by simpa using hk.resolve_left h⟩
  clear hr hr' hk
  rcases e1 with e1 | ⟨e1, e2⟩
  all_goals
    go_enter Tryz.func77, Tryz.ntmps77
    go_wp2_with (first
      | (go_at_call 12; refine (Right_any _ _ _ _ (by assumption)).mono ?_; rintro e wa ⟨rfl, ba⟩; (first | rw [decide_eq_true HR.out] | rw [decide_eq_true HR'.out]); (first | (have hcur := Lib.hid (hcur.out.trans (ba.mono hcur.out.size))) | (have hcur := Lib.hid ((Below.refl (w3 w k n s k' n' s').heap.size (w3 w k n s k' n' s')).trans ba))); obtain ⟨g0, g1, g2, g3, g4, g5⟩ := F _ (hcur.out.mono (by simp)); obtain ⟨hc0, hc1, hc2, hf0, hf1, hf2⟩ := w3_out _ _ _ _ _ _ _ _ hcur.out; have hz : w.heap.size + 2 < wa.heap.size := (by have := hcur.out.size; simp at this; omega); clear ba)
      | (go_at_call 34; refine (isNull_any _ _ _ _).mono ?_; rintro e wa ⟨rfl, ba⟩; (first | (have hcur := Lib.hid (hcur.out.trans (ba.mono hcur.out.size))) | (have hcur := Lib.hid ((Below.refl (w3 w k n s k' n' s').heap.size (w3 w k n s k' n' s')).trans ba))); obtain ⟨g0, g1, g2, g3, g4, g5⟩ := F _ (hcur.out.mono (by simp)); obtain ⟨hc0, hc1, hc2, hf0, hf1, hf2⟩ := w3_out _ _ _ _ _ _ _ _ hcur.out; have hz : w.heap.size + 2 < wa.heap.size := (by have := hcur.out.size; simp at this; omega); clear ba))
    exact bodyPost_ret (v := .tuple #[nul, .int .i64 0]) (by simp [results, Tryz.results77, go_sem, hc0, hc1, hc2]) rfl ⟨rfl, w3_end _ _ _ _ _ _ _ _ hcur.out _ _ _⟩

end Go.Proofs.YteijijoiifbjlaaGreatDoor
