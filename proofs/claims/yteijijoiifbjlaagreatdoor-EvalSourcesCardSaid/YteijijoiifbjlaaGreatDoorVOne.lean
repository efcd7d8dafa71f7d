/-
  One and the statements' helper not (layer 2, value). Conditions: sizes.
-/
import Derived.Test.YteijijoiifbjlaaGreatDoorVHelp
namespace Go.Proofs.YteijijoiifbjlaaGreatDoor
open Go.ChangeShapes Go.WideShapes Go.ChangeAt Go.RowKit
set_option linter.unusedVariables false

theorem w2_cells (w : World) (k n : Int) (s : ByteArray) (X : World) (h : Below (w2 w k n s).heap.size (w2 w k n s) X) :
    X.cell? ⟨w.heap.size, 0, none⟩ = some (.int .u8 k) ∧ X.cell? ⟨w.heap.size, 1, none⟩ = some (.int .i64 n) ∧ X.cell? ⟨w.heap.size, 2, none⟩ = some (.string s) := by
  obtain ⟨hc, hf⟩ := bcell h
  refine ⟨?_, ?_, ?_⟩
  · rw [hc _ _ (by rw [w2_size]; omega)]; simp [go_sem]
  · rw [hc _ _ (by rw [w2_size]; omega)]; simp [go_sem]
  · rw [hc _ _ (by rw [w2_size]; omega)]; simp [go_sem]

set_option maxHeartbeats 400000 in
theorem One_neg_null (k n : Int) (s : ByteArray) (w : World) (hr : Rt k n s) (hk : k = 0) :
    Calls Tryz.prog 76 #[.string ⟨#[45]⟩, vv k n s] w (RetV (nul) 0 w) := by
  have HR := Lib.hid hr
  have hs : s.size ≤ 9223372036854775807 := by have := Rt_size hr; omega
  have hs3 : s.size ≤ 4611686018427387904 := by have := Rt_size hr; omega
  subst hk
  clear hr
  go_enter Tryz.func76, Tryz.ntmps76
  go_wp2_with (first
    | (go_at_call 12; refine (Right_any _ _ _ _ hs).mono ?_; rintro e wa ⟨rfl, ba⟩; rw [decide_eq_true HR.out]; (first | (have hcur := Lib.hid (hcur.out.trans (ba.mono hcur.out.size))) | (have hcur := Lib.hid ba)); obtain ⟨g0, g1, g2⟩ := w2_cells _ _ _ _ _ hcur.out; obtain ⟨_, u0, u1, u2, v0, v1, v2⟩ := w2_out _ _ _ _ _ hcur.out; have hz : w.heap.size + 1 < wa.heap.size := (by have := hcur.out.size; rw [w2_size] at this; omega); clear ba)
    | (go_at_call 34; refine (isNull_any _ _ _ _).mono ?_; rintro e wa ⟨rfl, ba⟩; (first | (have hcur := Lib.hid (hcur.out.trans (ba.mono hcur.out.size))) | (have hcur := Lib.hid ba)); obtain ⟨g0, g1, g2⟩ := w2_cells _ _ _ _ _ hcur.out; obtain ⟨_, u0, u1, u2, v0, v1, v2⟩ := w2_out _ _ _ _ _ hcur.out; have hz : w.heap.size + 1 < wa.heap.size := (by have := hcur.out.size; rw [w2_size] at this; omega); clear ba))
  exact bodyPost_ret (v := .tuple #[nul, .int .i64 0]) (by simp [results, Tryz.results76, go_sem, u0, u1, u2]) rfl ⟨rfl, w2_end _ _ _ _ _ hcur.out _ _ _⟩

set_option maxHeartbeats 400000 in
theorem One_not_null (k n : Int) (s : ByteArray) (w : World) (hr : Rt k n s) (hk : k = 0) :
    Calls Tryz.prog 76 #[.string ⟨#[110, 111, 116]⟩, vv k n s] w (RetV (nul) 0 w) := by
  have HR := Lib.hid hr
  have hs : s.size ≤ 9223372036854775807 := by have := Rt_size hr; omega
  have hs3 : s.size ≤ 4611686018427387904 := by have := Rt_size hr; omega
  subst hk
  clear hr
  go_enter Tryz.func76, Tryz.ntmps76
  go_wp2_with (first
    | (go_at_call 12; refine (Right_any _ _ _ _ hs).mono ?_; rintro e wa ⟨rfl, ba⟩; rw [decide_eq_true HR.out]; (first | (have hcur := Lib.hid (hcur.out.trans (ba.mono hcur.out.size))) | (have hcur := Lib.hid ba)); obtain ⟨g0, g1, g2⟩ := w2_cells _ _ _ _ _ hcur.out; obtain ⟨_, u0, u1, u2, v0, v1, v2⟩ := w2_out _ _ _ _ _ hcur.out; have hz : w.heap.size + 1 < wa.heap.size := (by have := hcur.out.size; rw [w2_size] at this; omega); clear ba)
    | (go_at_call 34; refine (isNull_any _ _ _ _).mono ?_; rintro e wa ⟨rfl, ba⟩; (first | (have hcur := Lib.hid (hcur.out.trans (ba.mono hcur.out.size))) | (have hcur := Lib.hid ba)); obtain ⟨g0, g1, g2⟩ := w2_cells _ _ _ _ _ hcur.out; obtain ⟨_, u0, u1, u2, v0, v1, v2⟩ := w2_out _ _ _ _ _ hcur.out; have hz : w.heap.size + 1 < wa.heap.size := (by have := hcur.out.size; rw [w2_size] at this; omega); clear ba))
  exact bodyPost_ret (v := .tuple #[nul, .int .i64 0]) (by simp [results, Tryz.results76, go_sem, u0, u1, u2]) rfl ⟨rfl, w2_end _ _ _ _ _ hcur.out _ _ _⟩

set_option maxHeartbeats 400000 in
theorem One_neg (k n : Int) (s : ByteArray) (w : World) (hr : Rt k n s) (hk : k ≠ 0) (h1 : In64 (intV k n s)) (h3 : In64 (0 - intV k n s)) :
    Calls Tryz.prog 76 #[.string ⟨#[45]⟩, vv k n s] w (RetV (vv 1 (0 - intV k n s) ⟨#[]⟩) 0 w) := by
  have HR := Lib.hid hr
  have hs : s.size ≤ 9223372036854775807 := by have := Rt_size hr; omega
  have hs3 : s.size ≤ 4611686018427387904 := by have := Rt_size hr; omega
  have e0 : (k == 0) = false := by simpa using hk
  clear hk
  have H0 := Lib.hid (show In64 0 by decide)
  have H1 := Lib.hid h1
  have HD := Lib.hid (decide_eq_true h3)
  have HW := Lib.hid (wrap_in h3)
  clear h1 h3
  clear hr
  go_enter Tryz.func76, Tryz.ntmps76
  go_wp2_with (first
    | (go_at_call 12; refine (Right_any _ _ _ _ hs).mono ?_; rintro e wa ⟨rfl, ba⟩; rw [decide_eq_true HR.out]; (first | (have hcur := Lib.hid (hcur.out.trans (ba.mono hcur.out.size))) | (have hcur := Lib.hid ba)); obtain ⟨g0, g1, g2⟩ := w2_cells _ _ _ _ _ hcur.out; obtain ⟨_, u0, u1, u2, v0, v1, v2⟩ := w2_out _ _ _ _ _ hcur.out; have hz : w.heap.size + 1 < wa.heap.size := (by have := hcur.out.size; rw [w2_size] at this; omega); clear ba)
    | (go_at_call 34; refine (isNull_any _ _ _ _).mono ?_; rintro e wa ⟨rfl, ba⟩; (first | (have hcur := Lib.hid (hcur.out.trans (ba.mono hcur.out.size))) | (have hcur := Lib.hid ba)); obtain ⟨g0, g1, g2⟩ := w2_cells _ _ _ _ _ hcur.out; obtain ⟨_, u0, u1, u2, v0, v1, v2⟩ := w2_out _ _ _ _ _ hcur.out; have hz : w.heap.size + 1 < wa.heap.size := (by have := hcur.out.size; rw [w2_size] at this; omega); clear ba)
    | (go_at_call 35; refine (Int_any _ _ _ _ hs3).mono ?_; rintro e wa ⟨rfl, ba⟩; (first | (have hcur := Lib.hid (hcur.out.trans (ba.mono hcur.out.size))) | (have hcur := Lib.hid ba)); obtain ⟨g0, g1, g2⟩ := w2_cells _ _ _ _ _ hcur.out; obtain ⟨_, u0, u1, u2, v0, v1, v2⟩ := w2_out _ _ _ _ _ hcur.out; have hz : w.heap.size + 1 < wa.heap.size := (by have := hcur.out.size; rw [w2_size] at this; omega); clear ba)
    | (go_at_call 94; refine (subtract_any _ _ _ H0.out H1.out).mono ?_; rintro e wa ⟨rfl, rfl⟩; rw [HD.out, HW.out])
    | (go_at_call 93; refine (toInt_yes _ _).mono ?_; rintro e wa ⟨rfl, ba⟩; (first | (have hcur := Lib.hid (hcur.out.trans (ba.mono hcur.out.size))) | (have hcur := Lib.hid ba)); obtain ⟨g0, g1, g2⟩ := w2_cells _ _ _ _ _ hcur.out; obtain ⟨_, u0, u1, u2, v0, v1, v2⟩ := w2_out _ _ _ _ _ hcur.out; have hz : w.heap.size + 1 < wa.heap.size := (by have := hcur.out.size; rw [w2_size] at this; omega); clear ba))
  exact bodyPost_ret (v := .tuple #[vv 1 (0 - intV k n s) ⟨#[]⟩, .int .i64 0]) (by simp [results, Tryz.results76, go_sem, u0, u1, u2]) rfl ⟨rfl, w2_end _ _ _ _ _ hcur.out _ _ _⟩

set_option maxHeartbeats 400000 in
theorem One_neg_no (k n : Int) (s : ByteArray) (w : World) (hr : Rt k n s) (hk : k ≠ 0) (h1 : In64 (intV k n s)) (h3 : ¬ In64 (0 - intV k n s)) :
    Calls Tryz.prog 76 #[.string ⟨#[45]⟩, vv k n s] w (RetV (nul) 20 w) := by
  have HR := Lib.hid hr
  have hs : s.size ≤ 9223372036854775807 := by have := Rt_size hr; omega
  have hs3 : s.size ≤ 4611686018427387904 := by have := Rt_size hr; omega
  have e0 : (k == 0) = false := by simpa using hk
  clear hk
  have H0 := Lib.hid (show In64 0 by decide)
  have H1 := Lib.hid h1
  have HD := Lib.hid (decide_eq_false h3)
  clear h1 h3
  clear hr
  go_enter Tryz.func76, Tryz.ntmps76
  go_wp2_with (first
    | (go_at_call 12; refine (Right_any _ _ _ _ hs).mono ?_; rintro e wa ⟨rfl, ba⟩; rw [decide_eq_true HR.out]; (first | (have hcur := Lib.hid (hcur.out.trans (ba.mono hcur.out.size))) | (have hcur := Lib.hid ba)); obtain ⟨g0, g1, g2⟩ := w2_cells _ _ _ _ _ hcur.out; obtain ⟨_, u0, u1, u2, v0, v1, v2⟩ := w2_out _ _ _ _ _ hcur.out; have hz : w.heap.size + 1 < wa.heap.size := (by have := hcur.out.size; rw [w2_size] at this; omega); clear ba)
    | (go_at_call 34; refine (isNull_any _ _ _ _).mono ?_; rintro e wa ⟨rfl, ba⟩; (first | (have hcur := Lib.hid (hcur.out.trans (ba.mono hcur.out.size))) | (have hcur := Lib.hid ba)); obtain ⟨g0, g1, g2⟩ := w2_cells _ _ _ _ _ hcur.out; obtain ⟨_, u0, u1, u2, v0, v1, v2⟩ := w2_out _ _ _ _ _ hcur.out; have hz : w.heap.size + 1 < wa.heap.size := (by have := hcur.out.size; rw [w2_size] at this; omega); clear ba)
    | (go_at_call 35; refine (Int_any _ _ _ _ hs3).mono ?_; rintro e wa ⟨rfl, ba⟩; (first | (have hcur := Lib.hid (hcur.out.trans (ba.mono hcur.out.size))) | (have hcur := Lib.hid ba)); obtain ⟨g0, g1, g2⟩ := w2_cells _ _ _ _ _ hcur.out; obtain ⟨_, u0, u1, u2, v0, v1, v2⟩ := w2_out _ _ _ _ _ hcur.out; have hz : w.heap.size + 1 < wa.heap.size := (by have := hcur.out.size; rw [w2_size] at this; omega); clear ba)
    | (go_at_call 94; refine (subtract_any _ _ _ H0.out H1.out).mono ?_; rintro e wa ⟨rfl, rfl⟩; rw [HD.out])
    | (go_at_call 93; refine (toInt_no _ _).mono ?_; rintro e wa ⟨rfl, ba⟩; (first | (have hcur := Lib.hid (hcur.out.trans (ba.mono hcur.out.size))) | (have hcur := Lib.hid ba)); obtain ⟨g0, g1, g2⟩ := w2_cells _ _ _ _ _ hcur.out; obtain ⟨_, u0, u1, u2, v0, v1, v2⟩ := w2_out _ _ _ _ _ hcur.out; have hz : w.heap.size + 1 < wa.heap.size := (by have := hcur.out.size; rw [w2_size] at this; omega); clear ba))
  exact bodyPost_ret (v := .tuple #[nul, .int .i64 20]) (by simp [results, Tryz.results76, go_sem, u0, u1, u2]) rfl ⟨rfl, w2_end _ _ _ _ _ hcur.out _ _ _⟩

set_option maxHeartbeats 400000 in
theorem One_not (k n : Int) (s : ByteArray) (w : World) (hr : Rt k n s) (hk : k ≠ 0) (x : Int) (hx : (if !(trueV k n s) then (1 : Int) else 0) = x) :
    Calls Tryz.prog 76 #[.string ⟨#[110, 111, 116]⟩, vv k n s] w (RetV (vv 1 x ⟨#[]⟩) 0 w) := by
  have HR := Lib.hid hr
  have hs : s.size ≤ 9223372036854775807 := by have := Rt_size hr; omega
  have hs3 : s.size ≤ 4611686018427387904 := by have := Rt_size hr; omega
  have e0 : (k == 0) = false := by simpa using hk
  clear hk
  have HX := Lib.hid hx
  have HT := Lib.hid (show (k != 0 && intV k n s != 0) = trueV k n s from rfl)
  clear hx
  clear hr
  go_enter Tryz.func76, Tryz.ntmps76
  go_wp2_with (first
    | (go_at_call 12; refine (Right_any _ _ _ _ hs).mono ?_; rintro e wa ⟨rfl, ba⟩; rw [decide_eq_true HR.out]; (first | (have hcur := Lib.hid (hcur.out.trans (ba.mono hcur.out.size))) | (have hcur := Lib.hid ba)); obtain ⟨g0, g1, g2⟩ := w2_cells _ _ _ _ _ hcur.out; obtain ⟨_, u0, u1, u2, v0, v1, v2⟩ := w2_out _ _ _ _ _ hcur.out; have hz : w.heap.size + 1 < wa.heap.size := (by have := hcur.out.size; rw [w2_size] at this; omega); clear ba)
    | (go_at_call 34; refine (isNull_any _ _ _ _).mono ?_; rintro e wa ⟨rfl, ba⟩; (first | (have hcur := Lib.hid (hcur.out.trans (ba.mono hcur.out.size))) | (have hcur := Lib.hid ba)); obtain ⟨g0, g1, g2⟩ := w2_cells _ _ _ _ _ hcur.out; obtain ⟨_, u0, u1, u2, v0, v1, v2⟩ := w2_out _ _ _ _ _ hcur.out; have hz : w.heap.size + 1 < wa.heap.size := (by have := hcur.out.size; rw [w2_size] at this; omega); clear ba)
    | (go_at_call 23; refine (Truth_any _ _ _ _ hs3).mono ?_; rintro e wa ⟨rfl, ba⟩; rw [HT.out]; (first | (have hcur := Lib.hid (hcur.out.trans (ba.mono hcur.out.size))) | (have hcur := Lib.hid ba)); obtain ⟨g0, g1, g2⟩ := w2_cells _ _ _ _ _ hcur.out; obtain ⟨_, u0, u1, u2, v0, v1, v2⟩ := w2_out _ _ _ _ _ hcur.out; have hz : w.heap.size + 1 < wa.heap.size := (by have := hcur.out.size; rw [w2_size] at this; omega); clear ba)
    | (go_at_call 92; refine (flagValue_any _ _).mono ?_; rintro e wa ⟨rfl, ba⟩; rw [HX.out]; (first | (have hcur := Lib.hid (hcur.out.trans (ba.mono hcur.out.size))) | (have hcur := Lib.hid ba)); obtain ⟨g0, g1, g2⟩ := w2_cells _ _ _ _ _ hcur.out; obtain ⟨_, u0, u1, u2, v0, v1, v2⟩ := w2_out _ _ _ _ _ hcur.out; have hz : w.heap.size + 1 < wa.heap.size := (by have := hcur.out.size; rw [w2_size] at this; omega); clear ba))
  exact bodyPost_ret (v := .tuple #[vv 1 x ⟨#[]⟩, .int .i64 0]) (by simp [results, Tryz.results76, go_sem, u0, u1, u2]) rfl ⟨rfl, w2_end _ _ _ _ _ hcur.out _ _ _⟩

end Go.Proofs.YteijijoiifbjlaaGreatDoor
