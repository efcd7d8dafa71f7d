/-
  Cast (layer 2, value), and Show of NULL and of numbers. Conditions: right values; the library's variables are as its text lays them.
-/
import Derived.Test.YtaidipdofomgoaaGreatDoorVCallM
import Derived.Test.YtaidipdofomgoaaGreatDoorVCasM
namespace Go.Proofs.YtaidipdofomgoaaGreatDoor
open Go.ChangeShapes Go.WideShapes Go.ChangeAt Go.RowKit
set_option linter.unusedVariables false

set_option maxHeartbeats 400000 in
theorem Cast_int_null (k n : Int) (s : ByteArray) (w : World) (hr : Rt k n s) (hk : k = 0) :
    Calls Tryz.prog 17 #[.string ⟨#[105, 110, 116]⟩, vv k n s] w (RetV (nul) 0 w) := by
  have HR := Lib.hid hr
  have hs : s.size ≤ 9223372036854775807 := by have := Rt_size hr; omega
  have hs3 : s.size ≤ 4611686018427387904 := by have := Rt_size hr; omega
  subst hk
  clear hr
  go_enter Tryz.func17, Tryz.ntmps17
  go_wp2_with (first
    | (go_at_call 19; refine (Right_any _ _ _ _ hs).mono ?_; rintro e wa ⟨rfl, ba⟩; rw [decide_eq_true HR.out]; (first | (have hcur := Lib.hid (hcur.out.trans (ba.mono hcur.out.size))) | (have hcur := Lib.hid ba)); obtain ⟨g0, g1, g2⟩ := w2_cells _ _ _ _ _ hcur.out; obtain ⟨_, u0, u1, u2, v0, v1, v2⟩ := w2_out _ _ _ _ _ hcur.out; have hz : w.heap.size + 1 < wa.heap.size := (by have := hcur.out.size; rw [w2_size] at this; omega); clear ba)
    | (go_at_call 51; refine (isNull_any _ _ _ _).mono ?_; rintro e wa ⟨rfl, ba⟩; (first | (have hcur := Lib.hid (hcur.out.trans (ba.mono hcur.out.size))) | (have hcur := Lib.hid ba)); obtain ⟨g0, g1, g2⟩ := w2_cells _ _ _ _ _ hcur.out; obtain ⟨_, u0, u1, u2, v0, v1, v2⟩ := w2_out _ _ _ _ _ hcur.out; have hz : w.heap.size + 1 < wa.heap.size := (by have := hcur.out.size; rw [w2_size] at this; omega); clear ba))
  exact bodyPost_ret (v := .tuple #[nul, .int .i64 0]) (by simp [results, Tryz.results17, go_sem, u0, u1, u2]) rfl ⟨rfl, w2_end _ _ _ _ _ hcur.out _ _ _⟩

set_option maxHeartbeats 400000 in
theorem Cast_text_nul (k n : Int) (s : ByteArray) (w : World) (hr : Rt k n s) (hk : k = 0) :
    Calls Tryz.prog 17 #[.string ⟨#[116, 101, 120, 116]⟩, vv k n s] w (RetV (nul) 0 w) := by
  have HR := Lib.hid hr
  have hs : s.size ≤ 9223372036854775807 := by have := Rt_size hr; omega
  have hs3 : s.size ≤ 4611686018427387904 := by have := Rt_size hr; omega
  subst hk
  clear hr
  go_enter Tryz.func17, Tryz.ntmps17
  go_wp2_with (first
    | (go_at_call 19; refine (Right_any _ _ _ _ hs).mono ?_; rintro e wa ⟨rfl, ba⟩; rw [decide_eq_true HR.out]; (first | (have hcur := Lib.hid (hcur.out.trans (ba.mono hcur.out.size))) | (have hcur := Lib.hid ba)); obtain ⟨g0, g1, g2⟩ := w2_cells _ _ _ _ _ hcur.out; obtain ⟨_, u0, u1, u2, v0, v1, v2⟩ := w2_out _ _ _ _ _ hcur.out; have hz : w.heap.size + 1 < wa.heap.size := (by have := hcur.out.size; rw [w2_size] at this; omega); clear ba)
    | (go_at_call 51; refine (isNull_any _ _ _ _).mono ?_; rintro e wa ⟨rfl, ba⟩; (first | (have hcur := Lib.hid (hcur.out.trans (ba.mono hcur.out.size))) | (have hcur := Lib.hid ba)); obtain ⟨g0, g1, g2⟩ := w2_cells _ _ _ _ _ hcur.out; obtain ⟨_, u0, u1, u2, v0, v1, v2⟩ := w2_out _ _ _ _ _ hcur.out; have hz : w.heap.size + 1 < wa.heap.size := (by have := hcur.out.size; rw [w2_size] at this; omega); clear ba))
  exact bodyPost_ret (v := .tuple #[nul, .int .i64 0]) (by simp [results, Tryz.results17, go_sem, u0, u1, u2]) rfl ⟨rfl, w2_end _ _ _ _ _ hcur.out _ _ _⟩

set_option maxHeartbeats 400000 in
theorem Cast_int (k n : Int) (s : ByteArray) (w : World) (hr : Rt k n s) (hk : k ≠ 0) (x : Int) (hx : intV k n s = x) :
    Calls Tryz.prog 17 #[.string ⟨#[105, 110, 116]⟩, vv k n s] w (RetV (vv 1 x ⟨#[]⟩) 0 w) := by
  have HR := Lib.hid hr
  have hs : s.size ≤ 9223372036854775807 := by have := Rt_size hr; omega
  have hs3 : s.size ≤ 4611686018427387904 := by have := Rt_size hr; omega
  have e0 : (k == 0) = false := by simpa using hk
  clear hk
  have HX := Lib.hid hx
  clear hx
  clear hr
  go_enter Tryz.func17, Tryz.ntmps17
  go_wp2_with (first
    | (go_at_call 19; refine (Right_any _ _ _ _ hs).mono ?_; rintro e wa ⟨rfl, ba⟩; rw [decide_eq_true HR.out]; (first | (have hcur := Lib.hid (hcur.out.trans (ba.mono hcur.out.size))) | (have hcur := Lib.hid ba)); obtain ⟨g0, g1, g2⟩ := w2_cells _ _ _ _ _ hcur.out; obtain ⟨_, u0, u1, u2, v0, v1, v2⟩ := w2_out _ _ _ _ _ hcur.out; have hz : w.heap.size + 1 < wa.heap.size := (by have := hcur.out.size; rw [w2_size] at this; omega); clear ba)
    | (go_at_call 51; refine (isNull_any _ _ _ _).mono ?_; rintro e wa ⟨rfl, ba⟩; (first | (have hcur := Lib.hid (hcur.out.trans (ba.mono hcur.out.size))) | (have hcur := Lib.hid ba)); obtain ⟨g0, g1, g2⟩ := w2_cells _ _ _ _ _ hcur.out; obtain ⟨_, u0, u1, u2, v0, v1, v2⟩ := w2_out _ _ _ _ _ hcur.out; have hz : w.heap.size + 1 < wa.heap.size := (by have := hcur.out.size; rw [w2_size] at this; omega); clear ba)
    | (go_at_call 57; refine (Int_any _ _ _ _ hs3).mono ?_; rintro e wa ⟨rfl, ba⟩; rw [HX.out]; (first | (have hcur := Lib.hid (hcur.out.trans (ba.mono hcur.out.size))) | (have hcur := Lib.hid ba)); obtain ⟨g0, g1, g2⟩ := w2_cells _ _ _ _ _ hcur.out; obtain ⟨_, u0, u1, u2, v0, v1, v2⟩ := w2_out _ _ _ _ _ hcur.out; have hz : w.heap.size + 1 < wa.heap.size := (by have := hcur.out.size; rw [w2_size] at this; omega); clear ba)
    | (go_at_call 58; refine (intValue_any _ _).mono ?_; rintro e wa ⟨rfl, ba⟩; (first | (have hcur := Lib.hid (hcur.out.trans (ba.mono hcur.out.size))) | (have hcur := Lib.hid ba)); obtain ⟨g0, g1, g2⟩ := w2_cells _ _ _ _ _ hcur.out; obtain ⟨_, u0, u1, u2, v0, v1, v2⟩ := w2_out _ _ _ _ _ hcur.out; have hz : w.heap.size + 1 < wa.heap.size := (by have := hcur.out.size; rw [w2_size] at this; omega); clear ba))
  exact bodyPost_ret (v := .tuple #[vv 1 x ⟨#[]⟩, .int .i64 0]) (by simp [results, Tryz.results17, go_sem, u0, u1, u2]) rfl ⟨rfl, w2_end _ _ _ _ _ hcur.out _ _ _⟩

set_option maxHeartbeats 400000 in
theorem Cast_text (k n : Int) (s : ByteArray) (w : World) (hr : Rt k n s) (hk : k ≠ 0) (hn : In64 n) (hW : Wd w) (x : ByteArray) (hx : textV k n s = x) :
    Calls Tryz.prog 17 #[.string ⟨#[116, 101, 120, 116]⟩, vv k n s] w (RetV (vv 2 0 x) 0 w) := by
  have HR := Lib.hid hr
  have hs : s.size ≤ 9223372036854775807 := by have := Rt_size hr; omega
  have hs3 : s.size ≤ 4611686018427387904 := by have := Rt_size hr; omega
  have e0 : (k == 0) = false := by simpa using hk
  clear hk
  have HX := Lib.hid hx
  have HN := Lib.hid hn
  have HWd := Lib.hid (hW.on (w2_below w k n s))
  clear hx hn hW
  clear hr
  go_enter Tryz.func17, Tryz.ntmps17
  go_wp2_with (first
    | (go_at_call 19; refine (Right_any _ _ _ _ hs).mono ?_; rintro e wa ⟨rfl, ba⟩; rw [decide_eq_true HR.out]; (first | (have hcur := Lib.hid (hcur.out.trans (ba.mono hcur.out.size))) | (have hcur := Lib.hid ba)); obtain ⟨g0, g1, g2⟩ := w2_cells _ _ _ _ _ hcur.out; obtain ⟨_, u0, u1, u2, v0, v1, v2⟩ := w2_out _ _ _ _ _ hcur.out; have hz : w.heap.size + 1 < wa.heap.size := (by have := hcur.out.size; rw [w2_size] at this; omega); clear ba)
    | (go_at_call 51; refine (isNull_any _ _ _ _).mono ?_; rintro e wa ⟨rfl, ba⟩; (first | (have hcur := Lib.hid (hcur.out.trans (ba.mono hcur.out.size))) | (have hcur := Lib.hid ba)); obtain ⟨g0, g1, g2⟩ := w2_cells _ _ _ _ _ hcur.out; obtain ⟨_, u0, u1, u2, v0, v1, v2⟩ := w2_out _ _ _ _ _ hcur.out; have hz : w.heap.size + 1 < wa.heap.size := (by have := hcur.out.size; rw [w2_size] at this; omega); clear ba)
    | (go_at_call 60; refine (Text_any _ _ _ _ HN.out ((HWd.out).on hcur.out)).mono ?_; rintro e wa ⟨rfl, ba⟩; rw [HX.out]; (first | (have hcur := Lib.hid (hcur.out.trans (ba.mono hcur.out.size))) | (have hcur := Lib.hid ba)); obtain ⟨g0, g1, g2⟩ := w2_cells _ _ _ _ _ hcur.out; obtain ⟨_, u0, u1, u2, v0, v1, v2⟩ := w2_out _ _ _ _ _ hcur.out; have hz : w.heap.size + 1 < wa.heap.size := (by have := hcur.out.size; rw [w2_size] at this; omega); clear ba)
    | (go_at_call 59; refine (textValue_any _ _).mono ?_; rintro e wa ⟨rfl, ba⟩; (first | (have hcur := Lib.hid (hcur.out.trans (ba.mono hcur.out.size))) | (have hcur := Lib.hid ba)); obtain ⟨g0, g1, g2⟩ := w2_cells _ _ _ _ _ hcur.out; obtain ⟨_, u0, u1, u2, v0, v1, v2⟩ := w2_out _ _ _ _ _ hcur.out; have hz : w.heap.size + 1 < wa.heap.size := (by have := hcur.out.size; rw [w2_size] at this; omega); clear ba))
  exact bodyPost_ret (v := .tuple #[vv 2 0 x, .int .i64 0]) (by simp [results, Tryz.results17, go_sem, u0, u1, u2]) rfl ⟨rfl, w2_end _ _ _ _ _ hcur.out _ _ _⟩

theorem Show_null (w : World) : Calls Tryz.prog 37 #[vv 0 0 ⟨#[]⟩] w fun e w' => e = .returned (.string ⟨#[78, 85, 76, 76]⟩) ∧ Below w.heap.size w w' := by
  go_enter Tryz.func37, Tryz.ntmps37
  go_wp2
  go_ret
  exact ⟨rfl, (Below.refl _ _).alloc (Nat.le_refl _) _⟩
theorem Show_int (n : Int) (w : World) (hn : In64 n) (hW : Wd w) (x : ByteArray) (hx : textV 1 n ⟨#[]⟩ = x) : Calls Tryz.prog 37 #[vv 1 n ⟨#[]⟩] w fun e w' => e = .returned (.string x) ∧ Below w.heap.size w w' := by
  have HB := Lib.hid ((Below.refl w.heap.size w).alloc (Nat.le_refl _) (box 1 n ⟨#[]⟩))
  have HW := Lib.hid (hW.on HB.out)
  have HN := Lib.hid hn
  have HX := Lib.hid hx
  clear hn hW hx
  go_enter Tryz.func37, Tryz.ntmps37
  go_wp2_with (go_at_call 60; refine (Text_any _ _ _ _ HN.out HW.out).mono ?_; rintro e wa ⟨rfl, ba⟩; rw [HX.out]; have HB := Lib.hid (HB.out.trans (ba.mono HB.out.size)); clear ba)
  go_ret
  exact ⟨rfl, HB.out⟩
end Go.Proofs.YtaidipdofomgoaaGreatDoor
