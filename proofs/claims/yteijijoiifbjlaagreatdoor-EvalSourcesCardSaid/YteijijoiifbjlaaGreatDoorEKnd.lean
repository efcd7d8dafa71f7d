/-
  Layer 13, eval: what the kinds make of their kids' values: signs, is, calls, casts; what stands by itself. Conditions: sizes; the library's variables are as its text lays them.
-/
import Derived.Test.YteijijoiifbjlaaGreatDoorEAt
import Derived.Test.YteijijoiifbjlaaGreatDoorEOp
namespace Go.Proofs.YteijijoiifbjlaaGreatDoor
open Go.ChangeShapes Go.WideShapes Go.ChangeAt Go.RowKit
set_option linter.unusedVariables false
set_option linter.unusedSimpArgs false
set_option maxRecDepth 100000

/-- what a closure of an expression and its kids' values tells -/
abbrev TellK (g : Nat) (lb : Array Value) (k : Int) (s t : ByteArray) (n a : Int) (A : Option Addr) (len cap : Nat) (B : Option Addr) (c : Nat) (ts : List Trip) (r : Rv) (W : World) : Prop :=
  Calls Tryz.prog g (#[exprV k s t n a A len cap, .slice B ts.length c] ++ lb) W (RetV (vT r.1) r.2 W)
/-- the first value's cells -/
theorem RdT.first {w : World} {B : Option Addr} {ts : List Trip} (h : RdT w B ts) (i : Nat) (t : Trip) (ht : ts[i]? = some t) : ∃ b o, B = some ⟨b, o, none⟩ ∧ b < w.heap.size ∧ w.cell? ⟨b, o + i * 3, none⟩ = some (.int .u8 t.1) ∧ w.cell? ⟨b, o + i * 3 + 1, none⟩ = some (.int .i64 t.2.1) ∧ w.cell? ⟨b, o + i * 3 + 2, none⟩ = some (.string t.2.2) := by
  rcases h with rfl | ⟨b, o, hB, hR⟩
  · simp at ht
  · obtain ⟨k, n, s⟩ := t
    obtain ⟨y0, y1, y2⟩ := hR.2 i k n s ht
    exact ⟨b, o, hB, hR.1, y0, y1, y2⟩
section
variable (k : Int) (s t : ByteArray) (n a : Int) (A : Option Addr) (len cap : Nat) (w : World)
theorem plain_tell (q g : Nat) (lb : Array Value) (B : Option Addr) (c : Nat) (ts : List Trip) (r : Trip) (hc : w.cell? ⟨q, 0, none⟩ = some (.func (.func g) #[] lb)) (hE : ∀ (args : Array Value) (W : World), (callFunc g args).run Tryz.prog W = .ok (.enter g args) W)
    (H : ∀ W, Below w.heap.size w W → TellP g lb k s t n a A len cap r W) : TellK 75 #[.pointer (some ⟨q, 0, none⟩)] k s t n a A len cap B c ts (r, 0) w := by
  unfold TellK
  have hlt : q < w.heap.size := block_lt_of_cell hc
  have hc0 := ((wE_below w k s t n a A len cap).cell (p := ⟨q, 0, none⟩) hlt).trans hc
  have HH := Lib.hid H
  obtain ⟨rk, rn, rs⟩ := r
  clear H hc
  go_enter Tryz.func75, Tryz.ntmps75
  go_wp2_with ((with_reducible refine (HH.out _ (wE_below w k s t n a A len cap)).mono ?_); rintro e wb ⟨rfl, bb⟩; have hcur := Lib.hid bb; obtain ⟨u0, u1, u2, v0, v1, v2⟩ := wE_out _ _ _ _ _ _ _ _ _ _ hcur.out; have hz : w.heap.size + 1 < wb.heap.size := (by have := hcur.out.size; simp at this; omega); clear bb)
  exact bodyPost_ret (v := .tuple #[vv rk rn rs, .int .i64 0]) (by simp [results, Tryz.results75, go_sem, u0, u1, u2]) rfl ⟨rfl, wE_end _ _ _ _ _ _ _ _ _ _ hcur.out _ _ _⟩
variable (B : Option Addr) (c : Nat) (ts : List Trip)
theorem call_tell (hR : RdT w B ts) (hlc : ts.length ≤ c) (hC : CallIs s ts (callX s ts)) (hW : Wd w) : TellK 58 #[] k s t n a A len cap B c ts (callX s ts) w := by
  unfold TellK
  have HC := Lib.hid (hC _ B c (hW.on (wE_below w k s t n a A len cap)) (hR.on (wE_below w k s t n a A len cap)) hlc)
  generalize callX s ts = r at *
  obtain ⟨⟨rk, rn, rs⟩, er⟩ := r
  clear hR hlc hC hW
  go_enter Tryz.func58, Tryz.ntmps58
  go_wp2_with (go_at_call 59; refine HC.out.mono ?_; rintro e wb ⟨rfl, bb⟩; have hcur := Lib.hid bb; obtain ⟨u0, u1, u2, v0, v1, v2⟩ := wE_out _ _ _ _ _ _ _ _ _ _ hcur.out; have hz : w.heap.size + 1 < wb.heap.size := (by have := hcur.out.size; simp at this; omega); clear bb)
  exact bodyPost_ret (v := .tuple #[vv rk rn rs, .int .i64 er]) (by simp [results, Tryz.results58, go_sem, u0, u1, u2]) rfl ⟨rfl, wE_end _ _ _ _ _ _ _ _ _ _ hcur.out _ _ _⟩
set_option maxHeartbeats 1000000 in
theorem sign_one (hR : RdT w B ts) (hl : ts.length = 1) (ho : ∀ t ∈ ts, OkT t) : TellK 54 #[] k s t n a A len cap B c ts (oneX s (ts.getD 0 nulT)) w := by
  unfold TellK
  obtain ⟨⟨k0, n0, s0⟩, h0⟩ : ∃ t, ts[0]? = some t := ⟨_, List.getElem?_eq_getElem (by omega)⟩
  obtain ⟨b, o, rfl, hlt, y0, y1, y2⟩ := hR.first 0 _ h0
  simp only [Nat.zero_mul, Nat.add_zero] at y0 y1 y2
  have F : ∀ X, Below (w.heap.size + 1) (wE w k s t n a A len cap) X → X.cell? ⟨w.heap.size, 1, none⟩ = some (.string s) ∧ X.cell? ⟨w.heap.size, 3, none⟩ = some (.int .i64 n) ∧ X.cell? ⟨b, o, none⟩ = some (.int .u8 k0) ∧ X.cell? ⟨b, o + 1, none⟩ = some (.int .i64 n0) ∧ X.cell? ⟨b, o + 2, none⟩ = some (.string s0) := fun X h =>
    have e : ∀ j v, w.cell? ⟨b, j, none⟩ = some v → X.cell? ⟨b, j, none⟩ = some v := fun j v hv => (h.cell (p := ⟨b, j, none⟩) (by show b < _; omega)).trans (((wE_below w k s t n a A len cap).cell (p := ⟨b, j, none⟩) hlt).trans hv)
    ⟨(wE_cells1 w k s t n a A len cap X h).2.1, (wE_cells1 w k s t n a A len cap X h).2.2.2.1, e _ _ y0, e _ _ y1, e _ _ y2⟩
  have hq : ts.getD 0 nulT = (k0, n0, s0) := by rw [List.getD_eq_getElem?_getD, h0]; rfl
  rw [hq]
  have HC := Lib.hid (fun W => one_is s (ho _ (List.mem_of_getElem? h0)) W)
  generalize oneX s (k0, n0, s0) = r at *
  obtain ⟨⟨rk, rn, rs⟩, er⟩ := r
  rw [hl]
  clear hR ho y0 y1 y2 h0 hq
  go_enter Tryz.func54, Tryz.ntmps54
  go_wp2_with fail
  go_region_held3 (fun X => X.cell? ⟨w.heap.size, 1, none⟩ = some (.string s) ∧ X.cell? ⟨w.heap.size, 3, none⟩ = some (.int .i64 n) ∧ X.cell? ⟨b, o, none⟩ = some (.int .u8 k0) ∧ X.cell? ⟨b, o + 1, none⟩ = some (.int .i64 n0) ∧ X.cell? ⟨b, o + 2, none⟩ = some (.string s0))
    (first | exact F _ (hcur.out.mono (by simp)) | exact F _ (Below.refl _ _).drew | exact F _ ((hcur.out.mono (by simp)).setCell (by simp) _ |>.setCell (by simp) _ |>.setCell (by simp) _))
    (first | (go_at_call 76; refine (HC.out _).mono ?_; rintro e wb ⟨rfl, bb⟩; have hcur := Lib.hid ((Below.refl (wE w k s t n a A len cap).heap.size (wE w k s t n a A len cap)).drew.trans bb); obtain ⟨u0, u1, u2, v0, v1, v2⟩ := wE_out _ _ _ _ _ _ _ _ _ _ hcur.out; have hz : w.heap.size + 1 < wb.heap.size := (by have := hcur.out.size; simp at this; omega); clear bb))
  go_wp2_with fail
  exact bodyPost_ret (v := .tuple #[vv rk rn rs, .int .i64 er]) (by simp [results, Tryz.results54, go_sem, u0, u1, u2]) rfl ⟨rfl, wE_end _ _ _ _ _ _ _ _ _ _ hcur.out _ _ _⟩
set_option maxHeartbeats 1000000 in
theorem sign_two (hR : RdT w B ts) (hl : ts.length = 2) (ho : ∀ t ∈ ts, OkT t) (hW : Wd w) : TellK 54 #[] k s t n a A len cap B c ts (opX s (ts.getD 0 nulT) (ts.getD 1 nulT)) w := by
  unfold TellK
  obtain ⟨⟨k0, n0, s0⟩, h0⟩ : ∃ t, ts[0]? = some t := ⟨_, List.getElem?_eq_getElem (by omega)⟩
  obtain ⟨b, o, rfl, hlt, y0, y1, y2⟩ := hR.first 0 _ h0
  simp only [Nat.zero_mul, Nat.add_zero] at y0 y1 y2
  obtain ⟨⟨k1, n1, s1⟩, h1⟩ : ∃ t, ts[1]? = some t := ⟨_, List.getElem?_eq_getElem (by omega)⟩
  obtain ⟨b', o', hbo, _, y3, y4, y5⟩ := hR.first 1 _ h1
  obtain ⟨rfl, rfl⟩ : b = b' ∧ o = o' := by simpa using hbo
  simp only [Nat.one_mul] at y3 y4 y5
  have F : ∀ X, Below (w.heap.size + 1) (wE w k s t n a A len cap) X → X.cell? ⟨w.heap.size, 1, none⟩ = some (.string s) ∧ X.cell? ⟨w.heap.size, 3, none⟩ = some (.int .i64 n) ∧ X.cell? ⟨b, o, none⟩ = some (.int .u8 k0) ∧ X.cell? ⟨b, o + 1, none⟩ = some (.int .i64 n0) ∧ X.cell? ⟨b, o + 2, none⟩ = some (.string s0) ∧ X.cell? ⟨b, o + 3, none⟩ = some (.int .u8 k1) ∧ X.cell? ⟨b, o + 3 + 1, none⟩ = some (.int .i64 n1) ∧ X.cell? ⟨b, o + 3 + 2, none⟩ = some (.string s1) := fun X h =>
    have e : ∀ j v, w.cell? ⟨b, j, none⟩ = some v → X.cell? ⟨b, j, none⟩ = some v := fun j v hv => (h.cell (p := ⟨b, j, none⟩) (by show b < _; omega)).trans (((wE_below w k s t n a A len cap).cell (p := ⟨b, j, none⟩) hlt).trans hv)
    ⟨(wE_cells1 w k s t n a A len cap X h).2.1, (wE_cells1 w k s t n a A len cap X h).2.2.2.1, e _ _ y0, e _ _ y1, e _ _ y2, e _ _ y3, e _ _ y4, e _ _ y5⟩
  have hq : ts.getD 0 nulT = (k0, n0, s0) := by rw [List.getD_eq_getElem?_getD, h0]; rfl
  have hq1 : ts.getD 1 nulT = (k1, n1, s1) := by rw [List.getD_eq_getElem?_getD, h1]; rfl
  rw [hq, hq1]
  have HC := Lib.hid (op_is s (ho _ (List.mem_of_getElem? h0)) (ho _ (List.mem_of_getElem? h1)))
  have HW := Lib.hid (hW.on (wE_below w k s t n a A len cap))
  generalize opX s (k0, n0, s0) (k1, n1, s1) = r at *
  obtain ⟨⟨rk, rn, rs⟩, er⟩ := r
  rw [hl]
  clear hR ho y0 y1 y2 y3 y4 y5 h0 h1 hq hq1 hW hbo
  go_enter Tryz.func54, Tryz.ntmps54
  go_wp2_with fail
  go_region_held3 (fun X => X.cell? ⟨w.heap.size, 1, none⟩ = some (.string s) ∧ X.cell? ⟨w.heap.size, 3, none⟩ = some (.int .i64 n) ∧ X.cell? ⟨b, o, none⟩ = some (.int .u8 k0) ∧ X.cell? ⟨b, o + 1, none⟩ = some (.int .i64 n0) ∧ X.cell? ⟨b, o + 2, none⟩ = some (.string s0) ∧ X.cell? ⟨b, o + 3, none⟩ = some (.int .u8 k1) ∧ X.cell? ⟨b, o + 3 + 1, none⟩ = some (.int .i64 n1) ∧ X.cell? ⟨b, o + 3 + 2, none⟩ = some (.string s1))
    (first | exact F _ (hcur.out.mono (by simp)) | exact F _ (Below.refl _ _).drew | exact F _ ((hcur.out.mono (by simp)).setCell (by simp) _ |>.setCell (by simp) _ |>.setCell (by simp) _))
    (first | (go_at_call 77; refine (HC.out _ (HW.out.on (Below.refl _ _).drew)).mono ?_; rintro e wb ⟨rfl, bb⟩; have hcur := Lib.hid ((Below.refl (wE w k s t n a A len cap).heap.size (wE w k s t n a A len cap)).drew.trans bb); obtain ⟨u0, u1, u2, v0, v1, v2⟩ := wE_out _ _ _ _ _ _ _ _ _ _ hcur.out; have hz : w.heap.size + 1 < wb.heap.size := (by have := hcur.out.size; simp at this; omega); clear bb))
  go_wp2_with fail
  exact bodyPost_ret (v := .tuple #[vv rk rn rs, .int .i64 er]) (by simp [results, Tryz.results54, go_sem, u0, u1, u2]) rfl ⟨rfl, wE_end _ _ _ _ _ _ _ _ _ _ hcur.out _ _ _⟩
set_option maxHeartbeats 1000000 in
theorem cast_tell (hR : RdT w B ts) (hl : ts.length = 1) (ho : ∀ t ∈ ts, OkT t) (hW : Wd w) : TellK 60 #[] k s t n a A len cap B c ts (castX s (ts.getD 0 nulT)) w := by
  unfold TellK
  obtain ⟨⟨k0, n0, s0⟩, h0⟩ : ∃ t, ts[0]? = some t := ⟨_, List.getElem?_eq_getElem (by omega)⟩
  obtain ⟨b, o, rfl, hlt, y0, y1, y2⟩ := hR.first 0 _ h0
  simp only [Nat.zero_mul, Nat.add_zero] at y0 y1 y2
  have F : ∀ X, Below (w.heap.size + 1) (wE w k s t n a A len cap) X → X.cell? ⟨w.heap.size, 1, none⟩ = some (.string s) ∧ X.cell? ⟨w.heap.size, 3, none⟩ = some (.int .i64 n) ∧ X.cell? ⟨b, o, none⟩ = some (.int .u8 k0) ∧ X.cell? ⟨b, o + 1, none⟩ = some (.int .i64 n0) ∧ X.cell? ⟨b, o + 2, none⟩ = some (.string s0) := fun X h =>
    have e : ∀ j v, w.cell? ⟨b, j, none⟩ = some v → X.cell? ⟨b, j, none⟩ = some v := fun j v hv => (h.cell (p := ⟨b, j, none⟩) (by show b < _; omega)).trans (((wE_below w k s t n a A len cap).cell (p := ⟨b, j, none⟩) hlt).trans hv)
    ⟨(wE_cells1 w k s t n a A len cap X h).2.1, (wE_cells1 w k s t n a A len cap X h).2.2.2.1, e _ _ y0, e _ _ y1, e _ _ y2⟩
  have hq : ts.getD 0 nulT = (k0, n0, s0) := by rw [List.getD_eq_getElem?_getD, h0]; rfl
  rw [hq]
  have HC := Lib.hid (fun W hW => cast_is s (ho _ (List.mem_of_getElem? h0)) W hW)
  have HW := Lib.hid (hW.on (wE_below w k s t n a A len cap))
  generalize castX s (k0, n0, s0) = r at *
  obtain ⟨⟨rk, rn, rs⟩, er⟩ := r
  rw [hl]
  clear hR ho y0 y1 y2 h0 hq hW
  go_enter Tryz.func60, Tryz.ntmps60
  go_wp2_with fail
  go_region_held3 (fun X => X.cell? ⟨w.heap.size, 1, none⟩ = some (.string s) ∧ X.cell? ⟨w.heap.size, 3, none⟩ = some (.int .i64 n) ∧ X.cell? ⟨b, o, none⟩ = some (.int .u8 k0) ∧ X.cell? ⟨b, o + 1, none⟩ = some (.int .i64 n0) ∧ X.cell? ⟨b, o + 2, none⟩ = some (.string s0))
    (first | exact F _ (hcur.out.mono (by simp)) | exact F _ (Below.refl _ _).drew | exact F _ ((hcur.out.mono (by simp)).setCell (by simp) _ |>.setCell (by simp) _ |>.setCell (by simp) _))
    (first | (go_at_call 61; refine (HC.out _ (HW.out.on (Below.refl _ _).drew)).mono ?_; rintro e wb ⟨rfl, bb⟩; have hcur := Lib.hid ((Below.refl (wE w k s t n a A len cap).heap.size (wE w k s t n a A len cap)).drew.trans bb); obtain ⟨u0, u1, u2, v0, v1, v2⟩ := wE_out _ _ _ _ _ _ _ _ _ _ hcur.out; have hz : w.heap.size + 1 < wb.heap.size := (by have := hcur.out.size; simp at this; omega); clear bb))
  go_wp2_with fail
  exact bodyPost_ret (v := .tuple #[vv rk rn rs, .int .i64 er]) (by simp [results, Tryz.results60, go_sem, u0, u1, u2]) rfl ⟨rfl, wE_end _ _ _ _ _ _ _ _ _ _ hcur.out _ _ _⟩
set_option maxHeartbeats 1000000 in
theorem is_tell (hR : RdT w B ts) (hl : ts.length = 1) : TellK 55 #[] k s t n a A len cap B c ts (flagT (decide ((ts.getD 0 nulT).1 = 0) == decide (n = 1)), 0) w := by
  unfold TellK
  obtain ⟨⟨k0, n0, s0⟩, h0⟩ : ∃ t, ts[0]? = some t := ⟨_, List.getElem?_eq_getElem (by omega)⟩
  obtain ⟨b, o, rfl, hlt, y0, y1, y2⟩ := hR.first 0 _ h0
  simp only [Nat.zero_mul, Nat.add_zero] at y0 y1 y2
  have F : ∀ X, Below (w.heap.size + 1) (wE w k s t n a A len cap) X → X.cell? ⟨w.heap.size, 1, none⟩ = some (.string s) ∧ X.cell? ⟨w.heap.size, 3, none⟩ = some (.int .i64 n) ∧ X.cell? ⟨b, o, none⟩ = some (.int .u8 k0) ∧ X.cell? ⟨b, o + 1, none⟩ = some (.int .i64 n0) ∧ X.cell? ⟨b, o + 2, none⟩ = some (.string s0) := fun X h =>
    have e : ∀ j v, w.cell? ⟨b, j, none⟩ = some v → X.cell? ⟨b, j, none⟩ = some v := fun j v hv => (h.cell (p := ⟨b, j, none⟩) (by show b < _; omega)).trans (((wE_below w k s t n a A len cap).cell (p := ⟨b, j, none⟩) hlt).trans hv)
    ⟨(wE_cells1 w k s t n a A len cap X h).2.1, (wE_cells1 w k s t n a A len cap X h).2.2.2.1, e _ _ y0, e _ _ y1, e _ _ y2⟩
  have hq : ts.getD 0 nulT = (k0, n0, s0) := by rw [List.getD_eq_getElem?_getD, h0]; rfl
  rw [hq]
  show Calls Tryz.prog 55 _ w (RetV (vv 1 (if (decide (k0 = 0) == decide (n = 1)) = true then 1 else 0) ⟨#[]⟩) 0 w)
  have hE : (decide (k0 = 0) == decide (n = 1)) = ((k0 == 0) == (n == 1)) := rfl
  rw [hE]
  have HE := Lib.hid (fun W => flag_any ((k0 == 0) == (n == 1)) W)
  generalize hx : (if ((k0 == 0) == (n == 1)) = true then (1 : Int) else 0) = x
  have HX := Lib.hid (show vT (flagT ((k0 == 0) == (n == 1))) = vv 1 x ⟨#[]⟩ from by rw [← hx])
  rw [hl]
  clear hR y0 y1 y2 h0 hq hE hx
  go_enter Tryz.func55, Tryz.ntmps55
  go_wp2_with fail
  go_region_held3 (fun X => X.cell? ⟨w.heap.size, 1, none⟩ = some (.string s) ∧ X.cell? ⟨w.heap.size, 3, none⟩ = some (.int .i64 n) ∧ X.cell? ⟨b, o, none⟩ = some (.int .u8 k0) ∧ X.cell? ⟨b, o + 1, none⟩ = some (.int .i64 n0) ∧ X.cell? ⟨b, o + 2, none⟩ = some (.string s0))
    (first | exact F _ (hcur.out.mono (by simp)) | exact F _ (Below.refl _ _).drew | exact F _ ((hcur.out.mono (by simp)).setCell (by simp) _ |>.setCell (by simp) _ |>.setCell (by simp) _))
    (first | (go_at_call 56; refine (HE.out _).mono ?_; rintro e wb ⟨rfl, bb⟩; rw [HX.out]; have hcur := Lib.hid ((Below.refl (wE w k s t n a A len cap).heap.size (wE w k s t n a A len cap)).drew.trans bb); obtain ⟨u0, u1, u2, v0, v1, v2⟩ := wE_out _ _ _ _ _ _ _ _ _ _ hcur.out; have hz : w.heap.size + 1 < wb.heap.size := (by have := hcur.out.size; simp at this; omega); clear bb))
  go_wp2_with fail
  exact bodyPost_ret (v := .tuple #[vv 1 x ⟨#[]⟩, .int .i64 0]) (by simp [results, Tryz.results55, go_sem, u0, u1, u2]) rfl ⟨rfl, wE_end _ _ _ _ _ _ _ _ _ _ hcur.out _ _ _⟩
end
end Go.Proofs.YteijijoiifbjlaaGreatDoor
