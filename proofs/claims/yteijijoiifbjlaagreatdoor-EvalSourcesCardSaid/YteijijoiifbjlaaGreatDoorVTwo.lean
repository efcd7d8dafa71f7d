/-
  Signs between two values (layer 2, value): ofTwo. Conditions: right sizes.
-/
import Derived.Test.YteijijoiifbjlaaGreatDoorVVal
import Derived.Deep.RegionHeld3
namespace Go.Proofs.YteijijoiifbjlaaGreatDoor
open Go.ChangeShapes Go.WideShapes Go.ChangeAt Go.RowKit
set_option linter.unusedVariables false

abbrev box (k n : Int) (s : ByteArray) : Obj := .cells #[.int .u8 k, .int .i64 n, .string s] 38
/-- the world with two boxed values and a place for the answer -/
abbrev w3 (w : World) (k n : Int) (s : ByteArray) (k' n' : Int) (s' : ByteArray) : World := ((w.alloc (box k n s)).alloc (box k' n' s')).alloc (box 0 0 ⟨#[]⟩)
theorem w3_size (w : World) (k n : Int) (s : ByteArray) (k' n' : Int) (s' : ByteArray) : (w3 w k n s k' n' s').heap.size = w.heap.size + 3 := by simp
theorem w3_below (w : World) (k n : Int) (s : ByteArray) (k' n' : Int) (s' : ByteArray) : Below w.heap.size w (w3 w k n s k' n' s') :=
  (((Below.refl _ _).alloc (Nat.le_refl _) _).alloc (by simp) _).alloc (by simp; omega) _
theorem w3_cells (w : World) (k n : Int) (s : ByteArray) (k' n' : Int) (s' : ByteArray) (X : World) (h : Below (w.heap.size + 2) (w3 w k n s k' n' s') X) :
    X.cell? ⟨w.heap.size, 0, none⟩ = some (.int .u8 k) ∧ X.cell? ⟨w.heap.size, 1, none⟩ = some (.int .i64 n) ∧ X.cell? ⟨w.heap.size, 2, none⟩ = some (.string s) ∧
    X.cell? ⟨w.heap.size + 1, 0, none⟩ = some (.int .u8 k') ∧ X.cell? ⟨w.heap.size + 1, 1, none⟩ = some (.int .i64 n') ∧ X.cell? ⟨w.heap.size + 1, 2, none⟩ = some (.string s') := by
  have hc : ∀ b o, b < w.heap.size + 2 → X.cell? ⟨b, o, none⟩ = (w3 w k n s k' n' s').cell? ⟨b, o, none⟩ := fun b o hb => h.cell (p := ⟨b, o, none⟩) hb
  refine ⟨?_, ?_, ?_, ?_, ?_, ?_⟩ <;> (rw [hc _ _ (by omega)]; simp [go_sem])

theorem w3_out (w : World) (k n : Int) (s : ByteArray) (k' n' : Int) (s' : ByteArray) (X : World) (h : Below (w3 w k n s k' n' s').heap.size (w3 w k n s k' n' s') X) :
    X.cell? ⟨w.heap.size + 1 + 1, 0, none⟩ = some (.int .u8 0) ∧ X.cell? ⟨w.heap.size + 1 + 1, 1, none⟩ = some (.int .i64 0) ∧ X.cell? ⟨w.heap.size + 1 + 1, 2, none⟩ = some (.string ⟨#[]⟩) ∧
    X.frozen? ⟨w.heap.size + 1 + 1, 0, none⟩ = false ∧ X.frozen? ⟨w.heap.size + 1 + 1, 1, none⟩ = false ∧ X.frozen? ⟨w.heap.size + 1 + 1, 2, none⟩ = false := by
  obtain ⟨hc, hf⟩ := bcell h
  refine ⟨?_, ?_, ?_, ?_, ?_, ?_⟩
  · rw [hc _ _ (by rw [w3_size]; omega)]; simp [go_sem]
  · rw [hc _ _ (by rw [w3_size]; omega)]; simp [go_sem]
  · rw [hc _ _ (by rw [w3_size]; omega)]; simp [go_sem]
  · rw [hf _ _ (by rw [w3_size]; omega)]; simp [go_sem]
  · rw [hf _ _ (by rw [w3_size]; omega)]; simp [go_sem]
  · rw [hf _ _ (by rw [w3_size]; omega)]; simp [go_sem]

theorem w3_end (w : World) (k n : Int) (s : ByteArray) (k' n' : Int) (s' : ByteArray) (X : World) (h : Below (w3 w k n s k' n' s').heap.size (w3 w k n s k' n' s') X) (a b c : Value) :
    Below w.heap.size w (((X.setCell ⟨w.heap.size + 1 + 1, 0, none⟩ a).setCell ⟨w.heap.size + 1 + 1, 1, none⟩ b).setCell ⟨w.heap.size + 1 + 1, 2, none⟩ c) :=
  ((((w3_below w k n s k' n' s').trans (h.mono (by rw [w3_size]; omega))).setCell (by show w.heap.size ≤ w.heap.size + 1 + 1; omega) _).setCell (by show w.heap.size ≤ w.heap.size + 1 + 1; omega) _).setCell (by show w.heap.size ≤ w.heap.size + 1 + 1; omega) _

/-- a call tells this value and this error, and what was there is as it was -/
def RetV (v : Value) (er : Int) (w : World) (e : Ending) (w' : World) : Prop := e = .returned (.tuple #[v, .int .i64 er]) ∧ Below w.heap.size w w'

set_option maxHeartbeats 400000 in
theorem ofTwo_add (k n : Int) (s : ByteArray) (k' n' : Int) (s' : ByteArray) (w : World) (hs : s.size ≤ 4611686018427387904) (hs' : s'.size ≤ 4611686018427387904)
    (h1 : In64 (intV k n s)) (h2 : In64 (intV k' n' s')) (h3 : In64 (intV k n s + intV k' n' s')) :
    Calls Tryz.prog 97 #[.string ⟨#[43]⟩, vv k n s, vv k' n' s'] w (RetV (vv 1 (intV k n s + intV k' n' s') ⟨#[]⟩) 0 w) := by
  have F := w3_cells w k n s k' n' s'
  have H1 := Lib.hid h1
  have H2 := Lib.hid h2
  have HD := Lib.hid (decide_eq_true h3)
  have HW := Lib.hid (wrap_in h3)
  clear h1 h2 h3
  go_enter Tryz.func97, Tryz.ntmps97
  go_wp2_with fail
  go_region_held3 (fun X => X.cell? ⟨w.heap.size, 0, none⟩ = some (.int .u8 k) ∧ X.cell? ⟨w.heap.size, 1, none⟩ = some (.int .i64 n) ∧ X.cell? ⟨w.heap.size, 2, none⟩ = some (.string s) ∧
      X.cell? ⟨w.heap.size + 1, 0, none⟩ = some (.int .u8 k') ∧ X.cell? ⟨w.heap.size + 1, 1, none⟩ = some (.int .i64 n') ∧ X.cell? ⟨w.heap.size + 1, 2, none⟩ = some (.string s'))
    (first | exact F _ (hcur.out.mono (by simp)) | exact F _ (Below.refl _ _).drew | exact F _ ((hcur.out.mono (by simp)).setCell (by simp) _ |>.setCell (by simp) _ |>.setCell (by simp) _))
    (first
      | (go_at_call 35; refine (Int_any _ _ _ _ (by assumption)).mono ?_; rintro e wa ⟨rfl, ba⟩; (first | (have hcur := Lib.hid (hcur.out.trans (ba.mono hcur.out.size))) | (have hcur := Lib.hid ((Below.refl (w3 w k n s k' n' s').heap.size (w3 w k n s k' n' s')).drew.trans ba))))
      | (go_at_call 102; refine (add_any _ _ _ H1.out H2.out).mono ?_; rintro e wa ⟨rfl, rfl⟩; rw [HD.out, HW.out])
      | (go_at_call 93; refine (toInt_yes _ _).mono ?_; rintro e wa ⟨rfl, ba⟩; have hcur := Lib.hid (hcur.out.trans (ba.mono hcur.out.size)); obtain ⟨hc0, hc1, hc2, hf0, hf1, hf2⟩ := w3_out _ _ _ _ _ _ _ _ hcur.out; have hz : w.heap.size + 2 < wa.heap.size := (by have := hcur.out.size; simp at this; omega)))
  go_wp2_with fail
  exact bodyPost_ret (v := .tuple #[vv 1 (intV k n s + intV k' n' s') ⟨#[]⟩, .int .i64 0]) (by simp [results, Tryz.results97, go_sem, hc0, hc1, hc2]) rfl ⟨rfl, w3_end _ _ _ _ _ _ _ _ hcur.out _ _ _⟩

set_option maxHeartbeats 400000 in
theorem ofTwo_add_no (k n : Int) (s : ByteArray) (k' n' : Int) (s' : ByteArray) (w : World) (hs : s.size ≤ 4611686018427387904) (hs' : s'.size ≤ 4611686018427387904)
    (h1 : In64 (intV k n s)) (h2 : In64 (intV k' n' s')) (h3 : ¬ In64 (intV k n s + intV k' n' s')) :
    Calls Tryz.prog 97 #[.string ⟨#[43]⟩, vv k n s, vv k' n' s'] w (RetV (nul) 20 w) := by
  have F := w3_cells w k n s k' n' s'
  have H1 := Lib.hid h1
  have H2 := Lib.hid h2
  have HD := Lib.hid (decide_eq_false h3)
  clear h1 h2 h3
  go_enter Tryz.func97, Tryz.ntmps97
  go_wp2_with fail
  go_region_held3 (fun X => X.cell? ⟨w.heap.size, 0, none⟩ = some (.int .u8 k) ∧ X.cell? ⟨w.heap.size, 1, none⟩ = some (.int .i64 n) ∧ X.cell? ⟨w.heap.size, 2, none⟩ = some (.string s) ∧
      X.cell? ⟨w.heap.size + 1, 0, none⟩ = some (.int .u8 k') ∧ X.cell? ⟨w.heap.size + 1, 1, none⟩ = some (.int .i64 n') ∧ X.cell? ⟨w.heap.size + 1, 2, none⟩ = some (.string s'))
    (first | exact F _ (hcur.out.mono (by simp)) | exact F _ (Below.refl _ _).drew | exact F _ ((hcur.out.mono (by simp)).setCell (by simp) _ |>.setCell (by simp) _ |>.setCell (by simp) _))
    (first
      | (go_at_call 35; refine (Int_any _ _ _ _ (by assumption)).mono ?_; rintro e wa ⟨rfl, ba⟩; (first | (have hcur := Lib.hid (hcur.out.trans (ba.mono hcur.out.size))) | (have hcur := Lib.hid ((Below.refl (w3 w k n s k' n' s').heap.size (w3 w k n s k' n' s')).drew.trans ba))))
      | (go_at_call 102; refine (add_any _ _ _ H1.out H2.out).mono ?_; rintro e wa ⟨rfl, rfl⟩; rw [HD.out])
      | (go_at_call 93; refine (toInt_no _ _).mono ?_; rintro e wa ⟨rfl, ba⟩; have hcur := Lib.hid (hcur.out.trans (ba.mono hcur.out.size)); obtain ⟨hc0, hc1, hc2, hf0, hf1, hf2⟩ := w3_out _ _ _ _ _ _ _ _ hcur.out; have hz : w.heap.size + 2 < wa.heap.size := (by have := hcur.out.size; simp at this; omega)))
  go_wp2_with fail
  exact bodyPost_ret (v := .tuple #[nul, .int .i64 20]) (by simp [results, Tryz.results97, go_sem, hc0, hc1, hc2]) rfl ⟨rfl, w3_end _ _ _ _ _ _ _ _ hcur.out _ _ _⟩

set_option maxHeartbeats 400000 in
theorem ofTwo_sub (k n : Int) (s : ByteArray) (k' n' : Int) (s' : ByteArray) (w : World) (hs : s.size ≤ 4611686018427387904) (hs' : s'.size ≤ 4611686018427387904)
    (h1 : In64 (intV k n s)) (h2 : In64 (intV k' n' s')) (h3 : In64 (intV k n s - intV k' n' s')) :
    Calls Tryz.prog 97 #[.string ⟨#[45]⟩, vv k n s, vv k' n' s'] w (RetV (vv 1 (intV k n s - intV k' n' s') ⟨#[]⟩) 0 w) := by
  have F := w3_cells w k n s k' n' s'
  have H1 := Lib.hid h1
  have H2 := Lib.hid h2
  have HD := Lib.hid (decide_eq_true h3)
  have HW := Lib.hid (wrap_in h3)
  clear h1 h2 h3
  go_enter Tryz.func97, Tryz.ntmps97
  go_wp2_with fail
  go_region_held3 (fun X => X.cell? ⟨w.heap.size, 0, none⟩ = some (.int .u8 k) ∧ X.cell? ⟨w.heap.size, 1, none⟩ = some (.int .i64 n) ∧ X.cell? ⟨w.heap.size, 2, none⟩ = some (.string s) ∧
      X.cell? ⟨w.heap.size + 1, 0, none⟩ = some (.int .u8 k') ∧ X.cell? ⟨w.heap.size + 1, 1, none⟩ = some (.int .i64 n') ∧ X.cell? ⟨w.heap.size + 1, 2, none⟩ = some (.string s'))
    (first | exact F _ (hcur.out.mono (by simp)) | exact F _ (Below.refl _ _).drew | exact F _ ((hcur.out.mono (by simp)).setCell (by simp) _ |>.setCell (by simp) _ |>.setCell (by simp) _))
    (first
      | (go_at_call 35; refine (Int_any _ _ _ _ (by assumption)).mono ?_; rintro e wa ⟨rfl, ba⟩; (first | (have hcur := Lib.hid (hcur.out.trans (ba.mono hcur.out.size))) | (have hcur := Lib.hid ((Below.refl (w3 w k n s k' n' s').heap.size (w3 w k n s k' n' s')).drew.trans ba))))
      | (go_at_call 94; refine (subtract_any _ _ _ H1.out H2.out).mono ?_; rintro e wa ⟨rfl, rfl⟩; rw [HD.out, HW.out])
      | (go_at_call 93; refine (toInt_yes _ _).mono ?_; rintro e wa ⟨rfl, ba⟩; have hcur := Lib.hid (hcur.out.trans (ba.mono hcur.out.size)); obtain ⟨hc0, hc1, hc2, hf0, hf1, hf2⟩ := w3_out _ _ _ _ _ _ _ _ hcur.out; have hz : w.heap.size + 2 < wa.heap.size := (by have := hcur.out.size; simp at this; omega)))
  go_wp2_with fail
  exact bodyPost_ret (v := .tuple #[vv 1 (intV k n s - intV k' n' s') ⟨#[]⟩, .int .i64 0]) (by simp [results, Tryz.results97, go_sem, hc0, hc1, hc2]) rfl ⟨rfl, w3_end _ _ _ _ _ _ _ _ hcur.out _ _ _⟩

set_option maxHeartbeats 400000 in
theorem ofTwo_sub_no (k n : Int) (s : ByteArray) (k' n' : Int) (s' : ByteArray) (w : World) (hs : s.size ≤ 4611686018427387904) (hs' : s'.size ≤ 4611686018427387904)
    (h1 : In64 (intV k n s)) (h2 : In64 (intV k' n' s')) (h3 : ¬ In64 (intV k n s - intV k' n' s')) :
    Calls Tryz.prog 97 #[.string ⟨#[45]⟩, vv k n s, vv k' n' s'] w (RetV (nul) 20 w) := by
  have F := w3_cells w k n s k' n' s'
  have H1 := Lib.hid h1
  have H2 := Lib.hid h2
  have HD := Lib.hid (decide_eq_false h3)
  clear h1 h2 h3
  go_enter Tryz.func97, Tryz.ntmps97
  go_wp2_with fail
  go_region_held3 (fun X => X.cell? ⟨w.heap.size, 0, none⟩ = some (.int .u8 k) ∧ X.cell? ⟨w.heap.size, 1, none⟩ = some (.int .i64 n) ∧ X.cell? ⟨w.heap.size, 2, none⟩ = some (.string s) ∧
      X.cell? ⟨w.heap.size + 1, 0, none⟩ = some (.int .u8 k') ∧ X.cell? ⟨w.heap.size + 1, 1, none⟩ = some (.int .i64 n') ∧ X.cell? ⟨w.heap.size + 1, 2, none⟩ = some (.string s'))
    (first | exact F _ (hcur.out.mono (by simp)) | exact F _ (Below.refl _ _).drew | exact F _ ((hcur.out.mono (by simp)).setCell (by simp) _ |>.setCell (by simp) _ |>.setCell (by simp) _))
    (first
      | (go_at_call 35; refine (Int_any _ _ _ _ (by assumption)).mono ?_; rintro e wa ⟨rfl, ba⟩; (first | (have hcur := Lib.hid (hcur.out.trans (ba.mono hcur.out.size))) | (have hcur := Lib.hid ((Below.refl (w3 w k n s k' n' s').heap.size (w3 w k n s k' n' s')).drew.trans ba))))
      | (go_at_call 94; refine (subtract_any _ _ _ H1.out H2.out).mono ?_; rintro e wa ⟨rfl, rfl⟩; rw [HD.out])
      | (go_at_call 93; refine (toInt_no _ _).mono ?_; rintro e wa ⟨rfl, ba⟩; have hcur := Lib.hid (hcur.out.trans (ba.mono hcur.out.size)); obtain ⟨hc0, hc1, hc2, hf0, hf1, hf2⟩ := w3_out _ _ _ _ _ _ _ _ hcur.out; have hz : w.heap.size + 2 < wa.heap.size := (by have := hcur.out.size; simp at this; omega)))
  go_wp2_with fail
  exact bodyPost_ret (v := .tuple #[nul, .int .i64 20]) (by simp [results, Tryz.results97, go_sem, hc0, hc1, hc2]) rfl ⟨rfl, w3_end _ _ _ _ _ _ _ _ hcur.out _ _ _⟩

set_option maxHeartbeats 400000 in
theorem ofTwo_mul (k n : Int) (s : ByteArray) (k' n' : Int) (s' : ByteArray) (w : World) (hs : s.size ≤ 4611686018427387904) (hs' : s'.size ≤ 4611686018427387904)
    (h1 : In64 (intV k n s)) (h2 : In64 (intV k' n' s')) (h3 : In64 (intV k n s * intV k' n' s')) :
    Calls Tryz.prog 97 #[.string ⟨#[42]⟩, vv k n s, vv k' n' s'] w (RetV (vv 1 (intV k n s * intV k' n' s') ⟨#[]⟩) 0 w) := by
  have F := w3_cells w k n s k' n' s'
  have H1 := Lib.hid h1
  have H2 := Lib.hid h2
  have H3 := Lib.hid h3
  have HD := Lib.hid (decide_eq_true h3)
  clear h1 h2 h3
  go_enter Tryz.func97, Tryz.ntmps97
  go_wp2_with fail
  go_region_held3 (fun X => X.cell? ⟨w.heap.size, 0, none⟩ = some (.int .u8 k) ∧ X.cell? ⟨w.heap.size, 1, none⟩ = some (.int .i64 n) ∧ X.cell? ⟨w.heap.size, 2, none⟩ = some (.string s) ∧
      X.cell? ⟨w.heap.size + 1, 0, none⟩ = some (.int .u8 k') ∧ X.cell? ⟨w.heap.size + 1, 1, none⟩ = some (.int .i64 n') ∧ X.cell? ⟨w.heap.size + 1, 2, none⟩ = some (.string s'))
    (first | exact F _ (hcur.out.mono (by simp)) | exact F _ (Below.refl _ _).drew | exact F _ ((hcur.out.mono (by simp)).setCell (by simp) _ |>.setCell (by simp) _ |>.setCell (by simp) _))
    (first
      | (go_at_call 35; refine (Int_any _ _ _ _ (by assumption)).mono ?_; rintro e wa ⟨rfl, ba⟩; (first | (have hcur := Lib.hid (hcur.out.trans (ba.mono hcur.out.size))) | (have hcur := Lib.hid ((Below.refl (w3 w k n s k' n' s').heap.size (w3 w k n s k' n' s')).drew.trans ba))))
      | (go_at_call 103; refine (multiply_any _ _ _ H1.out H2.out).mono ?_; rintro e wa ⟨⟨c, rfl, hcx⟩, rfl⟩; obtain rfl := hcx H3.out; rw [HD.out])
      | (go_at_call 93; refine (toInt_yes _ _).mono ?_; rintro e wa ⟨rfl, ba⟩; have hcur := Lib.hid (hcur.out.trans (ba.mono hcur.out.size)); obtain ⟨hc0, hc1, hc2, hf0, hf1, hf2⟩ := w3_out _ _ _ _ _ _ _ _ hcur.out; have hz : w.heap.size + 2 < wa.heap.size := (by have := hcur.out.size; simp at this; omega)))
  go_wp2_with fail
  exact bodyPost_ret (v := .tuple #[vv 1 (intV k n s * intV k' n' s') ⟨#[]⟩, .int .i64 0]) (by simp [results, Tryz.results97, go_sem, hc0, hc1, hc2]) rfl ⟨rfl, w3_end _ _ _ _ _ _ _ _ hcur.out _ _ _⟩

set_option maxHeartbeats 400000 in
theorem ofTwo_mul_no (k n : Int) (s : ByteArray) (k' n' : Int) (s' : ByteArray) (w : World) (hs : s.size ≤ 4611686018427387904) (hs' : s'.size ≤ 4611686018427387904)
    (h1 : In64 (intV k n s)) (h2 : In64 (intV k' n' s')) (h3 : ¬ In64 (intV k n s * intV k' n' s')) :
    Calls Tryz.prog 97 #[.string ⟨#[42]⟩, vv k n s, vv k' n' s'] w (RetV (nul) 20 w) := by
  have F := w3_cells w k n s k' n' s'
  have H1 := Lib.hid h1
  have H2 := Lib.hid h2
  have HD := Lib.hid (decide_eq_false h3)
  clear h1 h2 h3
  go_enter Tryz.func97, Tryz.ntmps97
  go_wp2_with fail
  go_region_held3 (fun X => X.cell? ⟨w.heap.size, 0, none⟩ = some (.int .u8 k) ∧ X.cell? ⟨w.heap.size, 1, none⟩ = some (.int .i64 n) ∧ X.cell? ⟨w.heap.size, 2, none⟩ = some (.string s) ∧
      X.cell? ⟨w.heap.size + 1, 0, none⟩ = some (.int .u8 k') ∧ X.cell? ⟨w.heap.size + 1, 1, none⟩ = some (.int .i64 n') ∧ X.cell? ⟨w.heap.size + 1, 2, none⟩ = some (.string s'))
    (first | exact F _ (hcur.out.mono (by simp)) | exact F _ (Below.refl _ _).drew | exact F _ ((hcur.out.mono (by simp)).setCell (by simp) _ |>.setCell (by simp) _ |>.setCell (by simp) _))
    (first
      | (go_at_call 35; refine (Int_any _ _ _ _ (by assumption)).mono ?_; rintro e wa ⟨rfl, ba⟩; (first | (have hcur := Lib.hid (hcur.out.trans (ba.mono hcur.out.size))) | (have hcur := Lib.hid ((Below.refl (w3 w k n s k' n' s').heap.size (w3 w k n s k' n' s')).drew.trans ba))))
      | (go_at_call 103; refine (multiply_any _ _ _ H1.out H2.out).mono ?_; rintro e wa ⟨⟨c, rfl, hcx⟩, rfl⟩; clear hcx; rw [HD.out])
      | (go_at_call 93; refine (toInt_no _ _).mono ?_; rintro e wa ⟨rfl, ba⟩; have hcur := Lib.hid (hcur.out.trans (ba.mono hcur.out.size)); obtain ⟨hc0, hc1, hc2, hf0, hf1, hf2⟩ := w3_out _ _ _ _ _ _ _ _ hcur.out; have hz : w.heap.size + 2 < wa.heap.size := (by have := hcur.out.size; simp at this; omega)))
  go_wp2_with fail
  exact bodyPost_ret (v := .tuple #[nul, .int .i64 20]) (by simp [results, Tryz.results97, go_sem, hc0, hc1, hc2]) rfl ⟨rfl, w3_end _ _ _ _ _ _ _ _ hcur.out _ _ _⟩

set_option maxHeartbeats 400000 in
theorem ofTwo_quo_zero (k n : Int) (s : ByteArray) (k' n' : Int) (s' : ByteArray) (w : World) (hs : s.size ≤ 4611686018427387904) (hs' : s'.size ≤ 4611686018427387904)
    (h0 : intV k' n' s' = 0) :
    Calls Tryz.prog 97 #[.string ⟨#[47]⟩, vv k n s, vv k' n' s'] w (RetV (nul) 0 w) := by
  have F := w3_cells w k n s k' n' s'
  have H0 := Lib.hid h0
  clear h0
  go_enter Tryz.func97, Tryz.ntmps97
  go_wp2_with fail
  go_region_held3 (fun X => X.cell? ⟨w.heap.size, 0, none⟩ = some (.int .u8 k) ∧ X.cell? ⟨w.heap.size, 1, none⟩ = some (.int .i64 n) ∧ X.cell? ⟨w.heap.size, 2, none⟩ = some (.string s) ∧
      X.cell? ⟨w.heap.size + 1, 0, none⟩ = some (.int .u8 k') ∧ X.cell? ⟨w.heap.size + 1, 1, none⟩ = some (.int .i64 n') ∧ X.cell? ⟨w.heap.size + 1, 2, none⟩ = some (.string s'))
    (first | exact F _ (hcur.out.mono (by simp)) | exact F _ (Below.refl _ _).drew | exact F _ ((hcur.out.mono (by simp)).setCell (by simp) _ |>.setCell (by simp) _ |>.setCell (by simp) _))
    (first
      | (go_at_call 35; refine (Int_any _ _ _ _ (by assumption)).mono ?_; rintro e wa ⟨rfl, ba⟩; (first | (have hcur := Lib.hid (hcur.out.trans (ba.mono hcur.out.size))) | (have hcur := Lib.hid ((Below.refl (w3 w k n s k' n' s').heap.size (w3 w k n s k' n' s')).drew.trans ba))))
      | (go_at_call 104; rw [H0.out]; refine (quotient_zero _ _).mono ?_; rintro e wa ⟨rfl, ba⟩; have hcur := Lib.hid (hcur.out.trans (ba.mono hcur.out.size)); obtain ⟨hc0, hc1, hc2, hf0, hf1, hf2⟩ := w3_out _ _ _ _ _ _ _ _ hcur.out; have hz : w.heap.size + 2 < wa.heap.size := (by have := hcur.out.size; simp at this; omega)))
  go_wp2_with fail
  exact bodyPost_ret (v := .tuple #[nul, .int .i64 0]) (by simp [results, Tryz.results97, go_sem, hc0, hc1, hc2]) rfl ⟨rfl, w3_end _ _ _ _ _ _ _ _ hcur.out _ _ _⟩

set_option maxHeartbeats 400000 in
theorem ofTwo_quo_far (k n : Int) (s : ByteArray) (k' n' : Int) (s' : ByteArray) (w : World) (hs : s.size ≤ 4611686018427387904) (hs' : s'.size ≤ 4611686018427387904)
    (h0 : intV k n s = -9223372036854775808) (h1 : intV k' n' s' = -1) :
    Calls Tryz.prog 97 #[.string ⟨#[47]⟩, vv k n s, vv k' n' s'] w (RetV (nul) 20 w) := by
  have F := w3_cells w k n s k' n' s'
  have H0 := Lib.hid h0
  have H1 := Lib.hid h1
  clear h0 h1
  go_enter Tryz.func97, Tryz.ntmps97
  go_wp2_with fail
  go_region_held3 (fun X => X.cell? ⟨w.heap.size, 0, none⟩ = some (.int .u8 k) ∧ X.cell? ⟨w.heap.size, 1, none⟩ = some (.int .i64 n) ∧ X.cell? ⟨w.heap.size, 2, none⟩ = some (.string s) ∧
      X.cell? ⟨w.heap.size + 1, 0, none⟩ = some (.int .u8 k') ∧ X.cell? ⟨w.heap.size + 1, 1, none⟩ = some (.int .i64 n') ∧ X.cell? ⟨w.heap.size + 1, 2, none⟩ = some (.string s'))
    (first | exact F _ (hcur.out.mono (by simp)) | exact F _ (Below.refl _ _).drew | exact F _ ((hcur.out.mono (by simp)).setCell (by simp) _ |>.setCell (by simp) _ |>.setCell (by simp) _))
    (first
      | (go_at_call 35; refine (Int_any _ _ _ _ (by assumption)).mono ?_; rintro e wa ⟨rfl, ba⟩; (first | (have hcur := Lib.hid (hcur.out.trans (ba.mono hcur.out.size))) | (have hcur := Lib.hid ((Below.refl (w3 w k n s k' n' s').heap.size (w3 w k n s k' n' s')).drew.trans ba))))
      | (go_at_call 104; rw [H0.out, H1.out]; refine (quotient_far _).mono ?_; rintro e wa ⟨rfl, ba⟩; have hcur := Lib.hid (hcur.out.trans (ba.mono hcur.out.size)); obtain ⟨hc0, hc1, hc2, hf0, hf1, hf2⟩ := w3_out _ _ _ _ _ _ _ _ hcur.out; have hz : w.heap.size + 2 < wa.heap.size := (by have := hcur.out.size; simp at this; omega)))
  go_wp2_with fail
  exact bodyPost_ret (v := .tuple #[nul, .int .i64 20]) (by simp [results, Tryz.results97, go_sem, hc0, hc1, hc2]) rfl ⟨rfl, w3_end _ _ _ _ _ _ _ _ hcur.out _ _ _⟩

set_option maxHeartbeats 400000 in
theorem ofTwo_quo (k n : Int) (s : ByteArray) (k' n' : Int) (s' : ByteArray) (w : World) (hs : s.size ≤ 4611686018427387904) (hs' : s'.size ≤ 4611686018427387904)
    (h1 : In64 (intV k n s)) (h0 : intV k' n' s' ≠ 0) (hf : ¬ (intV k n s = -9223372036854775808 ∧ intV k' n' s' = -1)) :
    Calls Tryz.prog 97 #[.string ⟨#[47]⟩, vv k n s, vv k' n' s'] w (RetV (vv 1 ((intV k n s).tdiv (intV k' n' s')) ⟨#[]⟩) 0 w) := by
  have F := w3_cells w k n s k' n' s'
  have H1 := Lib.hid h1
  have H0 := Lib.hid h0
  have HF := Lib.hid hf
  clear h0 h1 hf
  go_enter Tryz.func97, Tryz.ntmps97
  go_wp2_with fail
  go_region_held3 (fun X => X.cell? ⟨w.heap.size, 0, none⟩ = some (.int .u8 k) ∧ X.cell? ⟨w.heap.size, 1, none⟩ = some (.int .i64 n) ∧ X.cell? ⟨w.heap.size, 2, none⟩ = some (.string s) ∧
      X.cell? ⟨w.heap.size + 1, 0, none⟩ = some (.int .u8 k') ∧ X.cell? ⟨w.heap.size + 1, 1, none⟩ = some (.int .i64 n') ∧ X.cell? ⟨w.heap.size + 1, 2, none⟩ = some (.string s'))
    (first | exact F _ (hcur.out.mono (by simp)) | exact F _ (Below.refl _ _).drew | exact F _ ((hcur.out.mono (by simp)).setCell (by simp) _ |>.setCell (by simp) _ |>.setCell (by simp) _))
    (first
      | (go_at_call 35; refine (Int_any _ _ _ _ (by assumption)).mono ?_; rintro e wa ⟨rfl, ba⟩; (first | (have hcur := Lib.hid (hcur.out.trans (ba.mono hcur.out.size))) | (have hcur := Lib.hid ((Below.refl (w3 w k n s k' n' s').heap.size (w3 w k n s k' n' s')).drew.trans ba))))
      | (go_at_call 104; refine (quotient_any _ _ _ H1.out H0.out HF.out).mono ?_; rintro e wa ⟨rfl, ba⟩; have hcur := Lib.hid (hcur.out.trans (ba.mono hcur.out.size)); obtain ⟨hc0, hc1, hc2, hf0, hf1, hf2⟩ := w3_out _ _ _ _ _ _ _ _ hcur.out; have hz : w.heap.size + 2 < wa.heap.size := (by have := hcur.out.size; simp at this; omega)))
  go_wp2_with fail
  exact bodyPost_ret (v := .tuple #[vv 1 ((intV k n s).tdiv (intV k' n' s')) ⟨#[]⟩, .int .i64 0]) (by simp [results, Tryz.results97, go_sem, hc0, hc1, hc2]) rfl ⟨rfl, w3_end _ _ _ _ _ _ _ _ hcur.out _ _ _⟩

set_option maxHeartbeats 400000 in
theorem ofTwo_rem_zero (k n : Int) (s : ByteArray) (k' n' : Int) (s' : ByteArray) (w : World) (hs : s.size ≤ 4611686018427387904) (hs' : s'.size ≤ 4611686018427387904)
    (h0 : intV k' n' s' = 0) :
    Calls Tryz.prog 97 #[.string ⟨#[37]⟩, vv k n s, vv k' n' s'] w (RetV (nul) 0 w) := by
  have F := w3_cells w k n s k' n' s'
  have H0 := Lib.hid h0
  clear h0
  go_enter Tryz.func97, Tryz.ntmps97
  go_wp2_with fail
  go_region_held3 (fun X => X.cell? ⟨w.heap.size, 0, none⟩ = some (.int .u8 k) ∧ X.cell? ⟨w.heap.size, 1, none⟩ = some (.int .i64 n) ∧ X.cell? ⟨w.heap.size, 2, none⟩ = some (.string s) ∧
      X.cell? ⟨w.heap.size + 1, 0, none⟩ = some (.int .u8 k') ∧ X.cell? ⟨w.heap.size + 1, 1, none⟩ = some (.int .i64 n') ∧ X.cell? ⟨w.heap.size + 1, 2, none⟩ = some (.string s'))
    (first | exact F _ (hcur.out.mono (by simp)) | exact F _ (Below.refl _ _).drew | exact F _ ((hcur.out.mono (by simp)).setCell (by simp) _ |>.setCell (by simp) _ |>.setCell (by simp) _))
    (first
      | (go_at_call 35; refine (Int_any _ _ _ _ (by assumption)).mono ?_; rintro e wa ⟨rfl, ba⟩; (first | (have hcur := Lib.hid (hcur.out.trans (ba.mono hcur.out.size))) | (have hcur := Lib.hid ((Below.refl (w3 w k n s k' n' s').heap.size (w3 w k n s k' n' s')).drew.trans ba))))
      | (go_at_call 105; rw [H0.out]; refine (rest_zero _ _).mono ?_; rintro e wa ⟨rfl, ba⟩; have hcur := Lib.hid (hcur.out.trans (ba.mono hcur.out.size)); obtain ⟨hc0, hc1, hc2, hf0, hf1, hf2⟩ := w3_out _ _ _ _ _ _ _ _ hcur.out; have hz : w.heap.size + 2 < wa.heap.size := (by have := hcur.out.size; simp at this; omega)))
  go_wp2_with fail
  exact bodyPost_ret (v := .tuple #[nul, .int .i64 0]) (by simp [results, Tryz.results97, go_sem, hc0, hc1, hc2]) rfl ⟨rfl, w3_end _ _ _ _ _ _ _ _ hcur.out _ _ _⟩

set_option maxHeartbeats 400000 in
theorem ofTwo_rem (k n : Int) (s : ByteArray) (k' n' : Int) (s' : ByteArray) (w : World) (hs : s.size ≤ 4611686018427387904) (hs' : s'.size ≤ 4611686018427387904)
    (h1 : In64 (intV k n s)) (h0 : intV k' n' s' ≠ 0) :
    Calls Tryz.prog 97 #[.string ⟨#[37]⟩, vv k n s, vv k' n' s'] w (RetV (vv 1 ((intV k n s).tmod (intV k' n' s')) ⟨#[]⟩) 0 w) := by
  have F := w3_cells w k n s k' n' s'
  have H1 := Lib.hid h1
  have H0 := Lib.hid h0
  clear h0 h1
  go_enter Tryz.func97, Tryz.ntmps97
  go_wp2_with fail
  go_region_held3 (fun X => X.cell? ⟨w.heap.size, 0, none⟩ = some (.int .u8 k) ∧ X.cell? ⟨w.heap.size, 1, none⟩ = some (.int .i64 n) ∧ X.cell? ⟨w.heap.size, 2, none⟩ = some (.string s) ∧
      X.cell? ⟨w.heap.size + 1, 0, none⟩ = some (.int .u8 k') ∧ X.cell? ⟨w.heap.size + 1, 1, none⟩ = some (.int .i64 n') ∧ X.cell? ⟨w.heap.size + 1, 2, none⟩ = some (.string s'))
    (first | exact F _ (hcur.out.mono (by simp)) | exact F _ (Below.refl _ _).drew | exact F _ ((hcur.out.mono (by simp)).setCell (by simp) _ |>.setCell (by simp) _ |>.setCell (by simp) _))
    (first
      | (go_at_call 35; refine (Int_any _ _ _ _ (by assumption)).mono ?_; rintro e wa ⟨rfl, ba⟩; (first | (have hcur := Lib.hid (hcur.out.trans (ba.mono hcur.out.size))) | (have hcur := Lib.hid ((Below.refl (w3 w k n s k' n' s').heap.size (w3 w k n s k' n' s')).drew.trans ba))))
      | (go_at_call 105; refine (rest_any _ _ _ H1.out H0.out).mono ?_; rintro e wa ⟨rfl, ba⟩; have hcur := Lib.hid (hcur.out.trans (ba.mono hcur.out.size)); obtain ⟨hc0, hc1, hc2, hf0, hf1, hf2⟩ := w3_out _ _ _ _ _ _ _ _ hcur.out; have hz : w.heap.size + 2 < wa.heap.size := (by have := hcur.out.size; simp at this; omega)))
  go_wp2_with fail
  exact bodyPost_ret (v := .tuple #[vv 1 ((intV k n s).tmod (intV k' n' s')) ⟨#[]⟩, .int .i64 0]) (by simp [results, Tryz.results97, go_sem, hc0, hc1, hc2]) rfl ⟨rfl, w3_end _ _ _ _ _ _ _ _ hcur.out _ _ _⟩

end Go.Proofs.YteijijoiifbjlaaGreatDoor
