/-
  Layer 2: what is too long, or beyond 64 bits: joined, alike, absolute; Op over numbers that go beyond. Conditions: sizes.
-/
import Derived.Test.YteijijoiifbjlaaGreatDoorVCallM
import Derived.Test.YteijijoiifbjlaaGreatDoorVNul
import Derived.Test.YteijijoiifbjlaaGreatDoorVOne
import Derived.Deep.RegionHeld3
import Derived.IntWalk
namespace Go.Proofs.YteijijoiifbjlaaGreatDoor
open Go.ChangeShapes Go.WideShapes Go.ChangeAt Go.RowKit
set_option linter.unusedVariables false

theorem joined_no (s t : ByteArray) (w : World) (h : (65536 : Int) < (s.size : Int) + (t.size : Int) ∧ (s.size : Int) + (t.size : Int) ≤ 1000000) :
    Calls Tryz.prog 106 #[.string s, .string t] w (RetV nul 3 w) := by
  obtain ⟨h1, h2⟩ := h
  go_enter Tryz.func106, Tryz.ntmps106
  go_wp2_with fail
  exact bodyPost_ret (v := .tuple #[nul, .int .i64 3]) (by simp [results, Tryz.results106, go_sem]) rfl ⟨rfl, (Below.refl _ _).alloc (Nat.le_refl _) _⟩
theorem alike_no (s t : ByteArray) (w : World) (h : (1000 : Int) < (t.size : Int)) :
    Calls Tryz.prog 107 #[.string s, .string t] w (RetV nul 3 w) := by
  go_enter Tryz.func107, Tryz.ntmps107
  go_wp2_with fail
  exact bodyPost_ret (v := .tuple #[nul, .int .i64 3]) (by simp [results, Tryz.results107, go_sem]) rfl ⟨rfl, (Below.refl _ _).alloc (Nat.le_refl _) _⟩
set_option maxHeartbeats 800000 in
theorem ofTwo_cat_no (k n : Int) (s : ByteArray) (k' n' : Int) (s' : ByteArray) (w : World) (hn : In64 n) (hn' : In64 n') (hW : Wd w) (h : (65536 : Int) < ((textV k n s).size : Int) + ((textV k' n' s').size : Int) ∧ ((textV k n s).size : Int) + ((textV k' n' s').size : Int) ≤ 1000000) :
    Calls Tryz.prog 97 #[.string ⟨#[124, 124]⟩, vv k n s, vv k' n' s'] w (RetV nul 3 w) := by
  have F := w3_cells w k n s k' n' s'
  have HN := Lib.hid hn
  have HN' := Lib.hid hn'
  have HWd := Lib.hid (hW.on (w3_below w k n s k' n' s'))
  have HJ := Lib.hid (show ∀ W, Calls Tryz.prog 106 #[.string (textV k n s), .string (textV k' n' s')] W (RetV nul 3 W) from fun W => joined_no _ _ W h)
  clear hn hn' hW h
  go_enter Tryz.func97, Tryz.ntmps97
  go_wp2_with fail
  go_region_held3 (fun X => X.cell? ⟨w.heap.size, 0, none⟩ = some (.int .u8 k) ∧ X.cell? ⟨w.heap.size, 1, none⟩ = some (.int .i64 n) ∧ X.cell? ⟨w.heap.size, 2, none⟩ = some (.string s) ∧
      X.cell? ⟨w.heap.size + 1, 0, none⟩ = some (.int .u8 k') ∧ X.cell? ⟨w.heap.size + 1, 1, none⟩ = some (.int .i64 n') ∧ X.cell? ⟨w.heap.size + 1, 2, none⟩ = some (.string s'))
    (first | exact F _ (hcur.out.mono (by simp)) | exact F _ (Below.refl _ _).drew | exact F _ ((hcur.out.mono (by simp)).setCell (by simp) _ |>.setCell (by simp) _ |>.setCell (by simp) _))
    (first
      | (go_at_call 83; (first | (with_reducible refine (Text_any _ _ _ _ HN.out (HWd.out.on hcur.out)).mono ?_) | (with_reducible refine (Text_any _ _ _ _ HN'.out (HWd.out.on hcur.out)).mono ?_) | (with_reducible refine (Text_any _ _ _ _ HN.out (HWd.out.on (Below.refl _ _).drew)).mono ?_)); rintro e wa ⟨rfl, ba⟩; (first | (have hcur := Lib.hid (hcur.out.trans (ba.mono hcur.out.size))) | (have hcur := Lib.hid ((Below.refl (w3 w k n s k' n' s').heap.size (w3 w k n s k' n' s')).drew.trans ba))))
      | (go_at_call 106; refine (HJ.out _).mono ?_; rintro e wa ⟨rfl, ba⟩; have hcur := Lib.hid (hcur.out.trans (ba.mono hcur.out.size)); obtain ⟨hc0, hc1, hc2, hf0, hf1, hf2⟩ := w3_out _ _ _ _ _ _ _ _ hcur.out; have hz : w.heap.size + 2 < wa.heap.size := (by have := hcur.out.size; simp at this; omega)))
  go_wp2_with fail
  exact bodyPost_ret (v := .tuple #[nul, .int .i64 3]) (by simp [results, Tryz.results97, go_sem, hc0, hc1, hc2]) rfl ⟨rfl, w3_end _ _ _ _ _ _ _ _ hcur.out _ _ _⟩

set_option maxHeartbeats 800000 in
theorem ofTwo_like_no (k n : Int) (s : ByteArray) (k' n' : Int) (s' : ByteArray) (w : World) (hn : In64 n) (hn' : In64 n') (hW : Wd w) (h : (1000 : Int) < ((textV k' n' s').size : Int)) :
    Calls Tryz.prog 97 #[.string ⟨#[108, 105, 107, 101]⟩, vv k n s, vv k' n' s'] w (RetV nul 3 w) := by
  have F := w3_cells w k n s k' n' s'
  have HN := Lib.hid hn
  have HN' := Lib.hid hn'
  have HWd := Lib.hid (hW.on (w3_below w k n s k' n' s'))
  have HJ := Lib.hid (show ∀ W, Calls Tryz.prog 107 #[.string (textV k n s), .string (textV k' n' s')] W (RetV nul 3 W) from fun W => alike_no _ _ W h)
  clear hn hn' hW h
  go_enter Tryz.func97, Tryz.ntmps97
  go_wp2_with fail
  go_region_held3 (fun X => X.cell? ⟨w.heap.size, 0, none⟩ = some (.int .u8 k) ∧ X.cell? ⟨w.heap.size, 1, none⟩ = some (.int .i64 n) ∧ X.cell? ⟨w.heap.size, 2, none⟩ = some (.string s) ∧
      X.cell? ⟨w.heap.size + 1, 0, none⟩ = some (.int .u8 k') ∧ X.cell? ⟨w.heap.size + 1, 1, none⟩ = some (.int .i64 n') ∧ X.cell? ⟨w.heap.size + 1, 2, none⟩ = some (.string s'))
    (first | exact F _ (hcur.out.mono (by simp)) | exact F _ (Below.refl _ _).drew | exact F _ ((hcur.out.mono (by simp)).setCell (by simp) _ |>.setCell (by simp) _ |>.setCell (by simp) _))
    (first
      | (go_at_call 83; (first | (with_reducible refine (Text_any _ _ _ _ HN.out (HWd.out.on hcur.out)).mono ?_) | (with_reducible refine (Text_any _ _ _ _ HN'.out (HWd.out.on hcur.out)).mono ?_) | (with_reducible refine (Text_any _ _ _ _ HN.out (HWd.out.on (Below.refl _ _).drew)).mono ?_)); rintro e wa ⟨rfl, ba⟩; (first | (have hcur := Lib.hid (hcur.out.trans (ba.mono hcur.out.size))) | (have hcur := Lib.hid ((Below.refl (w3 w k n s k' n' s').heap.size (w3 w k n s k' n' s')).drew.trans ba))))
      | (go_at_call 107; refine (HJ.out _).mono ?_; rintro e wa ⟨rfl, ba⟩; have hcur := Lib.hid (hcur.out.trans (ba.mono hcur.out.size)); obtain ⟨hc0, hc1, hc2, hf0, hf1, hf2⟩ := w3_out _ _ _ _ _ _ _ _ hcur.out; have hz : w.heap.size + 2 < wa.heap.size := (by have := hcur.out.size; simp at this; omega)))
  go_wp2_with fail
  exact bodyPost_ret (v := .tuple #[nul, .int .i64 3]) (by simp [results, Tryz.results97, go_sem, hc0, hc1, hc2]) rfl ⟨rfl, w3_end _ _ _ _ _ _ _ _ hcur.out _ _ _⟩

theorem absolute_least (w : World) : Calls Tryz.prog 115 #[.int .i64 (-9223372036854775808)] w fun e w' => ∃ z, e = .returned (.tuple #[.int .i64 z, .bool false]) ∧ w = w' := by
  have H0 := Lib.hid (show In64 0 by decide)
  have H1 := Lib.hid (show In64 (-9223372036854775808) by unfold In64; omega)
  have HD := Lib.hid (decide_eq_false (show ¬ In64 (0 - (-9223372036854775808)) by unfold In64; omega))
  go_enter Tryz.func115, Tryz.ntmps115
  go_wp2_with (go_at_call 94; refine (subtract_any _ _ _ H0.out H1.out).mono ?_; rintro e wa ⟨rfl, rfl⟩; rw [HD.out])
  exact bodyPost_ret (v := .tuple #[.int .i64 (wrap64 (0 - (-9223372036854775808))), .bool false]) (by simp [results, Tryz.results115, go_sem]) rfl ⟨_, rfl, rfl⟩
set_option maxRecDepth 100000 in
theorem absCall_least (b off : Nat) (w : World) (hR : RdV w b off [(1, -9223372036854775808, ⟨#[]⟩)]) :
    Calls Tryz.prog 114 #[.slice (some ⟨b, off, none⟩) 1 1] w (RetV nul 20 w) := by
  obtain ⟨c0, c1, c2⟩ := (hR.on (w1_below w)).one
  clear hR
  go_enter Tryz.func114, Tryz.ntmps114
  go_wp2_with (first
    | (go_at_call 35; refine (Int_any _ _ _ _ (by decide)).mono ?_; rintro e wa ⟨rfl, ba⟩; rw [show intV 1 (-9223372036854775808) ⟨#[]⟩ = -9223372036854775808 from rfl]; have hcur := Lib.hid ba)
    | (go_at_call 115; refine (absolute_least _).mono ?_; rintro e wb ⟨z, rfl, rfl⟩)
    | (go_at_call 93; refine (toInt_no _ _).mono ?_; rintro e wb ⟨rfl, bb⟩; have hcur := Lib.hid (hcur.out.trans (bb.mono hcur.out.size)); obtain ⟨u0, u1, u2, v0, v1, v2⟩ := w1_out w _ hcur.out; have hz : w.heap.size < wb.heap.size := (by have := hcur.out.size; simp at this; omega)))
  exact bodyPost_ret (v := .tuple #[nul, .int .i64 20]) (by simp [results, Tryz.results114, go_sem, u0, u1, u2]) rfl ⟨rfl, w1_end _ _ hcur.out _ _ _⟩
end Go.Proofs.YteijijoiifbjlaaGreatDoor
