/-
  Two texts joined; the functions length, instr and substr of two, as Call finds them (layer 2, value). Conditions: sizes; the library's variables are as its text lays them.
-/
import Derived.Test.YteijijoiifbjlaaGreatDoorVCallM
import Derived.Deep.RegionHeld3
import Derived.IntWalk
namespace Go.Proofs.YteijijoiifbjlaaGreatDoor
open Go.ChangeShapes Go.WideShapes Go.ChangeAt Go.RowKit
set_option linter.unusedVariables false

theorem joined_yes (s t : ByteArray) (w : World) (h1 : s.size ≤ 65536) (h2 : t.size ≤ 65536) (h : s.size + t.size ≤ 65536) (x : ByteArray) (hx : s ++ t = x) :
    Calls Tryz.prog 106 #[.string s, .string t] w (RetV (vv 2 0 x) 0 w) := by
  have HX := Lib.hid hx
  clear hx
  go_enter Tryz.func106, Tryz.ntmps106
  go_wp2_with (go_at_call 82; refine (textValue_any _ _).mono ?_; rintro e wb ⟨rfl, bb⟩; rw [HX.out]; have hcur := Lib.hid bb; obtain ⟨u0, u1, u2, v0, v1, v2⟩ := w1_out w _ hcur.out; have hz : w.heap.size < wb.heap.size := (by have := hcur.out.size; simp at this; omega))
  exact bodyPost_ret (v := .tuple #[vv 2 0 x, .int .i64 0]) (by simp [results, Tryz.results106, go_sem, u0, u1, u2]) rfl ⟨rfl, w1_end _ _ hcur.out _ _ _⟩

set_option maxHeartbeats 800000 in
theorem ofTwo_cat (k n : Int) (s : ByteArray) (k' n' : Int) (s' : ByteArray) (w : World) (hn : In64 n) (hn' : In64 n') (hW : Wd w) (h1 : (textV k n s).size ≤ 65536) (h2 : (textV k' n' s').size ≤ 65536) (h : (textV k n s).size + (textV k' n' s').size ≤ 65536) (x : ByteArray) (hx : textV k n s ++ textV k' n' s' = x) :
    Calls Tryz.prog 97 #[.string ⟨#[124, 124]⟩, vv k n s, vv k' n' s'] w (RetV (vv 2 0 x) 0 w) := by
  have F := w3_cells w k n s k' n' s'
  have HN := Lib.hid hn
  have HN' := Lib.hid hn'
  have HWd := Lib.hid (hW.on (w3_below w k n s k' n' s'))
  have HJ := Lib.hid (show ∀ W, Calls Tryz.prog 106 #[.string (textV k n s), .string (textV k' n' s')] W (RetV (vv 2 0 x) 0 W) from fun W => joined_yes _ _ W h1 h2 h x hx)
  clear hn hn' hW h1 h2 h hx
  go_enter Tryz.func97, Tryz.ntmps97
  go_wp2_with fail
  go_region_held3 (fun X => X.cell? ⟨w.heap.size, 0, none⟩ = some (.int .u8 k) ∧ X.cell? ⟨w.heap.size, 1, none⟩ = some (.int .i64 n) ∧ X.cell? ⟨w.heap.size, 2, none⟩ = some (.string s) ∧
      X.cell? ⟨w.heap.size + 1, 0, none⟩ = some (.int .u8 k') ∧ X.cell? ⟨w.heap.size + 1, 1, none⟩ = some (.int .i64 n') ∧ X.cell? ⟨w.heap.size + 1, 2, none⟩ = some (.string s'))
    (first | exact F _ (hcur.out.mono (by simp)) | exact F _ (Below.refl _ _).drew | exact F _ ((hcur.out.mono (by simp)).setCell (by simp) _ |>.setCell (by simp) _ |>.setCell (by simp) _))
    (first
      | (go_at_call 83; (first | (with_reducible refine (Text_any _ _ _ _ HN.out (HWd.out.on hcur.out)).mono ?_) | (with_reducible refine (Text_any _ _ _ _ HN'.out (HWd.out.on hcur.out)).mono ?_) | (with_reducible refine (Text_any _ _ _ _ HN.out (HWd.out.on (Below.refl _ _).drew)).mono ?_)); rintro e wa ⟨rfl, ba⟩; (first | (have hcur := Lib.hid (hcur.out.trans (ba.mono hcur.out.size))) | (have hcur := Lib.hid ((Below.refl (w3 w k n s k' n' s').heap.size (w3 w k n s k' n' s')).drew.trans ba))))
      | (go_at_call 106; refine (HJ.out _).mono ?_; rintro e wa ⟨rfl, ba⟩; have hcur := Lib.hid (hcur.out.trans (ba.mono hcur.out.size)); obtain ⟨hc0, hc1, hc2, hf0, hf1, hf2⟩ := w3_out _ _ _ _ _ _ _ _ hcur.out; have hz : w.heap.size + 2 < wa.heap.size := (by have := hcur.out.size; simp at this; omega)))
  go_wp2_with fail
  exact bodyPost_ret (v := .tuple #[vv 2 0 x, .int .i64 0]) (by simp [results, Tryz.results97, go_sem, hc0, hc1, hc2]) rfl ⟨rfl, w3_end _ _ _ _ _ _ _ _ hcur.out _ _ _⟩

set_option maxRecDepth 100000 in
theorem lengthCall (b off : Nat) (k n : Int) (s : ByteArray) (w : World) (hn : In64 n) (hW : Wd w) (hR : RdV w b off [(k, n, s)]) :
    Calls Tryz.prog 110 #[.slice (some ⟨b, off, none⟩) 1 1] w (RetV (vv 1 (textV k n s).size ⟨#[]⟩) 0 w) := by
  have HN := Lib.hid hn
  have HWd := Lib.hid (hW.on (w1_below w))
  obtain ⟨c0, c1, c2⟩ := (hR.on (w1_below w)).one
  clear hn hW hR
  go_enter Tryz.func110, Tryz.ntmps110
  go_wp2_with (first
    | (go_at_call 83; refine (Text_any _ _ _ _ HN.out HWd.out).mono ?_; rintro e wa ⟨rfl, ba⟩; have hcur := Lib.hid ba)
    | (go_at_call 81; refine (intValue_any _ _).mono ?_; rintro e wb ⟨rfl, bb⟩; have hcur := Lib.hid (hcur.out.trans (bb.mono hcur.out.size)); obtain ⟨u0, u1, u2, v0, v1, v2⟩ := w1_out w _ hcur.out; have hz : w.heap.size < wb.heap.size := (by have := hcur.out.size; simp at this; omega)))
  exact bodyPost_ret (v := .tuple #[vv 1 (textV k n s).size ⟨#[]⟩, .int .i64 0]) (by simp [results, Tryz.results110, go_sem, u0, u1, u2]) rfl ⟨rfl, w1_end _ _ hcur.out _ _ _⟩

set_option maxRecDepth 100000 in
set_option maxHeartbeats 800000 in
theorem subCall2 (b off : Nat) (k n : Int) (s : ByteArray) (k' n' : Int) (s' : ByteArray) (w : World) (hn : In64 n) (hW : Wd w) (hs : (textV k n s).size ≤ 1099511627776) (hk : k ≠ 3)
    (hs' : s'.size ≤ 4611686018427387904) (hi : In64 (intV k' n' s')) (hR : RdV w b off [(k, n, s), (k', n', s')]) (cut : ByteArray) (hcv : cutS (textV k n s) (fromP (textV k n s).size (intV k' n' s')) ((textV k n s).size + 1) = cut) :
    Calls Tryz.prog 123 #[.slice (some ⟨b, off, none⟩) 2 2] w (RetV (vv 2 0 cut) 0 w) := by
  have HC := Lib.hid hcv
  have HN := Lib.hid hn
  have HWd := Lib.hid hW
  have HS := Lib.hid hs
  have HI := Lib.hid hi
  have F := fun (X : World) (h : Below w.heap.size w X) => (hR.on h).two
  clear hcv hn hW hs hi hR
  go_enter Tryz.func123, Tryz.ntmps123
  go_wp2_with fail
  go_region_held3 (fun X => X.cell? ⟨b, off, none⟩ = some (.int .u8 k) ∧ X.cell? ⟨b, off + 1, none⟩ = some (.int .i64 n) ∧ X.cell? ⟨b, off + 2, none⟩ = some (.string s) ∧
      X.cell? ⟨b, off + 3, none⟩ = some (.int .u8 k') ∧ X.cell? ⟨b, off + 3 + 1, none⟩ = some (.int .i64 n') ∧ X.cell? ⟨b, off + 3 + 2, none⟩ = some (.string s'))
    (first | exact F _ (w1_end _ _ hcur.out _ _ _) | exact F _ ((w1_below w).trans (hcur.out.mono (by simp))) | exact F _ (w1_below w).drew)
    (first
      | (go_at_call 35; refine (Int_any _ _ _ _ hs').mono ?_; rintro e wa ⟨rfl, ba⟩; have hcur := Lib.hid ((Below.refl (w1 w).heap.size (w1 w)).drew.trans ba))
      | (go_at_call 124; refine (substr_two k n s _ _ _ _ HN.out HI.out (HWd.out.on ((w1_below w).trans (hcur.out.mono (by simp)))) HS.out hk).mono ?_; rintro e wb ⟨rfl, bb⟩; rw [HC.out]; have hcur := Lib.hid (hcur.out.trans (bb.mono hcur.out.size)); obtain ⟨u0, u1, u2, v0, v1, v2⟩ := w1_out w _ hcur.out; have hz : w.heap.size < wb.heap.size := (by have := hcur.out.size; simp at this; omega)))
  go_wp2_with fail
  exact bodyPost_ret (v := .tuple #[vv 2 0 cut, .int .i64 0]) (by simp [results, Tryz.results123, go_sem, u0, u1, u2]) rfl ⟨rfl, w1_end _ _ hcur.out _ _ _⟩

theorem index_range (s t : List UInt8) (h : s.length ≤ 4294967280) : -1 ≤ Lib.index s t ∧ Lib.index s t ≤ 4294967280 := by
  have h1 := Lib.index_ge s t
  refine ⟨h1, ?_⟩
  have : ∀ l : List UInt8, Lib.index l t ≤ l.length := by
    intro l
    induction l with
    | nil => unfold Lib.index; split <;> simp
    | cons b l ih =>
      unfold Lib.index
      have hl : ((b :: l).length : Int) = l.length + 1 := by simp
      rw [hl]
      split
      · omega
      · split
        · omega
        · omega
  have := this s
  omega
set_option maxRecDepth 100000 in
set_option maxHeartbeats 800000 in
theorem instrCall (b off : Nat) (k n : Int) (s : ByteArray) (k' n' : Int) (s' : ByteArray) (w : World) (hn : In64 n) (hn' : In64 n') (hW : Wd w) (hs : (textV k n s).size ≤ 65536) (hR : RdV w b off [(k, n, s), (k', n', s')]) (z : Int) (hz0 : Lib.index (textV k n s).data.toList (textV k' n' s').data.toList = z) :
    Calls Tryz.prog 121 #[.slice (some ⟨b, off, none⟩) 2 2] w (RetV (vv 1 (z + 1) ⟨#[]⟩) 0 w) := by
  have hzr := index_range (textV k n s).data.toList (textV k' n' s').data.toList (by have : (textV k n s).data.toList.length = (textV k n s).size := by { rcases textV k n s with ⟨⟨l⟩⟩; rfl }
                                                                                     omega)
  rw [hz0] at hzr
  obtain ⟨hz1, hz2⟩ := hzr
  have HWr := Lib.hid (show IntKind.i64.wrap (z + 1) = z + 1 from IntWalk.i64_in _ (by omega))
  have HZ := Lib.hid hz0
  have HN := Lib.hid hn
  have HN' := Lib.hid hn'
  have HWd := Lib.hid hW
  have HS := Lib.hid (show (textV k n s).size < 4294967281 by omega)
  have F := fun (X : World) (h : Below w.heap.size w X) => (hR.on h).two
  clear hz0 hn hn' hW hs hR
  go_enter Tryz.func121, Tryz.ntmps121
  go_wp2_with fail
  go_region_held3 (fun X => X.cell? ⟨b, off, none⟩ = some (.int .u8 k) ∧ X.cell? ⟨b, off + 1, none⟩ = some (.int .i64 n) ∧ X.cell? ⟨b, off + 2, none⟩ = some (.string s) ∧
      X.cell? ⟨b, off + 3, none⟩ = some (.int .u8 k') ∧ X.cell? ⟨b, off + 3 + 1, none⟩ = some (.int .i64 n') ∧ X.cell? ⟨b, off + 3 + 2, none⟩ = some (.string s'))
    (first | exact F _ (w1_end _ _ hcur.out _ _ _) | exact F _ ((w1_below w).trans (hcur.out.mono (by simp))) | exact F _ (w1_below w).drew)
    (first
      | (go_at_call 83; (first | (with_reducible refine (Text_any _ _ _ _ HN.out (HWd.out.on ((w1_below w).trans (hcur.out.mono (by simp))))).mono ?_) | (with_reducible refine (Text_any _ _ _ _ HN'.out (HWd.out.on ((w1_below w).trans (hcur.out.mono (by simp))))).mono ?_) | (with_reducible refine (Text_any _ _ _ _ HN.out (HWd.out.on (w1_below w).drew)).mono ?_)); rintro e wa ⟨rfl, ba⟩; (first | (have hcur := Lib.hid (hcur.out.trans (ba.mono hcur.out.size))) | (have hcur := Lib.hid ((Below.refl (w1 w).heap.size (w1 w)).drew.trans ba))))
      | (go_at_call 122; refine (Tryz.strings_Index _ _ _ _ HS.out (HWd.out.on ((w1_below w).trans (hcur.out.mono (by simp)))).2.choose_spec).mono ?_; rintro e wa ⟨rfl, rfl⟩; rw [HZ.out])
      | (go_at_call 81; refine (intValue_any _ _).mono ?_; rintro e wb ⟨rfl, bb⟩; have hcur := Lib.hid (hcur.out.trans (bb.mono hcur.out.size)); obtain ⟨u0, u1, u2, v0, v1, v2⟩ := w1_out w _ hcur.out; have hz : w.heap.size < wb.heap.size := (by have := hcur.out.size; simp at this; omega)))
  go_wp2_with fail
  exact bodyPost_ret (v := .tuple #[vv 1 (z + 1) ⟨#[]⟩, .int .i64 0]) (by simp [results, Tryz.results121, go_sem, u0, u1, u2, HWr.out]) rfl ⟨rfl, w1_end _ _ hcur.out _ _ _⟩
end Go.Proofs.YteijijoiifbjlaaGreatDoor
