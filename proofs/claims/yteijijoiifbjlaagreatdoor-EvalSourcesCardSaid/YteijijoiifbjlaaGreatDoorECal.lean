/-
  Layer 13, eval: what value.Call tells of any name and any values. Conditions: sizes; the library's variables are as its text lays them.
-/
import Derived.Test.YteijijoiifbjlaaGreatDoorEEv
import Derived.Test.YteijijoiifbjlaaGreatDoorEOp
import Derived.Test.YteijijoiifbjlaaGreatDoorVBadF
import Derived.Test.YteijijoiifbjlaaGreatDoorVCallC
import Derived.Test.YteijijoiifbjlaaGreatDoorVUpper
import Derived.Test.YteijijoiifbjlaaGreatDoorVFar
namespace Go.Proofs.YteijijoiifbjlaaGreatDoor
open Go.ChangeShapes Go.WideShapes Go.ChangeAt Go.RowKit
set_option linter.unusedVariables false
set_option linter.unusedSimpArgs false
set_option maxRecDepth 100000

set_option maxRecDepth 100000 in
theorem lengthCallC (b off c : Nat) (k n : Int) (s : ByteArray) (w : World) (hn : In64 n) (hW : Wd w) (hR : RdV w b off [(k, n, s)]) :
    Calls Tryz.prog 110 #[.slice (some ⟨b, off, none⟩) 1 c] w (RetV (vv 1 (textV k n s).size ⟨#[]⟩) 0 w) := by
  have HN := Lib.hid hn
  have HWd := Lib.hid (hW.on (w1_below w))
  obtain ⟨c0, c1, c2⟩ := (hR.on (w1_below w)).one
  clear hn hW hR
  go_enter Tryz.func110, Tryz.ntmps110
  go_wp2_with (first
    | (go_at_call 83; refine (Text_any _ _ _ _ HN.out HWd.out).mono ?_; rintro e wa ⟨rfl, ba⟩; have hcur := Lib.hid ba)
    | (go_at_call 81; refine (intValue_any _ _).mono ?_; rintro e wb ⟨rfl, bb⟩; have hcur := Lib.hid (hcur.out.trans (bb.mono hcur.out.size)); obtain ⟨u0, u1, u2, v0, v1, v2⟩ := w1_out w _ hcur.out; have hz : w.heap.size < wb.heap.size := (by have := hcur.out.size; simp at this; omega)))
  exact bodyPost_ret (v := .tuple #[vv 1 (textV k n s).size ⟨#[]⟩, .int .i64 0]) (by simp [results, Tryz.results110, go_sem, u0, u1, u2]) rfl ⟨rfl, w1_end _ _ hcur.out _ _ _⟩


set_option maxRecDepth 100000 in
set_option maxHeartbeats 800000 in
theorem upperCallC (b off c bt : Nat) (k n : Int) (s : ByteArray) (w : World) (hn : In64 n) (hW : Wd w) (hR : RdV w b off [(k, n, s)]) (ht : w.cell? ⟨bt, 0, none⟩ = some (.func (.func 112) #[] #[]))
    (x : ByteArray) (hx : textV k n s = x) (hs : x.size ≤ 1099511627776) :
    Calls Tryz.prog 131 #[.slice (some ⟨b, off, none⟩) 1 c, .pointer (some ⟨bt, 0, none⟩)] w (RetV (vv 2 0 (turnedS largeU x)) 0 w) := by
  have HX := Lib.hid hx
  have HN := Lib.hid hn
  have HWd := Lib.hid (hW.on (w1_below w))
  obtain ⟨c0, c1, c2⟩ := (hR.on (w1_below w)).one
  have hbt : bt < w.heap.size := block_lt_of_cell ht
  have HT := Lib.hid ht
  have HV := Lib.hid (fun (X : World) => Lib.run_convert_string_bytes (P := Tryz.prog) X 9 91 5 x Tryz.underlying9 Tryz.underlying91 Tryz.underlying5)
  clear hx hn hW hR ht
  go_enter Tryz.func131, Tryz.ntmps131
  go_wp2_with (go_at_call 83; refine (Text_any _ _ _ _ HN.out HWd.out).mono ?_; rintro e wa ⟨rfl, ba⟩; rw [HX.out]; have hcur := Lib.hid ba; have hcv := HV.out wa; have HB := Lib.hid (turn_begin largeU x _ _ wa ba ba.size); have hza := ba.size)
  go_loopw [6, 7, 15] (fun _ _ i wr => TurnRel largeU x (w1 w).heap.size wa.heap.size (w1 w) i wr) (fun _ _ i _ => x.size - (intOf i).toNat)
  case atStart => exact HB.out
  case round =>
    obtain ⟨q, hq, rfl, hb, hz, hc⟩ := hrel
    have hcur2 := Lib.hid hb
    clear hb
    by_cases hlt : q < x.size
    · obtain ⟨hq1, hq2⟩ := hc q hlt
      have hu : (midU largeU x q q).toNat < 256 := (midU largeU x q q).toNat_lt
      have hf : wr.cell? ⟨bt, 0, none⟩ = some (.func (.func 112) #[] #[]) := (((w1_below w).trans (hcur2.out.mono (by simp))).cell hbt).trans HT.out
      have HS := Lib.hid (fun z hv i hi => turn_step largeU x _ wa.heap.size q (w1 w) _ hlt hza hcur2.out hz hc z hv i hi)
      clear hc
      go_wp2_with (go_at_call 112; refine (large_any _ _ hu).mono ?_; rintro e w' ⟨rfl, rfl⟩)
      exact ⟨HS.out _ (by rw [largeU_n]; simp [midU]) _ (by go_num), by simp [intOf]; omega⟩
    · have hk' : q = x.size := by omega
      subst hk'
      have hst := turn_end largeU x wa.heap.size _ hz hc
      clear hc
      go_wp2_with (go_at_call 82; refine (textValue_any _ _).mono ?_; rintro e wb ⟨rfl, bb⟩; have hcur3 := Lib.hid (hcur2.out.trans (bb.mono hcur2.out.size)); obtain ⟨u0, u1, u2, v0, v1, v2⟩ := w1_out w _ hcur3.out; have hz : w.heap.size < wb.heap.size := (by have := hcur3.out.size; simp at this; omega))
      exact bodyPost_ret (v := .tuple #[vv 2 0 (turnedS largeU x), .int .i64 0]) (by simp [results, Tryz.results131, go_sem, u0, u1, u2]) rfl ⟨rfl, w1_end _ _ hcur3.out _ _ _⟩

set_option maxRecDepth 100000 in
set_option maxHeartbeats 800000 in
theorem lowerCallC (b off c bt : Nat) (k n : Int) (s : ByteArray) (w : World) (hn : In64 n) (hW : Wd w) (hR : RdV w b off [(k, n, s)]) (ht : w.cell? ⟨bt, 0, none⟩ = some (.func (.func 113) #[] #[]))
    (x : ByteArray) (hx : textV k n s = x) (hs : x.size ≤ 1099511627776) :
    Calls Tryz.prog 131 #[.slice (some ⟨b, off, none⟩) 1 c, .pointer (some ⟨bt, 0, none⟩)] w (RetV (vv 2 0 (turnedS smallU x)) 0 w) := by
  have HX := Lib.hid hx
  have HN := Lib.hid hn
  have HWd := Lib.hid (hW.on (w1_below w))
  obtain ⟨c0, c1, c2⟩ := (hR.on (w1_below w)).one
  have hbt : bt < w.heap.size := block_lt_of_cell ht
  have HT := Lib.hid ht
  have HV := Lib.hid (fun (X : World) => Lib.run_convert_string_bytes (P := Tryz.prog) X 9 91 5 x Tryz.underlying9 Tryz.underlying91 Tryz.underlying5)
  clear hx hn hW hR ht
  go_enter Tryz.func131, Tryz.ntmps131
  go_wp2_with (go_at_call 83; refine (Text_any _ _ _ _ HN.out HWd.out).mono ?_; rintro e wa ⟨rfl, ba⟩; rw [HX.out]; have hcur := Lib.hid ba; have hcv := HV.out wa; have HB := Lib.hid (turn_begin smallU x _ _ wa ba ba.size); have hza := ba.size)
  go_loopw [6, 7, 15] (fun _ _ i wr => TurnRel smallU x (w1 w).heap.size wa.heap.size (w1 w) i wr) (fun _ _ i _ => x.size - (intOf i).toNat)
  case atStart => exact HB.out
  case round =>
    obtain ⟨q, hq, rfl, hb, hz, hc⟩ := hrel
    have hcur2 := Lib.hid hb
    clear hb
    by_cases hlt : q < x.size
    · obtain ⟨hq1, hq2⟩ := hc q hlt
      have hu : (midU smallU x q q).toNat < 256 := (midU smallU x q q).toNat_lt
      have hf : wr.cell? ⟨bt, 0, none⟩ = some (.func (.func 113) #[] #[]) := (((w1_below w).trans (hcur2.out.mono (by simp))).cell hbt).trans HT.out
      have HS := Lib.hid (fun z hv i hi => turn_step smallU x _ wa.heap.size q (w1 w) _ hlt hza hcur2.out hz hc z hv i hi)
      clear hc
      go_wp2_with (go_at_call 113; refine (small_any _ _ hu).mono ?_; rintro e w' ⟨rfl, rfl⟩)
      exact ⟨HS.out _ (by rw [smallU_n]; simp [midU]) _ (by go_num), by simp [intOf]; omega⟩
    · have hk' : q = x.size := by omega
      subst hk'
      have hst := turn_end smallU x wa.heap.size _ hz hc
      clear hc
      go_wp2_with (go_at_call 82; refine (textValue_any _ _).mono ?_; rintro e wb ⟨rfl, bb⟩; have hcur3 := Lib.hid (hcur2.out.trans (bb.mono hcur2.out.size)); obtain ⟨u0, u1, u2, v0, v1, v2⟩ := w1_out w _ hcur3.out; have hz : w.heap.size < wb.heap.size := (by have := hcur3.out.size; simp at this; omega))
      exact bodyPost_ret (v := .tuple #[vv 2 0 (turnedS smallU x), .int .i64 0]) (by simp [results, Tryz.results131, go_sem, u0, u1, u2]) rfl ⟨rfl, w1_end _ _ hcur3.out _ _ _⟩

set_option maxRecDepth 100000 in
set_option maxHeartbeats 800000 in
theorem instrCallC (b off c : Nat) (k n : Int) (s : ByteArray) (k' n' : Int) (s' : ByteArray) (w : World) (hn : In64 n) (hn' : In64 n') (hW : Wd w) (hs : (textV k n s).size ≤ 65536) (hR : RdV w b off [(k, n, s), (k', n', s')]) (z : Int) (hz0 : Lib.index (textV k n s).data.toList (textV k' n' s').data.toList = z) :
    Calls Tryz.prog 121 #[.slice (some ⟨b, off, none⟩) 2 c] w (RetV (vv 1 (z + 1) ⟨#[]⟩) 0 w) := by
  have hzr := index_range (textV k n s).data.toList (textV k' n' s').data.toList (by have : (textV k n s).data.toList.length = (textV k n s).size := by { rcases textV k n s with ⟨⟨l⟩⟩; rfl }
                                                                                     omega)
  rw [hz0] at hzr
  obtain ⟨hz1, hz2⟩ := hzr
  have HWr := Lib.hid (show IntKind.i64.wrap (z + 1) = z + 1 from IntWalk.i64_in _ (by omega))
  have HZ := Lib.hid hz0
  have HN := Lib.hid hn
  have HN' := Lib.hid hn'
  have HWd := Lib.hid hW
  have HS := Lib.hid (show (textV k n s).size < 4294967281 by omega)
  have F := fun (X : World) (h : Below w.heap.size w X) => (hR.on h).two
  clear hz0 hn hn' hW hs hR
  go_enter Tryz.func121, Tryz.ntmps121
  go_wp2_with fail
  go_region_held3 (fun X => X.cell? ⟨b, off, none⟩ = some (.int .u8 k) ∧ X.cell? ⟨b, off + 1, none⟩ = some (.int .i64 n) ∧ X.cell? ⟨b, off + 2, none⟩ = some (.string s) ∧
      X.cell? ⟨b, off + 3, none⟩ = some (.int .u8 k') ∧ X.cell? ⟨b, off + 3 + 1, none⟩ = some (.int .i64 n') ∧ X.cell? ⟨b, off + 3 + 2, none⟩ = some (.string s'))
    (first | exact F _ (w1_end _ _ hcur.out _ _ _) | exact F _ ((w1_below w).trans (hcur.out.mono (by simp))) | exact F _ (w1_below w).drew)
    (first
      | (go_at_call 83; (first | (with_reducible refine (Text_any _ _ _ _ HN.out (HWd.out.on ((w1_below w).trans (hcur.out.mono (by simp))))).mono ?_) | (with_reducible refine (Text_any _ _ _ _ HN'.out (HWd.out.on ((w1_below w).trans (hcur.out.mono (by simp))))).mono ?_) | (with_reducible refine (Text_any _ _ _ _ HN.out (HWd.out.on (w1_below w).drew)).mono ?_)); rintro e wa ⟨rfl, ba⟩; (first | (have hcur := Lib.hid (hcur.out.trans (ba.mono hcur.out.size))) | (have hcur := Lib.hid ((Below.refl (w1 w).heap.size (w1 w)).drew.trans ba))))
      | (go_at_call 122; refine (Tryz.strings_Index _ _ _ _ HS.out (HWd.out.on ((w1_below w).trans (hcur.out.mono (by simp)))).2.choose_spec).mono ?_; rintro e wa ⟨rfl, rfl⟩; rw [HZ.out])
      | (go_at_call 81; refine (intValue_any _ _).mono ?_; rintro e wb ⟨rfl, bb⟩; have hcur := Lib.hid (hcur.out.trans (bb.mono hcur.out.size)); obtain ⟨u0, u1, u2, v0, v1, v2⟩ := w1_out w _ hcur.out; have hz : w.heap.size < wb.heap.size := (by have := hcur.out.size; simp at this; omega)))
  go_wp2_with fail
  exact bodyPost_ret (v := .tuple #[vv 1 (z + 1) ⟨#[]⟩, .int .i64 0]) (by simp [results, Tryz.results121, go_sem, u0, u1, u2, HWr.out]) rfl ⟨rfl, w1_end _ _ hcur.out _ _ _⟩

set_option maxRecDepth 100000 in
theorem hexCallC (b off c : Nat) (k n : Int) (s : ByteArray) (w : World) (hn : In64 n) (hW : Wd w) (x y : Int) (z : ByteArray) (er : Int) (hR : RdV w b off [(k, n, s)])
    (H : ∀ W, Below w.heap.size w W → Calls Tryz.prog 119 #[.string (textV k n s)] W (RetV (vv x y z) er W)) :
    Calls Tryz.prog 118 #[.slice (some ⟨b, off, none⟩) 1 c] w (RetV (vv x y z) er w) := by
  have HN := Lib.hid hn
  have HWd := Lib.hid (hW.on (w1_below w))
  have HH := Lib.hid H
  obtain ⟨c0, c1, c2⟩ := (hR.on (w1_below w)).one
  clear hn hW H hR
  go_enter Tryz.func118, Tryz.ntmps118
  go_wp2_with (first
    | (go_at_call 83; refine (Text_any _ _ _ _ HN.out HWd.out).mono ?_; rintro e wa ⟨rfl, ba⟩; have hcur := Lib.hid ba)
    | (go_at_call 119; refine (HH.out _ ((w1_below w).trans (hcur.out.mono (by simp)))).mono ?_; rintro e wb ⟨rfl, bb⟩; have hcur := Lib.hid (hcur.out.trans (bb.mono hcur.out.size)); obtain ⟨u0, u1, u2, v0, v1, v2⟩ := w1_out w _ hcur.out; have hz : w.heap.size < wb.heap.size := (by have := hcur.out.size; simp at this; omega)))
  exact bodyPost_ret (v := .tuple #[vv x y z, .int .i64 er]) (by simp [results, Tryz.results118, go_sem, u0, u1, u2]) rfl ⟨rfl, w1_end _ _ hcur.out _ _ _⟩


set_option maxRecDepth 100000 in
set_option maxHeartbeats 800000 in
theorem subCall2C (b off c : Nat) (k n : Int) (s : ByteArray) (k' n' : Int) (s' : ByteArray) (w : World) (hn : In64 n) (hW : Wd w) (hs : (textV k n s).size ≤ 1099511627776) (hk : k ≠ 3) (hc : (2 : Int) ≤ (c : Int)) (hne : ¬ c = 2)
    (hs' : s'.size ≤ 4611686018427387904) (hi : In64 (intV k' n' s')) (hR : RdV w b off [(k, n, s), (k', n', s')]) (cut : ByteArray) (hcv : cutS (textV k n s) (fromP (textV k n s).size (intV k' n' s')) ((textV k n s).size + 1) = cut) :
    Calls Tryz.prog 123 #[.slice (some ⟨b, off, none⟩) 2 c] w (RetV (vv 2 0 cut) 0 w) := by
  have HC := Lib.hid hcv
  have HN := Lib.hid hn
  have HWd := Lib.hid hW
  have HS := Lib.hid hs
  have HI := Lib.hid hi
  have F := fun (X : World) (h : Below w.heap.size w X) => (hR.on h).two
  clear hcv hn hW hs hi hR
  go_enter Tryz.func123, Tryz.ntmps123
  go_wp2_with fail
  go_region_held3 (fun X => X.cell? ⟨b, off, none⟩ = some (.int .u8 k) ∧ X.cell? ⟨b, off + 1, none⟩ = some (.int .i64 n) ∧ X.cell? ⟨b, off + 2, none⟩ = some (.string s) ∧
      X.cell? ⟨b, off + 3, none⟩ = some (.int .u8 k') ∧ X.cell? ⟨b, off + 3 + 1, none⟩ = some (.int .i64 n') ∧ X.cell? ⟨b, off + 3 + 2, none⟩ = some (.string s'))
    (first | exact F _ (w1_end _ _ hcur.out _ _ _) | exact F _ ((w1_below w).trans (hcur.out.mono (by simp))) | exact F _ (w1_below w).drew)
    (first
      | (go_at_call 35; refine (Int_any _ _ _ _ hs').mono ?_; rintro e wa ⟨rfl, ba⟩; have hcur := Lib.hid ((Below.refl (w1 w).heap.size (w1 w)).drew.trans ba))
      | (go_at_call 124; refine (substr_two k n s _ _ _ _ HN.out HI.out (HWd.out.on ((w1_below w).trans (hcur.out.mono (by simp)))) HS.out hk).mono ?_; rintro e wb ⟨rfl, bb⟩; rw [HC.out]; have hcur := Lib.hid (hcur.out.trans (bb.mono hcur.out.size)); obtain ⟨u0, u1, u2, v0, v1, v2⟩ := w1_out w _ hcur.out; have hz : w.heap.size < wb.heap.size := (by have := hcur.out.size; simp at this; omega)))
  go_wp2_with fail
  exact bodyPost_ret (v := .tuple #[vv 2 0 cut, .int .i64 0]) (by simp [results, Tryz.results123, go_sem, u0, u1, u2]) rfl ⟨rfl, w1_end _ _ hcur.out _ _ _⟩


set_option maxRecDepth 100000 in
set_option maxHeartbeats 800000 in
theorem subCall3C (b off c : Nat) (k n : Int) (s : ByteArray) (k' n' : Int) (s' : ByteArray) (k2 n2 : Int) (s2 : ByteArray) (w : World) (hn : In64 n) (hW : Wd w) (hs : (textV k n s).size ≤ 1099511627776) (hk : k ≠ 3) (hc : (3 : Int) ≤ (c : Int)) (hne : ¬ c = 2)
    (hs' : s'.size ≤ 4611686018427387904) (hi : In64 (intV k' n' s')) (hs2 : s2.size ≤ 4611686018427387904) (hi2 : In64 (intV k2 n2 s2)) (hR : RdV w b off [(k, n, s), (k', n', s'), (k2, n2, s2)]) :
    Calls Tryz.prog 123 #[.slice (some ⟨b, off, none⟩) 3 c] w (RetV (vv 2 0 (cutS (textV k n s) (min (fromP (textV k n s).size (intV k' n' s')) (addW (fromP (textV k n s).size (intV k' n' s')) (intV k2 n2 s2))) (max (fromP (textV k n s).size (intV k' n' s')) (addW (fromP (textV k n s).size (intV k' n' s')) (intV k2 n2 s2))))) 0 w) := by
  generalize hcv : cutS (textV k n s) (min (fromP (textV k n s).size (intV k' n' s')) (addW (fromP (textV k n s).size (intV k' n' s')) (intV k2 n2 s2))) (max (fromP (textV k n s).size (intV k' n' s')) (addW (fromP (textV k n s).size (intV k' n' s')) (intV k2 n2 s2))) = cut
  have HC := Lib.hid hcv
  have HN := Lib.hid hn
  have HWd := Lib.hid hW
  have HS := Lib.hid hs
  have HS2 := Lib.hid hs2
  have HI := Lib.hid hi
  have HI2 := Lib.hid hi2
  have HR := Lib.hid hR
  have F := fun (X : World) (h : Below w.heap.size w X) => (hR.on h).two
  clear hcv hn hW hs hs2 hi hi2 hR
  go_enter Tryz.func123, Tryz.ntmps123
  go_wp2_with fail
  go_region_held3 (fun X => X.cell? ⟨b, off, none⟩ = some (.int .u8 k) ∧ X.cell? ⟨b, off + 1, none⟩ = some (.int .i64 n) ∧ X.cell? ⟨b, off + 2, none⟩ = some (.string s) ∧
      X.cell? ⟨b, off + 3, none⟩ = some (.int .u8 k') ∧ X.cell? ⟨b, off + 3 + 1, none⟩ = some (.int .i64 n') ∧ X.cell? ⟨b, off + 3 + 2, none⟩ = some (.string s'))
    (first | exact F _ (w1_end _ _ hcur.out _ _ _) | exact F _ ((w1_below w).trans (hcur.out.mono (by simp))) | exact F _ (w1_below w).drew)
    (first
      | (go_at_call 35; refine (Int_any _ _ _ _ hs').mono ?_; rintro e wa ⟨rfl, ba⟩; have hcur := Lib.hid ((Below.refl (w1 w).heap.size (w1 w)).drew.trans ba))
      | (go_at_call 124; refine (substr_three k n s _ b (off + 6) _ k2 n2 s2 _ HN.out HI.out (HWd.out.on ((w1_below w).trans (hcur.out.mono (by simp)))) HS.out hk HS2.out HI2.out (HR.out.on ((w1_below w).trans (hcur.out.mono (by simp)))).third).mono ?_; rintro e wb ⟨rfl, bb⟩; rw [HC.out]; have hcur := Lib.hid (hcur.out.trans (bb.mono hcur.out.size)); obtain ⟨u0, u1, u2, v0, v1, v2⟩ := w1_out w _ hcur.out; have hz : w.heap.size < wb.heap.size := (by have := hcur.out.size; simp at this; omega)))
  go_wp2_with fail
  exact bodyPost_ret (v := .tuple #[vv 2 0 cut, .int .i64 0]) (by simp [results, Tryz.results123, go_sem, u0, u1, u2]) rfl ⟨rfl, w1_end _ _ hcur.out _ _ _⟩


set_option maxRecDepth 100000 in
set_option maxHeartbeats 800000 in
theorem substr_twoB (n : Int) (s : ByteArray) (f : Int) (A : Option Addr) (c : Nat) (w : World) (hn : In64 n) (hf : In64 f) (hW : Wd w) (hs : (textV 3 n s).size ≤ 1099511627776) :
    Calls Tryz.prog 124 #[vv 3 n s, .int .i64 f, .slice A 0 c] w fun e w' => e = .returned (vv 3 0 (cutS (textV 3 n s) (fromP (textV 3 n s).size f) ((textV 3 n s).size + 1))) ∧ Below w.heap.size w w' := by
  have HWd := Lib.hid (hW.on (w2_below w 3 n s))
  have HN := Lib.hid hn
  unfold In64 at hf
  obtain ⟨hf1, hf2⟩ := hf
  clear hW hn
  go_enter Tryz.func124, Tryz.ntmps124
  go_wp2_with (first
    | (go_at_call 83; refine (Text_any _ _ _ _ HN.out HWd.out).mono ?_; rintro e wa ⟨rfl, ba⟩; have HB := Lib.hid ba; obtain ⟨g0, u0, u1, u2, v0, v1, v2⟩ := w2_out _ _ _ _ _ ba; have hz : w.heap.size + 1 < wa.heap.size := (by have := ba.size; rw [w2_size] at this; omega); clear ba))
  all_goals
    generalize hx : ByteArray.extract _ _ _ = cut
    have HX := Lib.hid hx
    clear hx
    refine bodyPost_ret (v := vv 3 0 cut) (by simp [results, Tryz.results124, go_sem, u0, u1, u2]) rfl ⟨?_, w2_end _ _ _ _ _ HB.out _ _ _⟩
    rw [← HX.out]
    unfold cutS subB subF fromP
    exact congrArg (fun x => Ending.returned (vv 3 0 x)) (extract_eq (by (repeat' split) <;> omega) (by (repeat' split) <;> omega))


set_option maxRecDepth 100000 in
set_option maxHeartbeats 800000 in
theorem substr_threeB (n : Int) (s : ByteArray) (f : Int) (b off c : Nat) (k' n' : Int) (s' : ByteArray) (w : World) (hn : In64 n) (hf : In64 f) (hW : Wd w) (hs : (textV 3 n s).size ≤ 1099511627776)
    (hs' : s'.size ≤ 4611686018427387904) (hi : In64 (intV k' n' s')) (hR : RdV w b off [(k', n', s')]) :
    Calls Tryz.prog 124 #[vv 3 n s, .int .i64 f, .slice (some ⟨b, off, none⟩) 1 c] w fun e w' => e = .returned (vv 3 0 (cutS (textV 3 n s) (min (fromP (textV 3 n s).size f) (addW (fromP (textV 3 n s).size f) (intV k' n' s'))) (max (fromP (textV 3 n s).size f) (addW (fromP (textV 3 n s).size f) (intV k' n' s'))))) ∧ Below w.heap.size w w' := by
  have HWd := Lib.hid (hW.on (w2_below w 3 n s))
  have HN := Lib.hid hn
  have HS := Lib.hid hs'
  have HI := Lib.hid hi
  have HR := Lib.hid hR
  have hf0 := hf
  unfold In64 at hf
  obtain ⟨hf1, hf2⟩ := hf
  clear hW hn hs' hi hR hf0
  by_cases hneg : f < 0
  · have hfp : (textV 3 n s).size + 1 + f = fromP (textV 3 n s).size f := by unfold fromP; rw [if_pos hneg]
    have HFP := Lib.hid hfp
    clear hfp
    go_enter Tryz.func124, Tryz.ntmps124
    go_wp2_with (first
      | (go_at_call 83; refine (Text_any _ _ _ _ HN.out HWd.out).mono ?_; rintro e wa ⟨rfl, ba⟩; have HB := Lib.hid ba; obtain ⟨g0, _, _, _, _, _, _⟩ := w2_out _ _ _ _ _ ba; obtain ⟨r0, r1, r2⟩ := (HR.out.on (w2_end0 _ _ _ _ _ HB.out)).2 0 k' n' s' rfl; simp only [Nat.zero_mul, Nat.add_zero] at r0 r1 r2; clear ba)
      | (go_at_call 35; refine (Int_any _ _ _ _ HS.out).mono ?_; rintro e wb ⟨rfl, bb⟩; have HB := Lib.hid (HB.out.trans (bb.mono HB.out.size)); obtain ⟨g0, u0, u1, u2, v0, v1, v2⟩ := w2_out _ _ _ _ _ HB.out; have hz : w.heap.size + 1 < wb.heap.size := (by have := HB.out.size; rw [w2_size] at this; omega); clear bb)
      | (go_at_call 135; refine (stretch_any _ _ _ (by unfold In64; omega) HI.out).mono ?_; rintro e wb ⟨lo, hi, rfl, hlo, hhi, rfl⟩; have HLO := Lib.hid hlo; have HHI := Lib.hid hhi; clear hlo hhi))
    generalize hx : ByteArray.extract _ _ _ = cut
    have HX := Lib.hid hx
    clear hx
    refine bodyPost_ret (v := vv 3 0 cut) (by simp [results, Tryz.results124, go_sem, u0, u1, u2]) rfl ⟨?_, w2_end _ _ _ _ _ HB.out _ _ _⟩
    have h1 := HLO.out
    have h2 := HHI.out
    rw [HFP.out] at h1 h2
    rw [← HX.out, ← h1, ← h2]
    unfold cutS subB subF
    exact congrArg (fun x => Ending.returned (vv 3 0 x)) (extract_eq (by (repeat' split) <;> omega) (by (repeat' split) <;> omega))
  · have hfp : f = fromP (textV 3 n s).size f := by unfold fromP; rw [if_neg hneg]
    have HFP := Lib.hid hfp
    clear hfp
    go_enter Tryz.func124, Tryz.ntmps124
    go_wp2_with (first
      | (go_at_call 83; refine (Text_any _ _ _ _ HN.out HWd.out).mono ?_; rintro e wa ⟨rfl, ba⟩; have HB := Lib.hid ba; obtain ⟨g0, _, _, _, _, _, _⟩ := w2_out _ _ _ _ _ ba; obtain ⟨r0, r1, r2⟩ := (HR.out.on (w2_end0 _ _ _ _ _ HB.out)).2 0 k' n' s' rfl; simp only [Nat.zero_mul, Nat.add_zero] at r0 r1 r2; clear ba)
      | (go_at_call 35; refine (Int_any _ _ _ _ HS.out).mono ?_; rintro e wb ⟨rfl, bb⟩; have HB := Lib.hid (HB.out.trans (bb.mono HB.out.size)); obtain ⟨g0, u0, u1, u2, v0, v1, v2⟩ := w2_out _ _ _ _ _ HB.out; have hz : w.heap.size + 1 < wb.heap.size := (by have := HB.out.size; rw [w2_size] at this; omega); clear bb)
      | (go_at_call 135; refine (stretch_any _ _ _ (by unfold In64; omega) HI.out).mono ?_; rintro e wb ⟨lo, hi, rfl, hlo, hhi, rfl⟩; have HLO := Lib.hid hlo; have HHI := Lib.hid hhi; clear hlo hhi))
    generalize hx : ByteArray.extract _ _ _ = cut
    have HX := Lib.hid hx
    clear hx
    refine bodyPost_ret (v := vv 3 0 cut) (by simp [results, Tryz.results124, go_sem, u0, u1, u2]) rfl ⟨?_, w2_end _ _ _ _ _ HB.out _ _ _⟩
    have h1 := HLO.out
    have h2 := HHI.out
    rw [← HX.out, ← HFP.out, ← h1, ← h2]
    unfold cutS subB subF
    exact congrArg (fun x => Ending.returned (vv 3 0 x)) (extract_eq (by (repeat' split) <;> omega) (by (repeat' split) <;> omega))

set_option maxRecDepth 100000 in
set_option maxHeartbeats 800000 in
theorem subCall2B (b off c : Nat) (n : Int) (s : ByteArray) (k' n' : Int) (s' : ByteArray) (w : World) (hn : In64 n) (hW : Wd w) (hs : (textV 3 n s).size ≤ 1099511627776) (hc : (2 : Int) ≤ (c : Int)) (hne : ¬ c = 2)
    (hs' : s'.size ≤ 4611686018427387904) (hi : In64 (intV k' n' s')) (hR : RdV w b off [(3, n, s), (k', n', s')]) (cut : ByteArray) (hcv : cutS (textV 3 n s) (fromP (textV 3 n s).size (intV k' n' s')) ((textV 3 n s).size + 1) = cut) :
    Calls Tryz.prog 123 #[.slice (some ⟨b, off, none⟩) 2 c] w (RetV (vv 3 0 cut) 0 w) := by
  have HC := Lib.hid hcv
  have HN := Lib.hid hn
  have HWd := Lib.hid hW
  have HS := Lib.hid hs
  have HI := Lib.hid hi
  have F := fun (X : World) (h : Below w.heap.size w X) => (hR.on h).two
  clear hcv hn hW hs hi hR
  go_enter Tryz.func123, Tryz.ntmps123
  go_wp2_with fail
  go_region_held3 (fun X => X.cell? ⟨b, off, none⟩ = some (.int .u8 3) ∧ X.cell? ⟨b, off + 1, none⟩ = some (.int .i64 n) ∧ X.cell? ⟨b, off + 2, none⟩ = some (.string s) ∧
      X.cell? ⟨b, off + 3, none⟩ = some (.int .u8 k') ∧ X.cell? ⟨b, off + 3 + 1, none⟩ = some (.int .i64 n') ∧ X.cell? ⟨b, off + 3 + 2, none⟩ = some (.string s'))
    (first | exact F _ (w1_end _ _ hcur.out _ _ _) | exact F _ ((w1_below w).trans (hcur.out.mono (by simp))) | exact F _ (w1_below w).drew)
    (first
      | (go_at_call 35; refine (Int_any _ _ _ _ hs').mono ?_; rintro e wa ⟨rfl, ba⟩; have hcur := Lib.hid ((Below.refl (w1 w).heap.size (w1 w)).drew.trans ba))
      | (go_at_call 124; refine (substr_twoB n s _ _ _ _ HN.out HI.out (HWd.out.on ((w1_below w).trans (hcur.out.mono (by simp)))) HS.out).mono ?_; rintro e wb ⟨rfl, bb⟩; rw [HC.out]; have hcur := Lib.hid (hcur.out.trans (bb.mono hcur.out.size)); obtain ⟨u0, u1, u2, v0, v1, v2⟩ := w1_out w _ hcur.out; have hz : w.heap.size < wb.heap.size := (by have := hcur.out.size; simp at this; omega)))
  go_wp2_with fail
  exact bodyPost_ret (v := .tuple #[vv 3 0 cut, .int .i64 0]) (by simp [results, Tryz.results123, go_sem, u0, u1, u2]) rfl ⟨rfl, w1_end _ _ hcur.out _ _ _⟩


set_option maxRecDepth 100000 in
set_option maxHeartbeats 800000 in
theorem subCall3B (b off c : Nat) (n : Int) (s : ByteArray) (k' n' : Int) (s' : ByteArray) (k2 n2 : Int) (s2 : ByteArray) (w : World) (hn : In64 n) (hW : Wd w) (hs : (textV 3 n s).size ≤ 1099511627776) (hc : (3 : Int) ≤ (c : Int)) (hne : ¬ c = 2)
    (hs' : s'.size ≤ 4611686018427387904) (hi : In64 (intV k' n' s')) (hs2 : s2.size ≤ 4611686018427387904) (hi2 : In64 (intV k2 n2 s2)) (hR : RdV w b off [(3, n, s), (k', n', s'), (k2, n2, s2)]) :
    Calls Tryz.prog 123 #[.slice (some ⟨b, off, none⟩) 3 c] w (RetV (vv 3 0 (cutS (textV 3 n s) (min (fromP (textV 3 n s).size (intV k' n' s')) (addW (fromP (textV 3 n s).size (intV k' n' s')) (intV k2 n2 s2))) (max (fromP (textV 3 n s).size (intV k' n' s')) (addW (fromP (textV 3 n s).size (intV k' n' s')) (intV k2 n2 s2))))) 0 w) := by
  generalize hcv : cutS (textV 3 n s) (min (fromP (textV 3 n s).size (intV k' n' s')) (addW (fromP (textV 3 n s).size (intV k' n' s')) (intV k2 n2 s2))) (max (fromP (textV 3 n s).size (intV k' n' s')) (addW (fromP (textV 3 n s).size (intV k' n' s')) (intV k2 n2 s2))) = cut
  have HC := Lib.hid hcv
  have HN := Lib.hid hn
  have HWd := Lib.hid hW
  have HS := Lib.hid hs
  have HS2 := Lib.hid hs2
  have HI := Lib.hid hi
  have HI2 := Lib.hid hi2
  have HR := Lib.hid hR
  have F := fun (X : World) (h : Below w.heap.size w X) => (hR.on h).two
  clear hcv hn hW hs hs2 hi hi2 hR
  go_enter Tryz.func123, Tryz.ntmps123
  go_wp2_with fail
  go_region_held3 (fun X => X.cell? ⟨b, off, none⟩ = some (.int .u8 3) ∧ X.cell? ⟨b, off + 1, none⟩ = some (.int .i64 n) ∧ X.cell? ⟨b, off + 2, none⟩ = some (.string s) ∧
      X.cell? ⟨b, off + 3, none⟩ = some (.int .u8 k') ∧ X.cell? ⟨b, off + 3 + 1, none⟩ = some (.int .i64 n') ∧ X.cell? ⟨b, off + 3 + 2, none⟩ = some (.string s'))
    (first | exact F _ (w1_end _ _ hcur.out _ _ _) | exact F _ ((w1_below w).trans (hcur.out.mono (by simp))) | exact F _ (w1_below w).drew)
    (first
      | (go_at_call 35; refine (Int_any _ _ _ _ hs').mono ?_; rintro e wa ⟨rfl, ba⟩; have hcur := Lib.hid ((Below.refl (w1 w).heap.size (w1 w)).drew.trans ba))
      | (go_at_call 124; refine (substr_threeB n s _ b (off + 6) _ k2 n2 s2 _ HN.out HI.out (HWd.out.on ((w1_below w).trans (hcur.out.mono (by simp)))) HS.out HS2.out HI2.out (HR.out.on ((w1_below w).trans (hcur.out.mono (by simp)))).third).mono ?_; rintro e wb ⟨rfl, bb⟩; rw [HC.out]; have hcur := Lib.hid (hcur.out.trans (bb.mono hcur.out.size)); obtain ⟨u0, u1, u2, v0, v1, v2⟩ := w1_out w _ hcur.out; have hz : w.heap.size < wb.heap.size := (by have := hcur.out.size; simp at this; omega)))
  go_wp2_with fail
  exact bodyPost_ret (v := .tuple #[vv 3 0 cut, .int .i64 0]) (by simp [results, Tryz.results123, go_sem, u0, u1, u2]) rfl ⟨rfl, w1_end _ _ hcur.out _ _ _⟩



theorem absolute_pos (n : Int) (h : 0 ≤ n) (w : World) : Calls Tryz.prog 115 #[.int .i64 n] w fun e w' => e = .returned (.tuple #[.int .i64 n, .bool true]) ∧ w = w' := by
  have q : ¬ n < 0 := by omega
  go_enter Tryz.func115, Tryz.ntmps115
  go_wp2_with fail
  exact bodyPost_ret (v := .tuple #[.int .i64 n, .bool true]) (by simp [results, Tryz.results115, go_sem]) rfl ⟨rfl, rfl⟩
theorem absolute_neg (n : Int) (h : n < 0) (hn : In64 n) (w : World) : Calls Tryz.prog 115 #[.int .i64 n] w fun e w' => e = .returned (.tuple #[.int .i64 (wrap64 (-n)), .bool (decide (In64 (-n)))]) ∧ w = w' := by
  have H0 := Lib.hid (show In64 0 by decide)
  have H1 := Lib.hid hn
  go_enter Tryz.func115, Tryz.ntmps115
  go_wp2_with (go_at_call 94; refine (subtract_any _ _ _ H0.out H1.out).mono ?_; rintro e wa ⟨rfl, rfl⟩)
  exact bodyPost_ret (v := .tuple #[.int .i64 (wrap64 (-n)), .bool (decide (In64 (-n)))]) (by simp [results, Tryz.results115, go_sem]) rfl ⟨rfl, rfl⟩
theorem in64_0 : In64 0 := by decide
theorem toInt_b (n : Int) (d : Bool) (w : World) : Calls Tryz.prog 93 #[.int .i64 n, .bool d] w fun e w' => e = .returned (.tuple #[bif d then vv 1 n ⟨#[]⟩ else nul, .int .i64 (bif d then 0 else 20)]) ∧ Below w.heap.size w w' := by
  cases d
  · exact toInt_no n w
  · exact toInt_yes n w
theorem absCallC (b off c : Nat) (k n : Int) (s : ByteArray) (w : World) (hs : s.size ≤ 4611686018427387904) (z : Int) (d : Bool) (hR : RdV w b off [(k, n, s)])
    (H : ∀ W, Calls Tryz.prog 115 #[.int .i64 (intV k n s)] W fun e w' => e = .returned (.tuple #[.int .i64 z, .bool d]) ∧ W = w') (x y : Int) (t : ByteArray) (er : Int) (hx : (bif d then vv 1 z ⟨#[]⟩ else nul) = vv x y t) (her : (bif d then (0 : Int) else 20) = er) :
    Calls Tryz.prog 114 #[.slice (some ⟨b, off, none⟩) 1 c] w (RetV (vv x y t) er w) := by
  obtain ⟨c0, c1, c2⟩ := (hR.on (w1_below w)).one
  have HH := Lib.hid H
  have HT := Lib.hid (fun W => toInt_b z d W)
  rw [hx, her] at HT
  clear hR H hx her
  go_enter Tryz.func114, Tryz.ntmps114
  go_wp2_with (first
    | (go_at_call 35; refine (Int_any _ _ _ _ hs).mono ?_; rintro e wa ⟨rfl, ba⟩; have hcur := Lib.hid ba)
    | (go_at_call 115; refine (HH.out _).mono ?_; rintro e wb ⟨rfl, rfl⟩)
    | (go_at_call 93; refine (HT.out _).mono ?_; rintro e wb ⟨rfl, bb⟩; have hcur := Lib.hid (hcur.out.trans (bb.mono hcur.out.size)); obtain ⟨u0, u1, u2, v0, v1, v2⟩ := w1_out w _ hcur.out; have hz : w.heap.size < wb.heap.size := (by have := hcur.out.size; simp at this; omega)))
  exact bodyPost_ret (v := .tuple #[vv x y t, .int .i64 er]) (by simp [results, Tryz.results114, go_sem, u0, u1, u2]) rfl ⟨rfl, w1_end _ _ hcur.out _ _ _⟩
theorem kindName_k (k : Int) (hk : k = 0 ∨ k = 1 ∨ k = 2 ∨ k = 3) : ∃ s : ByteArray, s.size ≤ 10 ∧ ∀ w, Calls Tryz.prog 117 #[.int .u8 k] w fun e w' => e = .returned (.string s) ∧ w = w' := by
  rcases hk with rfl | rfl | rfl | rfl
  · refine ⟨⟨#[110, 117, 108, 108]⟩, by decide, fun w => ?_⟩
    go_enter Tryz.func117, Tryz.ntmps117
    go_wp2
    go_ret
    exact ⟨rfl, rfl⟩
  · refine ⟨⟨#[105, 110, 116, 101, 103, 101, 114]⟩, by decide, fun w => ?_⟩
    go_enter Tryz.func117, Tryz.ntmps117
    go_wp2
    go_ret
    exact ⟨rfl, rfl⟩
  · refine ⟨⟨#[116, 101, 120, 116]⟩, by decide, fun w => ?_⟩
    go_enter Tryz.func117, Tryz.ntmps117
    go_wp2
    go_ret
    exact ⟨rfl, rfl⟩
  · refine ⟨⟨#[98, 108, 111, 98]⟩, by decide, fun w => ?_⟩
    go_enter Tryz.func117, Tryz.ntmps117
    go_wp2
    go_ret
    exact ⟨rfl, rfl⟩
theorem typeofCallC (b off c : Nat) (k n : Int) (s : ByteArray) (w : World) (x : ByteArray) (hR : RdV w b off [(k, n, s)])
    (H : ∀ W, Calls Tryz.prog 117 #[.int .u8 k] W fun e w' => e = .returned (.string x) ∧ W = w') :
    Calls Tryz.prog 116 #[.slice (some ⟨b, off, none⟩) 1 c] w (RetV (vv 2 0 x) 0 w) := by
  obtain ⟨c0, c1, c2⟩ := (hR.on (w1_below w)).one
  have HH := Lib.hid H
  clear hR H
  go_enter Tryz.func116, Tryz.ntmps116
  go_wp2_with (first
    | (go_at_call 117; refine (HH.out _).mono ?_; rintro e wa ⟨rfl, rfl⟩)
    | (go_at_call 82; refine (textValue_any _ _).mono ?_; rintro e wb ⟨rfl, bb⟩; have hcur := Lib.hid bb; obtain ⟨u0, u1, u2, v0, v1, v2⟩ := w1_out w _ hcur.out; have hz : w.heap.size < wb.heap.size := (by have := hcur.out.size; simp at this; omega)))
  exact bodyPost_ret (v := .tuple #[vv 2 0 x, .int .i64 0]) (by simp [results, Tryz.results116, go_sem, u0, u1, u2]) rfl ⟨rfl, w1_end _ _ hcur.out _ _ _⟩
set_option maxHeartbeats 800000 in
theorem Call_noA (name : ByteArray) (A : Option Addr) (cap len : Nat) (h : ∀ w, Calls Tryz.prog 78 #[.string name, .int .i64 (len : Int)] w (FindNo w)) (w : World) :
    Calls Tryz.prog 59 #[.string name, .slice A len cap] w (RetV nul 21 w) := by
  have H := Lib.hid h
  clear h
  go_enter Tryz.func59, Tryz.ntmps59
  go_wp2_with (go_at_call 78; refine (H.out _).mono ?_; rintro e wa ⟨rfl, ba⟩; have hcur := Lib.hid ba; clear ba; have hc2 := Lib.hid (Below.refl (wa.alloc (fbox 0 0 false .nilFunc)).heap.size (wa.alloc (fbox 0 0 false .nilFunc))); obtain ⟨u0, u1, u2, v0, v1, v2⟩ := w1_out w _ hcur.out; have hz : w.heap.size < wa.heap.size := (by have := hcur.out.size; simp at this; omega))
  have hE := w1_end w wa hcur.out (.int .u8 0) (.int .i64 0) (.string ⟨#[]⟩)
  exact bodyPost_ret (v := .tuple #[nul, .int .i64 21]) (by simp [results, Tryz.results59, go_sem, u0, u1, u2, hz]) rfl ⟨rfl, hE.alloc hE.size _⟩

set_option maxRecDepth 100000 in
set_option maxHeartbeats 800000 in
theorem subCall2B2 (b off : Nat) (n : Int) (s : ByteArray) (k' n' : Int) (s' : ByteArray) (w : World) (hn : In64 n) (hW : Wd w) (hs : (textV 3 n s).size ≤ 1099511627776)
    (hs' : s'.size ≤ 4611686018427387904) (hi : In64 (intV k' n' s')) (hR : RdV w b off [(3, n, s), (k', n', s')]) (cut : ByteArray) (hcv : cutS (textV 3 n s) (fromP (textV 3 n s).size (intV k' n' s')) ((textV 3 n s).size + 1) = cut) :
    Calls Tryz.prog 123 #[.slice (some ⟨b, off, none⟩) 2 2] w (RetV (vv 3 0 cut) 0 w) := by
  have HC := Lib.hid hcv
  have HN := Lib.hid hn
  have HWd := Lib.hid hW
  have HS := Lib.hid hs
  have HI := Lib.hid hi
  have F := fun (X : World) (h : Below w.heap.size w X) => (hR.on h).two
  clear hcv hn hW hs hi hR
  go_enter Tryz.func123, Tryz.ntmps123
  go_wp2_with fail
  go_region_held3 (fun X => X.cell? ⟨b, off, none⟩ = some (.int .u8 3) ∧ X.cell? ⟨b, off + 1, none⟩ = some (.int .i64 n) ∧ X.cell? ⟨b, off + 2, none⟩ = some (.string s) ∧
      X.cell? ⟨b, off + 3, none⟩ = some (.int .u8 k') ∧ X.cell? ⟨b, off + 3 + 1, none⟩ = some (.int .i64 n') ∧ X.cell? ⟨b, off + 3 + 2, none⟩ = some (.string s'))
    (first | exact F _ (w1_end _ _ hcur.out _ _ _) | exact F _ ((w1_below w).trans (hcur.out.mono (by simp))) | exact F _ (w1_below w).drew)
    (first
      | (go_at_call 35; refine (Int_any _ _ _ _ hs').mono ?_; rintro e wa ⟨rfl, ba⟩; have hcur := Lib.hid ((Below.refl (w1 w).heap.size (w1 w)).drew.trans ba))
      | (go_at_call 124; refine (substr_twoB n s _ _ _ _ HN.out HI.out (HWd.out.on ((w1_below w).trans (hcur.out.mono (by simp)))) HS.out).mono ?_; rintro e wb ⟨rfl, bb⟩; rw [HC.out]; have hcur := Lib.hid (hcur.out.trans (bb.mono hcur.out.size)); obtain ⟨u0, u1, u2, v0, v1, v2⟩ := w1_out w _ hcur.out; have hz : w.heap.size < wb.heap.size := (by have := hcur.out.size; simp at this; omega)))
  go_wp2_with fail
  exact bodyPost_ret (v := .tuple #[vv 3 0 cut, .int .i64 0]) (by simp [results, Tryz.results123, go_sem, u0, u1, u2]) rfl ⟨rfl, w1_end _ _ hcur.out _ _ _⟩

def DoesIs (g : Nat) (lb : Nat → Nat → Array Value) (ts : List Trip) (r : Rv) : Prop :=
  ∀ (W : World) (b off c c1 c2 : Nat), Wd W → RdV W b off ts → ts.length ≤ c → boxes W c1 c2 → Calls Tryz.prog g (#[.slice (some ⟨b, off, none⟩) ts.length c] ++ lb c1 c2) W (RetV (vT r.1) r.2 W)
theorem of_named {g : ByteArray} {least most : Int} {tn : Bool} {F : Nat} {lb : Nat → Nat → Array Value} (hN : Named g least most tn F lb) (hE : ∀ (args : Array Value) (W : World), (callFunc F args).run Tryz.prog W = .ok (.enter F args) W) (hl1 : 1 ≤ least) (ts : List Trip) (ho : ∀ t ∈ ts, OkT t) (hl : ts.length ≤ 500)
    (H : least ≤ (ts.length : Int) → (ts.length : Int) ≤ most → AllR ts → (tn = true ∨ ts.any pNul = false) → ∃ r, DoesIs F lb ts r ∧ OkT r.1) : ∃ r, CallIs g ts r ∧ OkT r.1 := by
  by_cases h1 : least ≤ (ts.length : Int)
  · by_cases h2 : (ts.length : Int) ≤ most
    · have hsz : ∀ t ∈ ts, t.2.2.size ≤ 9223372036854775807 := fun t ht => by have := (ho t ht).2; omega
      have h0 : 0 < ts.length := by omega
      by_cases hA : AllR ts
      · by_cases hn : tn = true ∨ ts.any pNul = false
        · obtain ⟨r, hr, hk⟩ := H h1 h2 hA hn
          refine ⟨r, fun w A c hW hR hc => ?_, hk⟩
          obtain h | ⟨b, o, rfl, hV⟩ := hR
          · subst h; simp at h0
          refine Call_fn g least most tn F lb hN b o c ts w (allR_size hA) (by omega) hV h1 h2 (allR_bad hA) hn r.1.1 r.1.2.1 r.1.2.2 r.2 hE ?_
          intro W c1 c2 hb hx
          exact hr W b o c c1 c2 (hW.on hb) (hV.on hb) hc hx
        · have ht : tn = false := by
            cases tn
            · rfl
            · exact absurd (.inl rfl) hn
          have hn2 : ts.any pNul = true := by
            cases h : ts.any pNul
            · exact absurd (.inr h) hn
            · rfl
          subst ht
          refine ⟨(nulT, 0), fun w A c hW hR hc => ?_, okT_nul⟩
          obtain h | ⟨b, o, rfl, hV⟩ := hR
          · subst h; simp at h0
          exact Call_null g least most F lb hN b o c ts w hsz (by omega) hV h1 h2 (allR_bad hA) hn2
      · refine ⟨(nulT, 2), fun w A c hW hR hc => ?_, okT_nul⟩
        obtain h | ⟨b, o, rfl, hV⟩ := hR
        · subst h; simp at h0
        have hbad : ts.any pBad = true := by
          cases h : ts.any pBad
          · exfalso
            apply hA
            intro t ht
            have := List.any_eq_false.1 h t ht
            simpa [pBad] using this
          · rfl
        exact Call_bad g least most tn F lb hN b o c ts w hsz (by omega) hV h1 h2 hbad
    · exact ⟨(nulT, 21), fun w A c hW hR hc => Call_noA g A c ts.length (fun w => find_many g least most _ tn F lb hN h1 (by omega) w) w, okT_nul⟩
  · exact ⟨(nulT, 21), fun w A c hW hR hc => Call_noA g A c ts.length (fun w => find_few g least most _ tn F lb hN (by omega) w) w, okT_nul⟩
theorem enters_length : ∀ (args : Array Value) (W : World), (callFunc 110 args).run Tryz.prog W = .ok (.enter 110 args) W := enters_of Tryz.func110 (by kernel_rfl) rfl
theorem enters_abs : ∀ (args : Array Value) (W : World), (callFunc 114 args).run Tryz.prog W = .ok (.enter 114 args) W := enters_of Tryz.func114 (by kernel_rfl) rfl
theorem enters_instr : ∀ (args : Array Value) (W : World), (callFunc 121 args).run Tryz.prog W = .ok (.enter 121 args) W := enters_of Tryz.func121 (by kernel_rfl) rfl
theorem enters_byte : ∀ (args : Array Value) (W : World), (callFunc 131 args).run Tryz.prog W = .ok (.enter 131 args) W := enters_of Tryz.func131 (by kernel_rfl) rfl
theorem one_of {ts : List Trip} (h : (1 : Int) ≤ (ts.length : Int)) (h2 : (ts.length : Int) ≤ 1) : ∃ t, ts = [t] := List.length_eq_one_iff.1 (by omega)
theorem two_of {ts : List Trip} (h : (2 : Int) ≤ (ts.length : Int)) (h2 : (ts.length : Int) ≤ 2) : ∃ t u, ts = [t, u] := by
  match ts, h, h2 with
  | [t, u], _, _ => exact ⟨t, u, rfl⟩
  | [], h, _ => simp at h
  | [t], h, _ => simp at h
  | t :: u :: v :: r, _, h => simp at h; omega
theorem two_or_three {ts : List Trip} (h : (2 : Int) ≤ (ts.length : Int)) (h2 : (ts.length : Int) ≤ 3) : (∃ t u, ts = [t, u]) ∨ ∃ t u v, ts = [t, u, v] := by
  match ts, h, h2 with
  | [t, u], _, _ => exact .inl ⟨t, u, rfl⟩
  | [t, u, v], _, _ => exact .inr ⟨t, u, v, rfl⟩
  | [], h, _ => simp at h
  | [t], h, _ => simp at h
  | t :: u :: v :: x :: r, _, h => simp at h; omega
theorem turnedS_size (F : UInt8 → UInt8) (s : ByteArray) : (turnedS F s).size = s.size := by
  rcases s with ⟨⟨l⟩⟩
  simp [turnedS, ByteArray.size]
theorem cutS_size (s : ByteArray) (a b : Int) : (cutS s a b).size ≤ s.size := by
  unfold cutS
  rw [ByteArray.size_extract]
  omega
theorem ok_length (ts : List Trip) (ho : ∀ t ∈ ts, OkT t) (hl : ts.length ≤ 500) : ∃ r, CallIs ⟨#[108, 101, 110, 103, 116, 104]⟩ ts r ∧ OkT r.1 :=
  of_named named_length enters_length (by decide) ts ho hl fun h1 h2 hA _ => by
    obtain ⟨⟨k, n, s⟩, rfl⟩ := one_of h1 h2
    have ht := ho _ (List.mem_singleton.2 rfl)
    refine ⟨((1, ((textV k n s).size : Int), ⟨#[]⟩), 0), fun W b off c c1 c2 hW hR hc _ => lengthCallC b off c k n s W ht.1 hW hR, ?_⟩
    have : (textV k n s).size ≤ 65536 := textT_size ht
    exact ⟨by show -9223372036854775808 ≤ _ ∧ _; simp only; omega, by show 0 ≤ _; omega⟩
theorem ok_upper (ts : List Trip) (ho : ∀ t ∈ ts, OkT t) (hl : ts.length ≤ 500) : ∃ r, CallIs ⟨#[117, 112, 112, 101, 114]⟩ ts r ∧ OkT r.1 :=
  of_named named_upper enters_byte (by decide) ts ho hl fun h1 h2 hA _ => by
    obtain ⟨⟨k, n, s⟩, rfl⟩ := one_of h1 h2
    have ht := ho _ (List.mem_singleton.2 rfl)
    have hs : (textV k n s).size ≤ 65536 := textT_size ht
    exact ⟨((2, 0, turnedS largeU (textV k n s)), 0), fun W b off c c1 c2 hW hR hc hx => upperCallC b off c c1 k n s W ht.1 hW hR hx.1 _ rfl (by omega), in64_0, by rw [turnedS_size]; exact hs⟩
theorem ok_lower (ts : List Trip) (ho : ∀ t ∈ ts, OkT t) (hl : ts.length ≤ 500) : ∃ r, CallIs ⟨#[108, 111, 119, 101, 114]⟩ ts r ∧ OkT r.1 :=
  of_named named_lower enters_byte (by decide) ts ho hl fun h1 h2 hA _ => by
    obtain ⟨⟨k, n, s⟩, rfl⟩ := one_of h1 h2
    have ht := ho _ (List.mem_singleton.2 rfl)
    have hs : (textV k n s).size ≤ 65536 := textT_size ht
    exact ⟨((2, 0, turnedS smallU (textV k n s)), 0), fun W b off c c1 c2 hW hR hc hx => lowerCallC b off c c2 k n s W ht.1 hW hR hx.2 _ rfl (by omega), in64_0, by rw [turnedS_size]; exact hs⟩
theorem ok_abs (ts : List Trip) (ho : ∀ t ∈ ts, OkT t) (hl : ts.length ≤ 500) : ∃ r, CallIs ⟨#[97, 98, 115]⟩ ts r ∧ OkT r.1 :=
  of_named named_abs enters_abs (by decide) ts ho hl fun h1 h2 hA _ => by
    obtain ⟨⟨k, n, s⟩, rfl⟩ := one_of h1 h2
    have ht := ho _ (List.mem_singleton.2 rfl)
    have hi : In64 (intV k n s) := intT_in ht
    have hs : s.size ≤ 4611686018427387904 := by have := ht.2; simp only at this; omega
    by_cases h0 : 0 ≤ intV k n s
    · exact ⟨((1, intV k n s, ⟨#[]⟩), 0), fun W b off c c1 c2 hW hR hc _ => absCallC b off c k n s W hs _ true hR (fun W => absolute_pos _ h0 W) _ _ _ _ rfl rfl, hi, by show 0 ≤ _; omega⟩
    · have hneg : intV k n s < 0 := by omega
      by_cases h6 : In64 (-intV k n s)
      · have hd : decide (In64 (-intV k n s)) = true := decide_eq_true h6
        have hw : wrap64 (-intV k n s) = -intV k n s := by
          unfold In64 at h6
          unfold wrap64
          omega
        refine ⟨((1, -intV k n s, ⟨#[]⟩), 0), fun W b off c c1 c2 hW hR hc _ => absCallC b off c k n s W hs _ true hR (fun W => ?_) _ _ _ _ rfl rfl, h6, by show 0 ≤ _; omega⟩
        have := absolute_neg _ hneg hi W
        rw [hd, hw] at this
        exact this
      · have hd : decide (In64 (-intV k n s)) = false := decide_eq_false h6
        refine ⟨(nulT, 20), fun W b off c c1 c2 hW hR hc _ => absCallC b off c k n s W hs (wrap64 (-intV k n s)) false hR (fun W => ?_) _ _ _ _ rfl rfl, okT_nul⟩
        have := absolute_neg _ hneg hi W
        rw [hd] at this
        exact this
theorem ok_typeof (ts : List Trip) (ho : ∀ t ∈ ts, OkT t) (hl : ts.length ≤ 500) : ∃ r, CallIs ⟨#[116, 121, 112, 101, 111, 102]⟩ ts r ∧ OkT r.1 :=
  of_named named_typeof enters_typeof (by decide) ts ho hl fun h1 h2 hA _ => by
    obtain ⟨⟨k, n, s⟩, rfl⟩ := one_of h1 h2
    have hr : Rt k n s := hA _ (List.mem_singleton.2 rfl)
    obtain ⟨x, hx, hk⟩ := kindName_k k (by unfold Rt at hr; omega)
    exact ⟨((2, 0, x), 0), fun W b off c c1 c2 hW hR hc _ => typeofCallC b off c k n s W x hR hk, in64_0, by show x.size ≤ _; omega⟩
theorem ok_hex (ts : List Trip) (ho : ∀ t ∈ ts, OkT t) (hl : ts.length ≤ 500) : ∃ r, CallIs ⟨#[104, 101, 120]⟩ ts r ∧ OkT r.1 :=
  of_named named_hex enters_hex (by decide) ts ho hl fun h1 h2 hA _ => by
    obtain ⟨⟨k, n, s⟩, rfl⟩ := one_of h1 h2
    have ht := ho _ (List.mem_singleton.2 rfl)
    have hs : (textV k n s).size ≤ 65536 := textT_size ht
    by_cases h6 : 2 * (textV k n s).size ≤ 65536
    · refine ⟨((2, 0, ⟨(hexL (textV k n s).data.toList).toArray⟩), 0), fun W b off c c1 c2 hW hR hc _ => hexCallC b off c k n s W ht.1 hW _ _ _ _ hR fun W _ => hex_ok _ W h6, in64_0, ?_⟩
      show (hexL (textV k n s).data.toList).toArray.size ≤ 65536
      have e : (textV k n s).data.toList.length = (textV k n s).size := by
        rcases textV k n s with ⟨⟨l⟩⟩
        rfl
      rw [List.size_toArray, hexL_length, e]
      exact h6
    · exact ⟨(nulT, 3), fun W b off c c1 c2 hW hR hc _ => hexCallC b off c k n s W ht.1 hW _ _ _ _ hR fun W _ => hex_long _ W (by omega) (by omega), okT_nul⟩
theorem firstV_ok {ts : List Trip} (ho : ∀ t ∈ ts, OkT t) : OkT (firstV ts) := by
  unfold firstV
  cases h : ts.find? (fun t => !pNul t) with
  | none => exact okT_nul
  | some t => exact ho t (List.mem_of_find?_eq_some h)
theorem ok_first {g : ByteArray} {most : Int} (hN : Named g 2 most true 133 (fun _ _ => #[])) (ts : List Trip) (ho : ∀ t ∈ ts, OkT t) (hl : ts.length ≤ 500) : ∃ r, CallIs g ts r ∧ OkT r.1 :=
  of_named hN enters_first (by decide) ts ho hl fun h1 h2 hA _ => by
    have hk := firstV_ok ho
    obtain ⟨⟨k, n, s⟩, hf⟩ : ∃ t, firstV ts = t := ⟨_, rfl⟩
    rw [hf] at hk
    exact ⟨((k, n, s), 0), fun W b off c c1 c2 hW hR hc _ => firstNot_any b off c ts W (by omega) hR k n s hf, hk⟩
theorem ok_instr (ts : List Trip) (ho : ∀ t ∈ ts, OkT t) (hl : ts.length ≤ 500) : ∃ r, CallIs ⟨#[105, 110, 115, 116, 114]⟩ ts r ∧ OkT r.1 :=
  of_named named_instr enters_instr (by decide) ts ho hl fun h1 h2 hA _ => by
    obtain ⟨⟨k, n, s⟩, ⟨k', n', s'⟩, rfl⟩ := two_of h1 h2
    have ht := ho _ (List.mem_cons_self ..)
    have hu := ho (k', n', s') (by simp)
    have hs : (textV k n s).size ≤ 65536 := textT_size ht
    have hi := index_range (textV k n s).data.toList (textV k' n' s').data.toList (by
      have e : (textV k n s).data.toList.length = (textV k n s).size := by
        rcases textV k n s with ⟨⟨l⟩⟩
        rfl
      omega)
    exact ⟨((1, Lib.index (textV k n s).data.toList (textV k' n' s').data.toList + 1, ⟨#[]⟩), 0), fun W b off c c1 c2 hW hR hc _ => instrCallC b off c k n s k' n' s' W ht.1 hu.1 hW hs hR _ rfl, by show -9223372036854775808 ≤ _ ∧ _; simp only; omega, by show 0 ≤ _; omega⟩
theorem ok_substr (ts : List Trip) (ho : ∀ t ∈ ts, OkT t) (hl : ts.length ≤ 500) : ∃ r, CallIs ⟨#[115, 117, 98, 115, 116, 114]⟩ ts r ∧ OkT r.1 :=
  of_named named_substr enters_substr (by decide) ts ho hl fun h1 h2 hA _ => by
    rcases two_or_three h1 h2 with ⟨⟨k, n, s⟩, ⟨k', n', s'⟩, rfl⟩ | ⟨⟨k, n, s⟩, ⟨k', n', s'⟩, ⟨k2, n2, s2⟩, rfl⟩
    · have ht := ho _ (List.mem_cons_self ..)
      have hu := ho (k', n', s') (by simp)
      have hs : (textV k n s).size ≤ 65536 := textT_size ht
      have hs1 : (textV k n s).size ≤ 1099511627776 := by omega
      have hi : In64 (intV k' n' s') := intT_in hu
      have hs' : s'.size ≤ 4611686018427387904 := by have := hu.2; simp only at this; omega
      have hcz := cutS_size (textV k n s) (fromP (textV k n s).size (intV k' n' s')) ((textV k n s).size + 1)
      obtain ⟨cut, hcut⟩ : ∃ cut, cutS (textV k n s) (fromP (textV k n s).size (intV k' n' s')) ((textV k n s).size + 1) = cut := ⟨_, rfl⟩
      rw [hcut] at hcz
      have hz : cut.size ≤ 65536 := Nat.le_trans hcz hs
      by_cases hk : k = 3
      · subst hk
        refine ⟨((3, 0, cut), 0), fun W b off c c1 c2 hW hR hc _ => ?_, in64_0, hz⟩
        simp only [List.length_cons, List.length_nil] at hc
        by_cases h2 : c = 2
        · subst h2
          exact subCall2B2 b off n s k' n' s' W ht.1 hW hs1 hs' hi hR cut hcut
        · exact subCall2B b off c n s k' n' s' W ht.1 hW hs1 (by omega) h2 hs' hi hR cut hcut
      · refine ⟨((2, 0, cut), 0), fun W b off c c1 c2 hW hR hc _ => ?_, in64_0, hz⟩
        simp only [List.length_cons, List.length_nil] at hc
        by_cases h2 : c = 2
        · subst h2
          exact subCall2 b off k n s k' n' s' W ht.1 hW hs1 hk hs' hi hR cut hcut
        · exact subCall2C b off c k n s k' n' s' W ht.1 hW hs1 hk (by omega) h2 hs' hi hR cut hcut
    · have ht := ho _ (List.mem_cons_self ..)
      have hu := ho (k', n', s') (by simp)
      have hv := ho (k2, n2, s2) (by simp)
      have hs : (textV k n s).size ≤ 65536 := textT_size ht
      have hs1 : (textV k n s).size ≤ 1099511627776 := by omega
      have hi : In64 (intV k' n' s') := intT_in hu
      have hi2 : In64 (intV k2 n2 s2) := intT_in hv
      have hs' : s'.size ≤ 4611686018427387904 := by have := hu.2; simp only at this; omega
      have hs2 : s2.size ≤ 4611686018427387904 := by have := hv.2; simp only at this; omega
      have hz : ∀ f b : Int, (cutS (textV k n s) f b).size ≤ 65536 := fun f b => Nat.le_trans (cutS_size _ _ _) hs
      by_cases hk : k = 3
      · subst hk
        refine ⟨((3, 0, _), 0), fun W b off c c1 c2 hW hR hc _ => ?_, in64_0, hz (min (fromP (textV 3 n s).size (intV k' n' s')) (addW (fromP (textV 3 n s).size (intV k' n' s')) (intV k2 n2 s2))) (max (fromP (textV 3 n s).size (intV k' n' s')) (addW (fromP (textV 3 n s).size (intV k' n' s')) (intV k2 n2 s2)))⟩
        simp only [List.length_cons, List.length_nil] at hc
        exact subCall3B b off c n s k' n' s' k2 n2 s2 W ht.1 hW hs1 (by omega) (by omega) hs' hi hs2 hi2 hR
      · refine ⟨((2, 0, _), 0), fun W b off c c1 c2 hW hR hc _ => ?_, in64_0, hz (min (fromP (textV k n s).size (intV k' n' s')) (addW (fromP (textV k n s).size (intV k' n' s')) (intV k2 n2 s2))) (max (fromP (textV k n s).size (intV k' n' s')) (addW (fromP (textV k n s).size (intV k' n' s')) (intV k2 n2 s2)))⟩
        simp only [List.length_cons, List.length_nil] at hc
        exact subCall3C b off c k n s k' n' s' k2 n2 s2 W ht.1 hW hs1 hk (by omega) (by omega) hs' hi hs2 hi2 hR
def fnNames : List ByteArray := [⟨#[108, 101, 110, 103, 116, 104]⟩, ⟨#[117, 112, 112, 101, 114]⟩, ⟨#[108, 111, 119, 101, 114]⟩, ⟨#[97, 98, 115]⟩, ⟨#[116, 121, 112, 101, 111, 102]⟩, ⟨#[104, 101, 120]⟩, ⟨#[105, 102, 110, 117, 108, 108]⟩, ⟨#[99, 111, 97, 108, 101, 115, 99, 101]⟩, ⟨#[105, 110, 115, 116, 114]⟩, ⟨#[115, 117, 98, 115, 116, 114]⟩]
theorem noName_of (g : ByteArray) (h : g ∉ fnNames) : NoName g := by
  intro c1 c2
  rcases MapKept.findNow_spec (d := .string) (k := .string g) trivial (fnEnts c1 c2) 0 (by simp [fnEnts, MapKept.IsKey]) with ⟨h1, -⟩ | ⟨j, e, h1, h2, h3⟩
  · exact h1
  · exfalso
    apply h
    have hm := List.mem_of_getElem? h2
    simp only [fnEnts, List.mem_cons, List.not_mem_nil, or_false] at hm
    rcases hm with rfl | rfl | rfl | rfl | rfl | rfl | rfl | rfl | rfl | rfl <;> (simp only [Value.string.injEq] at h3; subst h3; simp [fnNames])
/-- whatever is called comes to something -/
theorem call_ok (g : ByteArray) (m : Nat) (hm : m ≤ 500) : CallOk g m := by
  intro ts hl ho
  have hl5 : ts.length ≤ 500 := by omega
  by_cases h : g ∈ fnNames
  · simp only [fnNames, List.mem_cons, List.not_mem_nil, or_false] at h
    rcases h with rfl | rfl | rfl | rfl | rfl | rfl | rfl | rfl | rfl | rfl
    · exact ok_length ts ho hl5
    · exact ok_upper ts ho hl5
    · exact ok_lower ts ho hl5
    · exact ok_abs ts ho hl5
    · exact ok_typeof ts ho hl5
    · exact ok_hex ts ho hl5
    · exact ok_first named_ifnull ts ho hl5
    · exact ok_first named_coalesce ts ho hl5
    · exact ok_instr ts ho hl5
    · exact ok_substr ts ho hl5
  · exact ⟨(nulT, 21), fun w A c hW hR hc => Call_noA g A c ts.length (fun w => find_no g _ (noName_of g h) w) w, okT_nul⟩
end Go.Proofs.YteijijoiifbjlaaGreatDoor
