/-
  Layer 2: ValueNumbers' helper ends, whole. Conditions: the library's variables are as its text lays them.
-/
import Derived.Test.YtceknmibopnmhaaGreatDoorVEndC
namespace Go.Proofs.YtceknmibopnmhaaGreatDoor
open Go.ChangeShapes Go.WideShapes Go.ChangeAt Go.RowKit Go.ChangeMaps Go.Lib
set_option linter.unusedVariables false
theorem box_pin {w X : World} {b : Nat} {k n : Int} {s : ByteArray} (h : w.heap[b]? = some (box k n s)) (hb : Below w.heap.size w X) : BoxAt b k n s X := by
  have h2 : X.heap[b]? = some (box k n s) := (hb.block b (Array.getElem?_eq_some_iff.1 h).1).trans h
  refine ⟨?_, ?_, ?_⟩ <;> simp [World.cell?, h2]
theorem box_frz {w X : World} {b : Nat} {k n : Int} {s : ByteArray} (h : w.heap[b]? = some (box k n s)) (hb : Below w.heap.size w X) : X.frozen? ⟨b, 0, none⟩ = false ∧ X.frozen? ⟨b, 1, none⟩ = false ∧ X.frozen? ⟨b, 2, none⟩ = false := by
  have h2 : X.heap[b]? = some (box k n s) := (hb.block b (Array.getElem?_eq_some_iff.1 h).1).trans h
  refine ⟨?_, ?_, ?_⟩ <;> simp [World.frozen?, h2]
theorem cat_one (r r1 : ByteArray) (hr : r.size = 65535) (h : r ++ ⟨#[49]⟩ = r1) : CatOk r ⟨#[49]⟩ r1 := by
  have h1 : (⟨#[49]⟩ : ByteArray).size = 1 := rfl
  refine ⟨?_, h⟩
  rw [hr, h1]
  omega
set_option maxRecDepth 100000 in
set_option maxHeartbeats 2000000 in
theorem ends_any (w : World) (hW : Wd w) : Calls Tryz.prog 21 #[] w fun e w' => e = .returned (.bool true) ∧ Below w.heap.size w w' := by
  have HW := Lib.hid hW
  clear hW
  go_enter Tryz.func21, Tryz.ntmps21
  go_wp2_with fail
  refine (num_any _ _).mono ?_
  rintro e wa ⟨rfl, hb⟩
  have HB0 := Lib.hid hb
  clear hb
  go_upto_region 2 with (fail)
  obtain ⟨w1, hw1⟩ : ∃ w1, wa.alloc (box 1 (-9223372036854775808) ⟨#[]⟩) = w1 := ⟨_, rfl⟩
  have hal : Below wa.heap.size wa w1 := by rw [← hw1]; exact (Below.refl _ _).alloc (Nat.le_refl _) _
  have hbx : w1.heap[wa.heap.size]? = some (box 1 (-9223372036854775808) ⟨#[]⟩) := by rw [← hw1]; exact World.alloc_heap_new wa _
  rw [hw1]
  have HB1 := Lib.hid (HB0.out.trans (hal.mono HB0.out.size))
  have HBX := Lib.hid hbx
  obtain ⟨bn, hbn⟩ : ∃ n, wa.heap.size = n := ⟨_, rfl⟩
  rw [hbn] at HBX ⊢
  clear hw1 hal hbx hbn HB0
  have HC := Lib.hid (Below.refl w1.heap.size w1)
  go_region_held3 (fun X => X.cell? ⟨bn, 0, none⟩ = some (.int .u8 1) ∧ X.cell? ⟨bn, 1, none⟩ = some (.int .i64 (-9223372036854775808)) ∧ X.cell? ⟨bn, 2, none⟩ = some (.string ⟨#[]⟩))
    (first | exact box_pin HBX.out HC.out | exact box_pin HBX.out (drewV HC.out) | exact box_pin HBX.out (HC.out.alloc HC.out.size _))
    (first | (go_at_call 13; refine (num_any _ _).mono ?_; rintro e wa ⟨rfl, hba⟩; have HC := Lib.hid (show Below w1.heap.size w1 wa by first | exact Below.trans HC.out (hba.mono HC.out.size) | exact Below.trans (drewV HC.out) (hba.mono HC.out.size)); clear hba))
  have HB2 := Lib.hid (HB1.out.trans (HC.out.mono HB1.out.size))
  have hnw := SevsAt.new wa endsL 94
  obtain ⟨w2, hw2⟩ : ∃ w2, wa.alloc (.cells (sevens endsL).toArray 94) = w2 := ⟨_, rfl⟩
  have hal : Below wa.heap.size wa w2 := by rw [← hw2]; exact (Below.refl _ _).alloc (Nat.le_refl _) _
  rw [hw2] at hnw
  have HNW := Lib.hid hnw
  have HB3 := Lib.hid (HB2.out.trans (hal.mono HB2.out.size))
  have HBX := Lib.hid (show w2.heap[bn]? = some (box 1 (-9223372036854775808) ⟨#[]⟩) from (hal.block bn (Nat.lt_of_lt_of_le (Array.getElem?_eq_some_iff.1 HBX.out).1 HC.out.size)).trans ((HC.out.block bn (Array.getElem?_eq_some_iff.1 HBX.out).1).trans HBX.out))
  obtain ⟨g2, hg⟩ : ∃ n, wa.heap.size = n := ⟨_, rfl⟩
  rw [hg] at HNW ⊢
  simp only [endsL, sevens, List.flatMap_cons, List.flatMap_nil, List.cons_append, List.nil_append] at hw2
  clear hnw hal HC HB2 HB1
  rw [hw2]
  clear hw2 hg
  go_upto_region 3 with (fail)
  go_loopw [48] (fun v wr => LpV w2 9 v wr) (fun v _ => 9 - (intOf v).toNat)
  case atStart => exact ⟨0, by omega, rfl, Below.refl _ _⟩
  case round =>
    obtain ⟨j, hj, rfl, hb⟩ := hrel
    by_cases hlt : j < 9
    · obtain ⟨⟨sg, a, b⟩, hx⟩ : ∃ x, endsL[j]? = some x := ⟨_, List.getElem?_eq_getElem (show j < endsL.length from hlt)⟩
      have HOP := Lib.hid (over_at _ (List.mem_of_getElem? hx))
      obtain ⟨y0, y1, y2, y3, y4, y5, y6⟩ := (HNW.out.on hb).2 j _ hx
      dsimp only at HOP y0 y1 y2 y3 y4 y5 y6
      have HB4 := Lib.hid hb
      have HJ := Lib.hid hlt
      have hj5 : (j : Int) < 9 := by omega
      clear hb hx hlt
      go_upto_region 5 with (fail)
      obtain ⟨w5, hw5⟩ : ∃ w5, wr.alloc (.cells #[.string sg, .int .u8 1, .int .i64 a, .string ⟨#[]⟩, .int .u8 1, .int .i64 b, .string ⟨#[]⟩] 94) = w5 := ⟨_, rfl⟩
      have hpb : SevsAt w5 wr.heap.size [(sg, a, b)] := by rw [← hw5]; exact SevsAt.new wr [(sg, a, b)] _
      have hal : Below wr.heap.size wr w5 := by rw [← hw5]; exact (Below.refl _ _).alloc (Nat.le_refl _) _
      have HB5 := Lib.hid (HB4.out.trans (hal.mono HB4.out.size))
      rw [hw5]
      clear hw5 hal y0 y1 y2 y3 y4 y5 y6
      obtain ⟨bx, hbx⟩ : ∃ n, wr.heap.size = n := ⟨_, rfl⟩
      rw [hbx] at hpb ⊢
      obtain ⟨y0, y1, y2, y3, y4, y5, y6⟩ := hpb.2 0 _ rfl
      dsimp only [Nat.zero_mul, Nat.zero_add] at y0 y1 y2 y3 y4 y5 y6
      simp only [Nat.zero_mul, Nat.zero_add] at y0 y1 y2 y3 y4 y5 y6
      clear hpb hbx
      go_wp2_with fail
      refine (HOP.out _).mono ?_
      rintro e X1 ⟨rfl, hb⟩
      have HB6 := Lib.hid (HB5.out.trans (hb.mono HB5.out.size))
      clear hb y0 y1 y2 y3 y4 y5 y6
      go_upto_region 6 with (fail)
      go_wp2_with fail
      refine (errs_yes 20 _).mono ?_
      rintro e X2 ⟨rfl, hb⟩
      have HB7 := Lib.hid ((HB6.out.alloc HB6.out.size (box 0 0 ⟨#[]⟩)).trans (hb.mono (HB6.out.alloc HB6.out.size (box 0 0 ⟨#[]⟩)).size))
      clear hb
      go_wp2_with fail
      exact ⟨⟨j + 1, HJ.out, by go_num, HB7.out⟩, by have := HJ.out; simp [intOf]; omega⟩
    · have hj5 : ¬ (j : Int) < 9 := by omega
      have HBX := Lib.hid (show wr.heap[bn]? = some (box 1 (-9223372036854775808) ⟨#[]⟩) from (hb.block bn (Array.getElem?_eq_some_iff.1 HBX.out).1).trans HBX.out)
      have HB4 := Lib.hid (HB3.out.trans (hb.mono HB3.out.size))
      clear hb hlt HNW HB3
      obtain ⟨sl, hsl⟩ : ∃ s : ByteArray, s = ⟨(Lib.repeatL [120] 65536).toArray⟩ := ⟨_, rfl⟩
      obtain ⟨sp, hsp⟩ : ∃ s : ByteArray, s = ⟨(Lib.repeatL [37] 1001).toArray⟩ := ⟨_, rfl⟩
      have R1 := Lib.hid (fun (w : World) => (show Calls Tryz.prog 11 #[.string ⟨#[120]⟩, .int .i64 65536] w fun e w' => e = .returned (.string ⟨(Lib.repeatL [120] 65536).toArray⟩) ∧ Below w.heap.size w w' from Tryz.strings_Repeat ⟨#[120]⟩ 65536 w (by decide) (by decide)))
      have R2 := Lib.hid (fun (w : World) => (show Calls Tryz.prog 11 #[.string ⟨#[37]⟩, .int .i64 1001] w fun e w' => e = .returned (.string ⟨(Lib.repeatL [37] 1001).toArray⟩) ∧ Below w.heap.size w w' from Tryz.strings_Repeat ⟨#[37]⟩ 1001 w (by decide) (by decide)))
      rw [← hsl] at R1
      rw [← hsp] at R2
      have HSL := Lib.hid hsl
      have HSP := Lib.hid hsp
      clear hsl hsp
      go_wp2_with fail
      refine (R1.out _).mono ?_
      rintro e X1 ⟨rfl, hb⟩
      have HB5 := Lib.hid (HB4.out.trans (hb.mono HB4.out.size))
      have HBX := Lib.hid (show X1.heap[bn]? = some (box 1 (-9223372036854775808) ⟨#[]⟩) from (hb.block bn (Array.getElem?_eq_some_iff.1 HBX.out).1).trans HBX.out)
      clear hb
      go_wp2_with fail
      refine (text_any _ _).mono ?_
      rintro e X2 ⟨rfl, hb⟩
      have HB6 := Lib.hid (HB5.out.trans (hb.mono HB5.out.size))
      have HBX := Lib.hid (show X2.heap[bn]? = some (box 1 (-9223372036854775808) ⟨#[]⟩) from (hb.block bn (Array.getElem?_eq_some_iff.1 HBX.out).1).trans HBX.out)
      clear hb
      go_wp2_with fail
      refine (R2.out _).mono ?_
      rintro e X3 ⟨rfl, hb⟩
      have HB7 := Lib.hid (HB6.out.trans (hb.mono HB6.out.size))
      have HBX := Lib.hid (show X3.heap[bn]? = some (box 1 (-9223372036854775808) ⟨#[]⟩) from (hb.block bn (Array.getElem?_eq_some_iff.1 HBX.out).1).trans HBX.out)
      clear hb
      go_wp2_with fail
      refine (text_any _ _).mono ?_
      rintro e X4 ⟨rfl, hb⟩
      have HB8 := Lib.hid (HB7.out.trans (hb.mono HB7.out.size))
      have HBX := Lib.hid (show X4.heap[bn]? = some (box 1 (-9223372036854775808) ⟨#[]⟩) from (hb.block bn (Array.getElem?_eq_some_iff.1 HBX.out).1).trans HBX.out)
      clear hb HB4 HB5 HB6 HB7 R1 R2
      go_upto_region 10 with (fail)
      obtain ⟨w6, hw6⟩ : ∃ X, (X4.alloc (box 2 0 sl)).alloc (box 2 0 sp) = X := ⟨_, rfl⟩
      have ha1 : Below X4.heap.size X4 (X4.alloc (box 2 0 sl)) := (Below.refl _ _).alloc (Nat.le_refl _) _
      have ha2 : Below (X4.alloc (box 2 0 sl)).heap.size (X4.alloc (box 2 0 sl)) w6 := by rw [← hw6]; exact (Below.refl _ _).alloc (Nat.le_refl _) _
      have hk6 : w6.heap[X4.heap.size]? = some (box 2 0 sl) := (ha2.block _ (by simp)).trans (World.alloc_heap_new X4 _)
      have hk7 : w6.heap[X4.heap.size + 1]? = some (box 2 0 sp) := by
        have := World.alloc_heap_new (X4.alloc (box 2 0 sl)) (box 2 0 sp)
        rw [hw6] at this
        simpa using this
      have ha : Below X4.heap.size X4 w6 := ha1.trans (ha2.mono ha1.size)
      have HB9 := Lib.hid (HB8.out.trans (ha.mono HB8.out.size))
      have HBX := Lib.hid (show w6.heap[bn]? = some (box 1 (-9223372036854775808) ⟨#[]⟩) from (ha.block bn (Array.getElem?_eq_some_iff.1 HBX.out).1).trans HBX.out)
      have HS6 := Lib.hid (show BoxOn w6 X4.heap.size 2 0 sl from fun X hX => box_pin hk6 hX)
      have HS7 := Lib.hid (show BoxOn w6 (X4.heap.size + 1) 2 0 sp from fun X hX => box_pin hk7 hX)
      rw [hw6]
      clear hw6 ha1 ha2 ha hk6 hk7 HB8
      have HW6 := Lib.hid (HW.out.on HB9.out)
      have C0 := er_cat w6 HW6.out sl (rep_size 120 65536 sl HSL.out)
      generalize X4.heap.size = g6 at *
      refine region_as2 (ops' := ve10Ops) (by kernel_rfl) ?_
      refine ve10 g6 sl HS6.out C0 rfl rfl ?_
      intro V p8 X hb hvp hp0 hp1 hB hv
      rw [ve10_fill V, hvp, hv]
      have HB10 := Lib.hid (HB9.out.trans (hb.mono HB9.out.size))
      have HBX := Lib.hid (show X.heap[bn]? = some (box 1 (-9223372036854775808) ⟨#[]⟩) from (hb.block bn (Array.getElem?_eq_some_iff.1 HBX.out).1).trans HBX.out)
      have HP8 := Lib.hid (show BoxOn X p8 0 0 ⟨#[]⟩ from fun Y hY => boxAt_keep p8 X Y hB hp1 hY)
      have HS7 := Lib.hid (show BoxOn X (g6 + 1) 2 0 sp from fun Y hY => HS7.out Y (hb.trans (hY.mono hb.size)))
      have HWX := Lib.hid (HW.out.on HB10.out)
      clear hb hvp hp0 hp1 hB hv C0
      go_upto_region 11 with (fail)
      have C1 := er_like X HWX.out sp (rep_size 37 1001 sp HSP.out)
      refine region_as2 (ops' := ve11Ops) (by kernel_rfl) ?_
      refine ve11 (g6 + 1) sp HS7.out C1 rfl rfl ?_
      intro V2 p10 Y hb hvp hp0 hp1 hB hv
      rw [ve11_fill V2, hvp, hv]
      have HB11 := Lib.hid (HB10.out.trans (hb.mono HB10.out.size))
      have HBX := Lib.hid (show Y.heap[bn]? = some (box 1 (-9223372036854775808) ⟨#[]⟩) from (hb.block bn (Array.getElem?_eq_some_iff.1 HBX.out).1).trans HBX.out)
      have HP8 := Lib.hid (show BoxOn Y p8 0 0 ⟨#[]⟩ from fun Z hZ => HP8.out Z (hb.trans (hZ.mono hb.size)))
      have HP10 := Lib.hid (show BoxOn Y p10 0 0 ⟨#[]⟩ from fun Z hZ => boxAt_keep p10 Y Z hB hp1 hZ)
      clear hb hvp hp0 hp1 hB hv C1
      obtain ⟨sh, hsh⟩ : ∃ s : ByteArray, s = ⟨(Lib.repeatL [120] 32769).toArray⟩ := ⟨_, rfl⟩
      have R3 := Lib.hid (fun (w : World) => (show Calls Tryz.prog 11 #[.string ⟨#[120]⟩, .int .i64 32769] w fun e w' => e = .returned (.string ⟨(Lib.repeatL [120] 32769).toArray⟩) ∧ Below w.heap.size w w' from Tryz.strings_Repeat ⟨#[120]⟩ 32769 w (by decide) (by decide)))
      rw [← hsh] at R3
      have HSH := Lib.hid (rep_size 120 32769 sh hsh)
      clear hsh
      go_wp2_with fail
      refine (R3.out _).mono ?_
      rintro e Y1 ⟨rfl, hb⟩
      have HC := Lib.hid hb
      clear hb
      go_wp2_with fail
      refine (text_any _ _).mono ?_
      rintro e Y2 ⟨rfl, hb⟩
      have HC := Lib.hid (HC.out.trans (hb.mono HC.out.size))
      clear hb
      have HHX := Lib.hid (hex_far (Y2.alloc (box 2 0 sh)) (HW.out.on ((HB11.out.trans (HC.out.mono HB11.out.size)).alloc (HB11.out.trans (HC.out.mono HB11.out.size)).size _)) Y2.heap.size sh HSH.out (rdv1 Y2 2 0 sh))
      go_wp2_with fail
      refine HHX.out.mono ?_
      rintro e Y3 ⟨rfl, hb⟩
      have HC := Lib.hid ((HC.out.alloc HC.out.size (box 2 0 sh)).trans (hb.mono (HC.out.alloc HC.out.size (box 2 0 sh)).size))
      clear hb HHX R3
      go_upto_region 13 with (fail)
      obtain ⟨y4, hwy4⟩ : ∃ X, Y3.alloc (box 0 0 ⟨#[]⟩) = X := ⟨_, rfl⟩
      have hal : Below Y3.heap.size Y3 y4 := by rw [← hwy4]; exact (Below.refl _ _).alloc (Nat.le_refl _) _
      have hbx : y4.heap[Y3.heap.size]? = some (box 0 0 ⟨#[]⟩) := by rw [← hwy4]; exact World.alloc_heap_new Y3 _
      rw [hwy4]
      have HC := Lib.hid (HC.out.trans (hal.mono HC.out.size))
      have HGg12 := Lib.hid (show BoxOn y4 Y3.heap.size 0 0 ⟨#[]⟩ from fun Z hZ => box_pin hbx hZ)
      clear hal hbx hwy4
      obtain ⟨g12, hg12⟩ : ∃ n, Y3.heap.size = n := ⟨_, rfl⟩
      rw [hg12] at HGg12 ⊢
      clear hg12
      obtain ⟨z0, z1, z2⟩ := box_pin HBX.out HC.out
      go_wp2_with fail
      refine (oneNeg_far _).mono ?_
      rintro e Y5 ⟨rfl, hb⟩
      have HGg12 := Lib.hid (show BoxOn Y5 g12 0 0 ⟨#[]⟩ from fun Z hZ => HGg12.out Z (hb.trans (hZ.mono hb.size)))
      have HC := Lib.hid (HC.out.trans (hb.mono HC.out.size))
      clear hb z0 z1 z2
      go_upto_region 14 with (fail)
      obtain ⟨y6, hwy6⟩ : ∃ X, Y5.alloc (box 0 0 ⟨#[]⟩) = X := ⟨_, rfl⟩
      have hal : Below Y5.heap.size Y5 y6 := by rw [← hwy6]; exact (Below.refl _ _).alloc (Nat.le_refl _) _
      have hbx : y6.heap[Y5.heap.size]? = some (box 0 0 ⟨#[]⟩) := by rw [← hwy6]; exact World.alloc_heap_new Y5 _
      rw [hwy6]
      have HC := Lib.hid (HC.out.trans (hal.mono HC.out.size))
      have HGg14 := Lib.hid (show BoxOn y6 Y5.heap.size 0 0 ⟨#[]⟩ from fun Z hZ => box_pin hbx hZ)
      have HGg12 := Lib.hid (show BoxOn y6 g12 0 0 ⟨#[]⟩ from fun Z hZ => HGg12.out Z (hal.trans (hZ.mono hal.size)))
      clear hal hbx hwy6
      obtain ⟨g14, hg14⟩ : ∃ n, Y5.heap.size = n := ⟨_, rfl⟩
      rw [hg14] at HGg14 ⊢
      clear hg14
      obtain ⟨z0, z1, z2⟩ := box_pin HBX.out HC.out
      have HAB := Lib.hid (abs_far (y6.alloc (box 1 (-9223372036854775808) ⟨#[]⟩)) y6.heap.size (rdv1 y6 1 (-9223372036854775808) ⟨#[]⟩))
      go_wp2_with fail
      refine HAB.out.mono ?_
      rintro e Y7 ⟨rfl, hb⟩
      have hb2 : Below y6.heap.size y6 Y7 := ((Below.refl _ y6).alloc (Nat.le_refl _) (box 1 (-9223372036854775808) ⟨#[]⟩)).trans (hb.mono (by simp))
      have HGg12 := Lib.hid (show BoxOn Y7 g12 0 0 ⟨#[]⟩ from fun Z hZ => HGg12.out Z (hb2.trans (hZ.mono hb2.size)))
      have HGg14 := Lib.hid (show BoxOn Y7 g14 0 0 ⟨#[]⟩ from fun Z hZ => HGg14.out Z (hb2.trans (hZ.mono hb2.size)))
      have HC := Lib.hid (HC.out.trans (hb2.mono HC.out.size))
      clear hb hb2 z0 z1 z2 HAB
      go_upto_region 15 with (fail)
      obtain ⟨y8, hwy8⟩ : ∃ X, Y7.alloc (box 0 0 ⟨#[]⟩) = X := ⟨_, rfl⟩
      have hal : Below Y7.heap.size Y7 y8 := by rw [← hwy8]; exact (Below.refl _ _).alloc (Nat.le_refl _) _
      have hbx : y8.heap[Y7.heap.size]? = some (box 0 0 ⟨#[]⟩) := by rw [← hwy8]; exact World.alloc_heap_new Y7 _
      rw [hwy8]
      have HC := Lib.hid (HC.out.trans (hal.mono HC.out.size))
      have HG12 := Lib.hid (show BoxOn y8 g12 0 0 ⟨#[]⟩ from fun Z hZ => HGg12.out Z (hal.trans (hZ.mono hal.size)))
      have HG14 := Lib.hid (show BoxOn y8 g14 0 0 ⟨#[]⟩ from fun Z hZ => HGg14.out Z (hal.trans (hZ.mono hal.size)))
      have HG16 := Lib.hid (show BoxOn y8 Y7.heap.size 0 0 ⟨#[]⟩ from fun Z hZ => box_pin hbx hZ)
      clear hal hbx hwy8
      obtain ⟨g16, hg16⟩ : ∃ n, Y7.heap.size = n := ⟨_, rfl⟩
      rw [hg16] at HG16 ⊢
      clear hg16
      have HG1 := Lib.hid (show BoxOn y8 bn 1 (-9223372036854775808) ⟨#[]⟩ from fun Z hZ => box_pin HBX.out (HC.out.trans (hZ.mono HC.out.size)))
      have HG8 := Lib.hid (show BoxOn y8 p8 0 0 ⟨#[]⟩ from fun Z hZ => HP8.out Z (HC.out.trans (hZ.mono HC.out.size)))
      have HG10 := Lib.hid (show BoxOn y8 p10 0 0 ⟨#[]⟩ from fun Z hZ => HP10.out Z (HC.out.trans (hZ.mono HC.out.size)))
      have HBE := Lib.hid (HB11.out.trans (HC.out.mono HB11.out.size))
      have HWE := Lib.hid (HW.out.on HBE.out)
      obtain ⟨r, hr⟩ : ∃ s : ByteArray, s = ⟨(Lib.repeatL [120] 65535).toArray⟩ := ⟨_, rfl⟩
      have CR : RepIs 65535 r := fun w => (by
        rw [hr]
        exact (show Calls Tryz.prog 11 #[.string ⟨#[120]⟩, .int .i64 65535] w fun e w' => e = .returned (.string ⟨(Lib.repeatL [120] 65535).toArray⟩) ∧ Below w.heap.size w w' from Tryz.strings_Repeat ⟨#[120]⟩ 65535 w (by decide) (by decide)))
      have zr := rep_size 120 65535 r hr
      obtain ⟨r1, hr1⟩ : ∃ r1 : ByteArray, r ++ (⟨#[49]⟩ : ByteArray) = r1 := ⟨_, rfl⟩
      have H1 := Lib.hid (cat_one r r1 zr hr1)
      have D0 := yes_mul (-9223372036854775808) 1 (-9223372036854775808) (by decide) (by decide) (by decide) (by decide) y8
      have D1 := yes_mul (-4294967296) 2147483648 (-9223372036854775808) (by decide) (by decide) (by decide) (by decide) y8
      have D2 := yes_rem (-9223372036854775808) (-1) 0 (by decide) (by decide) (by decide) y8
      have D3 := yes_sub (-1) (-9223372036854775808) 9223372036854775807 (by decide) (by decide) (by decide) (by decide) y8
      have D4 := yes_cat y8 HWE.out r r1 zr hr1
      clear hr zr hr1
      refine region_as2 (ops' := ve15Ops) (by kernel_rfl) ?_
      refine ve15 bn p8 p10 g12 g14 g16 r r1 H1 CR HG1.out HG8.out HG10.out HG12.out HG14.out HG16.out D0 D1 D2 D3 D4 rfl rfl rfl rfl rfl rfl rfl rfl rfl rfl rfl rfl ?_
      intro V3 Z hb hv
      rw [ve15_fill V3, hv]
      have HBZ := Lib.hid (HBE.out.trans (hb.mono HBE.out.size))
      clear hb hv
      go_wp2_with fail
      go_ret
      exact ⟨rfl, HBZ.out⟩
end Go.Proofs.YtceknmibopnmhaaGreatDoor
