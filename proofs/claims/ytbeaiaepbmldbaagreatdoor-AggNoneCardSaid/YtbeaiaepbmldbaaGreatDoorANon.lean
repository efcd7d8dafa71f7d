/-
  Layer 8: AggNone's walk. No conditions.
-/
import Derived.Test.YtbeaiaepbmldbaaGreatDoorANo
import Derived.Test.YtbeaiaepbmldbaaGreatDoorACom
namespace Go.Proofs.YtbeaiaepbmldbaaGreatDoor
open Go.ChangeShapes Go.WideShapes Go.ChangeAt Go.RowKit Go.Maps Go.Sort Go.Shelf Go.ChangeMaps Go.Lib
set_option linter.unusedVariables false

set_option maxRecDepth 100000 in
set_option maxHeartbeats 1000000 in
theorem none_walk (hawake : ∀ w : World, Wd w → Calls Tryz.prog 35 #[] w fun e w' => e = .returned (.bool true) ∧ Below w.heap.size w w') (k z : Int) (s : ByteArray) (w : World) (hW : Wd w) :
    Calls Tryz.prog 6 #[vv k z s] w fun e w' => e = .returned (.bool true) ∧ Below w.heap.size w w' := by
  have HAW := Lib.hid hawake
  clear hawake
  obtain ⟨w1, hw1⟩ : ∃ w1, w.alloc (.cells #[.int .u8 k, .int .i64 z, .string s] 24) = w1 := ⟨_, rfl⟩
  have a1 : Below w.heap.size w w1 := by rw [← hw1]; exact (Below.refl _ _).alloc (Nat.le_refl _) _
  have b1 : BoxT w1 w.heap.size (k, z, s) := by rw [← hw1]; exact BoxT.new w (k, z, s)
  obtain ⟨wA, hwA⟩ : ∃ wA, w1.alloc (.cells #[.pointer none, .bool false, .nilFunc, .bool false, .nilFunc, .nilFunc] 61) = wA := ⟨_, rfl⟩
  have aA : Below w1.heap.size w1 wA := by rw [← hwA]; exact (Below.refl _ _).alloc (Nat.le_refl _) _
  have cA : wA.cell? ⟨w1.heap.size, 0, none⟩ = some (.pointer none) := by
    have h : wA.heap[w1.heap.size]? = some (.cells #[.pointer none, .bool false, .nilFunc, .bool false, .nilFunc, .nilFunc] 61 (0, 0)) := by rw [← hwA]; exact World.alloc_heap_new w1 _
    simp [World.cell?, h]
  obtain ⟨w2, hw2⟩ : ∃ w2, wA.alloc (.cells #[.pointer none, .pointer (some ⟨w1.heap.size, 0, none⟩)] 42) = w2 := ⟨_, rfl⟩
  have a2 : Below wA.heap.size wA w2 := by rw [← hw2]; exact (Below.refl _ _).alloc (Nat.le_refl _) _
  have c2 : w2.heap[wA.heap.size]? = some (.cells #[.pointer none, .pointer (some ⟨w1.heap.size, 0, none⟩)] 42 (0, 0)) := by rw [← hw2]; exact World.alloc_heap_new wA _
  have c20 : w2.cell? ⟨wA.heap.size, 0, none⟩ = some (.pointer none) := by simp [World.cell?, c2]
  have c21 : w2.cell? ⟨wA.heap.size, 1, none⟩ = some (.pointer (some ⟨w1.heap.size, 0, none⟩)) := by simp [World.cell?, c2]
  have lA : wA.heap.size < w2.heap.size := (Array.getElem?_eq_some_iff.1 c2).1
  have HELT := Lib.hid (show ∀ i : Nat, i < 2 → ∃ p, w2.cell? ⟨wA.heap.size, i, none⟩ = some (.pointer p) ∧ NoA w2 p from fun i hi => by
    match i, hi with
    | 0, _ => exact ⟨none, c20, .inl rfl⟩
    | 1, _ => exact ⟨_, c21, .inr ⟨_, rfl, (a2.cell (p := ⟨w1.heap.size, 0, none⟩) (block_lt_of_cell cA)).trans cA⟩⟩)
  have HBV := Lib.hid ((b1.on aA).on a2)
  have HB0 := Lib.hid (a1.trans ((aA.trans (a2.mono aA.size)).mono a1.size))
  have HW2 := Lib.hid (hW.on (a1.trans ((aA.trans (a2.mono aA.size)).mono a1.size)))
  have e6 : (⟨#[]⟩ : ByteArray).toList = [] := by simp [ByteArray.toList_eq]
  clear hW a1 b1 aA cA a2 c2 c20 c21
  go_enter Tryz.func6, Tryz.ntmps6
  go_wp2_with fail
  clear hw1 hwA hw2
  generalize hgs : wA.heap.size = gs at *
  go_loopw [13] (fun v13 wr => ∃ i : Nat, i ≤ 2 ∧ v13 = .int .i64 (i : Int) ∧ Below w2.heap.size w2 wr) (fun v13 _ => 2 - (intOf v13).toNat)
  case atStart => exact ⟨0, by omega, rfl, Below.refl _ _⟩
  case round =>
    obtain ⟨i, hi, rfl, hb⟩ := hrel
    by_cases hlt : i < 2
    · obtain ⟨p, hp, hno⟩ := HELT.out i hlt
      have q1 : (i : Int) < 2 := by omega
      have q2 : (0 : Int) ≤ (i : Int) := by omega
      have hpr := (hb.cell (p := ⟨gs, i, none⟩) lA).trans hp
      have HB := Lib.hid hb
      have HNO := Lib.hid (hno.on hb)
      have HI := Lib.hid hlt
      clear hp hno hb
      go_wp2_with fail
      refine (Reset_no HNO.out).mono ?_
      rintro e w3 ⟨rfl, rfl⟩
      go_wp2_with fail
      refine (Final_no HNO.out).mono ?_
      rintro e w4 ⟨rfl, hb4⟩
      have HNO4 := Lib.hid (HNO.out.on hb4)
      have HB4 := Lib.hid (HB.out.trans (hb4.mono HB.out.size))
      clear hb4
      go_upto_region 7 with (fail)
      obtain ⟨w5, hw5⟩ : ∃ w5, w4.alloc (.cells #[.int .u8 0, .int .i64 0, .string ⟨#[]⟩] 24) = w5 := ⟨_, rfl⟩
      rw [hw5]
      have a5 : Below w4.heap.size w4 w5 := by rw [← hw5]; exact (Below.refl _ _).alloc (Nat.le_refl _) _
      have b5 : BoxT w5 w4.heap.size (0, 0, ⟨#[]⟩) := by rw [← hw5]; exact BoxT.new w4 (0, 0, ⟨#[]⟩)
      clear hw5
      have HB5 := Lib.hid (HB4.out.trans (a5.mono HB4.out.size))
      have HST := Lib.hid (Step_no (HNO4.out.on a5) k z s)
      have HB5' := Lib.hid b5
      obtain ⟨v0, v1, v2⟩ := (HBV.out.on HB5.out).cells
      dsimp only at v0 v1 v2
      clear a5 b5
      go_wp2_with (go_at_call 30; refine HST.out.mono ?_; rintro e w6 ⟨rfl, hb6⟩; have HB6 := Lib.hid (HB5.out.trans (hb6.mono HB5.out.size)); obtain ⟨y0, y1, y2⟩ := (HB5'.out.on hb6).cells; dsimp only at y0 y1 y2; clear hb6)
      exact ⟨⟨i + 1, HI.out, by go_num, HB6.out⟩, by have := HI.out; simp [intOf]; omega⟩
    · obtain rfl : i = 2 := by omega
      have HB := Lib.hid hb
      clear hb
      go_wp2_with fail
      refine (HAW.out wr (HW2.out.on HB.out)).mono ?_
      rintro e w3 ⟨rfl, hb3⟩
      go_wp2_with fail
      go_ret
      exact ⟨rfl, HB0.out.trans ((HB.out.trans (hb3.mono HB.out.size)).mono HB0.out.size)⟩
end Go.Proofs.YtbeaiaepbmldbaaGreatDoor
