/-
  Layer 8: a total that New did not make: Reset, Final, Step. No conditions.
-/
import Derived.Test.YtbeaiaepbmldbaaGreatDoorAAcc
namespace Go.Proofs.YtbeaiaepbmldbaaGreatDoor
open Go.ChangeShapes Go.WideShapes Go.ChangeAt Go.RowKit Go.Maps Go.Sort Go.Shelf Go.ChangeMaps Go.Lib
set_option linter.unusedVariables false

/-- a total that New did not make -/
def NoA (w : World) (p : Option Addr) : Prop := p = none ∨ ∃ z, p = some ⟨z, 0, none⟩ ∧ w.cell? ⟨z, 0, none⟩ = some (.pointer none)
theorem NoA.on {w w' : World} {p : Option Addr} (h : NoA w p) (hb : Below w.heap.size w w') : NoA w' p := by
  rcases h with h | ⟨z, h, hc⟩
  · exact .inl h
  · exact .inr ⟨z, h, (hb.cell (p := ⟨z, 0, none⟩) (block_lt_of_cell hc)).trans hc⟩
theorem isMade_not {w : World} {p : Option Addr} (h : NoA w p) : Calls Tryz.prog 73 #[.pointer p] w fun e w' => e = .returned (.bool false) ∧ w' = w := by
  rcases h with rfl | ⟨z, rfl, hc⟩
  · exact isMade_nil w
  · exact isMade_no z w hc
set_option maxRecDepth 100000 in
theorem Reset_no {w : World} {p : Option Addr} (h : NoA w p) : Calls Tryz.prog 33 #[.pointer p] w fun e w' => e = .returned (.tuple #[]) ∧ w' = w := by
  go_enter Tryz.func33, Tryz.ntmps33
  go_wp2_with fail
  refine (isMade_not h).mono ?_
  rintro e w1 ⟨rfl, rfl⟩
  go_wp2_with fail
  go_end0
  exact ⟨rfl, rfl⟩
set_option maxRecDepth 100000 in
theorem Final_no {w : World} {p : Option Addr} (h : NoA w p) : Calls Tryz.prog 31 #[.pointer p] w fun e w' => e = .returned (.tuple #[vv 0 0 ⟨#[]⟩, .int .i64 1]) ∧ Below w.heap.size w w' := by
  obtain ⟨w1, hw1⟩ : ∃ w1, w.alloc (.cells #[.int .u8 0, .int .i64 0, .string ⟨#[]⟩] 24) = w1 := ⟨_, rfl⟩
  have hal : Below w.heap.size w w1 := by rw [← hw1]; exact (Below.refl _ _).alloc (Nat.le_refl _) _
  have hres : BoxT w1 w.heap.size (0, 0, ⟨#[]⟩) := by rw [← hw1]; exact BoxT.new w (0, 0, ⟨#[]⟩)
  obtain ⟨y0, y1, y2⟩ := hres.cells
  obtain ⟨f0, f1, f2⟩ := hres.frz
  dsimp only at y0 y1 y2
  have HM := Lib.hid (isMade_not (h.on hal))
  go_enter Tryz.func31, Tryz.ntmps31
  go_wp2_with fail
  refine HM.out.mono ?_
  rintro e w2 ⟨rfl, rfl⟩
  go_wp2_with fail
  refine bodyPost_ret (v := .tuple #[vv 0 0 ⟨#[]⟩, .int .i64 1]) (by simp [results, Tryz.results31, go_sem, y0, y1, y2]) rfl ⟨rfl, ?_⟩
  exact ((hal.setCell (p := ⟨w.heap.size, 0, none⟩) (Nat.le_refl _) _).setCell (p := ⟨w.heap.size, 1, none⟩) (Nat.le_refl _) _).setCell (p := ⟨w.heap.size, 2, none⟩) (Nat.le_refl _) _
set_option maxRecDepth 100000 in
theorem Step_no {w : World} {p : Option Addr} (h : NoA w p) (k z : Int) (s : ByteArray) : Calls Tryz.prog 30 #[.pointer p, vv k z s] w fun e w' => e = .returned (.int .i64 1) ∧ Below w.heap.size w w' := by
  have hal : Below w.heap.size w (w.alloc (.cells #[.int .u8 k, .int .i64 z, .string s] 24)) := (Below.refl _ _).alloc (Nat.le_refl _) _
  have HM := Lib.hid (isMade_not (h.on hal))
  go_enter Tryz.func30, Tryz.ntmps30
  go_wp2_with fail
  refine HM.out.mono ?_
  rintro e w2 ⟨rfl, rfl⟩
  go_wp2_with fail
  go_ret
  exact ⟨rfl, hal⟩
end Go.Proofs.YtbeaiaepbmldbaaGreatDoor
