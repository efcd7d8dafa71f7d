/-
  Layer 8: a distinct count* is refused; the names. No conditions.
-/
import Derived.Test.YtceknmibopnmhaaGreatDoorAOf
namespace Go.Proofs.YtceknmibopnmhaaGreatDoor
open Go.ChangeShapes Go.WideShapes Go.ChangeAt Go.RowKit Go.Maps Go.Sort Go.Shelf Go.ChangeMaps Go.Lib
set_option linter.unusedVariables false

set_option maxRecDepth 100000 in
set_option maxHeartbeats 1000000 in
theorem New_dis {name : ByteArray} {fin : Bool → List Trip → Trip × Int} (hn : Named name true fin) (w : World) :
    Calls Tryz.prog 25 #[.string name, .bool true] w fun e w' => e = .returned (.tuple #[.pointer none, .int .i64 2]) ∧ Below w.heap.size w w' := by
  have HN := Lib.hid hn.has
  clear hn
  go_enter Tryz.func25, Tryz.ntmps25
  go_wp2_with fail
  refine (aggFns_any w).mono ?_
  rintro e wa ⟨c1, c2, c3, c4, rfl, hI⟩
  obtain ⟨i, gb, cb, hfind, eg, hbeg⟩ := HN.out c1 c2 c3 c4
  have hlk := run_lookA wa w.heap.size _ 7 name i _ hI.1 hfind
  clear hbeg hfind eg
  have hwlt : w.heap.size < wa.heap.size := hI.lt
  have HBA := Lib.hid hI.2.1
  obtain ⟨wb, hwb, HB1, HB2⟩ : ∃ wb, (store ⟨wa.heap.size, 1, none⟩ (.func (.func gb) #[] cb)).run Tryz.prog (wa.alloc (.cells #[.bool true, .nilFunc] 100)) = .ok () wb ∧ Hid (wb.heap[wa.heap.size]? = some (.cells #[.bool true, .func (.func gb) #[] cb] 100 (0, 0))) ∧ Hid (Below wa.heap.size wa wb) := by
    have h0 : (wa.alloc (.cells #[.bool true, .nilFunc] 100)).heap[wa.heap.size]? = some (.cells #[.bool true, .nilFunc] 100 (0, 0)) := World.alloc_heap_new wa _
    have h1 : Below wa.heap.size wa (wa.alloc (.cells #[.bool true, .nilFunc] 100)) := (Below.refl _ _).alloc (Nat.le_refl _) _
    generalize wa.alloc (.cells #[.bool true, .nilFunc] 100) = wz at h0 h1 ⊢
    refine ⟨_, run_store1 (u := .nilFunc) rfl (by simp [World.cell?, h0]) (by simp [World.frozen?, h0]) , Lib.hid (set_box 1 _ h0), Lib.hid (h1.setCell (p := ⟨wa.heap.size, 1, none⟩) (Nat.le_refl _) _)⟩
  have hq : wb.cell? ⟨wa.heap.size, 0, none⟩ = some (.bool true) ∧ wb.cell? ⟨wa.heap.size, 1, none⟩ = some (.func (.func gb) #[] cb) := by
    have h := HB1.out
    refine ⟨?_, ?_⟩ <;> simp [World.cell?, h]
  obtain ⟨q0, q1⟩ := hq
  clear hI
  go_wp2_with fail
  refine bodyPost_ret (results_tmp2 rfl _ _ _) rfl ⟨rfl, HBA.out.trans (HB2.out.mono (Nat.le_of_lt hwlt))⟩
set_option maxRecDepth 100000 in
set_option maxHeartbeats 1000000 in
theorem of_dis {name : ByteArray} {fin : Bool → List Trip → Trip × Int} (hn : Named name true fin) (w : World) (v : Value) :
    Calls Tryz.prog 40 #[.string name, .bool true, v] w fun e w' => e = .returned (.tuple #[vv 0 0 ⟨#[]⟩, .int .i64 2]) ∧ Below w.heap.size w w' := by
  obtain ⟨w1, hw1⟩ : ∃ w1, w.alloc (.cells #[.int .u8 0, .int .i64 0, .string ⟨#[]⟩] 24) = w1 := ⟨_, rfl⟩
  have hal : Below w.heap.size w w1 := by rw [← hw1]; exact (Below.refl _ _).alloc (Nat.le_refl _) _
  have hres : BoxT w1 w.heap.size (0, 0, ⟨#[]⟩) := by rw [← hw1]; exact BoxT.new w (0, 0, ⟨#[]⟩)
  have HNEW := Lib.hid (New_dis hn w1)
  go_enter Tryz.func40, Tryz.ntmps40
  go_wp2_with fail
  refine HNEW.out.mono ?_
  rintro e w2 ⟨rfl, hb2⟩
  obtain ⟨y0, y1, y2⟩ := (hres.on hb2).cells
  obtain ⟨f0, f1, f2⟩ := (hres.on hb2).frz
  dsimp only at y0 y1 y2
  have HBB := Lib.hid (hal.trans (hb2.mono hal.size))
  clear hb2 hal hres
  go_wp2_with fail
  refine bodyPost_ret (v := .tuple #[vv 0 0 ⟨#[]⟩, .int .i64 2]) (by simp [results, Tryz.results40, go_sem, y0, y1, y2]) rfl ⟨rfl, ?_⟩
  exact ((HBB.out.setCell (p := ⟨w.heap.size, 0, none⟩) (Nat.le_refl _) _).setCell (p := ⟨w.heap.size, 1, none⟩) (Nat.le_refl _) _).setCell (p := ⟨w.heap.size, 2, none⟩) (Nat.le_refl _) _
/-- the seven names, in memory of the call's own -/
def namesL : List ByteArray := [⟨#[99, 111, 117, 110, 116]⟩, ⟨#[99, 111, 117, 110, 116, 42]⟩, ⟨#[115, 117, 109]⟩, ⟨#[116, 111, 116, 97, 108]⟩, ⟨#[109, 105, 110]⟩, ⟨#[109, 97, 120]⟩, ⟨#[103, 114, 111, 117, 112, 95, 99, 111, 110, 99, 97, 116]⟩]
theorem names_any (w : World) : Calls Tryz.prog 43 #[] w fun e w' => e = .returned (.slice (some ⟨w.heap.size, 0, none⟩) 7 7) ∧ w' = w.alloc (.cells (namesL.map Value.string).toArray 9) := by
  go_enter Tryz.func43, Tryz.ntmps43
  go_wp2_with fail
  go_ret
  exact ⟨rfl, rfl⟩
end Go.Proofs.YtceknmibopnmhaaGreatDoor
