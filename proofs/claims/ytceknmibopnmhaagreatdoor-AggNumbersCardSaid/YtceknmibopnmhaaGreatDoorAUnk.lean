/-
  Layer 8: names that are no total's: Known, New; a value that is not right: Step. No conditions.
-/
import Derived.Test.YtceknmibopnmhaaGreatDoorAOrd
namespace Go.Proofs.YtceknmibopnmhaaGreatDoor
open Go.ChangeShapes Go.WideShapes Go.ChangeAt Go.RowKit Go.Maps Go.Sort Go.Shelf Go.ChangeMaps Go.Lib
set_option linter.unusedVariables false
set_option linter.unusedSimpArgs false

theorem find_none (k : ByteArray) (hk : k ∉ namesL) (c1 c2 c3 c4 : Nat) : Instr.findNow .string (.string k) (aEnts c1 c2 c3 c4) 0 = some none := by
  have h : ∀ x ∈ namesL, ¬ k = x := fun x hx e => hk (by rw [e]; exact hx)
  have t : ∀ x ∈ namesL, (k == x) = false := fun x hx => by
    cases hq : (k == x) with
    | false => rfl
    | true =>
      exfalso
      refine h x hx ?_
      rcases k with ⟨kd⟩
      rcases x with ⟨xd⟩
      have : (kd == xd) = true := hq
      rw [eq_of_beq this]
  simp only [namesL, List.forall_mem_cons] at t
  obtain ⟨t0, t1, t2, t3, t4, t5, t6, _⟩ := t
  unfold aEnts
  simp [Instr.findNow, Instr.sameNow, t0, t1, t2, t3, t4, t5, t6]
theorem run_lookA0 (w : World) (B : Nat) (es : Array MapEntry) (ck : Nat) (k : ByteArray) (hb : w.heap[B]? = some (.map es ck)) (hf : Instr.findNow .string (.string k) es.toList 0 = some none) :
    (Instr.lookup 102 (.map (some B)) (.string k) true).run Tryz.prog w = .ok (.tuple #[.agg #[.bool false, .nilFunc], .bool false]) w := by
  have hm := Tryz.underlying102
  have hd := Tryz.underlying9
  have hz := Tryz.zeroValue100 w
  simp [Instr.lookup, run_underlying hm, MapKept.run_getObj_map hb, MapKept.run_checkKey hd (show MapKept.IsKey .string (.string k) from trivial), MapKept.run_findKey hd hf, Result.andThen, hz]
set_option maxRecDepth 100000 in
set_option maxHeartbeats 1000000 in
theorem New_unk (name : ByteArray) (d : Bool) (hn : name ∉ namesL) (w : World) :
    Calls Tryz.prog 25 #[.string name, .bool d] w fun e w' => e = .returned (.tuple #[.pointer none, .int .i64 21]) ∧ Below w.heap.size w w' := by
  have HN := Lib.hid (find_none name hn)
  clear hn
  go_enter Tryz.func25, Tryz.ntmps25
  go_wp2_with fail
  refine (aggFns_any w).mono ?_
  rintro e wa ⟨c1, c2, c3, c4, rfl, hI⟩
  have hlk := run_lookA0 wa w.heap.size _ 7 name hI.1 (HN.out c1 c2 c3 c4)
  have hwlt : w.heap.size < wa.heap.size := hI.lt
  have HBA := Lib.hid hI.2.1
  clear hI
  obtain ⟨wb, hwb, HB2⟩ : ∃ wb, (store ⟨wa.heap.size, 1, none⟩ .nilFunc).run Tryz.prog (wa.alloc (.cells #[.bool false, .nilFunc] 100)) = .ok () wb ∧ Hid (Below wa.heap.size wa wb) := by
    have h0 : (wa.alloc (.cells #[.bool false, .nilFunc] 100)).heap[wa.heap.size]? = some (.cells #[.bool false, .nilFunc] 100 (0, 0)) := World.alloc_heap_new wa _
    have h1 : Below wa.heap.size wa (wa.alloc (.cells #[.bool false, .nilFunc] 100)) := (Below.refl _ _).alloc (Nat.le_refl _) _
    generalize wa.alloc (.cells #[.bool false, .nilFunc] 100) = wz at h0 h1 ⊢
    refine ⟨_, run_store1 (u := .nilFunc) rfl (by simp [World.cell?, h0]) (by simp [World.frozen?, h0]), Lib.hid (h1.setCell (p := ⟨wa.heap.size, 1, none⟩) (Nat.le_refl _) _)⟩
  go_wp2_with fail
  refine bodyPost_ret (results_tmp2 rfl _ _ _) rfl ⟨rfl, HBA.out.trans (HB2.out.mono (Nat.le_of_lt hwlt))⟩
set_option maxRecDepth 100000 in
set_option maxHeartbeats 1000000 in
theorem Known_no (name : ByteArray) (hn : name ∉ namesL) (w : World) :
    Calls Tryz.prog 26 #[.string name] w fun e w' => e = .returned (.bool false) ∧ Below w.heap.size w w' := by
  have HN := Lib.hid (find_none name hn)
  clear hn
  go_enter Tryz.func26, Tryz.ntmps26
  go_wp2_with fail
  refine (aggFns_any w).mono ?_
  rintro e wa ⟨c1, c2, c3, c4, rfl, hI⟩
  have hlk := run_lookA0 wa w.heap.size _ 7 name hI.1 (HN.out c1 c2 c3 c4)
  have hwlt : w.heap.size < wa.heap.size := hI.lt
  have HBA := Lib.hid hI.2.1
  clear hI
  obtain ⟨wb, hwb, HB2⟩ : ∃ wb, (store ⟨wa.heap.size, 1, none⟩ .nilFunc).run Tryz.prog (wa.alloc (.cells #[.bool false, .nilFunc] 100)) = .ok () wb ∧ Hid (Below wa.heap.size wa wb) := by
    have h0 : (wa.alloc (.cells #[.bool false, .nilFunc] 100)).heap[wa.heap.size]? = some (.cells #[.bool false, .nilFunc] 100 (0, 0)) := World.alloc_heap_new wa _
    have h1 : Below wa.heap.size wa (wa.alloc (.cells #[.bool false, .nilFunc] 100)) := (Below.refl _ _).alloc (Nat.le_refl _) _
    generalize wa.alloc (.cells #[.bool false, .nilFunc] 100) = wz at h0 h1 ⊢
    refine ⟨_, run_store1 (u := .nilFunc) rfl (by simp [World.cell?, h0]) (by simp [World.frozen?, h0]), Lib.hid (h1.setCell (p := ⟨wa.heap.size, 1, none⟩) (Nat.le_refl _) _)⟩
  go_wp2_with fail
  go_ret
  exact ⟨rfl, HBA.out.trans (HB2.out.mono (Nat.le_of_lt hwlt))⟩
set_option maxRecDepth 100000 in
set_option maxHeartbeats 1000000 in
theorem Known_yes {name : ByteArray} {all : Bool} {fin : Bool → List Trip → Trip × Int} (hn : Named name all fin) (w : World) :
    Calls Tryz.prog 26 #[.string name] w fun e w' => e = .returned (.bool true) ∧ Below w.heap.size w w' := by
  have HN := Lib.hid hn.has
  clear hn
  go_enter Tryz.func26, Tryz.ntmps26
  go_wp2_with fail
  refine (aggFns_any w).mono ?_
  rintro e wa ⟨c1, c2, c3, c4, rfl, hI⟩
  obtain ⟨i, gb, cb, hfind, eg, hbeg⟩ := HN.out c1 c2 c3 c4
  have hlk := run_lookA wa w.heap.size _ 7 name i _ hI.1 hfind
  have hwlt : w.heap.size < wa.heap.size := hI.lt
  have HBA := Lib.hid hI.2.1
  clear hbeg hfind eg hI
  obtain ⟨wb, hwb, HB2⟩ : ∃ wb, (store ⟨wa.heap.size, 1, none⟩ (.func (.func gb) #[] cb)).run Tryz.prog (wa.alloc (.cells #[.bool all, .nilFunc] 100)) = .ok () wb ∧ Hid (Below wa.heap.size wa wb) := by
    have h0 : (wa.alloc (.cells #[.bool all, .nilFunc] 100)).heap[wa.heap.size]? = some (.cells #[.bool all, .nilFunc] 100 (0, 0)) := World.alloc_heap_new wa _
    have h1 : Below wa.heap.size wa (wa.alloc (.cells #[.bool all, .nilFunc] 100)) := (Below.refl _ _).alloc (Nat.le_refl _) _
    generalize wa.alloc (.cells #[.bool all, .nilFunc] 100) = wz at h0 h1 ⊢
    refine ⟨_, run_store1 (u := .nilFunc) rfl (by simp [World.cell?, h0]) (by simp [World.frozen?, h0]), Lib.hid (h1.setCell (p := ⟨wa.heap.size, 1, none⟩) (Nat.le_refl _) _)⟩
  go_wp2_with fail
  go_ret
  exact ⟨rfl, HBA.out.trans (HB2.out.mono (Nat.le_of_lt hwlt))⟩
/-- a value that is not right is refused, and says nothing -/
theorem Step_bad {B a : Nat} {all d : Bool} {fin : Bool → List Trip → Trip × Int} {w : World} {L : List Trip} (h : AccAt B a all d fin w L) (t : Trip) (ht : ¬ Rt t.1 t.2.1 t.2.2) (hs : t.2.2.size ≤ 9223372036854775807) :
    Calls Tryz.prog 29 #[.pointer (some ⟨a, 0, none⟩), vvT t] w fun e w' => e = .returned (.int .i64 2) ∧ Below w.heap.size w w' := by
  obtain ⟨gb, cb, sf, ff, bs, rs, hb, hp, htal, hbs, hrs⟩ := h
  obtain ⟨k, z, s⟩ := t
  have hlt := hb.lt
  obtain ⟨w1, hw1⟩ : ∃ w1, w.alloc (.cells #[.int .u8 k, .int .i64 z, .string s] 24) = w1 := ⟨_, rfl⟩
  have hal : Below w.heap.size w w1 := by rw [← hw1]; exact (Below.refl _ _).alloc (Nat.le_refl _) _
  have bv : BoxT w1 w.heap.size (k, z, s) := by rw [← hw1]; exact BoxT.new w (k, z, s)
  have hb1 := hb.on (hal.block a)
  obtain ⟨x0, x1, x2, x3, x4, x5⟩ := hb1.cells
  obtain ⟨y0, y1, y2⟩ := bv.cells
  dsimp only at y0 y1 y2
  have HAL := Lib.hid hal
  have HRT := Lib.hid ht
  clear hb hp htal hbs hrs hb1 bv hal ht
  show Calls Tryz.prog 29 #[.pointer (some ⟨a, 0, none⟩), vv k z s] w _
  go_enter Tryz.func29, Tryz.ntmps29
  go_wp2_with fail
  refine (isMade_yes a w1 x0).mono ?_
  rintro e w2 ⟨rfl, rfl⟩
  go_wp2_with fail
  refine (Right_any k z s _ hs).mono ?_
  rintro e w3 ⟨rfl, hb3⟩
  rw [decide_eq_false HRT.out]
  go_wp2_with fail
  go_ret
  exact ⟨rfl, HAL.out.trans (hb3.mono HAL.out.size)⟩
end Go.Proofs.YtceknmibopnmhaaGreatDoor
