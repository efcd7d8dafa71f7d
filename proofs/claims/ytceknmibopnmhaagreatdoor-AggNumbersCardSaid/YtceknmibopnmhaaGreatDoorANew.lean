/-
  Layer 8: a total: Final, New. Conditions: right values.
-/
import Derived.Test.YtceknmibopnmhaaGreatDoorAAcc
namespace Go.Proofs.YtceknmibopnmhaaGreatDoor
open Go.ChangeShapes Go.WideShapes Go.ChangeAt Go.RowKit Go.Maps Go.Sort Go.Shelf Go.ChangeMaps Go.Lib
set_option linter.unusedVariables false

set_option maxRecDepth 100000 in
set_option maxHeartbeats 1000000 in
theorem Final_ok {B a : Nat} {all d : Bool} {fin : Bool → List Trip → Trip × Int} {w : World} {L : List Trip} (h : AccAt B a all d fin w L) (hL : L.length ≤ 100000) (hwd : WdB B w) :
    Calls Tryz.prog 30 #[.pointer (some ⟨a, 0, none⟩)] w fun e w' => e = .returned (.tuple #[vvT (fin d L).1, .int .i64 (fin d L).2]) ∧ Below w.heap.size w w' := by
  obtain ⟨gb, cb, sf, ff, bs, rs, hb, hp, htal, hbs, hrs⟩ := h
  obtain ⟨sg, scb, fg, fcb, St, rfl, rfl, e1, e2, tst, tfi, tsb, ts0⟩ := htal
  obtain ⟨w1, hw1⟩ : ∃ w1, w.alloc (.cells #[.int .u8 0, .int .i64 0, .string ⟨#[]⟩] 24) = w1 := ⟨_, rfl⟩
  have hal : Below w.heap.size w w1 := by rw [← hw1]; exact (Below.refl _ _).alloc (Nat.le_refl _) _
  have hres : BoxT w1 w.heap.size (0, 0, ⟨#[]⟩) := by rw [← hw1]; exact BoxT.new w (0, 0, ⟨#[]⟩)
  have hb1 := hb.on (hal.block a)
  obtain ⟨x0, x1, x2, x3, x4, x5⟩ := hb1.cells
  have HF := Lib.hid (tfi w1 L hL (hwd.on hal) (tsb w w1 L ts0 fun b _ h => hal.block b h))
  have HAL := Lib.hid hal
  have HRES := Lib.hid hres
  clear hb hb1 hp tst tfi tsb ts0 hal hwd hbs hrs hres
  go_enter Tryz.func30, Tryz.ntmps30
  go_wp2_with fail
  refine (isMade_yes a w1 x0).mono ?_
  rintro e w2 ⟨rfl, rfl⟩
  go_wp2_with fail
  refine HF.out.mono ?_
  rintro e w3 ⟨rfl, hb3⟩
  obtain ⟨y0, y1, y2⟩ := (HRES.out.on hb3).cells
  obtain ⟨f0, f1, f2⟩ := (HRES.out.on hb3).frz
  dsimp only at y0 y1 y2
  obtain ⟨⟨⟨k, z, s⟩, r⟩, ht⟩ : ∃ t, fin d L = t := ⟨_, rfl⟩
  rw [ht]
  have hB := HAL.out.trans (hb3.mono HAL.out.size)
  go_wp2_with fail
  refine bodyPost_ret (v := .tuple #[vv k z s, .int .i64 r]) (by simp [results, Tryz.results30, go_sem, y0, y1, y2]) rfl ⟨by rw [ht], ?_⟩
  exact ((hB.setCell (p := ⟨w.heap.size, 0, none⟩) (Nat.le_refl _) _).setCell (p := ⟨w.heap.size, 1, none⟩) (Nat.le_refl _) _).setCell (p := ⟨w.heap.size, 2, none⟩) (Nat.le_refl _) _
/-- the totals of a name -/
structure Named (name : ByteArray) (all : Bool) (fin : Bool → List Trip → Trip × Int) : Prop where
  has : ∀ c1 c2 c3 c4, ∃ i gb cb, Instr.findNow .string (.string name) (aEnts c1 c2 c3 c4) 0 = some (some (i, fnA all (.func (.func gb) #[] cb))) ∧ (∀ args w, (callFunc gb args).run Tryz.prog w = .ok (.enter gb args) w) ∧
    ∀ B, ∃ (be : List Nat) (Bg : World → Prop), BegOk B gb cb be Bg fin ∧ (∀ w w', Bg w → (∀ b ∈ be, b < w.heap.size → w'.heap[b]? = w.heap[b]?) → Bg w') ∧ (∀ b ∈ be, b = c1 ∨ b = c2 ∨ b = c3 ∨ b = c4) ∧
      ∀ w, w.heap[c4]? = some (.cells #[.func (.func 103) #[] #[]] 134 (0, 0)) → w.heap[c3]? = some (.cells #[.func (.func 102) #[] #[]] 134 (0, 0)) → w.heap[c2]? = some (.cells #[.int .u8 1, .int .i64 0, .string ⟨#[]⟩] 24 (0, 0)) → w.heap[c1]? = some (.cells #[.int .u8 0, .int .i64 0, .string ⟨#[]⟩] 24 (0, 0)) → Bg w
theorem named_countAll : Named ⟨#[99, 111, 117, 110, 116, 42]⟩ true (fun d L => finCnt (dsel d L)) := ⟨fun c1 c2 c3 c4 => ⟨_, _, _, rfl, enters_of Tryz.func98 (by kernel_rfl) rfl, fun B => ⟨[], fun _ => True, count_beg B, fun _ _ _ _ => trivial, fun b hb => by simp at hb, fun _ _ _ _ _ => trivial⟩⟩⟩
theorem named_count : Named ⟨#[99, 111, 117, 110, 116]⟩ false (fun d L => finCnt (dsel d L)) := ⟨fun c1 c2 c3 c4 => ⟨_, _, _, rfl, enters_of Tryz.func98 (by kernel_rfl) rfl, fun B => ⟨[], fun _ => True, count_beg B, fun _ _ _ _ => trivial, fun b hb => by simp at hb, fun _ _ _ _ _ => trivial⟩⟩⟩
theorem named_sum : Named ⟨#[115, 117, 109]⟩ false (fun d L => finSum (0, 0, ⟨#[]⟩) (dsel d L)) := ⟨fun c1 c2 c3 c4 => ⟨_, _, _, rfl, enters_of Tryz.func136 (by kernel_rfl) rfl, fun B => ⟨[c1], fun w => BoxT w c1 (0, 0, ⟨#[]⟩), sum_beg B c1 (0, 0, ⟨#[]⟩), fun w w' h hb => (hb c1 (by simp) h.lt).trans h, fun b hb => .inl (by simpa using hb), fun _ _ _ _ h => h⟩⟩⟩
theorem named_total : Named ⟨#[116, 111, 116, 97, 108]⟩ false (fun d L => finSum (1, 0, ⟨#[]⟩) (dsel d L)) := ⟨fun c1 c2 c3 c4 => ⟨_, _, _, rfl, enters_of Tryz.func136 (by kernel_rfl) rfl, fun B => ⟨[c2], fun w => BoxT w c2 (1, 0, ⟨#[]⟩), sum_beg B c2 (1, 0, ⟨#[]⟩), fun w w' h hb => (hb c2 (by simp) h.lt).trans h, fun b hb => .inr (.inl (by simpa using hb)), fun _ _ _ h _ => h⟩⟩⟩
theorem named_min : Named ⟨#[109, 105, 110]⟩ false (fun _ L => (bestMn L, 0)) := ⟨fun c1 c2 c3 c4 => ⟨_, _, _, rfl, enters_of Tryz.func141 (by kernel_rfl) rfl, fun B => ⟨[c3], _, Mn_beg B c3, fun w w' h hb => (hb c3 (by simp) (Boxed.lt h)).trans h, fun b hb => .inr (.inr (.inl (by simpa using hb))), fun _ _ h _ _ => h⟩⟩⟩
theorem named_max : Named ⟨#[109, 97, 120]⟩ false (fun _ L => (bestMx L, 0)) := ⟨fun c1 c2 c3 c4 => ⟨_, _, _, rfl, enters_of Tryz.func141 (by kernel_rfl) rfl, fun B => ⟨[c4], _, Mx_beg B c4, fun w w' h hb => (hb c4 (by simp) (Boxed.lt h)).trans h, fun b hb => .inr (.inr (.inr (by simpa using hb))), fun _ h _ _ _ => h⟩⟩⟩
theorem named_join : Named ⟨#[103, 114, 111, 117, 112, 95, 99, 111, 110, 99, 97, 116]⟩ false (fun d => finJoin d) := ⟨fun c1 c2 c3 c4 => ⟨_, _, _, rfl, enters_of Tryz.func104 (by kernel_rfl) rfl, fun B => ⟨[], fun _ => True, j_beg B, fun _ _ _ _ => trivial, fun b hb => by simp at hb, fun _ _ _ _ _ => trivial⟩⟩⟩
set_option maxRecDepth 100000 in
set_option maxHeartbeats 1000000 in
theorem New_ok {B : Nat} {name : ByteArray} {all d : Bool} {fin : Bool → List Trip → Trip × Int} (hn : Named name all fin) (had : (all && d) = false) (w : World) (hB : B ≤ w.heap.size) :
    Calls Tryz.prog 25 #[.string name, .bool d] w fun e w' => ∃ a, e = .returned (.tuple #[.pointer (some ⟨a, 0, none⟩), .int .i64 0]) ∧ AccAt B a all d fin w' [] ∧ w.heap.size ≤ a ∧ Below w.heap.size w w' := by
  have HN := Lib.hid hn.has
  clear hn
  go_enter Tryz.func25, Tryz.ntmps25
  go_wp2_with fail
  refine (aggFns_any w).mono ?_
  rintro e wa ⟨c1, c2, c3, c4, rfl, hI⟩
  obtain ⟨i, gb, cb, hfind, eg, hbeg⟩ := HN.out c1 c2 c3 c4
  have hlk := run_lookA wa w.heap.size _ 7 name i _ hI.1 hfind
  have HBE := Lib.hid hbeg
  have HI := Lib.hid hI
  have HEG := Lib.hid eg
  clear hbeg hfind eg
  have hwlt : w.heap.size < wa.heap.size := hI.lt
  obtain ⟨wb, hwb, HB1, HB2⟩ : ∃ wb, (store ⟨wa.heap.size, 1, none⟩ (.func (.func gb) #[] cb)).run Tryz.prog (wa.alloc (.cells #[.bool all, .nilFunc] 100)) = .ok () wb ∧ Hid (wb.heap[wa.heap.size]? = some (.cells #[.bool all, .func (.func gb) #[] cb] 100 (0, 0))) ∧ Hid (Below wa.heap.size wa wb) := by
    have h0 : (wa.alloc (.cells #[.bool all, .nilFunc] 100)).heap[wa.heap.size]? = some (.cells #[.bool all, .nilFunc] 100 (0, 0)) := World.alloc_heap_new wa _
    have h1 : Below wa.heap.size wa (wa.alloc (.cells #[.bool all, .nilFunc] 100)) := (Below.refl _ _).alloc (Nat.le_refl _) _
    generalize wa.alloc (.cells #[.bool all, .nilFunc] 100) = wz at h0 h1 ⊢
    refine ⟨_, run_store1 (u := .nilFunc) rfl (by simp [World.cell?, h0]) (by simp [World.frozen?, h0]) , Lib.hid (set_box 1 _ h0), Lib.hid (h1.setCell (p := ⟨wa.heap.size, 1, none⟩) (Nat.le_refl _) _)⟩
  have hq : wb.cell? ⟨wa.heap.size, 0, none⟩ = some (.bool all) ∧ wb.cell? ⟨wa.heap.size, 1, none⟩ = some (.func (.func gb) #[] cb) := by
    have h := HB1.out
    refine ⟨?_, ?_⟩ <;> simp [World.cell?, h]
  obtain ⟨q0, q1⟩ := hq
  obtain ⟨be, Bg, hbo, hbs, hbc, hbg⟩ := HBE.out B
  have hL := hI.2.2
  have hwb : wa.heap.size ≤ wb.heap.size := HB2.out.size
  have hal : Below wb.heap.size wb (wb.alloc (.cells #[.pointer (some ⟨wb.heap.size, 0, none⟩), .bool all, .func (.func gb) #[] cb, .bool d, .nilFunc, .nilFunc] 108)) := (Below.refl _ _).alloc (Nat.le_refl _) _
  have hacc : AccB (wb.alloc (.cells #[.pointer (some ⟨wb.heap.size, 0, none⟩), .bool all, .func (.func gb) #[] cb, .bool d, .nilFunc, .nilFunc] 108)) wb.heap.size all d gb cb .nilFunc .nilFunc := World.alloc_heap_new wb _
  generalize hwc : wb.alloc (.cells #[.pointer (some ⟨wb.heap.size, 0, none⟩), .bool all, .func (.func gb) #[] cb, .bool d, .nilFunc, .nilFunc] 108) = wc at hal hacc
  have hup : ∀ c o, wa.heap[c]? = some o → wc.heap[c]? = some o := fun c o h => by
    have h1 : c < wa.heap.size := (Array.getElem?_eq_some_iff.1 h).1
    exact (hal.block c (by omega)).trans ((HB2.out.block c h1).trans h)
  have hccl : ∀ c o, wa.heap[c]? = some o → c < wb.heap.size := fun c o h => by
    have h1 : c < wa.heap.size := (Array.getElem?_eq_some_iff.1 h).1
    omega
  have g4 := (hL c4 _ (List.mem_cons_self)).2
  have g3 := (hL c3 _ (List.mem_cons_of_mem _ (List.mem_cons_self))).2
  have g2 := (hL c2 _ (List.mem_cons_of_mem _ (List.mem_cons_of_mem _ (List.mem_cons_self)))).2
  have g1 := (hL c1 _ (List.mem_cons_of_mem _ (List.mem_cons_of_mem _ (List.mem_cons_of_mem _ (List.mem_cons_self))))).2
  have haccp : AccP B wb.heap.size all d fin wc gb cb := ⟨be, Bg, HEG.out, hbo, hbg wc (hup _ _ g4) (hup _ _ g3) (hup _ _ g2) (hup _ _ g1), hbs, fun b hb => by
    rcases hbc b hb with rfl | rfl | rfl | rfl
    · exact hccl _ _ g1
    · exact hccl _ _ g2
    · exact hccl _ _ g3
    · exact hccl _ _ g4, by omega⟩
  have HR := Lib.hid (Reset_ok hacc haccp)
  have HBW := Lib.hid (show Below w.heap.size w wc from (hI.2.1.trans (HB2.out.mono (Nat.le_of_lt hwlt))).trans (hal.mono (by omega)))
  clear hI hacc haccp hal hup hccl g1 g2 g3 g4 hL hbo hbs hbc hbg
  cases all with
  | false =>
    go_wp2_with fail
    refine HR.out.mono ?_
    rintro e w3 ⟨rfl, hat, hk⟩
    have HAT := Lib.hid hat
    have HK := Lib.hid hk
    clear hat hk
    go_wp2_with fail
    refine bodyPost_ret (results_tmp2 rfl _ _ _) rfl ⟨wb.heap.size, rfl, HAT.out, by omega, HBW.out.trans (HK.out.below HBW.out.size fun k hk => by rw [hk]; omega)⟩
  | true =>
    cases d with
    | true => simp at had
    | false =>
      go_wp2_with fail
      refine HR.out.mono ?_
      rintro e w3 ⟨rfl, hat, hk⟩
      have HAT := Lib.hid hat
      have HK := Lib.hid hk
      clear hat hk
      go_wp2_with fail
      refine bodyPost_ret (results_tmp2 rfl _ _ _) rfl ⟨wb.heap.size, rfl, HAT.out, by omega, HBW.out.trans (HK.out.below HBW.out.size fun k hk => by rw [hk]; omega)⟩
end Go.Proofs.YtceknmibopnmhaaGreatDoor
