/-
  Layer 8: a total, and how far the blocks that it writes into reach. Conditions: right values.
-/
import Derived.Test.YtceknmibopnmhaaGreatDoorAEnM
import Derived.BigQuiet
namespace Go.Proofs.YtceknmibopnmhaaGreatDoor
open Go.ChangeShapes Go.WideShapes Go.ChangeAt Go.RowKit Go.Maps Go.Sort Go.Shelf Go.ChangeMaps Go.Lib
set_option linter.unusedVariables false

def AccM (B a m : Nat) (all d : Bool) (fin : Bool → List Trip → Trip × Int) (w : World) (L : List Trip) : Prop :=
  ∃ gb cb sf ff bs rs, AccB w a all d gb cb sf ff ∧ AccP B a all d fin w gb cb ∧ Tal B w bs rs sf ff (fin d) L ∧ (∀ b ∈ bs, a < b ∧ b < m) ∧ (∀ b ∈ rs, b < w.heap.size ∧ b ≠ a)
theorem AccM.at {B a m : Nat} {all d : Bool} {fin : Bool → List Trip → Trip × Int} {w : World} {L : List Trip} (h : AccM B a m all d fin w L) : AccAt B a all d fin w L := by
  obtain ⟨gb, cb, sf, ff, bs, rs, h1, h2, h3, h4, h5⟩ := h
  exact ⟨gb, cb, sf, ff, bs, rs, h1, h2, h3, fun b hb => (h4 b hb).1, h5⟩
theorem AccM.keep {B a m : Nat} {all d : Bool} {fin : Bool → List Trip → Trip × Int} {w w' : World} {L : List Trip} (h : AccM B a m all d fin w L) (hb : Below w.heap.size w w') : AccM B a m all d fin w' L := by
  obtain ⟨gb, cb, sf, ff, bs, rs, h1, h2, ⟨g, cb', g', cb'', St, e1, e2, e3, e4, e5, e6, hS, st⟩, h4, h5⟩ := h
  exact ⟨gb, cb, sf, ff, bs, rs, h1.on (hb.block a), h2.on (fun b _ hl => hb.block b hl), ⟨g, cb', g', cb'', St, e1, e2, e3, e4, e5, e6, hS, hS w w' L st (fun b _ hl => hb.block b hl)⟩, h4, fun b hb2 => ⟨Nat.lt_of_lt_of_le (h5 b hb2).1 hb.size, (h5 b hb2).2⟩⟩
set_option maxRecDepth 100000 in
set_option maxHeartbeats 1000000 in
theorem Reset_okM {B a : Nat} {all d : Bool} {fin : Bool → List Trip → Trip × Int} {w : World} {gb : Nat} {cb : Array Value} {sf ff : Value} (hb : AccB w a all d gb cb sf ff) (hp : AccP B a all d fin w gb cb) :
    Calls Tryz.prog 32 #[.pointer (some ⟨a, 0, none⟩)] w fun e w' => e = .returned (.tuple #[]) ∧ AccM B a w'.heap.size all d fin w' [] ∧ Keep (· = a) w w' := by
  obtain ⟨be, Bg, eg, hbeg, hbg, hst, hbe, hBa⟩ := id hp
  obtain ⟨x0, x1, x2, x3, x4, x5⟩ := hb.cells
  have HBEG := Lib.hid (hbeg d w.drew (Nat.le_trans hBa (Nat.le_of_lt hb.lt)) (hst w w.drew hbg fun _ _ _ => rfl))
  have HP := Lib.hid hp
  have HB := Lib.hid hb
  have HST := Lib.hid hst
  have HBE := Lib.hid hbe
  clear hp hb hbg hst hbe
  go_enter Tryz.func32, Tryz.ntmps32
  go_wp2_with fail
  refine (isMade_yes a w x0).mono ?_
  rintro e w1 ⟨rfl, rfl⟩
  go_wp2_with fail
  go_region_law (first
    | (go_simp; refine HBEG.out.mono ?_; rintro e w2 ⟨sf2, ff2, bs, rs, rfl, ht, hbs, hrs, hb2⟩; obtain ⟨sg, scb, fg, fcb, St, rfl, rfl, e1, e2, tst, tfi, tsb, ts0⟩ := ht; have HT := Lib.hid (And.intro tst (And.intro tfi (And.intro tsb ts0))); have HBS := Lib.hid hbs; have HRS := Lib.hid hrs; have HB2 := Lib.hid (show Below w1.heap.size w1 w2 from ⟨hb2.os, hb2.tape, hb2.output, hb2.size, hb2.block⟩); have HA2 := Lib.hid (HB.out.on (HB2.out.block a)); obtain ⟨_, _, _, _, y4, y5⟩ := HA2.out.cells; obtain ⟨f4, f5⟩ := HA2.out.frz; obtain ⟨s4, s5⟩ := store45 (v0 := .func (.func sg) #[] scb) (v1 := .func (.func fg) #[] fcb) rfl rfl y4 y5 f4 f5; clear hbs hrs hb2 tst tfi tsb ts0))
  all_goals
    have hlt := HB.out.lt
    have hE1 := Lib.hid e1
    have hE2 := Lib.hid e2
    go_wp2_with fail
    go_end0
    refine ⟨rfl, ⟨gb, cb, .func (.func sg) #[] scb, .func (.func fg) #[] fcb, bs, rs, HA2.out.put _ _, HP.out.on fun b hb1 hb3 => (put_block _ _ _ _ (by omega)).trans (HB2.out.block b hb3), ⟨sg, scb, fg, fcb, St, rfl, rfl, hE1.out, hE2.out, HT.out.1, HT.out.2.1, HT.out.2.2.1, HT.out.2.2.1 w2 _ [] HT.out.2.2.2 fun b hm hl => put_block _ _ _ _ fun e => ?_⟩, fun b hm => ?_, fun b hm => ?_⟩, (Keep.of_below HB2.out).trans ((Keep.setCell (P := fun x => x = a) w2 ⟨a, 4, none⟩ _ rfl).trans (Keep.setCell (P := fun x => x = a) _ ⟨a, 5, none⟩ _ rfl))⟩
    · obtain ⟨_, h2⟩ := HRS.out b hm
      subst e
      rcases h2 with h2 | h2
      · exact absurd h2 (by show ¬ w1.heap.size ≤ b; omega)
      · exact absurd (HBE.out b h2) (Nat.lt_irrefl _)
    · have h2 := HBS.out b hm
      have h3 : w1.heap.size ≤ b := h2.1
      refine ⟨by omega, by simp only [World.size_setCell]; exact h2.2⟩
    · obtain ⟨h1, h2⟩ := HRS.out b hm
      refine ⟨by simp only [World.size_setCell]; exact h1, ?_⟩
      rcases h2 with h2 | h2
      · have h3 : w1.heap.size ≤ b := h2
        omega
      · have := HBE.out b h2
        omega
set_option maxRecDepth 100000 in
set_option maxHeartbeats 1000000 in
theorem New_okM {B : Nat} {name : ByteArray} {all d : Bool} {fin : Bool → List Trip → Trip × Int} (hn : Named name all fin) (had : (all && d) = false) (w : World) (hB : B ≤ w.heap.size) :
    Calls Tryz.prog 25 #[.string name, .bool d] w fun e w' => ∃ a, e = .returned (.tuple #[.pointer (some ⟨a, 0, none⟩), .int .i64 0]) ∧ AccM B a w'.heap.size all d fin w' [] ∧ w.heap.size ≤ a ∧ Below w.heap.size w w' := by
  have HN := Lib.hid hn.has
  clear hn
  go_enter Tryz.func25, Tryz.ntmps25
  go_wp2_with fail
  refine (aggFns_any w).mono ?_
  rintro e wa ⟨c1, c2, c3, c4, rfl, hI⟩
  obtain ⟨i, gb, cb, hfind, eg, hbeg⟩ := HN.out c1 c2 c3 c4
  have hlk := run_lookA wa w.heap.size _ 7 name i _ hI.1 hfind
  have HBE := Lib.hid hbeg
  have HI := Lib.hid hI
  have HEG := Lib.hid eg
  clear hbeg hfind eg
  have hwlt : w.heap.size < wa.heap.size := hI.lt
  obtain ⟨wb, hwb, HB1, HB2⟩ : ∃ wb, (store ⟨wa.heap.size, 1, none⟩ (.func (.func gb) #[] cb)).run Tryz.prog (wa.alloc (.cells #[.bool all, .nilFunc] 100)) = .ok () wb ∧ Hid (wb.heap[wa.heap.size]? = some (.cells #[.bool all, .func (.func gb) #[] cb] 100 (0, 0))) ∧ Hid (Below wa.heap.size wa wb) := by
    have h0 : (wa.alloc (.cells #[.bool all, .nilFunc] 100)).heap[wa.heap.size]? = some (.cells #[.bool all, .nilFunc] 100 (0, 0)) := World.alloc_heap_new wa _
    have h1 : Below wa.heap.size wa (wa.alloc (.cells #[.bool all, .nilFunc] 100)) := (Below.refl _ _).alloc (Nat.le_refl _) _
    generalize wa.alloc (.cells #[.bool all, .nilFunc] 100) = wz at h0 h1 ⊢
    refine ⟨_, run_store1 (u := .nilFunc) rfl (by simp [World.cell?, h0]) (by simp [World.frozen?, h0]) , Lib.hid (set_box 1 _ h0), Lib.hid (h1.setCell (p := ⟨wa.heap.size, 1, none⟩) (Nat.le_refl _) _)⟩
  have hq : wb.cell? ⟨wa.heap.size, 0, none⟩ = some (.bool all) ∧ wb.cell? ⟨wa.heap.size, 1, none⟩ = some (.func (.func gb) #[] cb) := by
    have h := HB1.out
    refine ⟨?_, ?_⟩ <;> simp [World.cell?, h]
  obtain ⟨q0, q1⟩ := hq
  obtain ⟨be, Bg, hbo, hbs, hbc, hbg⟩ := HBE.out B
  have hL := hI.2.2
  have hwb : wa.heap.size ≤ wb.heap.size := HB2.out.size
  have hal : Below wb.heap.size wb (wb.alloc (.cells #[.pointer (some ⟨wb.heap.size, 0, none⟩), .bool all, .func (.func gb) #[] cb, .bool d, .nilFunc, .nilFunc] 108)) := (Below.refl _ _).alloc (Nat.le_refl _) _
  have hacc : AccB (wb.alloc (.cells #[.pointer (some ⟨wb.heap.size, 0, none⟩), .bool all, .func (.func gb) #[] cb, .bool d, .nilFunc, .nilFunc] 108)) wb.heap.size all d gb cb .nilFunc .nilFunc := World.alloc_heap_new wb _
  generalize hwc : wb.alloc (.cells #[.pointer (some ⟨wb.heap.size, 0, none⟩), .bool all, .func (.func gb) #[] cb, .bool d, .nilFunc, .nilFunc] 108) = wc at hal hacc
  have hup : ∀ c o, wa.heap[c]? = some o → wc.heap[c]? = some o := fun c o h => by
    have h1 : c < wa.heap.size := (Array.getElem?_eq_some_iff.1 h).1
    exact (hal.block c (by omega)).trans ((HB2.out.block c h1).trans h)
  have hccl : ∀ c o, wa.heap[c]? = some o → c < wb.heap.size := fun c o h => by
    have h1 : c < wa.heap.size := (Array.getElem?_eq_some_iff.1 h).1
    omega
  have g4 := (hL c4 _ (List.mem_cons_self)).2
  have g3 := (hL c3 _ (List.mem_cons_of_mem _ (List.mem_cons_self))).2
  have g2 := (hL c2 _ (List.mem_cons_of_mem _ (List.mem_cons_of_mem _ (List.mem_cons_self)))).2
  have g1 := (hL c1 _ (List.mem_cons_of_mem _ (List.mem_cons_of_mem _ (List.mem_cons_of_mem _ (List.mem_cons_self))))).2
  have haccp : AccP B wb.heap.size all d fin wc gb cb := ⟨be, Bg, HEG.out, hbo, hbg wc (hup _ _ g4) (hup _ _ g3) (hup _ _ g2) (hup _ _ g1), hbs, fun b hb => by
    rcases hbc b hb with rfl | rfl | rfl | rfl
    · exact hccl _ _ g1
    · exact hccl _ _ g2
    · exact hccl _ _ g3
    · exact hccl _ _ g4, by omega⟩
  have HR := Lib.hid (Reset_okM hacc haccp)
  have HBW := Lib.hid (show Below w.heap.size w wc from (hI.2.1.trans (HB2.out.mono (Nat.le_of_lt hwlt))).trans (hal.mono (by omega)))
  clear hI hacc haccp hal hup hccl g1 g2 g3 g4 hL hbo hbs hbc hbg
  cases all with
  | false =>
    go_wp2_with fail
    refine HR.out.mono ?_
    rintro e w3 ⟨rfl, hat, hk⟩
    have HAT := Lib.hid hat
    have HK := Lib.hid hk
    clear hat hk
    go_wp2_with fail
    refine bodyPost_ret (results_tmp2 rfl _ _ _) rfl ⟨wb.heap.size, rfl, HAT.out, by omega, HBW.out.trans (HK.out.below HBW.out.size fun k hk => by rw [hk]; omega)⟩
  | true =>
    cases d with
    | true => simp at had
    | false =>
      go_wp2_with fail
      refine HR.out.mono ?_
      rintro e w3 ⟨rfl, hat, hk⟩
      have HAT := Lib.hid hat
      have HK := Lib.hid hk
      clear hat hk
      go_wp2_with fail
      refine bodyPost_ret (results_tmp2 rfl _ _ _) rfl ⟨wb.heap.size, rfl, HAT.out, by omega, HBW.out.trans (HK.out.below HBW.out.size fun k hk => by rw [hk]; omega)⟩
set_option maxRecDepth 100000 in
set_option maxHeartbeats 1000000 in
theorem Step_okM {B a m : Nat} {all d : Bool} {fin : Bool → List Trip → Trip × Int} {w : World} {L : List Trip} (h : AccM B a m all d fin w L) (t : Trip) (ht : GoodT t) (hL : L.length < 100000) (hwd : WdB B w) :
    Calls Tryz.prog 29 #[.pointer (some ⟨a, 0, none⟩), vvT t] w fun e w' => e = .returned (.int .i64 0) ∧ AccM B a m all d fin w' (oneMore all L t) ∧ Keep (fun k => a < k ∧ k < m) w w' := by
  obtain ⟨gb, cb, sf, ff, bs, rs, hb, hp, htal, hbs, hrs⟩ := h
  obtain ⟨sg, scb, fg, fcb, St, rfl, rfl, e1, e2, tst, tfi, tsb, ts0⟩ := htal
  obtain ⟨k, z, s⟩ := t
  have hlt := hb.lt
  obtain ⟨w1, hw1⟩ : ∃ w1, w.alloc (.cells #[.int .u8 k, .int .i64 z, .string s] 24) = w1 := ⟨_, rfl⟩
  have hal : Below w.heap.size w w1 := by rw [← hw1]; exact (Below.refl _ _).alloc (Nat.le_refl _) _
  have bv : BoxT w1 w.heap.size (k, z, s) := by rw [← hw1]; exact BoxT.new w (k, z, s)
  have hb1 := hb.on (hal.block a)
  obtain ⟨x0, x1, x2, x3, x4, x5⟩ := hb1.cells
  obtain ⟨y0, y1, y2⟩ := bv.cells
  dsimp only at y0 y1 y2
  have HB := Lib.hid hb1
  have HP := Lib.hid (hp.on (w' := w1) fun b h1 h2 => hal.block b h2)
  have HS := Lib.hid tst
  have HT := Lib.hid (And.intro tfi (And.intro tsb (tsb w w1 L ts0 fun b _ h => hal.block b h)))
  have HAL := Lib.hid hal
  have HBV := Lib.hid bv
  have HWD := Lib.hid (hwd.on hal)
  have HBS := Lib.hid hbs
  have HRS := Lib.hid (show ∀ b ∈ rs, b < w1.heap.size ∧ b ≠ a from fun b hm => ⟨Nat.lt_of_lt_of_le (hrs b hm).1 hal.size, (hrs b hm).2⟩)
  have HG := Lib.hid ht
  have hR : Rt k z s := ht.1
  have HSAME := Lib.hid (show ∀ X : World, Below w1.heap.size w1 X → AccM B a m all d fin X L ∧ St X L from fun X hX =>
    ⟨⟨gb, cb, _, _, bs, rs, HB.out.on (hX.block a), HP.out.on fun b _ h2 => hX.block b h2, ⟨sg, scb, fg, fcb, St, rfl, rfl, e1, e2, HS.out, HT.out.1, HT.out.2.1, HT.out.2.1 w1 X L HT.out.2.2 fun b _ h => hX.block b h⟩, HBS.out, fun b hm => ⟨Nat.lt_of_lt_of_le (HRS.out b hm).1 hX.size, (HRS.out b hm).2⟩⟩, HT.out.2.1 w1 X L HT.out.2.2 fun b _ h => hX.block b h⟩)
  clear hb hb1 hp tst tfi tsb ts0 hal hwd hbs hrs ht bv
  show Calls Tryz.prog 29 #[.pointer (some ⟨a, 0, none⟩), vv k z s] w _
  go_enter Tryz.func29, Tryz.ntmps29
  go_wp2_with fail
  refine (isMade_yes a w1 x0).mono ?_
  rintro e w2 ⟨rfl, rfl⟩
  go_wp2_with fail
  refine (Right_any k z s _ (Nat.le_trans (GoodT.size HG.out) (by decide))).mono ?_
  rintro e w3 ⟨rfl, hb3⟩
  rw [decide_eq_true hR]
  have hA3 := HB.out.on (hb3.block a)
  obtain ⟨x0, x1, x2, x3, x4, x5⟩ := hA3.cells
  obtain ⟨y0, y1, y2⟩ := (HBV.out.on hb3).cells
  dsimp only at y0 y1 y2
  have HS3 := Lib.hid (HSAME.out w3 hb3)
  have HB3 := Lib.hid hb3
  have HA3 := Lib.hid hA3
  clear hb3 hA3
  -- nothing is done
  have HNO := Lib.hid (show all = false → k = 0 → AccM B a m all d fin w3 (oneMore all L (k, z, s)) ∧ Keep (fun k => a < k ∧ k < m) w w3 from fun h1 h2 => by
    rw [show oneMore all L (k, z, s) = L from if_neg (by rw [h1]; simp [h2])]
    exact ⟨HS3.out.1, (Keep.of_below HAL.out).trans (Keep.of_below HB3.out)⟩)
  -- it is handed on
  have HYES := Lib.hid (show (all = true ∨ k ≠ 0) → Calls Tryz.prog sg (#[vvT (k, z, s)] ++ scb) w3.drew fun e w' => e = .returned (.tuple #[]) ∧ AccM B a m all d fin w' (oneMore all L (k, z, s)) ∧ Keep (fun k => a < k ∧ k < m) w w' from fun h1 => by
    have hd : Below w2.heap.size w2 w3.drew := drewR HB3.out
    refine (HS.out w3.drew L (k, z, s) HG.out hL (HWD.out.on hd) (HSAME.out w3.drew hd).2).mono ?_
    rintro e w4 ⟨rfl, hs4, hk4⟩
    rw [show oneMore all L (k, z, s) = L ++ [(k, z, s)] from if_pos h1]
    have hne : ∀ b, b ≤ a → ¬ b ∈ bs := fun b hb hm => by have := HBS.out b hm; omega
    have hdr : w3.drew.heap = w3.heap := rfl
    refine ⟨rfl, ⟨gb, cb, _, _, bs, rs, HA3.out.on fun hl => hk4.block a hl (hne a (Nat.le_refl _)), (HP.out.on (w' := w3) fun b _ h2 => HB3.out.block b h2).on fun b h2 h3 => hk4.block b h3 (hne b (Nat.le_of_lt h2)), ⟨sg, scb, fg, fcb, St, rfl, rfl, e1, e2, HS.out, HT.out.1, HT.out.2.1, hs4⟩, HBS.out, fun b hm => ⟨Nat.lt_of_lt_of_le (HRS.out b hm).1 (Nat.le_trans HB3.out.size hk4.size), (HRS.out b hm).2⟩⟩, ?_⟩
    exact (Keep.of_below HAL.out).trans ((Keep.of_below hd).trans (hk4.imp fun b hm => HBS.out b hm)))
  clear x5
  cases all with
  | true =>
    have HY := Lib.hid (HYES.out (.inl rfl))
    go_wp2_with fail
    go_region_law (first
      | (go_simp; refine HY.out.mono ?_; rintro e w4 ⟨rfl, hac, hkk⟩; have HAC := Lib.hid hac; have HKK := Lib.hid hkk; clear hac hkk))
    all_goals
      go_wp2_with fail
      go_ret
      exact ⟨rfl, HAC.out, HKK.out⟩
  | false =>
    by_cases hk0 : k = 0
    · subst hk0
      have HN := Lib.hid (HNO.out rfl rfl)
      go_wp2_with fail
      go_ret
      exact ⟨rfl, HN.out.1, HN.out.2⟩
    · have HY := Lib.hid (HYES.out (.inr hk0))
      have hkd : decide (k = 0) = false := decide_eq_false hk0
      go_wp2_with fail
      go_region_law (first
        | (go_simp; refine HY.out.mono ?_; rintro e w4 ⟨rfl, hac, hkk⟩; have HAC := Lib.hid hac; have HKK := Lib.hid hkk; clear hac hkk))
      all_goals
        go_wp2_with fail
        go_ret
        exact ⟨rfl, HAC.out, HKK.out⟩
end Go.Proofs.YtceknmibopnmhaaGreatDoor
