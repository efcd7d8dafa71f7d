/-
  Layer 7, sorter: Sort. Conditions: no more than 2^16 rows.
-/
import Derived.Test.YtifnhdnmohlfiaaQObj
namespace Go.Proofs.Ytifnhdnmohlfiaa
open Go.ChangeShapes Go.WideShapes Go.ChangeAt Go.RowKit
set_option linter.unusedVariables false

theorem inOrder_same (A : Option Addr) (n c : Nat) (w : World) (h2 : n < 2) :
    Calls Try.prog 44 #[.slice A n c, .func (.func 45) #[] #[]] w fun e w' => e = .returned (.slice A n c) ∧ w' = w := by
  have q1 : decide ((n : Int) < 2) = true := decide_eq_true (by omega)
  have q0 : (n : Int) < 2 := by omega
  go_enter Try.func44, Try.ntmps44
  go_wp2_with fail
  go_ret
  exact ⟨rfl, rfl⟩
theorem Compact_same (A : Option Addr) (n c : Nat) (w : World) (h2 : n < 2) :
    Calls Try.prog 47 #[.slice A n c, .func (.func 48) #[] #[]] w fun e w' => e = .returned (.slice A n c) ∧ w' = w := by
  have q1 : decide ((n : Int) < 2) = true := decide_eq_true (by omega)
  have q0 : (n : Int) < 2 := by omega
  go_enter Try.func47, Try.ntmps47
  go_wp2_with fail
  go_ret
  exact ⟨rfl, rfl⟩
theorem cmpct_short {α : Type} (q : α → α → Bool) (l : List α) (h : l.length < 2) : cmpct q l = l := by
  match l, h with
  | [], _ => rfl
  | [x], _ => rfl
theorem inOrder_own {w : World} {lo : Nat} {A : Option Addr} {n c : Nat} {l : List En} (hO : OwnE w lo (.slice A n c) l) (hn : n = l.length) (hok : ∀ e ∈ l, EnOk w w.heap.size e) (hl : l.length ≤ 1048576) (hlo : lo ≤ w.heap.size) :
    Calls Try.prog 44 #[.slice A n c, .func (.func 45) #[] #[]] w fun e w' => ∃ v, e = .returned v ∧ OwnE w' lo v (srt ltE l) ∧ (2 ≤ l.length → OwnE w' w.heap.size v (srt ltE l)) ∧ Below w.heap.size w w' := by
  by_cases h2 : l.length < 2
  · refine (inOrder_same A n c w (by omega)).mono ?_
    rintro e w' ⟨rfl, rfl⟩
    refine ⟨_, rfl, ?_, fun h => by omega, Below.refl _ _⟩
    rw [srt_short ltE l h2]
    exact hO
  · obtain ⟨A', c', e0, h0, h1, h3⟩ := hO.form
    simp only [Value.slice.injEq] at e0
    obtain ⟨rfl, _, rfl⟩ := e0
    refine (inOrder_any l.length A n c l w hn h3 h0 (by unfold maxLen at h1; omega) hok hl (Nat.le_refl _)).mono ?_
    rintro e w' ⟨A1, c1, rfl, _, _, _, ho, hb⟩
    have ho2 := ho (by rw [srt_length]; omega)
    exact ⟨_, rfl, ho2.mono hlo, fun _ => ho2, hb⟩
theorem Compact_own {w w1 : World} {lo : Nat} {v : Value} {l : List En} (hO : OwnE w1 lo v l) (hO2 : 2 ≤ l.length → OwnE w1 w.heap.size v l) (hok : ∀ e ∈ l, EnOk w1 w.heap.size e) (hl : l.length ≤ 1048576) (hlo : lo ≤ w.heap.size) (hw : w.heap.size ≤ w1.heap.size) :
    Calls Try.prog 47 #[v, .func (.func 48) #[] #[]] w1 fun e w' => ∃ v', e = .returned v' ∧ OwnE w' lo v' (cmpct sameE l) ∧ Below w.heap.size w1 w' := by
  by_cases h2 : l.length < 2
  · obtain ⟨A', c', rfl, h0, h1, h3⟩ := hO.form
    refine (Compact_same A' l.length c' w1 h2).mono ?_
    rintro e w' ⟨rfl, rfl⟩
    refine ⟨_, rfl, ?_, Below.refl _ _⟩
    rw [cmpct_short sameE l h2]
    exact hO
  · have ho := hO2 (by omega)
    have ho' := ho
    obtain ⟨h1, h3⟩ := ho'
    rcases h3 with ⟨_, h0⟩ | ⟨g, cap, cur, rfl, hg, hh, hc, hm, hs, ht⟩
    · omega
    · refine (Compact_any g cap w.heap.size l w1 ho hw (by unfold maxLen at hm; omega) hok (by omega) hl).mono ?_
      rintro e w' ⟨v', rfl, ho3, hb⟩
      exact ⟨v', rfl, ho3.mono hlo, hb⟩
/-- the rows of the list as far as they are laid -/
def rowAt (L : List En) (i j : Nat) : Value := if j < i then (L[j]?.map En.rv).getD (Value.slice none 0 0) else Value.slice none 0 0
def rowsArr (L : List En) (i : Nat) : Array Value := ((List.range L.length).map (rowAt L i)).toArray
theorem rowsArr_get? (L : List En) (i j : Nat) : (rowsArr L i)[j]? = if j < L.length then some (rowAt L i j) else none := by
  unfold rowsArr
  rw [List.getElem?_toArray, List.getElem?_map]
  by_cases h : j < L.length
  · rw [if_pos h, List.getElem?_range h]; rfl
  · rw [if_neg h, List.getElem?_eq_none (by simpa using h)]; rfl
theorem rowsArr_size (L : List En) (i : Nat) : (rowsArr L i).size = L.length := by simp [rowsArr]
theorem rowsArr_set (L : List En) (i : Nat) (e : En) (hi : L[i]? = some e) : (rowsArr L i).setIfInBounds i e.rv = rowsArr L (i + 1) := by
  have hlt := (List.getElem?_eq_some_iff.1 hi).1
  apply Array.ext_getElem?
  intro j
  rw [Array.getElem?_setIfInBounds, rowsArr_get?, rowsArr_get?, rowsArr_size]
  by_cases h : i = j
  · subst h
    rw [if_pos rfl, if_pos hlt, if_pos hlt]
    unfold rowAt
    rw [if_pos (by omega), hi]
    rfl
  · rw [if_neg h]
    by_cases h2 : j < L.length
    · rw [if_pos h2, if_pos h2]
      unfold rowAt
      by_cases h3 : j < i
      · rw [if_pos h3, if_pos (by omega)]
      · rw [if_neg h3, if_neg (by omega)]
    · rw [if_neg h2, if_neg h2]
theorem rowsArr_zero (L : List En) : rowsArr L 0 = madeCells #[Value.slice none 0 0] L.length := by
  apply Array.ext_getElem?
  intro j
  rw [rowsArr_get?]
  by_cases h : j < L.length
  · rw [if_pos h]
    simp [madeCells, h, rowAt, Nat.mod_one]
  · rw [if_neg h]
    simp [madeCells, h]
theorem rowsArr_nil (L : List En) (i : Nat) (hi : i < L.length) : (rowsArr L i)[i]? = some (Value.slice none 0 0) := by
  rw [rowsArr_get?, if_pos hi]
  unfold rowAt
  rw [if_neg (by omega)]
theorem rowsArr_all (L : List En) (j : Nat) (e : En) (hj : L[j]? = some e) : (rowsArr L L.length)[j]? = some e.rv := by
  have hlt := (List.getElem?_eq_some_iff.1 hj).1
  rw [rowsArr_get?, if_pos hlt]
  unfold rowAt
  rw [if_pos hlt, hj]
  rfl
def SrtRel (w4 : World) (gr : Nat) (L : List En) (v : Value) (wr : World) : Prop :=
  ∃ i : Nat, v = .int .i64 (i : Int) ∧ i ≤ L.length ∧ But (fun k => k = gr) w4 wr ∧ wr.heap[gr]? = some (.cells (rowsArr L i) 73 (0, 0))
theorem Try.info_Y : (Try.prog.info? 73).map (fun i => (i.zero, i.size, i.bytes)) = some (some (.slice none 0 0), 1, 24) := by kernel_rfl
theorem run_makeY (n : Nat) (hn : n ≤ 1000000) (w : World) : (Instr.makeSlice 57 (.int .i64 (n : Int)) (.int .i64 (n : Int))).run Try.prog w = .ok (.slice (some ⟨w.heap.size, 0, none⟩) n n) (w.alloc (.cells (madeCells #[.slice none 0 0] n) 73)) := by
  obtain ⟨i0, hi, hz0, hz1, hz2⟩ := info_parts Try.info_Y
  have h := run_make (P := Try.prog) w 57 73 i0 (.slice none 0 0) Try.underlying57 hi hz0 .i64 .i64 (n : Int) (n : Int) (by omega) (by omega) (by rw [hz2]; omega) (by omega)
  rw [h, hz1]
  have e2 : ((n : Int)).toNat = n := by omega
  rw [e2, Nat.mul_one]
  rfl
/-- behind 's.rows = make(..)' -/
def SMid (w2 w4 : World) (lo s gr : Nat) (va v : Value) (o : So) (L : List En) : Prop :=
  ∃ D dc, w4.heap[s]? = some (.cells (soCells s D dc va (.slice (some ⟨gr, 0, none⟩) L.length L.length) o) 59 (0, 0)) ∧ lo ≤ s ∧ OkF w4 D o.ds ∧ OwnE w4 lo v L ∧ (∀ e ∈ L, EnB w4 e) ∧ But (fun k => k = s) w2 w4 ∧
    w4.heap[gr]? = some (.cells (rowsArr L 0) 73 (0, 0)) ∧ s ≠ gr ∧ w2.heap.size ≤ gr
theorem sort_mid {w2 : World} {lo s : Nat} {va vr v : Value} {o : So} {L : List En} (h : Sor w2 lo s va vr o) (ho : OwnE w2 lo v L) (he : ∀ e ∈ L, EnB w2 e) (n : Nat) (hn : L.length = n) :
    SMid w2 ((w2.alloc (.cells (madeCells #[.slice none 0 0] n) 73)).setCell ⟨s, 5, none⟩ (.slice (some ⟨w2.heap.size, 0, none⟩) n n)) lo s w2.heap.size va v o L := by
  subst hn
  have hal : Below w2.heap.size w2 (w2.alloc (.cells (madeCells #[.slice none 0 0] L.length) 73)) := (Below.refl _ _).alloc (Nat.le_refl _) _
  have hf := far_none w2
  obtain ⟨D, dc, hs, hlo, hd, hO, hE, hr, hrb⟩ := h
  have hsl := heap_lt hs
  have hs3 := (hal.block s hsl).trans hs
  have hfs : Far (w2.alloc (.cells (madeCells #[.slice none 0 0] L.length) 73)) (fun k => k = s) := fun k hk => by subst hk; exact ⟨_, _, _, hs3, .inl rfl⟩
  have hfs2 : Far w2 (fun k => k = s) := fun k hk => by subst hk; exact ⟨_, _, _, hs, .inl rfl⟩
  have hset := (But.refl (fun k => k = s) (w2.alloc (.cells (madeCells #[.slice none 0 0] L.length) 73))).set ⟨s, 5, none⟩ rfl (.slice (some ⟨w2.heap.size, 0, none⟩) L.length L.length)
  have hall := (But.of_below (P := fun k => k = s) hal).same hset
  have hns : ∀ k, some k = v.ownBlock → ¬ k = s := fun k hk e => by
    obtain ⟨cur, hc, _⟩ := ho.heap k hk
    rw [e, hs] at hc
    simp only [Option.some.injEq, Obj.cells.injEq] at hc
    exact absurd hc.2.1 (by decide)
  refine ⟨D, dc, ?_, hlo, hd.but hall hfs2, ownsRow_but ho hall hns, fun e hm => (he e hm).but hall hfs2, hall, ?_, by omega, Nat.le_refl _⟩
  · rw [heap_setCell_same _ s 5 _ _ _ hs3]
    rfl
  · rw [Below.heap_setCell _ ⟨s, 5, none⟩ _ _ (show w2.heap.size ≠ s by omega), rowsArr_zero]
    exact heap_alloc_new _ _
theorem sort_round {w2 w4 wr : World} {lo s gr : Nat} {va v : Value} {o : So} {L : List En} (h : SMid w2 w4 lo s gr va v o L) (hb : But (fun k => k = gr) w4 wr) :
    OwnE wr lo v L ∧ wr.cell? ⟨s, 5, none⟩ = some (.slice (some ⟨gr, 0, none⟩) L.length L.length) ∧ s < wr.heap.size ∧ gr < wr.heap.size := by
  obtain ⟨D, dc, hs, hlo, hd, hO, hE, hb2, hg4, hne, hge⟩ := h
  have hsr : wr.heap[s]? = _ := (hb.block s (heap_lt hs) hne).trans hs
  refine ⟨ownsRow_but hO hb (fun k hk e => ?_), by rw [cell_of_row wr s _ _ _ _ hsr]; rfl, heap_lt hsr, Nat.lt_of_lt_of_le (heap_lt hg4) hb.size⟩
  obtain ⟨cur, hc, _⟩ := hO.heap k hk
  rw [e, hg4] at hc
  simp only [Option.some.injEq, Obj.cells.injEq] at hc
  exact absurd hc.2.1 (by decide)
theorem sort_end {w2 w4 wr : World} {lo s gr : Nat} {va v : Value} {o : So} {L : List En} (h : SMid w2 w4 lo s gr va v o L) (hb : But (fun k => k = gr) w4 wr) (hg : wr.heap[gr]? = some (.cells (rowsArr L L.length) 73 (0, 0))) :
    wr.cell? ⟨s, 4, none⟩ = some va ∧ wr.frozen? ⟨s, 4, none⟩ = false ∧ wr.cell? ⟨s, 3, none⟩ = some (.bool o.srt) ∧ wr.frozen? ⟨s, 3, none⟩ = false ∧
    Sor ((wr.setCell ⟨s, 4, none⟩ (.slice none 0 0)).setCell ⟨s, 3, none⟩ (.bool true)) lo s (.slice none 0 0) (.slice (some ⟨gr, 0, none⟩) L.length L.length) { o with srt := true, E := [], R := L.map En.row } ∧
    But (fun k => k = s) w2 ((wr.setCell ⟨s, 4, none⟩ (.slice none 0 0)).setCell ⟨s, 3, none⟩ (.bool true)) := by
  obtain ⟨D, dc, hs, hlo, hd, hO, hE, hb2, hg4, hne, hge⟩ := h
  have hsr : wr.heap[s]? = _ := (hb.block s (heap_lt hs) hne).trans hs
  have hset : But (fun k => k = s) wr ((wr.setCell ⟨s, 4, none⟩ (.slice none 0 0)).setCell ⟨s, 3, none⟩ (.bool true)) := ((But.refl (fun k => k = s) wr).set ⟨s, 4, none⟩ rfl _).set ⟨s, 3, none⟩ rfl _
  have hfg : Far w4 (fun k => k = s) := fun k hk => by subst hk; exact ⟨_, _, _, hs, .inl rfl⟩
  have hfr : Far wr (fun k => k = s) := fun k hk => by subst hk; exact ⟨_, _, _, hsr, .inl rfl⟩
  have notg : ∀ {g : Nat} {cur : Array Value} {t : TypeId} {fr : Nat × Nat}, w4.heap[g]? = some (.cells cur t fr) → t ≠ 73 → ¬ g = gr := fun hh ht e => by
    rw [e, hg4] at hh
    simp only [Option.some.injEq, Obj.cells.injEq] at hh
    exact ht hh.2.1.symm
  have okb : ∀ {A : Option Addr} {l : List UInt8}, OkB w4 A l → OkB wr A l := fun hk hp => by
    obtain ⟨g, cur, fr, e, h1, h2⟩ := hk hp
    have hn := notg h1 (by decide)
    exact ⟨g, cur, fr, e, (hb.block g (heap_lt h1) hn).trans h1, fun j u hj => (hb.cell hn (heap_lt h1)).trans (h2 j u hj)⟩
  have okf : OkF wr D o.ds := fun hp => by
    obtain ⟨g, cur, fr, e, h1, h2⟩ := hd hp
    have hn := notg h1 (by decide)
    exact ⟨g, cur, fr, e, (hb.block g (heap_lt h1) hn).trans h1, fun j u hj => (hb.cell hn (heap_lt h1)).trans (h2 j u hj)⟩
  refine ⟨by rw [cell_of_row wr s _ _ _ _ hsr]; rfl, frozen_of_row wr s 4 _ _ hsr, by rw [cell_of_row wr s _ _ _ _ hsr]; rfl, frozen_of_row wr s 3 _ _ hsr, ⟨D, dc, ?_, hlo, okf.but hset hfr, World.ownsRow_nil _ _ _ 2, (fun e he => by cases he), ?_, fun r hr => ?_⟩, ?_⟩
  · rw [heap_setCell_same _ s 3 _ _ _ (heap_setCell_same wr s 4 _ _ _ hsr)]
    rfl
  · refine ⟨some ⟨gr, 0, none⟩, L.length, by rw [List.length_map], by rw [List.length_map]; exact Nat.le_refl _, fun hp => ⟨gr, _, _, rfl, (hset.block gr (heap_lt hg) (fun e => hne e.symm)).trans hg, fun j r hj => ?_⟩⟩
    rw [List.getElem?_map] at hj
    obtain ⟨e, he, rfl⟩ := Option.map_eq_some_iff.1 hj
    rw [hset.cell (fun e => hne e.symm) (heap_lt hg), cell_of_row wr gr _ _ _ _ hg]
    exact rowsArr_all L j e he
  · obtain ⟨e, he, rfl⟩ := List.mem_map.1 hr
    have h1 := (hE e he).2.2.2
    exact ⟨(okb h1.1).but hset hfr, h1.2⟩
  · exact (hb2.trans hb fun k hk => .inr (by omega)).same hset
set_option maxRecDepth 100000 in
set_option maxHeartbeats 1000000 in
theorem Sort_all {w : World} {lo s : Nat} {va vr : Value} {o : So} (h : Sor w lo s va vr o) (hsr : o.srt = false) (hd : o.dist = false) (hlo : lo ≤ w.heap.size) (hE : o.E.length ≤ 65536) :
    Calls Try.prog 17 #[.pointer (some ⟨s, 0, none⟩)] w fun e w' => e = .returned (.int .i64 0) ∧
      ∃ vr', Sor w' lo s (.slice none 0 0) vr' { o with srt := true, E := [], R := (srt ltE o.E).map En.row } ∧ But (fun k => k = s) w w' := by
  obtain ⟨D, dc, hF, _, _, c2, _, c4, _⟩ := h.cells
  obtain ⟨Ae, ce, hva, hce, _, _⟩ := (show OwnE w lo va o.E from by obtain ⟨_, _, _, _, _, ho, _⟩ := h; exact ho).form
  have HOE := Lib.hid (show OwnE w lo (.slice Ae o.E.length ce) o.E from by rw [← hva]; obtain ⟨_, _, _, _, _, ho, _⟩ := h; exact ho)
  have HEB := Lib.hid (show ∀ e ∈ o.E, EnB w e from by obtain ⟨_, _, _, _, _, _, he, _⟩ := h; exact he)
  have H0 := Lib.hid h
  have HSR := Lib.hid hsr
  have HVA := Lib.hid hva
  rw [hva] at c4
  have HEL := Lib.hid hE
  have HLE := Lib.hid (show (srt ltE o.E).length ≤ 65536 from by rw [srt_length]; exact HEL.out)
  have HLB := Lib.hid (show ∀ e ∈ srt ltE o.E, EnB w e from fun e he => HEB.out e ((srt_perm ltE _ _ (Nat.le_refl _)).mem_iff.1 he))
  clear h hsr hva hE hF hce
  go_enter Try.func17, Try.ntmps17
  go_wp2_with fail
  refine (missing_any H0.out false).mono ?_
  rintro e w0 ⟨rfl, rfl⟩
  rw [HSR.out]
  go_wp2_with fail
  refine (inOrder_own HOE.out rfl (fun e he => (HEB.out e he).ok) (by have := HEL.out; omega) hlo).mono ?_
  rintro e w2 ⟨v1, rfl, ho1, ho2, hb1⟩
  have HO1 := Lib.hid ho1
  have HO2 := Lib.hid ho2
  have HB1 := Lib.hid hb1
  have H1 := Lib.hid (H0.out.on hb1)
  have d2 := (hb1.cell (p := ⟨s, 2, none⟩) (block_lt_of_cell c2)).trans c2
  rw [hd] at d2
  clear ho1 ho2 hb1 c2 c4 hd
  have HO3 := HO1
  have HB2 := HB1
  clear HO2
  obtain ⟨A1, n1, hv1, hn1, hm1, hr1⟩ := HO3.out.form
  subst hv1
  generalize hL : srt ltE o.E = L at *
  have H2 := Lib.hid (H0.out.on HB2.out)
  have HLL := Lib.hid hL
  generalize hn : L.length = n at hn1 ⊢
  have hn2 : n ≤ 65536 := by rw [← hn]; exact HLE.out
  have hmk := run_makeY n (by omega) w2
  have H3 := Lib.hid (H2.out.on ((Below.refl w2.heap.size w2).alloc (Nat.le_refl _) (.cells (madeCells #[.slice none 0 0] n) 73)))
  obtain ⟨D3, dc3, _, _, _, _, _, _, c53, _, hf3⟩ := H3.out.cells
  have f53 := hf3 5
  have HN := Lib.hid hn
  clear hf3 hL hr1 hn
  go_wp2_with fail
  have HLB2 := Lib.hid (fun e he => (HLB.out e he).but (P := fun _ => False) (But.of_below HB2.out) (far_none _))
  have HM0 := Lib.hid (sort_mid H2.out HO3.out HLB2.out n HN.out)
  obtain ⟨w4, hw4⟩ : ∃ w4, (w2.alloc (.cells (madeCells #[.slice none 0 0] n) 73)).setCell ⟨s, 5, none⟩ (.slice (some ⟨w2.heap.size, 0, none⟩) n n) = w4 := ⟨_, rfl⟩
  have HM := Lib.hid (show SMid w2 w4 lo s w2.heap.size va (.slice A1 L.length n1) o L by rw [← hw4]; exact HM0.out)
  rw [hw4]
  clear HM0 hw4 hmk c53 f53
  obtain ⟨gr, hgr⟩ : ∃ gr, w2.heap.size = gr := ⟨_, rfl⟩
  rw [hgr] at HM ⊢
  have HGR := Lib.hid hgr
  clear hgr
  go_loopw [31] (fun v31 wr => SrtRel w4 gr L v31 wr) (fun v31 _ => n - (intOf v31).toNat)
  case atStart =>
    obtain ⟨_, _, _, _, _, _, _, _, hg0, _⟩ := HM.out
    exact ⟨0, rfl, Nat.zero_le _, But.refl _ _, hg0⟩
  case round =>
    obtain ⟨i, rfl, hi, hb, hg⟩ := hrel
    have hnl := HN.out
    by_cases hlt : i < n
    · obtain ⟨e, he⟩ : ∃ e, L[i]? = some e := ⟨L[i]'(by omega), List.getElem?_eq_getElem _⟩
      obtain ⟨ho, r5, rs, rg⟩ := sort_round HM.out hb
      obtain ⟨ge, ce2, hge, _, hgl⟩ := World.ownsRow.form ho (by omega)
      simp only [Value.slice.injEq] at hge
      obtain ⟨rfl, _, rfl⟩ := hge
      obtain ⟨x0, x1⟩ := OwnE.at ho rfl i e he
      have x0' : wr.cell? ⟨ge, i * 2, none⟩ = some (.slice e.kA e.kb.length e.kc) := x0
      have x1' : wr.cell? ⟨ge, i * 2 + 1, none⟩ = some (.slice e.rA e.rb.length e.rc) := x1
      have y5 : (wr.alloc (.cells #[.slice e.kA e.kb.length e.kc, .slice e.rA e.rb.length e.rc] 78)).cell? ⟨s, 5, none⟩ = some (.slice (some ⟨gr, 0, none⟩) n n) := by
        rw [World.cell?_alloc_lt wr _ _ rs, r5, hnl]
      have yg : (wr.alloc (.cells #[.slice e.kA e.kb.length e.kc, .slice e.rA e.rb.length e.rc] 78)).cell? ⟨gr, i, none⟩ = some (.slice none 0 0) := by
        rw [World.cell?_alloc_lt wr _ _ rg, cell_of_row wr gr _ _ _ _ hg]
        exact rowsArr_nil L i (by omega)
      have yf : (wr.alloc (.cells #[.slice e.kA e.kb.length e.kc, .slice e.rA e.rb.length e.rc] 78)).frozen? ⟨gr, i, none⟩ = false := by
        rw [((Below.refl wr.heap.size wr).alloc (Nat.le_refl _) _).frozen (p := ⟨gr, i, none⟩) rg]
        exact frozen_of_row wr gr i _ _ hg
      have q1 : (i : Int) < (n : Int) := by omega
      have q2 : (0 : Int) ≤ (i : Int) := by omega
      have HE := Lib.hid he
      have HBW := Lib.hid hb
      have HG := Lib.hid hg
      clear he hb hg ho x0 x1 r5 hnl
      go_wp2_with fail
      go_region
      all_goals go_wp2_with fail
      refine ⟨⟨i + 1, by go_num, by have := HN.out; omega, ?_, ?_⟩, by simp [intOf]; omega⟩
      · have h1 := HBW.out.set ⟨gr, i, none⟩ rfl (.slice e.rA e.rb.length e.rc)
        have h2 := h1.same (But.of_below (P := fun k => k = gr) ((Below.refl _ _).alloc (Nat.le_refl _) (.cells #[.slice e.kA e.kb.length e.kc, .slice e.rA e.rb.length e.rc] 78)))
        exact ⟨h2.os, h2.tape, h2.output, h2.size, h2.block⟩
      · have h3 := heap_setCell_same wr gr i _ _ (.slice e.rA e.rb.length e.rc) HG.out
        have h4 : (rowsArr L i).setIfInBounds i (.slice e.rA e.rb.length e.rc) = rowsArr L (i + 1) := rowsArr_set L i e HE.out
        rw [h4] at h3
        show ((wr.setCell ⟨gr, i, none⟩ (.slice e.rA e.rb.length e.rc)).alloc _).heap[gr]? = _
        rw [Below.heap_alloc _ _ _ (heap_lt h3)]
        exact h3
    · have q1 : ¬ (i : Int) < (n : Int) := by omega
      obtain rfl : i = n := by omega
      have HEND := Lib.hid (sort_end HM.out hb (by rw [hnl]; exact hg))
      obtain ⟨t1, t2, t3, t4, _, _⟩ := HEND.out
      have t1' : (wr.setCell ⟨s, 4, none⟩ (.slice none 0 0)).cell? ⟨s, 3, none⟩ = some (.bool o.srt) := (World.cell?_setCell_other _ _ _ _ (by simp)).trans t3
      have t2' : (wr.setCell ⟨s, 4, none⟩ (.slice none 0 0)).frozen? ⟨s, 3, none⟩ = false := by rw [World.frozen?_setCell]; exact t4
      rw [HVA.out] at t1
      clear hb hg hnl t3 t4
      go_wp2_with fail
      go_ret
      rw [HLL.out]
      exact ⟨rfl, ⟨_, HEND.out.2.2.2.2.1⟩, (But.of_below HB2.out).same HEND.out.2.2.2.2.2⟩
set_option maxRecDepth 100000 in
set_option maxHeartbeats 1000000 in
theorem Sort_dist {w : World} {lo s : Nat} {va vr : Value} {o : So} (h : Sor w lo s va vr o) (hsr : o.srt = false) (hd : o.dist = true) (hlo : lo ≤ w.heap.size) (hE : o.E.length ≤ 65536) :
    Calls Try.prog 17 #[.pointer (some ⟨s, 0, none⟩)] w fun e w' => e = .returned (.int .i64 0) ∧
      ∃ vr', Sor w' lo s (.slice none 0 0) vr' { o with srt := true, E := [], R := (cmpct sameE (srt ltE o.E)).map En.row } ∧ But (fun k => k = s) w w' := by
  obtain ⟨D, dc, hF, _, _, c2, _, c4, _⟩ := h.cells
  obtain ⟨Ae, ce, hva, hce, _, _⟩ := (show OwnE w lo va o.E from by obtain ⟨_, _, _, _, _, ho, _⟩ := h; exact ho).form
  have HOE := Lib.hid (show OwnE w lo (.slice Ae o.E.length ce) o.E from by rw [← hva]; obtain ⟨_, _, _, _, _, ho, _⟩ := h; exact ho)
  have HEB := Lib.hid (show ∀ e ∈ o.E, EnB w e from by obtain ⟨_, _, _, _, _, _, he, _⟩ := h; exact he)
  have H0 := Lib.hid h
  have HSR := Lib.hid hsr
  have HVA := Lib.hid hva
  rw [hva] at c4
  have HEL := Lib.hid hE
  have HLE := Lib.hid (show (cmpct sameE (srt ltE o.E)).length ≤ 65536 from by exact Nat.le_trans (cmpct_length _ _) (by rw [srt_length]; exact HEL.out))
  have HLB := Lib.hid (show ∀ e ∈ cmpct sameE (srt ltE o.E), EnB w e from fun e he => HEB.out e ((srt_perm ltE _ _ (Nat.le_refl _)).mem_iff.1 (cmpct_mem _ _ _ he)))
  clear h hsr hva hE hF hce
  go_enter Try.func17, Try.ntmps17
  go_wp2_with fail
  refine (missing_any H0.out false).mono ?_
  rintro e w0 ⟨rfl, rfl⟩
  rw [HSR.out]
  go_wp2_with fail
  refine (inOrder_own HOE.out rfl (fun e he => (HEB.out e he).ok) (by have := HEL.out; omega) hlo).mono ?_
  rintro e w1 ⟨v1, rfl, ho1, ho2, hb1⟩
  have HO1 := Lib.hid ho1
  have HO2 := Lib.hid ho2
  have HB1 := Lib.hid hb1
  have H1 := Lib.hid (H0.out.on hb1)
  have d2 := (hb1.cell (p := ⟨s, 2, none⟩) (block_lt_of_cell c2)).trans c2
  rw [hd] at d2
  clear ho1 ho2 hb1 c2 c4 hd
  go_wp2_with fail
  refine (Compact_own HO1.out (fun h => HO2.out (by rw [srt_length] at h; exact h)) (fun e he => ((HEB.out e ((srt_perm ltE _ _ (Nat.le_refl _)).mem_iff.1 he)).ok.below HB1.out)) (by rw [srt_length]; have := HEL.out; omega) hlo HB1.out.size).mono ?_
  rintro e w2 ⟨v2, rfl, ho3, hb2⟩
  have HO3 := Lib.hid ho3
  have HB2 := Lib.hid (HB1.out.trans hb2)
  clear ho3 hb2
  obtain ⟨A1, n1, hv1, hn1, hm1, hr1⟩ := HO3.out.form
  subst hv1
  generalize hL : cmpct sameE (srt ltE o.E) = L at *
  have H2 := Lib.hid (H0.out.on HB2.out)
  have HLL := Lib.hid hL
  generalize hn : L.length = n at hn1 ⊢
  have hn2 : n ≤ 65536 := by rw [← hn]; exact HLE.out
  have hmk := run_makeY n (by omega) w2
  have H3 := Lib.hid (H2.out.on ((Below.refl w2.heap.size w2).alloc (Nat.le_refl _) (.cells (madeCells #[.slice none 0 0] n) 73)))
  obtain ⟨D3, dc3, _, _, _, _, _, _, c53, _, hf3⟩ := H3.out.cells
  have f53 := hf3 5
  have HN := Lib.hid hn
  clear hf3 hL hr1 hn
  go_wp2_with fail
  have HLB2 := Lib.hid (fun e he => (HLB.out e he).but (P := fun _ => False) (But.of_below HB2.out) (far_none _))
  have HM0 := Lib.hid (sort_mid H2.out HO3.out HLB2.out n HN.out)
  obtain ⟨w4, hw4⟩ : ∃ w4, (w2.alloc (.cells (madeCells #[.slice none 0 0] n) 73)).setCell ⟨s, 5, none⟩ (.slice (some ⟨w2.heap.size, 0, none⟩) n n) = w4 := ⟨_, rfl⟩
  have HM := Lib.hid (show SMid w2 w4 lo s w2.heap.size va (.slice A1 L.length n1) o L by rw [← hw4]; exact HM0.out)
  rw [hw4]
  clear HM0 hw4 hmk c53 f53
  obtain ⟨gr, hgr⟩ : ∃ gr, w2.heap.size = gr := ⟨_, rfl⟩
  rw [hgr] at HM ⊢
  have HGR := Lib.hid hgr
  clear hgr
  go_loopw [31] (fun v31 wr => SrtRel w4 gr L v31 wr) (fun v31 _ => n - (intOf v31).toNat)
  case atStart =>
    obtain ⟨_, _, _, _, _, _, _, _, hg0, _⟩ := HM.out
    exact ⟨0, rfl, Nat.zero_le _, But.refl _ _, hg0⟩
  case round =>
    obtain ⟨i, rfl, hi, hb, hg⟩ := hrel
    have hnl := HN.out
    by_cases hlt : i < n
    · obtain ⟨e, he⟩ : ∃ e, L[i]? = some e := ⟨L[i]'(by omega), List.getElem?_eq_getElem _⟩
      obtain ⟨ho, r5, rs, rg⟩ := sort_round HM.out hb
      obtain ⟨ge, ce2, hge, _, hgl⟩ := World.ownsRow.form ho (by omega)
      simp only [Value.slice.injEq] at hge
      obtain ⟨rfl, _, rfl⟩ := hge
      obtain ⟨x0, x1⟩ := OwnE.at ho rfl i e he
      have x0' : wr.cell? ⟨ge, i * 2, none⟩ = some (.slice e.kA e.kb.length e.kc) := x0
      have x1' : wr.cell? ⟨ge, i * 2 + 1, none⟩ = some (.slice e.rA e.rb.length e.rc) := x1
      have y5 : (wr.alloc (.cells #[.slice e.kA e.kb.length e.kc, .slice e.rA e.rb.length e.rc] 78)).cell? ⟨s, 5, none⟩ = some (.slice (some ⟨gr, 0, none⟩) n n) := by
        rw [World.cell?_alloc_lt wr _ _ rs, r5, hnl]
      have yg : (wr.alloc (.cells #[.slice e.kA e.kb.length e.kc, .slice e.rA e.rb.length e.rc] 78)).cell? ⟨gr, i, none⟩ = some (.slice none 0 0) := by
        rw [World.cell?_alloc_lt wr _ _ rg, cell_of_row wr gr _ _ _ _ hg]
        exact rowsArr_nil L i (by omega)
      have yf : (wr.alloc (.cells #[.slice e.kA e.kb.length e.kc, .slice e.rA e.rb.length e.rc] 78)).frozen? ⟨gr, i, none⟩ = false := by
        rw [((Below.refl wr.heap.size wr).alloc (Nat.le_refl _) _).frozen (p := ⟨gr, i, none⟩) rg]
        exact frozen_of_row wr gr i _ _ hg
      have q1 : (i : Int) < (n : Int) := by omega
      have q2 : (0 : Int) ≤ (i : Int) := by omega
      have HE := Lib.hid he
      have HBW := Lib.hid hb
      have HG := Lib.hid hg
      clear he hb hg ho x0 x1 r5 hnl
      go_wp2_with fail
      go_region
      all_goals go_wp2_with fail
      refine ⟨⟨i + 1, by go_num, by have := HN.out; omega, ?_, ?_⟩, by simp [intOf]; omega⟩
      · have h1 := HBW.out.set ⟨gr, i, none⟩ rfl (.slice e.rA e.rb.length e.rc)
        have h2 := h1.same (But.of_below (P := fun k => k = gr) ((Below.refl _ _).alloc (Nat.le_refl _) (.cells #[.slice e.kA e.kb.length e.kc, .slice e.rA e.rb.length e.rc] 78)))
        exact ⟨h2.os, h2.tape, h2.output, h2.size, h2.block⟩
      · have h3 := heap_setCell_same wr gr i _ _ (.slice e.rA e.rb.length e.rc) HG.out
        have h4 : (rowsArr L i).setIfInBounds i (.slice e.rA e.rb.length e.rc) = rowsArr L (i + 1) := rowsArr_set L i e HE.out
        rw [h4] at h3
        show ((wr.setCell ⟨gr, i, none⟩ (.slice e.rA e.rb.length e.rc)).alloc _).heap[gr]? = _
        rw [Below.heap_alloc _ _ _ (heap_lt h3)]
        exact h3
    · have q1 : ¬ (i : Int) < (n : Int) := by omega
      obtain rfl : i = n := by omega
      have HEND := Lib.hid (sort_end HM.out hb (by rw [hnl]; exact hg))
      obtain ⟨t1, t2, t3, t4, _, _⟩ := HEND.out
      have t1' : (wr.setCell ⟨s, 4, none⟩ (.slice none 0 0)).cell? ⟨s, 3, none⟩ = some (.bool o.srt) := (World.cell?_setCell_other _ _ _ _ (by simp)).trans t3
      have t2' : (wr.setCell ⟨s, 4, none⟩ (.slice none 0 0)).frozen? ⟨s, 3, none⟩ = false := by rw [World.frozen?_setCell]; exact t4
      rw [HVA.out] at t1
      clear hb hg hnl t3 t4
      go_wp2_with fail
      go_ret
      rw [HLL.out]
      exact ⟨rfl, ⟨_, HEND.out.2.2.2.2.1⟩, (But.of_below HB2.out).same HEND.out.2.2.2.2.2⟩
end Go.Proofs.Ytifnhdnmohlfiaa
