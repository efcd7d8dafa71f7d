/-
  SorterOrder's walk.
-/
import Derived.Test.YtbeaiaepbmldbaaQSpec
import Derived.Test.YtbeaiaepbmldbaaQLess
import Derived.BigQuiet
namespace Go.Proofs.Ytbeaiaepbmldbaa
open Go.ChangeShapes Go.WideShapes Go.ChangeAt Go.RowKit
set_option linter.unusedVariables false

theorem OwnRR.rd {w : World} {base : Nat} {v : Value} {L : List Rv} (h : OwnRR w base v L) :
    ∃ A c, v = .slice A L.length c ∧ ∀ j x, L[j]? = some x → ∃ ad : Addr, A = some ad ∧ ad.block < w.heap.size ∧ w.cell? (ad.add j) = some x.v ∧ OwnR w base x.v x.r := by
  obtain ⟨ho, hin⟩ := h
  have ho' := ho
  obtain ⟨_, h2⟩ := ho
  rcases h2 with ⟨rfl, h0⟩ | ⟨g, cap, cur, rfl, hg, hh, _⟩
  · refine ⟨none, 0, by rw [h0], fun j x hj => ?_⟩
    have := (List.getElem?_eq_some_iff.1 hj).1
    omega
  · exact ⟨_, cap, rfl, fun j x hj => ⟨_, rfl, heap_lt hh, World.ownsRow.cells ho' (g := g) rfl j x.v (by rw [List.getElem?_map, hj]; rfl), hin x (List.mem_of_getElem? hj)⟩⟩
theorem good_okT7 {t : Trip} (h : okT t = true) (hn : In64 t.2.1) : Rt t.1 t.2.1 t.2.2 ∧ t.2.2.size ≤ 100 ∧ In64 t.2.1 := by
  obtain ⟨h1, h2⟩ := Bool.and_eq_true_iff.1 h
  exact ⟨of_decide_eq_true h1, of_decide_eq_true h2, hn⟩
/-- the pairs are right -/
theorem GoodQ.of {ps : List Pr} (h : okPs ps = true) (hn : ∀ p ∈ ps, In64 p.1.2.1 ∧ In64 p.2.2.1) : GoodQ ps := by
  unfold okPs at h
  obtain ⟨h1, h2⟩ := Bool.and_eq_true_iff.1 h
  refine ⟨of_decide_eq_true h1, fun p hp t ht => ?_⟩
  have h3 := List.all_eq_true.1 h2 p hp
  unfold okP at h3
  obtain ⟨a, b⟩ := Bool.and_eq_true_iff.1 h3
  obtain ⟨c, d⟩ := hn p hp
  simp only [List.mem_cons, List.mem_nil_iff, or_false] at ht
  rcases ht with rfl | rfl
  · exact good_okT7 a c
  · exact good_okT7 b d
def rowsS (S : List PN) : List (List Trip) := S.map fun x => row3 x.1 x.2
/-- the numbers that were met -/
def metS (S : List PN) (j m : Nat) : Bool := decide (m ∈ (S.take j).map Prod.snd)
theorem ownR_some7 {w : World} {base : Nat} {v : Value} {vs : List Trip} (h : OwnR w base v vs) (hl : 0 < vs.length) : ∃ g c, v = .slice (some ⟨g, 0, none⟩) vs.length c ∧ vs.length ≤ c ∧ c ≤ 9223372036854775807 ∧ RdR w w.heap.size (some ⟨g, 0, none⟩) vs := by
  obtain ⟨A, c, hv, h1, h2, hr⟩ := h.form
  obtain ⟨_, h3⟩ := h
  rcases h3 with ⟨rfl, h0⟩ | ⟨g, cap, cur, rfl, _⟩
  · omega
  · injection hv with e1 e2 e3
    subst e1 e3
    exact ⟨g, _, rfl, h1, by unfold maxLen at h2; omega, hr⟩
theorem row_three {w : World} {base : Nat} {v : Value} {t0 t1 t2 : Trip} (h : OwnR w base v [t0, t1, t2]) : ∃ g c, v = .slice (some ⟨g, 0, none⟩) 3 c ∧ g < w.heap.size ∧ RowAt w ⟨g, 0, none⟩ t0.1 t0.2.1 t0.2.2 ∧ RowAt w ⟨g, 3, none⟩ t1.1 t1.2.1 t1.2.2 ∧ RowAt w ⟨g, 6, none⟩ t2.1 t2.2.1 t2.2.2 ∧ RdR w w.heap.size (some ⟨g, 0, none⟩) [t0, t1, t2] := by
  obtain ⟨g, c, rfl, _, _, hr⟩ := ownR_some7 h (by simp)
  have hr' := hr
  obtain ⟨ad, e, hlt, hc⟩ := hr (by simp)
  obtain rfl : (⟨g, 0, none⟩ : Addr) = ad := by simpa using e
  obtain ⟨a0, b0, c0⟩ := t0
  obtain ⟨a1, b1, c1⟩ := t1
  obtain ⟨a2, b2, c2⟩ := t2
  have h0 := hc 0 a0 b0 c0 rfl
  have h1 := hc 1 a1 b1 c1 rfl
  have h2 := hc 2 a2 b2 c2 rfl
  simp only [Addr.add] at h0 h1 h2
  refine ⟨g, c, rfl, hlt, ?_, ?_, ?_, hr'⟩
  · simpa [RowAt] using h0
  · simpa [RowAt] using h1
  · simpa [RowAt] using h2
theorem metS_new {ds : List Bool} {ps : List Pr} {j : Nat} {x : PN} (h : (ordS ds ps)[j]? = some x) : metS (ordS ds ps) j x.2 = false := by
  refine decide_eq_false fun hm => ?_
  have hnd := ordS_nodup ds ps
  have hj := (List.getElem?_eq_some_iff.1 h).1
  rw [← List.take_append_drop j (ordS ds ps), List.map_append] at hnd
  refine (List.nodup_append.1 hnd).2.2 _ hm _ (List.mem_map_of_mem (f := Prod.snd) ?_) rfl
  obtain ⟨_, rfl⟩ := List.getElem?_eq_some_iff.1 h
  rw [List.drop_eq_getElem_cons hj]
  exact List.mem_cons_self
theorem metS_next {S : List PN} {j : Nat} {x : PN} (h : S[j]? = some x) (m : Nat) : metS S (j + 1) m = if m = x.2 then true else metS S j m := by
  unfold metS
  rw [List.take_add_one, h]
  simp only [Option.toList, List.map_append, List.map_cons, List.map_nil, List.mem_append, List.mem_singleton]
  by_cases hm : m = x.2
  · simp [hm]
  · simp [hm]
def OrdRel7 (w : World) (g n : Nat) (S : List PN) (v35 : Value) (wr : World) : Prop :=
  ∃ j : Nat, j ≤ S.length ∧ v35 = .int .i64 (j : Int) ∧ FlagsAt wr g (metS S j) n ∧ Below g w wr
set_option maxRecDepth 100000 in
set_option maxHeartbeats 4000000 in
theorem order_go (A : Option Addr) (c : Nat) (ps : List Pr) (d0 d1 : Bool) (w : World) (hR : RdR w w.heap.size A (flat ps)) (hz : ∀ p ∈ ps, p.1.2.2.size ≤ 9223372036854775807 ∧ p.2.2.2.size ≤ 9223372036854775807) (hl : ps.length ≤ 9223372036854775807) (hok : okPs ps = true) (hg : GoodQ ps) :
    Calls Try.prog 5 #[.slice A ps.length c, .agg #[.bool d0, .bool d1]] w fun e w' => e = .returned (.bool true) ∧ Below w.heap.size w w' := by
  have hal0 : Below w.heap.size w (w.alloc (.cells #[.bool d0, .bool d1] 57)) := (Below.refl _ _).alloc (Nat.le_refl _) _
  have hsz : (w.alloc (.cells #[.bool d0, .bool d1] 57)).heap.size = w.heap.size + 1 := by simp
  have hR0 : RdR (w.alloc (.cells #[.bool d0, .bool d1] 57)) (w.alloc (.cells #[.bool d0, .bool d1] 57)).heap.size A (flat ps) := fun hp => by
    obtain ⟨ad, e, hal, hcs⟩ := (hR.below hal0) hp
    exact ⟨ad, e, Nat.lt_of_lt_of_le hal hal0.size, hcs⟩
  have HD := Lib.hid (show ∀ X : World, Below (w.alloc (.cells #[.bool d0, .bool d1] 57)).heap.size (w.alloc (.cells #[.bool d0, .bool d1] 57)) X → X.cell? ⟨w.heap.size, 0, none⟩ = some (.bool d0) ∧ X.cell? ⟨w.heap.size, 1, none⟩ = some (.bool d1) from fun X hX =>
    ⟨(hX.cell (p := ⟨w.heap.size, 0, none⟩) (by show w.heap.size < _; omega)).trans (by simp [go_sem]), (hX.cell (p := ⟨w.heap.size, 1, none⟩) (by show w.heap.size < _; omega)).trans (by simp [go_sem])⟩)
  obtain ⟨n, hn⟩ : ∃ n, ps.length = n := ⟨_, rfl⟩
  have HRT := Lib.hid (right7_any A n c ps (w.alloc (.cells #[.bool d0, .bool d1] 57)) hn.symm hR0 hz hl)
  have HR0 := Lib.hid hR0
  have HW := Lib.hid hal0
  have HG := Lib.hid hg
  have HOK := Lib.hid hok
  have hn2 : n ≤ 120 := by rw [← hn]; exact hg.1
  have HN := Lib.hid hn
  rw [hn]
  clear hR hz hl hok hg hn hR0 hal0
  go_enter Try.func5, Try.ntmps5
  go_wp2_with fail
  generalize hw0 : (w.alloc (.cells #[.bool d0, .bool d1] 57)) = w0 at *
  refine HRT.out.mono ?_
  rintro e w1 ⟨rfl, hb1⟩
  rw [HOK.out]
  have HB1 := Lib.hid hb1
  obtain ⟨D0, D1⟩ := HD.out w1 hb1
  clear hb1
  go_wp2_with fail
  refine (sorted7 A n c ps d0 d1 false w1 HN.out.symm (fun hp => by
    obtain ⟨ad, e, hal, hcs⟩ := (HR0.out.below HB1.out) hp
    exact ⟨ad, e, Nat.lt_of_lt_of_le hal HB1.out.size, hcs⟩) HG.out (rowsS (ordS [d0, d1] ps)) (left_ordS _ _) (fun r hr => by
    obtain ⟨x, hx, rfl⟩ := List.mem_map.1 hr
    have hlt := (List.getElem?_eq_some_iff.1 (ordS_mem hx)).1
    exact ⟨good_row3 (HG.out.2 _ (List.mem_of_getElem? (ordS_mem hx))) _ (by have := HN.out; omega), rfl⟩)).mono ?_
  rintro e w2 ⟨v2, L, rfl, hL, ho, hb2⟩
  obtain ⟨A5, c5, rfl, hrd⟩ := ho.rd
  have hLn : L.length = n := by
    have h1 := congrArg List.length hL
    rw [List.length_map, rowsS, List.length_map, ordS_length, HN.out] at h1
    exact h1
  rw [hLn]
  have HO := Lib.hid ho
  have HRD := Lib.hid hrd
  have HL := Lib.hid hL
  have HB2 := Lib.hid (HB1.out.trans (hb2.mono HB1.out.size))
  have hmk := run_makeB n (by omega) w2
  clear ho hrd hL hb2 D0 D1
  go_wp2_with fail
  have HFM := Lib.hid (flags_made w2 n)
  have HS3 := Lib.hid (show Below w2.heap.size w2 (w2.alloc (.cells (madeCells #[.bool false] n) 4)) from (Below.refl _ _).alloc (Nat.le_refl _) _)
  generalize hw3 : w2.alloc (.cells (madeCells #[.bool false] n) 4) = w3 at *
  obtain ⟨g, hgg⟩ : ∃ g, w2.heap.size = g := ⟨_, rfl⟩
  have HGG := Lib.hid hgg
  rw [hgg]
  have hSl : (ordS [d0, d1] ps).length = n := by rw [ordS_length, HN.out]
  clear hmk hw3 hgg hw0
  go_loopw [35] (fun v wr => OrdRel7 w3 g n (ordS [d0, d1] ps) v wr) (fun v _ => n - (intOf v).toNat)
  case atStart => exact ⟨0, Nat.zero_le _, rfl, by rw [← HGG.out]; exact HFM.out.congr fun j _ => rfl, Below.refl _ _⟩
  case round =>
    obtain ⟨j, hj, rfl, hf, hb⟩ := hrel
    have HB := Lib.hid hb
    have HF := Lib.hid hf
    by_cases hlt : j < n
    · obtain ⟨x, hx⟩ : ∃ x, (ordS [d0, d1] ps)[j]? = some x := ⟨_, List.getElem?_eq_getElem (by omega)⟩
      obtain ⟨y, hy⟩ : ∃ y, L[j]? = some y := ⟨_, List.getElem?_eq_getElem (by omega)⟩
      have hyr : y.r = row3 x.1 x.2 := by
        have h1 := congrArg (fun l => l[j]?) HL.out
        simp only [rowsS, List.getElem?_map, hy, hx, Option.map_some, Option.some.injEq] at h1
        exact h1
      obtain ⟨a5, rfl, ha5, hc5, ho5⟩ := HRD.out j y hy
      rw [hyr] at ho5
      obtain ⟨gj, cj, hyv, hgj, r0, r1, r2, hrj⟩ := row_three ho5
      rw [hyv] at hc5
      have hpx := ordS_mem (List.mem_of_getElem? hx)
      have hm := (List.getElem?_eq_some_iff.1 hpx).1
      have hm2 : x.2 < n := by have := HN.out; omega
      obtain ⟨ap, rfl, hap, _⟩ := HR0.out (by rw [flat_length]; omega)
      have hp0 := pair_at HR0.out x.2 x.1 hpx
      have hmet := metS_new hx
      obtain ⟨⟨⟨k0, n0, s0⟩, ⟨k1, n1, s1⟩⟩, m⟩ := x
      simp only [RowAt] at r0 r1 r2 hp0 hm2 hmet
      have hf0 := (hf.2 m hm2).1
      rw [hmet] at hf0
      have hsz2 := HGG.out
      have hle0 : w0.heap.size ≤ g := by rw [← hsz2]; exact HB2.out.size
      have hT : Below g w2 wr := (by have h := HS3.out; rw [hsz2] at h; exact h : Below g w2 w3).trans hb
      have FX := Lib.hid (show ∀ X : World, Below g w2 X → X.cell? (a5.add j) = some (.slice (some ⟨gj, 0, none⟩) 3 cj) ∧
          (X.cell? ⟨gj, 0, none⟩ = some (.int .u8 k0) ∧ X.cell? ⟨gj, 1, none⟩ = some (.int .i64 n0) ∧ X.cell? ⟨gj, 2, none⟩ = some (.string s0)) ∧
          (X.cell? ⟨gj, 3, none⟩ = some (.int .u8 k1) ∧ X.cell? ⟨gj, 4, none⟩ = some (.int .i64 n1) ∧ X.cell? ⟨gj, 5, none⟩ = some (.string s1)) ∧
          X.cell? ⟨gj, 7, none⟩ = some (.int .i64 (m : Int)) ∧
          (X.cell? (ap.add (m * 6)) = some (.int .u8 k0) ∧ X.cell? ⟨(ap.add (m * 6)).block, (ap.add (m * 6)).off + 1, none⟩ = some (.int .i64 n0) ∧ X.cell? ⟨(ap.add (m * 6)).block, (ap.add (m * 6)).off + 2, none⟩ = some (.string s0)) ∧
          (X.cell? ⟨(ap.add (m * 6)).block, (ap.add (m * 6)).off + 3, none⟩ = some (.int .u8 k1) ∧ X.cell? ⟨(ap.add (m * 6)).block, (ap.add (m * 6)).off + 3 + 1, none⟩ = some (.int .i64 n1) ∧ X.cell? ⟨(ap.add (m * 6)).block, (ap.add (m * 6)).off + 3 + 2, none⟩ = some (.string s1)) from fun X hX =>
        have h0 : Below w0.heap.size w0 X := HB2.out.trans (hX.mono hle0)
        have q5 : (a5.add j).block < g := by rw [blockAdd]; omega
        have qj : gj < g := by omega
        have qp : (ap.add (m * 6)).block < w0.heap.size := by rw [blockAdd]; exact hap
        ⟨(hX.cell q5).trans hc5, ⟨(hX.cell (p := ⟨gj, 0, none⟩) qj).trans r0.1, (hX.cell (p := ⟨gj, 1, none⟩) qj).trans r0.2.1, (hX.cell (p := ⟨gj, 2, none⟩) qj).trans r0.2.2⟩,
          ⟨(hX.cell (p := ⟨gj, 3, none⟩) qj).trans r1.1, (hX.cell (p := ⟨gj, 4, none⟩) qj).trans r1.2.1, (hX.cell (p := ⟨gj, 5, none⟩) qj).trans r1.2.2⟩,
          (hX.cell (p := ⟨gj, 7, none⟩) qj).trans r2.2.1,
          ⟨(h0.cell qp).trans hp0.1.1, (h0.cell (p := ⟨_, _, none⟩) qp).trans hp0.1.2.1, (h0.cell (p := ⟨_, _, none⟩) qp).trans hp0.1.2.2⟩,
          ⟨(h0.cell (p := ⟨_, _, none⟩) qp).trans hp0.2.1, (h0.cell (p := ⟨_, _, none⟩) qp).trans hp0.2.2.1, (h0.cell (p := ⟨_, _, none⟩) qp).trans hp0.2.2.2⟩⟩)
      have HRJ := Lib.hid (show ∀ X : World, Below g w2 X → RdR X X.heap.size (some ⟨gj, 0, none⟩) [(k0, n0, s0), (k1, n1, s1), (1, (m : Int), ⟨#[]⟩)] from fun X hX hp => by
        obtain ⟨ad, e, hlt', hc⟩ := (hrj.below (B := w2.heap.size) (by rw [hsz2]; exact hX)) hp
        exact ⟨ad, e, Nat.lt_of_lt_of_le hlt' hX.size, hc⟩)
      have HSET := Lib.hid (show ∀ q, FlagsAt ((wr.drewN q).setCell ⟨g, m, none⟩ (.bool true)) g (metS (ordS [d0, d1] ps) (j + 1)) n ∧ Below g w3 ((wr.drewN q).setCell ⟨g, m, none⟩ (.bool true)) ∧ Below g w2 ((wr.drewN q).setCell ⟨g, m, none⟩ (.bool true)) from fun q =>
        have d3 : Below g w3 (wr.drewN q) := ⟨hb.os, hb.tape, hb.output, hb.size, hb.block⟩
        have d2 : Below g w2 (wr.drewN q) := ⟨hT.os, hT.tape, hT.output, hT.size, hT.block⟩
        ⟨((show FlagsAt (wr.drewN q) g (metS (ordS [d0, d1] ps) j) n from hf).set hm2 true).congr fun i _ => (metS_next hx i).symm, d3.setCell (p := ⟨g, m, none⟩) (Nat.le_refl _) _, d2.setCell (p := ⟨g, m, none⟩) (Nat.le_refl _) _⟩)
      have HT := Lib.hid hT
      have HF0 := Lib.hid hf0
      have HFZ := Lib.hid ((hf.2 m hm2).2)
      have HX := Lib.hid hx
      have HGJ := Lib.hid (show gj < g by omega)
      have HA5 := Lib.hid (show a5.block < g by omega)
      obtain ⟨c5', _, _, c7, _⟩ := FX.out wr hT
      have q1 : (j : Int) < (n : Int) := by omega
      have q2 : (0 : Int) ≤ (j : Int) := by omega
      have q3 : (m : Int) < (n : Int) := by omega
      have q4 : (0 : Int) ≤ (m : Int) := by omega
      have q6 : ¬ (m : Int) < 0 := by omega
      have q7 : ¬ (n : Int) ≤ (m : Int) := by omega
      clear hrj hx hy hyr ho5 hyv hc5 r0 r1 r2 hp0 hpx hm hmet hf hb hf0 hT ha5 hgj hap
      go_wp2_with fail
      clear c5' c7 q6 q7
      have q6 : decide ((m : Int) < 0) = false := decide_eq_false (by omega)
      have q7 : decide ((n : Int) ≤ (m : Int)) = false := decide_eq_false (by omega)
      have c0 := HF0.out
      obtain ⟨c1, ⟨e0, e1, e2⟩, ⟨e3, e4, e5⟩, _, ⟨f0, f1, f2⟩, f3, f4, f5⟩ := FX.out wr HT.out
      have hfz : wr.frozen? ⟨g, m, none⟩ = false := HFZ.out
      go_quiet (fail)
      clear c1 e0 e1 e2 e3 e4 e5 f0 f1 f2 f3 f4 f5 q6 q7
      by_cases hj0 : j = 0
      · have q8 : ¬ (0 : Int) < (j : Int) := by omega
        go_wp2_with fail
        obtain ⟨hF4, hB4, _⟩ := HSET.out nq
        subst hj0
        exact ⟨⟨1, by omega, rfl, hF4, hB4⟩, by simp [intOf]; omega⟩
      · obtain ⟨i, hij⟩ : ∃ i, j = i + 1 := ⟨j - 1, by omega⟩
        obtain ⟨z, hz⟩ : ∃ z, (ordS [d0, d1] ps)[i]? = some z := ⟨_, List.getElem?_eq_getElem (by omega)⟩
        obtain ⟨u, hu⟩ : ∃ u, L[i]? = some u := ⟨_, List.getElem?_eq_getElem (by omega)⟩
        have hur : u.r = row3 z.1 z.2 := by
          have h1 := congrArg (fun l => l[i]?) HL.out
          simp only [rowsS, List.getElem?_map, hu, hz, Option.map_some, Option.some.injEq] at h1
          exact h1
        obtain ⟨a6, e6, _, hc6, ho6⟩ := HRD.out i u hu
        obtain rfl : a5 = a6 := by simpa using e6
        rw [hur] at ho6
        obtain ⟨gi, ci, huv, hgi, _, _, r2, hri⟩ := row_three ho6
        rw [huv] at hc6
        have hnx := ordS_next HG.out rfl hz (by have h := HX.out; rw [hij] at h; exact h)
        obtain ⟨⟨⟨k2, n2, s2⟩, ⟨k3, n3, s3⟩⟩, m2⟩ := z
        simp only [RowAt] at r2 hnx
        generalize hcc : rowsC [(k2, n2, s2), (k3, n3, s3)] [(k0, n0, s0), (k1, n1, s1)] [d0, d1] = cc at hnx
        have HCC := Lib.hid hcc
        have HRI := Lib.hid (show ∀ X : World, Below g w2 X → RdR X X.heap.size (some ⟨gi, 0, none⟩) [(k2, n2, s2), (k3, n3, s3), (1, (m2 : Int), ⟨#[]⟩)] from fun X hX hp => by
          obtain ⟨ad, e, hlt', hc⟩ := (hri.below (B := w2.heap.size) (by rw [hsz2]; exact hX)) hp
          exact ⟨ad, e, Nat.lt_of_lt_of_le hlt' hX.size, hc⟩)
        have FY := Lib.hid (show ∀ X : World, Below g w2 X → X.cell? (a5.add i) = some (.slice (some ⟨gi, 0, none⟩) 3 ci) ∧ X.cell? (a5.add j) = some (.slice (some ⟨gj, 0, none⟩) 3 cj) ∧ X.cell? ⟨w.heap.size, 0, none⟩ = some (.bool d0) ∧ X.cell? ⟨w.heap.size, 1, none⟩ = some (.bool d1) ∧ X.cell? ⟨gi, 7, none⟩ = some (.int .i64 (m2 : Int)) ∧ X.cell? ⟨gj, 7, none⟩ = some (.int .i64 (m : Int)) from fun X hX =>
          have q5 : (a5.add i).block < g := by rw [blockAdd]; exact HA5.out
          have qi : gi < g := by omega
          have h0 := HD.out X (HB2.out.trans (hX.mono hle0))
          have h1 := FX.out X hX
          ⟨(hX.cell q5).trans hc6, h1.1, h0.1, h0.2, (hX.cell (p := ⟨gi, 7, none⟩) qi).trans r2.2.1, h1.2.2.2.1⟩)
        have q8 : (0 : Int) < (j : Int) := by omega
        have q9 : (j : Int) - 1 = (i : Int) := by omega
        have q12 : IntKind.i64.wrap ((j : Int) - 1) = (i : Int) := by rw [q9]; exact IntWalk.i64_in _ (by omega)
        have q13 : IntKind.i64.wrap (i : Int) = (i : Int) := IntWalk.i64_in _ (by omega)
        have q10 : (i : Int) < (n : Int) := by omega
        have q11 : (0 : Int) ≤ (i : Int) := by omega
        have HIJ := Lib.hid hij
        clear hz hu hur e6 hc6 ho6 huv r2 hri hcc hgi hij
        go_wp2_with fail
        obtain ⟨hF4, hB4, hT4⟩ := HSET.out nq
        generalize (wr.drewN nq).setCell ⟨g, m, none⟩ (.bool true) = w4 at *
        have HF4 := Lib.hid hF4
        have HB4 := Lib.hid hB4
        have HT4 := Lib.hid hT4
        clear hF4 hB4 hT4 c0 hfz
        go_region_held3 (fun X => X.cell? (a5.add i) = some (.slice (some ⟨gi, 0, none⟩) 3 ci) ∧ X.cell? (a5.add j) = some (.slice (some ⟨gj, 0, none⟩) 3 cj) ∧ X.cell? ⟨w.heap.size, 0, none⟩ = some (.bool d0) ∧ X.cell? ⟨w.heap.size, 1, none⟩ = some (.bool d1))
          ((have q := FY.out _ (by first | exact HT5.out | exact HT4.out | exact drewR HT4.out); exact ⟨q.1, q.2.1, q.2.2.1, q.2.2.2.1⟩))
          (first | (go_at_call 28; refine (less7 (some ⟨gi, 0, none⟩) ci [(k2, n2, s2), (k3, n3, s3)] (1, (m2 : Int), ⟨#[]⟩) (some ⟨gj, 0, none⟩) cj [(k0, n0, s0), (k1, n1, s1)] (1, (m : Int), ⟨#[]⟩) d0 d1 _ (HRI.out _ (by first | exact drewR HT4.out | exact HT4.out)) (HRJ.out _ (by first | exact drewR HT4.out | exact HT4.out)) rfl rfl cc HCC.out).mono ?_; rintro e w5 ⟨rfl, hb5⟩; have HT5 := Lib.hid ((drewR HT4.out).trans (hb5.mono (show g ≤ w4.heap.size by have := HT4.out.size; have := HGG.out; omega))); have HB5 := Lib.hid ((drewR HB4.out).trans (hb5.mono (show g ≤ w4.heap.size by have := HT4.out.size; have := HGG.out; omega))); have HF5 := Lib.hid ((show FlagsAt w4.drew g (metS (ordS [d0, d1] ps) (j + 1)) n from HF4.out).below hb5); clear hb5))
        by_cases hc0 : cc = 0
        · subst hc0
          have q14 : (m2 : Int) < (m : Int) := by rcases hnx with h | ⟨_, h⟩ <;> omega
          have q15 : decide ((m : Int) ≤ (m2 : Int)) = false := decide_eq_false (by omega)
          obtain ⟨t0, t1, _, _, t2, t3⟩ := FY.out w5 HT5.out
          go_wp2_with fail
          go_quiet (fail)
          go_wp2_with fail
          exact ⟨⟨j + 1, by omega, by go_num, HF5.out, ⟨HB5.out.os, HB5.out.tape, HB5.out.output, HB5.out.size, HB5.out.block⟩⟩, by simp [intOf]; omega⟩
        · have q14 : decide ((0 : Int) < cc) = false := decide_eq_false (by omega)
          have q15 : decide (cc = 0) = false := decide_eq_false hc0
          obtain ⟨t0, t1, _, _, t2, t3⟩ := FY.out w5 HT5.out
          go_wp2_with fail
          go_quiet (fail)
          go_wp2_with fail
          exact ⟨⟨j + 1, by omega, by go_num, HF5.out, ⟨HB5.out.os, HB5.out.tape, HB5.out.output, HB5.out.size, HB5.out.block⟩⟩, by simp [intOf]; omega⟩
    · have q1 : ¬ (j : Int) < (n : Int) := by omega
      have HT := Lib.hid (show Below w.heap.size w wr from by
        have h1 : Below w2.heap.size w2 wr := HS3.out.trans (by rw [HGG.out]; exact hb)
        exact HW.out.trans ((HB2.out.trans (h1.mono HB2.out.size)).mono (by omega)))
      clear hf hb
      go_wp2_with fail
      refine (awk7_any _).mono ?_
      rintro e w9 ⟨rfl, hb9⟩
      go_wp2_with fail
      go_ret
      exact ⟨rfl, HT.out.trans (hb9.mono HT.out.size)⟩
set_option maxRecDepth 100000 in
theorem order_no (A : Option Addr) (c : Nat) (ps : List Pr) (d0 d1 : Bool) (w : World) (hR : RdR w w.heap.size A (flat ps)) (hz : ∀ p ∈ ps, p.1.2.2.size ≤ 9223372036854775807 ∧ p.2.2.2.size ≤ 9223372036854775807) (hl : ps.length ≤ 9223372036854775807) (hok : okPs ps = false) :
    Calls Try.prog 5 #[.slice A ps.length c, .agg #[.bool d0, .bool d1]] w fun e w' => e = .returned (.bool true) ∧ Below w.heap.size w w' := by
  have hal0 : Below w.heap.size w (w.alloc (.cells #[.bool d0, .bool d1] 57)) := (Below.refl _ _).alloc (Nat.le_refl _) _
  have hR0 : RdR (w.alloc (.cells #[.bool d0, .bool d1] 57)) (w.alloc (.cells #[.bool d0, .bool d1] 57)).heap.size A (flat ps) := fun hp => by
    obtain ⟨ad, e, hal, hcs⟩ := (hR.below hal0) hp
    exact ⟨ad, e, Nat.lt_of_lt_of_le hal hal0.size, hcs⟩
  have HRT := Lib.hid (right7_any A ps.length c ps _ rfl hR0 hz hl)
  have HOK := Lib.hid hok
  have HW := Lib.hid hal0
  clear hR hz hl hok hR0 hal0
  go_enter Try.func5, Try.ntmps5
  go_wp2_with fail
  refine HRT.out.mono ?_
  rintro e w1 ⟨rfl, hb1⟩
  rw [HOK.out]
  have HB1 := Lib.hid (HW.out.trans (hb1.mono HW.out.size))
  clear hb1
  go_wp2_with fail
  refine (awk7_any _).mono ?_
  rintro e w9 ⟨rfl, hb9⟩
  go_wp2_with fail
  go_ret
  exact ⟨rfl, HB1.out.trans (hb9.mono HB1.out.size)⟩
theorem order_walk (A : Option Addr) (c : Nat) (ps : List Pr) (d0 d1 : Bool) (w : World) (hR : RdR w w.heap.size A (flat ps)) (hs : ∀ p ∈ ps, (In64 p.1.2.1 ∧ p.1.2.2.size ≤ maxLen) ∧ In64 p.2.2.1 ∧ p.2.2.2.size ≤ maxLen) (hc : ps.length ≤ c) (hm : c ≤ maxLen) :
    Calls Try.prog 5 #[.slice A ps.length c, .agg #[.bool d0, .bool d1]] w fun e w' => e = .returned (.bool true) ∧ Below w.heap.size w w' := by
  have hz : ∀ p ∈ ps, p.1.2.2.size ≤ 9223372036854775807 ∧ p.2.2.2.size ≤ 9223372036854775807 := fun p hp => by
    obtain ⟨⟨_, h1⟩, _, h2⟩ := hs p hp
    unfold maxLen at h1 h2
    omega
  have hl : ps.length ≤ 9223372036854775807 := by unfold maxLen at hm; omega
  cases hok : okPs ps with
  | false => exact order_no A c ps d0 d1 w hR hz hl hok
  | true => exact order_go A c ps d0 d1 w hR hz hl hok (GoodQ.of hok fun p hp => ⟨(hs p hp).1.1, (hs p hp).2.1⟩)
end Go.Proofs.Ytbeaiaepbmldbaa
