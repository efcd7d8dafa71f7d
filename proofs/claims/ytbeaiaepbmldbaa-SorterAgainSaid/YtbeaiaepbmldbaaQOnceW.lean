/-
  SorterOnce's walk.
-/
import Derived.Test.YtbeaiaepbmldbaaQOnceM
import Derived.Test.YtbeaiaepbmldbaaQOrdL
import Derived.Test.YtbeaiaepbmldbaaRBackS
import Derived.BigQuiet
namespace Go.Proofs.Ytbeaiaepbmldbaa
open Go.ChangeShapes Go.WideShapes Go.ChangeAt Go.RowKit
set_option linter.unusedVariables false

/-- a slice of rows: each reads so -/
def RowsAt (w : World) (A : Option Addr) (S : List PN) : Prop :=
  ∀ j x, S[j]? = some x → ∃ (ad : Addr) (g c : Nat), A = some ad ∧ ad.block < w.heap.size ∧ g < w.heap.size ∧ w.cell? (ad.add j) = some (.slice (some ⟨g, 0, none⟩) 3 c) ∧ RdR w w.heap.size (some ⟨g, 0, none⟩) (row3 x.1 x.2)
theorem RowsAt.on {w w' : World} {A : Option Addr} {S : List PN} (h : RowsAt w A S) (hb : Below w.heap.size w w') : RowsAt w' A S := fun j x hj => by
  obtain ⟨ad, g, c, e, h1, h2, h3, h4⟩ := h j x hj
  exact ⟨ad, g, c, e, Nat.lt_of_lt_of_le h1 hb.size, Nat.lt_of_lt_of_le h2 hb.size, (hb.cell (by rw [blockAdd]; exact h1)).trans h3, h4.on hb⟩
theorem OwnRR.rows {w : World} {base : Nat} {v : Value} {L : List Rv} {S : List PN} (h : OwnRR w base v L) (hL : L.map Rv.r = S.map fun x => row3 x.1 x.2) : ∃ A c, v = .slice A S.length c ∧ RowsAt w A S := by
  obtain ⟨A, c, rfl, hr⟩ := h.rd
  have hl : L.length = S.length := by simpa using congrArg List.length hL
  refine ⟨A, c, by rw [hl], fun j x hj => ?_⟩
  have hjl := (List.getElem?_eq_some_iff.1 hj).1
  obtain ⟨y, hy⟩ : ∃ y, L[j]? = some y := ⟨_, List.getElem?_eq_getElem (by omega)⟩
  have hyr : y.r = row3 x.1 x.2 := by
    have h1 := congrArg (fun l => l[j]?) hL
    simp only [List.getElem?_map, hy, hj, Option.map_some, Option.some.injEq] at h1
    exact h1
  obtain ⟨ad, rfl, h1, h2, h3⟩ := hr j y hy
  rw [hyr] at h3
  obtain ⟨g, c', hv, hg, _, _, _, h4⟩ := row_three h3
  exact ⟨ad, g, c', rfl, h1, hg, by rw [h2, hv], h4⟩
theorem OnceAt.zero {ds : List Bool} {ps : List Pr} {k : Nat} (h : OnceAt ds ps 0 k) : k = 0 := by
  rcases h.2 with ⟨_, h⟩ | ⟨_, _, h, _⟩
  · exact h
  · omega
theorem row3_eq (p : Pr) (i : Nat) : decide (row3 p i = row3 p i) = true := by simp
def OnceRel (w : World) (ds : List Bool) (ps : List Pr) (v9 v35 : Value) (wr : World) : Prop :=
  ∃ i k : Nat, i ≤ (ordS ds ps).length ∧ v9 = .int .i64 (k : Int) ∧ v35 = .int .i64 (i : Int) ∧ OnceAt ds ps i k ∧ Below w.heap.size w wr
set_option maxRecDepth 100000 in
set_option maxHeartbeats 4000000 in
theorem once_go (A : Option Addr) (c : Nat) (ps : List Pr) (d0 d1 : Bool) (w : World) (hR : RdR w w.heap.size A (flat ps)) (hz : ∀ p ∈ ps, p.1.2.2.size ≤ 9223372036854775807 ∧ p.2.2.2.size ≤ 9223372036854775807) (hl : ps.length ≤ 9223372036854775807) (hok : okPs ps = true) (hg : GoodQ ps) :
    Calls Try.prog 6 #[.slice A ps.length c, .agg #[.bool d0, .bool d1]] w fun e w' => e = .returned (.bool true) ∧ Below w.heap.size w w' := by
  have hal0 : Below w.heap.size w (w.alloc (.cells #[.bool d0, .bool d1] 57)) := (Below.refl _ _).alloc (Nat.le_refl _) _
  have hsz : (w.alloc (.cells #[.bool d0, .bool d1] 57)).heap.size = w.heap.size + 1 := by simp
  have hR0 : RdR (w.alloc (.cells #[.bool d0, .bool d1] 57)) (w.alloc (.cells #[.bool d0, .bool d1] 57)).heap.size A (flat ps) := fun hp => by
    obtain ⟨ad, e, hal, hcs⟩ := (hR.below hal0) hp
    exact ⟨ad, e, Nat.lt_of_lt_of_le hal hal0.size, hcs⟩
  have HD := Lib.hid (show ∀ X : World, Below (w.alloc (.cells #[.bool d0, .bool d1] 57)).heap.size (w.alloc (.cells #[.bool d0, .bool d1] 57)) X → X.cell? ⟨w.heap.size, 0, none⟩ = some (.bool d0) ∧ X.cell? ⟨w.heap.size, 1, none⟩ = some (.bool d1) from fun X hX =>
    ⟨(hX.cell (p := ⟨w.heap.size, 0, none⟩) (by show w.heap.size < _; omega)).trans (by simp [go_sem]), (hX.cell (p := ⟨w.heap.size, 1, none⟩) (by show w.heap.size < _; omega)).trans (by simp [go_sem])⟩)
  obtain ⟨n, hn⟩ : ∃ n, ps.length = n := ⟨_, rfl⟩
  have HRT := Lib.hid (right7_any A n c ps (w.alloc (.cells #[.bool d0, .bool d1] 57)) hn.symm hR0 hz hl)
  have HR0 := Lib.hid hR0
  have HW := Lib.hid hal0
  have HG := Lib.hid hg
  have HOK := Lib.hid hok
  have hn2 : n ≤ 120 := by rw [← hn]; exact hg.1
  have HN := Lib.hid hn
  rw [hn]
  clear hR hz hl hok hg hn hR0 hal0
  go_enter Try.func6, Try.ntmps6
  go_wp2_with fail
  generalize hw0 : (w.alloc (.cells #[.bool d0, .bool d1] 57)) = w0 at *
  refine HRT.out.mono ?_
  rintro e w1 ⟨rfl, hb1⟩
  rw [HOK.out]
  have HB1 := Lib.hid hb1
  obtain ⟨D0, D1⟩ := HD.out w1 hb1
  clear hb1
  go_wp2_with fail
  refine (sorted7 A n c ps d0 d1 false w1 HN.out.symm (HR0.out.on HB1.out) HG.out (rowsS (ordS [d0, d1] ps)) (left_ordS _ _) (fun r hr => by
    obtain ⟨x, hx, rfl⟩ := List.mem_map.1 hr
    have hlt := (List.getElem?_eq_some_iff.1 (ordS_mem hx)).1
    exact ⟨good_row3 (HG.out.2 _ (List.mem_of_getElem? (ordS_mem hx))) _ (by have := HN.out; omega), rfl⟩)).mono ?_
  rintro e w2 ⟨v2, L, rfl, hL, ho, hb2⟩
  obtain ⟨A5, c5, rfl, hr1⟩ := ho.rows hL
  have hLn : L.length = n := by
    have h1 := congrArg List.length hL
    rw [List.length_map, rowsS, List.length_map, ordS_length, HN.out] at h1
    exact h1
  have hSl : (ordS [d0, d1] ps).length = n := by rw [ordS_length, HN.out]
  rw [hSl]
  have HB2 := Lib.hid (HB1.out.trans (hb2.mono HB1.out.size))
  have HR1 := Lib.hid hr1
  obtain ⟨D2, D3⟩ := HD.out w2 HB2.out
  clear ho hr1 hL hb2 D0 D1 hLn
  go_wp2_with fail
  refine (sorted7 A n c ps d0 d1 true w2 HN.out.symm (HR0.out.on HB2.out) HG.out (rowsS (onceL [d0, d1] ps)) (left_onceL _ _) (fun r hr => by
    obtain ⟨x, hx, rfl⟩ := List.mem_map.1 hr
    have hlt := (List.getElem?_eq_some_iff.1 (onceL_mem hx)).1
    exact ⟨good_row3 (HG.out.2 _ (List.mem_of_getElem? (onceL_mem hx))) _ (by have := HN.out; omega), rfl⟩)).mono ?_
  rintro e w3 ⟨v3, L', rfl, hL, ho, hb3⟩
  obtain ⟨A6, c6, rfl, hr2⟩ := ho.rows hL
  obtain ⟨m, hm⟩ : ∃ m, (onceL [d0, d1] ps).length = m := ⟨_, rfl⟩
  have hmn : m ≤ n := by have h := onceL_length [d0, d1] ps; have := HN.out; omega
  rw [hm]
  have HM := Lib.hid hm
  have HB3 := Lib.hid (HB2.out.trans (hb3.mono HB2.out.size))
  have HR2 := Lib.hid hr2
  have HR3 := Lib.hid (HR1.out.on hb3)
  clear ho hr2 hL hb3 D2 D3 hm
  go_wp2_with fail
  go_loopw [9, 35] (fun v9 v35 wr => OnceRel w3 [d0, d1] ps v9 v35 wr) (fun _ v _ => n - (intOf v).toNat)
  case atStart => exact ⟨0, 0, Nat.zero_le _, rfl, rfl, ⟨Nat.zero_le _, .inl ⟨rfl, rfl⟩⟩, Below.refl _ _⟩
  case round =>
    obtain ⟨i, k, hi, rfl, rfl, hat, hb⟩ := hrel
    have HB := Lib.hid hb
    have HAT := Lib.hid hat
    have HQ1 := Lib.hid (HR3.out.on hb)
    have HQ2 := Lib.hid (HR2.out.on hb)
    have HBD := Lib.hid (HB3.out.trans (hb.mono HB3.out.size))
    clear hb hat
    by_cases hlt : i < n
    · obtain ⟨x, hx⟩ : ∃ x, (ordS [d0, d1] ps)[i]? = some x := ⟨_, List.getElem?_eq_getElem (by omega)⟩
      have HX := Lib.hid hx
      obtain ⟨a5, gi, ci, rfl, ha5, hgi, hc5, hr5⟩ := HQ1.out i x hx
      have HRI := Lib.hid hr5
      have q1 : (i : Int) < (n : Int) := by omega
      have q2 : (0 : Int) ≤ (i : Int) := by omega
      clear hx hr5
      by_cases hi0 : i = 0
      · have hk0 : k = 0 := by have h := HAT.out; rw [hi0] at h; exact h.zero
        obtain ⟨hkx, hat2⟩ := OnceAt.first (show (ordS [d0, d1] ps)[0]? = some x by have h := HX.out; rw [hi0] at h; exact h)
        have HKX := Lib.hid (show (onceL [d0, d1] ps)[k]? = some x by rw [hk0]; exact hkx)
        have HAT2 := Lib.hid (show OnceAt [d0, d1] ps (i + 1) (k + 1) by rw [hi0, hk0]; exact hat2)
        have q8 : decide (0 < i) = false := decide_eq_false (by omega)
        have q8' : decide ((0 : Int) < (i : Int)) = false := decide_eq_false (by omega)
        have q8'' : ¬ 0 < i := by omega
        clear hkx hat2 hi0 hk0
        go_wp2_with fail
        go_quiet (fail)
        have HBC := Lib.hid (belowN (Below.refl wr.heap.size wr) nq)
        generalize wr.drewN nq = w5 at *
        go_wp2_with fail
        have hkm : k < m := by have h := (List.getElem?_eq_some_iff.1 HKX.out).1; have := HM.out; omega
        obtain ⟨a6, gk, ck, rfl, ha6, hgk, hc6, hr6⟩ := HQ2.out k x HKX.out
        have HRK := Lib.hid hr6
        have FZ := Lib.hid (show ∀ X : World, Below wr.heap.size wr X → X.cell? (a5.add i) = some (.slice (some ⟨gi, 0, none⟩) 3 ci) ∧ X.cell? (a6.add k) = some (.slice (some ⟨gk, 0, none⟩) 3 ck) from fun X hX => ⟨(hX.cell (by rw [blockAdd]; exact ha5)).trans hc5, (hX.cell (by rw [blockAdd]; exact ha6)).trans hc6⟩)
        have r1 : decide (m ≤ k) = false := decide_eq_false (by omega)
        have r2 : (k : Int) < (m : Int) := by omega
        have r3 : (0 : Int) ≤ (k : Int) := by omega
        have r4 : decide ((m : Int) ≤ (k : Int)) = false := decide_eq_false (by omega)
        clear hr6 hc6 hc5
        go_wp2_with fail
        go_region_held3 (fun X => X.cell? (a5.add i) = some (.slice (some ⟨gi, 0, none⟩) 3 ci) ∧ X.cell? (a6.add k) = some (.slice (some ⟨gk, 0, none⟩) 3 ck))
          (first | exact FZ.out _ HBC.out | exact FZ.out _ (drewR HBC.out))
          (first | (go_at_call 22; refine (SameValues_any (some ⟨gi, 0, none⟩) ci 3 (row3 x.1 x.2) (some ⟨gk, 0, none⟩) ck 3 (row3 x.1 x.2) _ (HRI.out.on (drewR HBC.out)) (HRK.out.on (drewR HBC.out)) rfl rfl (by show 3 ≤ 1000000; omega) true (row3_eq _ _)).mono ?_; rintro e w6 ⟨rfl, hb6⟩; have HBC := Lib.hid ((drewR HBC.out).trans (hb6.mono HBC.out.size)); clear hb6))
        go_wp2_with fail
        exact ⟨⟨i + 1, k + 1, by omega, by go_num, by go_num, HAT2.out, HB.out.trans (HBC.out.mono HB.out.size)⟩, by simp [intOf]; omega⟩
      · obtain ⟨j, hij⟩ : ∃ j, i = j + 1 := ⟨i - 1, by omega⟩
        obtain ⟨p, hp⟩ : ∃ p, (ordS [d0, d1] ps)[j]? = some p := ⟨_, List.getElem?_eq_getElem (by omega)⟩
        obtain ⟨a7, gj, cj, e7, ha7, hgj, hc7, hr7⟩ := HQ1.out j p hp
        obtain rfl : a5 = a7 := by simpa using e7
        have HRJ := Lib.hid hr7
        have HP := Lib.hid hp
        have hsp := sameP_rowsC (x := p) (y := x) HG.out rfl (List.mem_of_getElem? hp) (List.mem_of_getElem? HX.out)
        generalize hcc : rowsC [p.1.1, p.1.2] [x.1.1, x.1.2] [d0, d1] = cc at hsp
        have HCC := Lib.hid hcc
        have HSP := Lib.hid hsp
        have q8 : (0 : Int) < (i : Int) := by omega
        have q8' : decide ((0 : Int) < (i : Int)) = true := decide_eq_true (by omega)
        have q9 : (i : Int) - 1 = (j : Int) := by omega
        have q12 : IntKind.i64.wrap ((i : Int) - 1) = (j : Int) := by rw [q9]; exact IntWalk.i64_in _ (by omega)
        have q13 : IntKind.i64.wrap (j : Int) = (j : Int) := IntWalk.i64_in _ (by omega)
        have q14 : decide (0 < i) = true := decide_eq_true (by omega)
        have q15 : 0 < i := by omega
        have HIJ := Lib.hid hij
        have q10 : (j : Int) < (n : Int) := by omega
        have q11 : (0 : Int) ≤ (j : Int) := by omega
        have FY := Lib.hid (show ∀ X : World, Below wr.heap.size wr X → X.cell? (a5.add j) = some (.slice (some ⟨gj, 0, none⟩) 3 cj) ∧ X.cell? (a5.add i) = some (.slice (some ⟨gi, 0, none⟩) 3 ci) ∧ X.cell? ⟨w.heap.size, 0, none⟩ = some (.bool d0) ∧ X.cell? ⟨w.heap.size, 1, none⟩ = some (.bool d1) from fun X hX =>
          have h0 := HD.out X (HBD.out.trans (hX.mono HBD.out.size))
          ⟨(hX.cell (by rw [blockAdd]; exact ha5)).trans hc7, (hX.cell (by rw [blockAdd]; exact ha5)).trans hc5, h0.1, h0.2⟩)
        have HBX := Lib.hid (Below.refl wr.heap.size wr)
        clear hcc hsp e7 hr7 hp hc7 hi0 hij
        go_wp2_with fail
        go_region_held3 (fun X => X.cell? (a5.add j) = some (.slice (some ⟨gj, 0, none⟩) 3 cj) ∧ X.cell? (a5.add i) = some (.slice (some ⟨gi, 0, none⟩) 3 ci) ∧ X.cell? ⟨w.heap.size, 0, none⟩ = some (.bool d0) ∧ X.cell? ⟨w.heap.size, 1, none⟩ = some (.bool d1))
          (first | exact FY.out _ HBX.out | exact FY.out _ (drewR HBX.out))
          (first | (go_at_call 28; refine (less7 (some ⟨gj, 0, none⟩) cj [p.1.1, p.1.2] (1, (p.2 : Int), ⟨#[]⟩) (some ⟨gi, 0, none⟩) ci [x.1.1, x.1.2] (1, (x.2 : Int), ⟨#[]⟩) d0 d1 _ (HRJ.out.on (drewR HBX.out)) (HRI.out.on (drewR HBX.out)) rfl rfl cc HCC.out).mono ?_; rintro e w5 ⟨rfl, hb5⟩; have HBX := Lib.hid ((drewR HBX.out).trans hb5); clear hb5))
        have hi1 : (ordS [d0, d1] ps)[j + 1]? = some x := by have h := HX.out; rw [HIJ.out] at h; exact h
        have ha1 : OnceAt [d0, d1] ps (j + 1) k := by have h := HAT.out; rw [HIJ.out] at h; exact h
        by_cases hc0 : cc = 0
        · have HAT2 := Lib.hid (show OnceAt [d0, d1] ps (i + 1) k by rw [HIJ.out]; exact ha1.skip HP.out hi1 (by rw [HSP.out]; exact decide_eq_true hc0))
          subst hc0
          clear hi1 ha1
          go_wp2_with fail
          exact ⟨⟨i + 1, k, by omega, rfl, by go_num, HAT2.out, HB.out.trans (HBX.out.mono HB.out.size)⟩, by simp [intOf]; omega⟩
        · have hs := ha1.step HP.out hi1 (by rw [HSP.out]; exact decide_eq_false hc0)
          have HKX := Lib.hid hs.1
          have HAT2 := Lib.hid (show OnceAt [d0, d1] ps (i + 1) (k + 1) by rw [HIJ.out]; exact hs.2)
          have hcd : decide (cc = 0) = false := decide_eq_false hc0
          have HBC := Lib.hid (show Below wr.heap.size wr w5 from HBX.out)
          clear hi1 ha1 hs
          go_wp2_with fail
          have hkm : k < m := by have h := (List.getElem?_eq_some_iff.1 HKX.out).1; have := HM.out; omega
          obtain ⟨a6, gk, ck, rfl, ha6, hgk, hc6, hr6⟩ := HQ2.out k x HKX.out
          have HRK := Lib.hid hr6
          have FZ := Lib.hid (show ∀ X : World, Below wr.heap.size wr X → X.cell? (a5.add i) = some (.slice (some ⟨gi, 0, none⟩) 3 ci) ∧ X.cell? (a6.add k) = some (.slice (some ⟨gk, 0, none⟩) 3 ck) from fun X hX => ⟨(hX.cell (by rw [blockAdd]; exact ha5)).trans hc5, (hX.cell (by rw [blockAdd]; exact ha6)).trans hc6⟩)
          have r1 : decide (m ≤ k) = false := decide_eq_false (by omega)
          have r2 : (k : Int) < (m : Int) := by omega
          have r3 : (0 : Int) ≤ (k : Int) := by omega
          have r4 : decide ((m : Int) ≤ (k : Int)) = false := decide_eq_false (by omega)
          clear hr6 hc6 hc5
          go_wp2_with fail
          go_region_held3 (fun X => X.cell? (a5.add i) = some (.slice (some ⟨gi, 0, none⟩) 3 ci) ∧ X.cell? (a6.add k) = some (.slice (some ⟨gk, 0, none⟩) 3 ck))
            (first | exact FZ.out _ HBC.out | exact FZ.out _ (drewR HBC.out))
            (first | (go_at_call 22; refine (SameValues_any (some ⟨gi, 0, none⟩) ci 3 (row3 x.1 x.2) (some ⟨gk, 0, none⟩) ck 3 (row3 x.1 x.2) _ (HRI.out.on (drewR HBC.out)) (HRK.out.on (drewR HBC.out)) rfl rfl (by show 3 ≤ 1000000; omega) true (row3_eq _ _)).mono ?_; rintro e w6 ⟨rfl, hb6⟩; have HBC := Lib.hid ((drewR HBC.out).trans (hb6.mono HBC.out.size)); clear hb6))
          go_wp2_with fail
          exact ⟨⟨i + 1, k + 1, by omega, by go_num, by go_num, HAT2.out, HB.out.trans (HBC.out.mono HB.out.size)⟩, by simp [intOf]; omega⟩
    · obtain rfl : i = n := by omega
      obtain rfl : k = m := by
        have h := (show OnceAt [d0, d1] ps (ordS [d0, d1] ps).length k by rw [hSl]; exact HAT.out).done
        rw [h]; exact HM.out
      have q1 : ¬ (i : Int) < (i : Int) := by omega
      go_wp2_with fail
      refine (awk7_any _).mono ?_
      rintro e w9 ⟨rfl, hb9⟩
      go_wp2_with fail
      go_ret
      exact ⟨rfl, HW.out.trans ((HBD.out.trans (hb9.mono HBD.out.size)).mono (by omega))⟩
set_option maxRecDepth 100000 in
theorem once_no (A : Option Addr) (c : Nat) (ps : List Pr) (d0 d1 : Bool) (w : World) (hR : RdR w w.heap.size A (flat ps)) (hz : ∀ p ∈ ps, p.1.2.2.size ≤ 9223372036854775807 ∧ p.2.2.2.size ≤ 9223372036854775807) (hl : ps.length ≤ 9223372036854775807) (hok : okPs ps = false) :
    Calls Try.prog 6 #[.slice A ps.length c, .agg #[.bool d0, .bool d1]] w fun e w' => e = .returned (.bool true) ∧ Below w.heap.size w w' := by
  have hal0 : Below w.heap.size w (w.alloc (.cells #[.bool d0, .bool d1] 57)) := (Below.refl _ _).alloc (Nat.le_refl _) _
  have hR0 : RdR (w.alloc (.cells #[.bool d0, .bool d1] 57)) (w.alloc (.cells #[.bool d0, .bool d1] 57)).heap.size A (flat ps) := fun hp => by
    obtain ⟨ad, e, hal, hcs⟩ := (hR.below hal0) hp
    exact ⟨ad, e, Nat.lt_of_lt_of_le hal hal0.size, hcs⟩
  have HRT := Lib.hid (right7_any A ps.length c ps _ rfl hR0 hz hl)
  have HOK := Lib.hid hok
  have HW := Lib.hid hal0
  clear hR hz hl hok hR0 hal0
  go_enter Try.func6, Try.ntmps6
  go_wp2_with fail
  refine HRT.out.mono ?_
  rintro e w1 ⟨rfl, hb1⟩
  rw [HOK.out]
  have HB1 := Lib.hid (HW.out.trans (hb1.mono HW.out.size))
  clear hb1
  go_wp2_with fail
  refine (awk7_any _).mono ?_
  rintro e w9 ⟨rfl, hb9⟩
  go_wp2_with fail
  go_ret
  exact ⟨rfl, HB1.out.trans (hb9.mono HB1.out.size)⟩
theorem once_walk (A : Option Addr) (c : Nat) (ps : List Pr) (d0 d1 : Bool) (w : World) (hR : RdR w w.heap.size A (flat ps)) (hs : ∀ p ∈ ps, (In64 p.1.2.1 ∧ p.1.2.2.size ≤ maxLen) ∧ In64 p.2.2.1 ∧ p.2.2.2.size ≤ maxLen) (hc : ps.length ≤ c) (hm : c ≤ maxLen) :
    Calls Try.prog 6 #[.slice A ps.length c, .agg #[.bool d0, .bool d1]] w fun e w' => e = .returned (.bool true) ∧ Below w.heap.size w w' := by
  have hz : ∀ p ∈ ps, p.1.2.2.size ≤ 9223372036854775807 ∧ p.2.2.2.size ≤ 9223372036854775807 := fun p hp => by
    obtain ⟨⟨_, h1⟩, _, h2⟩ := hs p hp
    unfold maxLen at h1 h2
    omega
  have hl : ps.length ≤ 9223372036854775807 := by unfold maxLen at hm; omega
  cases hok : okPs ps with
  | false => exact once_no A c ps d0 d1 w hR hz hl hok
  | true => exact once_go A c ps d0 d1 w hR hz hl hok (GoodQ.of hok fun p hp => ⟨(hs p hp).1.1, (hs p hp).2.1⟩)
end Go.Proofs.Ytbeaiaepbmldbaa
