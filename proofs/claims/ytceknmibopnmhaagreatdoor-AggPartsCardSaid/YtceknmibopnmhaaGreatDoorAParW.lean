/-
  Layer 8: AggParts' walk. Conditions: sizes.
-/
import Derived.Test.YtceknmibopnmhaaGreatDoorAParM
namespace Go.Proofs.YtceknmibopnmhaaGreatDoor
open Go.ChangeShapes Go.WideShapes Go.ChangeAt Go.RowKit Go.Maps Go.Sort Go.Shelf Go.ChangeMaps Go.Lib
set_option linter.unusedVariables false
set_option linter.unusedSimpArgs false

def LoopAt (wl : World) (m : Nat) (v : Value) (wr : World) : Prop := ∃ j : Nat, j ≤ m ∧ v = .int .i64 (j : Int) ∧ Below wl.heap.size wl wr
set_option maxRecDepth 100000 in
set_option maxHeartbeats 4000000 in
theorem parts_walk (A : Option Addr) (c : Nat) (vs : List Trip) (B : Option Addr) (cb : Nat) (us : List Trip) (w : World) (hW : Wd w) (hR : RdT w A vs) (hU : RdT w B us)
    (hsz : ∀ t ∈ vs, t.2.2.size ≤ 9223372036854775807) (hcap : vs.length ≤ 9223372036854775807) (hc : vs.length ≤ c) (h64 : ∀ t ∈ vs, In64 t.2.1)
    (hsz2 : ∀ t ∈ us, t.2.2.size ≤ 9223372036854775807) (hcap2 : us.length ≤ 9223372036854775807) (hc2 : us.length ≤ cb) (h642 : ∀ t ∈ us, In64 t.2.1) :
    Calls Tryz.prog 6 #[.slice A vs.length c, .slice B us.length cb] w fun e w' => e = .returned (.bool true) ∧ Below w.heap.size w w' := by
  have HRG := Lib.hid (right8 A c vs w hR hsz hcap)
  cases h : rightA vs
  · rw [h] at HRG
    clear hR hsz h64 hU hsz2 h642
    go_enter Tryz.func6, Tryz.ntmps6
    go_wp2_with (go_at_call 39; refine HRG.out.mono ?_; rintro e w1 ⟨rfl, hb⟩)
    refine (awake_any w1 (hW.on hb)).mono ?_
    rintro e w2 ⟨rfl, hb2⟩
    go_wp2_with fail
    go_ret
    exact ⟨rfl, hb.trans (hb2.mono hb.size)⟩
  · rw [h] at HRG
    obtain ⟨hl, hgd⟩ := good_of h h64
    have HU := Lib.hid hU
    have HSZ := Lib.hid hsz2
    have HRU := Lib.hid (fun (W : World) (hb : Below w.heap.size w W) => right8 B cb us W (HU.out.on hb) HSZ.out hcap2)
    cases h2 : rightA us
    · rw [h2] at HRU
      clear hR hsz h64 hU hsz2 h642 hgd
      go_enter Tryz.func6, Tryz.ntmps6
      go_wp2_with fail
      refine HRG.out.mono ?_
      rintro e w1 ⟨rfl, hb⟩
      have HB1 := Lib.hid hb
      clear hb
      go_wp2_with fail
      refine (HRU.out _ HB1.out).mono ?_
      rintro e w2 ⟨rfl, hb⟩
      have HB2 := Lib.hid (HB1.out.trans (hb.mono HB1.out.size))
      clear hb
      go_wp2_with fail
      refine (awake_any w2 (hW.on HB2.out)).mono ?_
      rintro e w3 ⟨rfl, hb3⟩
      go_wp2_with fail
      go_ret
      exact ⟨rfl, HB2.out.trans (hb3.mono HB2.out.size)⟩
    rw [h2] at HRU
    obtain ⟨hl2, hgd2⟩ := good_of h2 h642
    have HR := Lib.hid hR
    have HW := Lib.hid hW
    have HGD := Lib.hid hgd
    have HGD2 := Lib.hid hgd2
    have HGDA := Lib.hid (show ∀ t ∈ vs ++ us, GoodT t from fun t ht => (List.mem_append.1 ht).elim (hgd t) (hgd2 t))
    clear hR hU hW hsz hsz2 h64 h642 hgd hgd2 h h2 HSZ
    have hlA : (vs ++ us).length ≤ 120 := by rw [List.length_append]; omega
    go_enter Tryz.func6, Tryz.ntmps6
    go_wp2_with fail
    refine HRG.out.mono ?_
    rintro e w1 ⟨rfl, hb⟩
    have HB1 := Lib.hid hb
    clear hb
    go_wp2_with fail
    refine (HRU.out _ HB1.out).mono ?_
    rintro e w2 ⟨rfl, hb⟩
    have HB2 := Lib.hid (HB1.out.trans (hb.mono HB1.out.size))
    clear hb
    go_upto_region 4 with (fail)
    go_upto_region 5 with (at_builtin; first
      | (refine wpList_appA rfl (.tmp 35) (.tmp 36) rfl w2.heap.size _ [] vs rfl (OwnT.nil _ _) A vs.length c rfl rfl (HR.out.on HB2.out).src (by simp; omega) (Nat.le_refl _) ?_; intro v3 w3 HO3 HB3; have HB3b := Lib.hid (HB2.out.trans (HB3.out.mono HB2.out.size)))
      | (refine wpList_appA rfl (.tmp 37) (.tmp 38) rfl w2.heap.size _ vs us rfl HO3.out B us.length cb rfl rfl (HU.out.on HB3b.out).src (by omega) HB3.out.size ?_; intro v4 w4 HO4 HB4; have HB5 := Lib.hid (HB2.out.trans ((HB3.out.trans HB4.out).mono HB2.out.size))))
    obtain ⟨xs, HX⟩ : ∃ xs, Hid (vs ++ us = xs) := ⟨_, Lib.hid rfl⟩
    rw [HX.out] at HO4 HGDA hlA
    obtain ⟨A6, c6, rfl, hc6, _, hs6, _, hg6⟩ := HO4.out.form
    have HRA := Lib.hid (rdT_src hs6 hg6)
    clear hs6 hg6 HO3 HO4 HB3b
    have hnw := NmsAt.new w4 names3
    obtain ⟨w5, hw5⟩ : ∃ w5, w4.alloc (.cells (names3.map Value.string).toArray 9) = w5 := ⟨_, rfl⟩
    have ha5 : Below w4.heap.size w4 w5 := by rw [← hw5]; exact (Below.refl _ _).alloc (Nat.le_refl _) _
    rw [hw5] at hnw
    simp only [names3, List.map_cons, List.map_nil] at hw5
    go_upto_region 6 with (fail)
    have HNW := Lib.hid hnw
    have HBW := Lib.hid (HB5.out.trans (ha5.mono HB5.out.size))
    have HRA5 := Lib.hid (HRA.out.on ha5)
    clear hnw ha5 hw5 HRA HB3 HB4
    generalize w4.heap.size = g1 at *
    go_loopw [42] (fun v wr => LoopAt w5 3 v wr) (fun v _ => 3 - (intOf v).toNat)
    case atStart => exact ⟨0, by omega, rfl, Below.refl _ _⟩
    case round =>
      obtain ⟨j, hj, rfl, hb⟩ := hrel
      by_cases hlt : j < 3
      · obtain ⟨name, all, fin, hnm, hN, hP⟩ := parts_at3 j hlt
        have hsum := hP vs us hl hl2
        rw [HX.out] at hsum
        have had : (all && false) = false := by simp
        obtain ⟨⟨⟨k1, z1, s1⟩, r1⟩, hf1⟩ : ∃ x, fin false (valsOf all vs) = x := ⟨_, rfl⟩
        obtain ⟨⟨⟨k2, z2, s2⟩, r2⟩, hf2⟩ : ∃ x, fin false (valsOf all us) = x := ⟨_, rfl⟩
        obtain ⟨⟨⟨k3, z3, s3⟩, r3⟩, hf3⟩ : ∃ x, fin false (valsOf all xs) = x := ⟨_, rfl⟩
        rw [hf1, hf2, hf3] at hsum
        have HSUM := Lib.hid hsum
        have HO1 := Lib.hid (fun (w : World) (hW : Wd w) (hR : RdT w A vs) => of_any hN had w hW A c vs hR HGD.out (by omega) hc)
        rw [hf1] at HO1
        have HO2 := Lib.hid (fun (w : World) (hW : Wd w) (hR : RdT w B us) => of_any hN had w hW B cb us hR HGD2.out (by omega) hc2)
        rw [hf2] at HO2
        have HO3 := Lib.hid (fun (w : World) (hW : Wd w) (hR : RdT w A6 xs) => of_any hN had w hW A6 c6 xs hR HGDA.out (by omega) hc6)
        rw [hf3] at HO3
        have HJ := Lib.hid hlt
        have hcell := (HNW.out.on hb).2 j name hnm
        have HB0 := Lib.hid hb
        have hj3 : (j : Int) < 3 := by omega
        clear hsum hf1 hf2 hf3 hb hN hP hnm had hlt
        go_wp2_with fail
        clear hcell
        refine (HO1.out _ (HW.out.on (HBW.out.trans (HB0.out.mono HBW.out.size))) (HR.out.on (HBW.out.trans (HB0.out.mono HBW.out.size)))).mono ?_
        rintro e X1 ⟨rfl, hb⟩
        have HB1 := Lib.hid (HB0.out.trans (hb.mono HB0.out.size))
        clear hb
        go_upto_region 9 with (fail)
        obtain ⟨X2, hX⟩ : ∃ X, X1.alloc (.cells #[.int .u8 k1, .int .i64 z1, .string s1] 24) = X := ⟨_, rfl⟩
        rw [hX]
        have hal : Below X1.heap.size X1 X2 := by rw [← hX]; exact (Below.refl _ _).alloc (Nat.le_refl _) _
        have hbx : BoxT X2 X1.heap.size (k1, z1, s1) := by rw [← hX]; exact BoxT.new X1 (k1, z1, s1)
        clear hX
        have HB2 := Lib.hid (HB1.out.trans (hal.mono HB1.out.size))
        have HX1 := Lib.hid hbx
        clear hal hbx
        generalize X1.heap.size = q1 at *
        go_wp2_with fail
        refine (HO2.out _ (HW.out.on (HBW.out.trans (HB2.out.mono HBW.out.size))) (HU.out.on (HBW.out.trans (HB2.out.mono HBW.out.size)))).mono ?_
        rintro e X3 ⟨rfl, hb⟩
        have HB3 := Lib.hid (HB2.out.trans (hb.mono HB2.out.size))
        have HX1 := Lib.hid (HX1.out.on hb)
        clear hb
        go_upto_region 10 with (fail)
        obtain ⟨X4, hX⟩ : ∃ X, X3.alloc (.cells #[.int .u8 k2, .int .i64 z2, .string s2] 24) = X := ⟨_, rfl⟩
        rw [hX]
        have hal : Below X3.heap.size X3 X4 := by rw [← hX]; exact (Below.refl _ _).alloc (Nat.le_refl _) _
        have hbx : BoxT X4 X3.heap.size (k2, z2, s2) := by rw [← hX]; exact BoxT.new X3 (k2, z2, s2)
        clear hX
        have HB4 := Lib.hid (HB3.out.trans (hal.mono HB3.out.size))
        have HX1 := Lib.hid (HX1.out.on hal)
        have HX2 := Lib.hid hbx
        clear hal hbx
        generalize X3.heap.size = q2 at *
        go_wp2_with fail
        refine (HO3.out _ (HW.out.on (HBW.out.trans (HB4.out.mono HBW.out.size))) (HRA5.out.on HB4.out)).mono ?_
        rintro e X5 ⟨rfl, hb⟩
        have HB5 := Lib.hid (HB4.out.trans (hb.mono HB4.out.size))
        have HX1 := Lib.hid (HX1.out.on hb)
        have HX2 := Lib.hid (HX2.out.on hb)
        clear hb
        go_upto_region 11 with (fail)
        obtain ⟨X6, hX⟩ : ∃ X, X5.alloc (.cells #[.int .u8 k3, .int .i64 z3, .string s3] 24) = X := ⟨_, rfl⟩
        rw [hX]
        have hal : Below X5.heap.size X5 X6 := by rw [← hX]; exact (Below.refl _ _).alloc (Nat.le_refl _) _
        have hbx : BoxT X6 X5.heap.size (k3, z3, s3) := by rw [← hX]; exact BoxT.new X5 (k3, z3, s3)
        clear hX
        have HB6 := Lib.hid (HB5.out.trans (hal.mono HB5.out.size))
        have HX1 := Lib.hid (HX1.out.on hal)
        have HX2 := Lib.hid (HX2.out.on hal)
        have HX3 := Lib.hid hbx
        clear hal hbx
        generalize X5.heap.size = q3 at *
        by_cases hr : r1 = 0 ∧ r2 = 0
        · obtain ⟨hr1, hr2⟩ := hr
          obtain ⟨a, b, e1, e2, ia, ib, e3⟩ := HSUM.out hr1 hr2
          dsimp only at e1 e2
          injection e1 with e1 e4
          injection e4 with e4 e5
          injection e2 with e2 e6
          injection e6 with e6 e7
          subst e1 e2 e4 e5 e6 e7 hr1 hr2
          have HOP := Lib.hid (opAdd_any z1 z2 ia ib _ e3)
          dsimp only at HOP
          clear HSUM e3 ia ib
          obtain ⟨x0, x1, x2⟩ := HX1.out.cells
          obtain ⟨y0, y1, y2⟩ := HX2.out.cells
          dsimp only at x0 x1 x2 y0 y1 y2
          go_wp2_with fail
          clear x0 x1 x2 y0 y1 y2
          refine (HOP.out X6).mono ?_
          rintro e X7 ⟨rfl, hb⟩
          have HB7 := Lib.hid (HB6.out.trans (hb.mono HB6.out.size))
          have HX3 := Lib.hid (HX3.out.on hb)
          clear hb
          go_upto_region 13 with (fail)
          obtain ⟨X8, hX⟩ : ∃ X, X7.alloc (.cells #[.int .u8 k3, .int .i64 z3, .string s3] 24) = X := ⟨_, rfl⟩
          rw [hX]
          have hal : Below X7.heap.size X7 X8 := by rw [← hX]; exact (Below.refl _ _).alloc (Nat.le_refl _) _
          have hbx : BoxT X8 X7.heap.size (k3, z3, s3) := by rw [← hX]; exact BoxT.new X7 (k3, z3, s3)
          clear hX
          have HB8 := Lib.hid (HB7.out.trans (hal.mono HB7.out.size))
          obtain ⟨x0, x1, x2⟩ := (HX3.out.on hal).cells
          obtain ⟨y0, y1, y2⟩ := hbx.cells
          dsimp only at x0 x1 x2 y0 y1 y2
          clear hal hbx
          generalize X7.heap.size = q4 at *
          by_cases h3 : r3 = 0
          · subst h3
            go_wp2_with fail
            exact ⟨⟨j + 1, HJ.out, by go_num, HB8.out⟩, by have := HJ.out; simp [intOf]; omega⟩
          · have h3b : (r3 == 0) = false := beq_eq_false_iff_ne.2 h3
            go_wp2_with fail
            exact ⟨⟨j + 1, HJ.out, by go_num, HB8.out⟩, by have := HJ.out; simp [intOf]; omega⟩
        · by_cases hr1 : r1 = 0
          · have hr2 : ¬ r2 = 0 := fun e => hr ⟨hr1, e⟩
            subst hr1
            clear hr
            go_wp2_with fail
            exact ⟨⟨j + 1, HJ.out, by go_num, HB6.out⟩, by have := HJ.out; simp [intOf]; omega⟩
          · clear hr
            go_wp2_with fail
            exact ⟨⟨j + 1, HJ.out, by go_num, HB6.out⟩, by have := HJ.out; simp [intOf]; omega⟩
      · have q1 : ¬ (j : Int) < 3 := by omega
        have HB9 := Lib.hid (HBW.out.trans (hb.mono HBW.out.size))
        have HRA9 := Lib.hid (HRA5.out.on hb)
        clear hb HRA5 HBW HNW
        go_upto_region 16 with (fail)
        have hnw := NmsAt.new wr names2
        obtain ⟨w6, hw6⟩ : ∃ w6, wr.alloc (.cells (names2.map Value.string).toArray 9) = w6 := ⟨_, rfl⟩
        have ha6 : Below wr.heap.size wr w6 := by rw [← hw6]; exact (Below.refl _ _).alloc (Nat.le_refl _) _
        rw [hw6] at hnw
        simp only [names2, List.map_cons, List.map_nil] at hw6
        go_upto_region 17 with (fail)
        have HNW := Lib.hid hnw
        have HBW := Lib.hid (HB9.out.trans (ha6.mono HB9.out.size))
        have HRA5 := Lib.hid (HRA9.out.on ha6)
        clear hnw ha6 hw6 HRA9 HB9
        generalize wr.heap.size = g2 at *
        go_loopw [89] (fun v wr => LoopAt w6 2 v wr) (fun v _ => 2 - (intOf v).toNat)
        case atStart => exact ⟨0, by omega, rfl, Below.refl _ _⟩
        case round =>
          obtain ⟨j, hj, rfl, hb⟩ := hrel
          by_cases hlt : j < 2
          · obtain ⟨name, fin, hnm, hN, hP0, hPg, hP⟩ := parts_at2 j hlt
            have hbest := hP vs us
            rw [HX.out] at hbest
            have had : (false && false) = false := rfl
            have hz1 := hP0 (valsOf false vs)
            have hz2 := hP0 (valsOf false us)
            have hz3 := hP0 (valsOf false xs)
            have hgv : ∀ (l : List Trip), (∀ t ∈ l, GoodT t) → ∀ t ∈ valsOf false l, GoodT t := fun l hl t ht => by
              rw [valsOf_filter, List.mem_filter] at ht
              exact hl t ht.1
            have hg1 := hPg _ (hgv vs HGD.out)
            have hg2 := hPg _ (hgv us HGD2.out)
            obtain ⟨⟨⟨k1, z1, s1⟩, r1⟩, hf1⟩ : ∃ x, fin false (valsOf false vs) = x := ⟨_, rfl⟩
            obtain ⟨⟨⟨k2, z2, s2⟩, r2⟩, hf2⟩ : ∃ x, fin false (valsOf false us) = x := ⟨_, rfl⟩
            obtain ⟨⟨⟨k3, z3, s3⟩, r3⟩, hf3⟩ : ∃ x, fin false (valsOf false xs) = x := ⟨_, rfl⟩
            rw [hf1, hf2, hf3] at hbest
            rw [hf1] at hz1 hg1
            rw [hf2] at hz2 hg2
            rw [hf3] at hz3
            dsimp only at hz1 hz2 hz3 hbest hg1 hg2
            subst hz1 hz2 hz3
            have HO1 := Lib.hid (fun (w : World) (hW : Wd w) (hR : RdT w A vs) => of_any hN had w hW A c vs hR HGD.out (by omega) hc)
            rw [hf1] at HO1
            have HO2 := Lib.hid (fun (w : World) (hW : Wd w) (hR : RdT w B us) => of_any hN had w hW B cb us hR HGD2.out (by omega) hc2)
            rw [hf2] at HO2
            have HO3 := Lib.hid (fun (w : World) (hW : Wd w) (hR : RdT w A6 xs) => of_any hN had w hW A6 c6 xs hR HGDA.out (by omega) hc6)
            rw [hf3] at HO3
            have HO4 := Lib.hid (fun (w : World) (hW : Wd w) (ad : Option Addr) (hR : RdT w ad [(k1, z1, s1), (k2, z2, s2)]) => of_any hN had w hW ad 2 [(k1, z1, s1), (k2, z2, s2)] hR (by
              intro t ht
              simp only [List.mem_cons, List.mem_nil_iff, or_false] at ht
              rcases ht with rfl | rfl
              · exact hg1
              · exact hg2) (by simp) (by simp))
            rw [hbest] at HO4
            have HJ := Lib.hid hlt
            have hcell := (HNW.out.on hb).2 j name hnm
            have HB0 := Lib.hid hb
            have hj3 : (j : Int) < 2 := by omega
            clear hbest hf1 hf2 hf3 hb hN hP hnm had hlt hP0 hPg hgv hg1 hg2
            go_wp2_with fail
            clear hcell
            refine (HO1.out _ (HW.out.on (HBW.out.trans (HB0.out.mono HBW.out.size))) (HR.out.on (HBW.out.trans (HB0.out.mono HBW.out.size)))).mono ?_
            rintro e X1 ⟨rfl, hb⟩
            have HB1 := Lib.hid (HB0.out.trans (hb.mono HB0.out.size))
            clear hb
            go_upto_region 20 with (fail)
            obtain ⟨X2, hX⟩ : ∃ X, X1.alloc (.cells #[.int .u8 k1, .int .i64 z1, .string s1] 24) = X := ⟨_, rfl⟩
            rw [hX]
            have hal : Below X1.heap.size X1 X2 := by rw [← hX]; exact (Below.refl _ _).alloc (Nat.le_refl _) _
            have hbx : BoxT X2 X1.heap.size (k1, z1, s1) := by rw [← hX]; exact BoxT.new X1 (k1, z1, s1)
            clear hX
            have HB2 := Lib.hid (HB1.out.trans (hal.mono HB1.out.size))
            have HX1 := Lib.hid hbx
            clear hal hbx
            generalize X1.heap.size = q1 at *
            go_wp2_with fail
            refine (HO2.out _ (HW.out.on (HBW.out.trans (HB2.out.mono HBW.out.size))) (HU.out.on (HBW.out.trans (HB2.out.mono HBW.out.size)))).mono ?_
            rintro e X3 ⟨rfl, hb⟩
            have HB3 := Lib.hid (HB2.out.trans (hb.mono HB2.out.size))
            have HX1 := Lib.hid (HX1.out.on hb)
            clear hb
            go_upto_region 21 with (fail)
            obtain ⟨X4, hX⟩ : ∃ X, X3.alloc (.cells #[.int .u8 k2, .int .i64 z2, .string s2] 24) = X := ⟨_, rfl⟩
            rw [hX]
            have hal : Below X3.heap.size X3 X4 := by rw [← hX]; exact (Below.refl _ _).alloc (Nat.le_refl _) _
            have hbx : BoxT X4 X3.heap.size (k2, z2, s2) := by rw [← hX]; exact BoxT.new X3 (k2, z2, s2)
            clear hX
            have HB4 := Lib.hid (HB3.out.trans (hal.mono HB3.out.size))
            have HX1 := Lib.hid (HX1.out.on hal)
            have HX2 := Lib.hid hbx
            clear hal hbx
            generalize X3.heap.size = q2 at *
            go_wp2_with fail
            refine (HO3.out _ (HW.out.on (HBW.out.trans (HB4.out.mono HBW.out.size))) (HRA5.out.on HB4.out)).mono ?_
            rintro e X5 ⟨rfl, hb⟩
            have HB5 := Lib.hid (HB4.out.trans (hb.mono HB4.out.size))
            have HX1 := Lib.hid (HX1.out.on hb)
            have HX2 := Lib.hid (HX2.out.on hb)
            clear hb
            go_upto_region 22 with (fail)
            obtain ⟨X6, hX⟩ : ∃ X, X5.alloc (.cells #[.int .u8 k3, .int .i64 z3, .string s3] 24) = X := ⟨_, rfl⟩
            rw [hX]
            have hal : Below X5.heap.size X5 X6 := by rw [← hX]; exact (Below.refl _ _).alloc (Nat.le_refl _) _
            have hbx : BoxT X6 X5.heap.size (k3, z3, s3) := by rw [← hX]; exact BoxT.new X5 (k3, z3, s3)
            clear hX
            have HB6 := Lib.hid (HB5.out.trans (hal.mono HB5.out.size))
            have HX1 := Lib.hid (HX1.out.on hal)
            have HX2 := Lib.hid (HX2.out.on hal)
            have HX3 := Lib.hid hbx
            clear hal hbx
            generalize X5.heap.size = q3 at *
            obtain ⟨x0, x1, x2⟩ := HX1.out.cells
            obtain ⟨y0, y1, y2⟩ := HX2.out.cells
            dsimp only at x0 x1 x2 y0 y1 y2
            go_wp2_with fail
            clear x0 x1 x2 y0 y1 y2
            have hal7 : Below X6.heap.size X6 (X6.alloc (.cells #[.int .u8 k1, .int .i64 z1, .string s1, .int .u8 k2, .int .i64 z2, .string s2] 24)) := (Below.refl _ _).alloc (Nat.le_refl _) _
            have hsr := rdT_src (SrcT.two X6 k1 z1 k2 z2 s1 s2) (fun ad h => ⟨_, (Option.some.inj h).symm⟩)
            have HB7 := Lib.hid (HB6.out.trans (hal7.mono HB6.out.size))
            have HX3 := Lib.hid (HX3.out.on hal7)
            refine (HO4.out _ (HW.out.on (HBW.out.trans (HB7.out.mono HBW.out.size))) _ hsr).mono ?_
            rintro e X8 ⟨rfl, hb⟩
            have HB8 := Lib.hid (HB7.out.trans (hb.mono HB7.out.size))
            have HX3 := Lib.hid (HX3.out.on hb)
            clear hb hal7 hsr
            go_upto_region 23 with (fail)
            obtain ⟨X9, hX⟩ : ∃ X, X8.alloc (.cells #[.int .u8 k3, .int .i64 z3, .string s3] 24) = X := ⟨_, rfl⟩
            rw [hX]
            have hal : Below X8.heap.size X8 X9 := by rw [← hX]; exact (Below.refl _ _).alloc (Nat.le_refl _) _
            have hbx : BoxT X9 X8.heap.size (k3, z3, s3) := by rw [← hX]; exact BoxT.new X8 (k3, z3, s3)
            clear hX
            have HB9 := Lib.hid (HB8.out.trans (hal.mono HB8.out.size))
            obtain ⟨x0, x1, x2⟩ := (HX3.out.on hal).cells
            obtain ⟨y0, y1, y2⟩ := hbx.cells
            dsimp only at x0 x1 x2 y0 y1 y2
            clear hal hbx
            generalize X8.heap.size = q4 at *
            go_wp2_with fail
            exact ⟨⟨j + 1, HJ.out, by go_num, HB9.out⟩, by have := HJ.out; simp [intOf]; omega⟩
          · obtain rfl : j = 2 := by omega
            have HB9 := Lib.hid (HBW.out.trans (hb.mono HBW.out.size))
            clear hb
            go_wp2_with fail
            refine (awake_any _ (HW.out.on HB9.out)).mono ?_
            rintro e wz ⟨rfl, hbz⟩
            have HBZ := Lib.hid (HB9.out.trans (hbz.mono HB9.out.size))
            clear hbz
            go_wp2_with fail
            go_ret
            exact ⟨rfl, HBZ.out⟩
end Go.Proofs.YtceknmibopnmhaaGreatDoor
