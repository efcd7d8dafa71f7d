/-
  Layer 8: AggOnce's walk. Conditions: sizes.
-/
import Derived.Test.YtceknmibopnmhaaGreatDoorAOnM
namespace Go.Proofs.YtceknmibopnmhaaGreatDoor
open Go.ChangeShapes Go.WideShapes Go.ChangeAt Go.RowKit Go.Maps Go.Sort Go.Shelf Go.ChangeMaps Go.Lib
set_option linter.unusedVariables false
set_option linter.unusedSimpArgs false

def OnceRel (vs : List Trip) (w : World) (v6 v7 : Value) (wr : World) : Prop :=
  ∃ i : Nat, i ≤ vs.length ∧ v7 = .int .i64 (i : Int) ∧ OwnT wr w.heap.size v6 (ded (vs.take i)) ∧ Below w.heap.size w wr
def OnceIn (vs : List Trip) (i : Nat) (t : Trip) (w : World) (v8 v9 : Value) (wr : World) : Prop :=
  ∃ (k : Nat) (b : Bool), k ≤ i ∧ v9 = .int .i64 (k : Int) ∧ v8 = .bool b ∧ (b = true ↔ t ∉ vs.take k) ∧ Below w.heap.size w wr
theorem on_step {vs : List Trip} {k : Nat} {u t : Trip} (hk : vs[k]? = some u) {b b' : Bool} (hb : b = true ↔ t ∉ vs.take k) (hb' : b' = true ↔ (b = true ∧ u ≠ t)) : b' = true ↔ t ∉ vs.take (k + 1) := by
  rw [hb', hb, List.take_add_one, hk, Option.toList_some, List.mem_append, List.mem_singleton]
  exact ⟨fun ⟨h1, h2⟩ h => h.elim h1 fun e => h2 e.symm, fun h => ⟨fun h1 => h (.inl h1), fun e => h (.inr e.symm)⟩⟩
theorem once_old {vs : List Trip} {i : Nat} {t : Trip} (ht : vs[i]? = some t) (h : t ∈ vs.take i) : ded (vs.take (i + 1)) = ded (vs.take i) := by
  rw [List.take_add_one, ht, Option.toList_some, ded_old ((ded_mem _ _).2 h)]
theorem once_new {vs : List Trip} {i : Nat} {t : Trip} (ht : vs[i]? = some t) (h : t ∉ vs.take i) : ded (vs.take (i + 1)) = ded (vs.take i) ++ [t] := by
  rw [List.take_add_one, ht, Option.toList_some, ded_new (fun h2 => h ((ded_mem _ _).1 h2))]
theorem drewNR {B : Nat} {a w : World} (h : Below B a w) (n : Nat) : Below B a (w.drewN n) := ⟨h.os, h.tape, h.output, h.size, h.block⟩
set_option maxRecDepth 100000 in
set_option maxHeartbeats 4000000 in
theorem once_walk (q : Int) (A : Option Addr) (c : Nat) (vs : List Trip) (w : World) (hW : Wd w) (hq : 0 ≤ q ∧ q ≤ 255) (hR : RdT w A vs)
    (hsz : ∀ t ∈ vs, t.2.2.size ≤ 9223372036854775807) (hcap : vs.length ≤ 9223372036854775807) (hc : vs.length ≤ c) (h64 : ∀ t ∈ vs, In64 t.2.1) :
    Calls Tryz.prog 7 #[.int .u8 q, .slice A vs.length c] w fun e w' => e = .returned (.bool true) ∧ Below w.heap.size w w' := by
  have HRG := Lib.hid (right8 A c vs w hR hsz hcap)
  cases h : rightA vs
  · rw [h] at HRG
    clear hR hsz h64
    go_enter Tryz.func7, Tryz.ntmps7
    go_wp2_with (go_at_call 39; refine HRG.out.mono ?_; rintro e w1 ⟨rfl, hb⟩)
    refine (awake_any w1 (hW.on hb)).mono ?_
    rintro e w2 ⟨rfl, hb2⟩
    go_wp2_with fail
    go_ret
    exact ⟨rfl, hb.trans (hb2.mono hb.size)⟩
  · rw [h] at HRG
    obtain ⟨hl, hgd⟩ := good_of h h64
    have hq7 := Int.emod_nonneg q (show (6 : Int) ≠ 0 by decide)
    have hq7' := Int.emod_lt_of_pos q (show (0 : Int) < 6 by decide)
    obtain ⟨i, hi⟩ : ∃ i : Nat, q % 6 = (i : Int) := ⟨(q % 6).toNat, by omega⟩
    have hi7 : i < 6 := by omega
    obtain ⟨name, fin, hnm, hN, hO⟩ := once_at6 i hi7
    have hgv : ∀ t ∈ valsOf false vs, GoodT t ∧ t.1 ≠ 0 := fun t ht => by
      rw [valsOf_filter, List.mem_filter] at ht
      exact ⟨hgd t ht.1, by simpa using ht.2⟩
    obtain ⟨hO1, hO2⟩ := hO (valsOf false vs) hgv
    obtain ⟨⟨⟨k, z, s⟩, r⟩, hfin⟩ : ∃ x, fin true (valsOf false vs) = x := ⟨_, rfl⟩
    obtain ⟨⟨⟨k2, z2, s2⟩, r2⟩, hfin2⟩ : ∃ x, fin false (valsOf false vs) = x := ⟨_, rfl⟩
    have hfin3 : fin false (valsOf false (ded vs)) = ((k, z, s), r) := by rw [vals_ded, ← hO1]; exact hfin
    have HUT := Lib.hid (show (i = 3 ∨ i = 4) → ((k, z, s) : Trip) = (k2, z2, s2) ∧ r2 = 0 from fun h => by
      obtain ⟨h1, h2⟩ := hO2 (decide_eq_true h)
      rw [hfin, hfin2] at h1
      rw [hfin2] at h2
      injection h1 with h3 h4
      exact ⟨h3, h2⟩)
    have HOT := Lib.hid (fun (w : World) (hW : Wd w) (A : Option Addr) (c : Nat) (hR : RdT w A vs) (hc : vs.length ≤ c) => of_any hN (d := true) rfl w hW A c vs hR hgd (by omega) hc)
    rw [hfin] at HOT
    have HOF := Lib.hid (fun (w : World) (hW : Wd w) (A : Option Addr) (c : Nat) (hR : RdT w A vs) (hc : vs.length ≤ c) => of_any hN (d := false) rfl w hW A c vs hR hgd (by omega) hc)
    rw [hfin2] at HOF
    have hdl : (ded vs).length ≤ 60 := Nat.le_trans (ded_len _ vs rfl) hl
    have HOD := Lib.hid (fun (w : World) (hW : Wd w) (A : Option Addr) (c : Nat) (hR : RdT w A (ded vs)) (hc : (ded vs).length ≤ c) => of_any hN (d := false) rfl w hW A c (ded vs) hR (fun t ht => hgd t ((ded_mem vs t).1 ht)) (by omega) hc)
    rw [hfin3] at HOD
    have HR := Lib.hid hR
    have HW := Lib.hid hW
    have HNM := Lib.hid hnm
    have hi7z : (i : Int) < 6 := by omega
    clear hN hO hO1 hO2 hfin hfin2 hfin3 hR hW hsz h64 hgd h hq7 hq7' hnm hgv hdl
    obtain ⟨hq0, hq1⟩ := hq
    go_enter Tryz.func7, Tryz.ntmps7
    go_upto_region 3 with (go_at_call 39; refine HRG.out.mono ?_; rintro e w1 ⟨rfl, hb1⟩; have HB1 := Lib.hid hb1; have hcell := names6_cell w1 i _ HNM.out; clear hb1)
    simp only [names6, List.map_cons, List.map_nil] at hcell
    go_upto_region 4 with (fail)
    obtain ⟨w2, hw2⟩ : ∃ w2, w1.alloc (.cells (names6.map Value.string).toArray 9) = w2 := ⟨_, rfl⟩
    have ha2 : Below w1.heap.size w1 w2 := by rw [← hw2]; exact (Below.refl _ _).alloc (Nat.le_refl _) _
    simp only [names6, List.map_cons, List.map_nil] at hw2
    rw [hw2]
    have HB2 := Lib.hid (HB1.out.trans (ha2.mono HB1.out.size))
    clear hcell hw2 ha2
    generalize w1.heap.size = g1 at *
    go_wp2_with fail
    rw [hi]
    clear hi
    go_loopw [6, 7] (fun v6 v7 wr => OnceRel vs w2 v6 v7 wr) (fun _ v7 _ => vs.length - (intOf v7).toNat)
    case atStart => exact ⟨0, Nat.zero_le _, rfl, OwnT.nil _ _, Below.refl _ _⟩
    case round =>
      obtain ⟨j, hj, rfl, how, hb⟩ := hrel
      by_cases hlt : j < vs.length
      · obtain ⟨⟨k', z', s'⟩, ht⟩ : ∃ t, vs[j]? = some t := ⟨_, List.getElem?_eq_getElem hlt⟩
        have hR := HR.out.on (HB2.out.trans (hb.mono HB2.out.size))
        rcases hR with hrd | ⟨b, off, rfl, hrd⟩
        · subst hrd; simp at hlt
        have HJ := Lib.hid (show j + 1 ≤ vs.length from hlt)
        have HOW := Lib.hid how
        have HB := Lib.hid hb
        have HLN := Lib.hid (show (ded (vs.take j)).length ≤ 60 from Nat.le_trans (ded_len _ _ rfl) (by rw [List.length_take]; omega))
        have HRD := Lib.hid hrd
        have HT := Lib.hid ht
        clear hrd how hb ht
        rename World => wo
        go_wp2_with fail
        go_loopw [8, 9] (fun v8 v9 wr => OnceIn vs j (k', z', s') wo v8 v9 wr) (fun _ v9 _ => j - (intOf v9).toNat)
        case atStart => exact ⟨0, true, Nat.zero_le _, rfl, rfl, by simp, Below.refl _ _⟩
        case round =>
          obtain ⟨m, bf, hm, rfl, rfl, hbf, hbm⟩ := hrel
          have hrw := HRD.out.on hbm
          obtain ⟨y0, y1, y2⟩ := hrw.2 j k' z' s' HT.out
          by_cases hmj : m < j
          · obtain ⟨⟨ku, zu, su⟩, hu⟩ : ∃ t, vs[m]? = some t := ⟨_, List.getElem?_eq_getElem (by omega)⟩
            obtain ⟨x0, x1, x2⟩ := hrw.2 m ku zu su hu
            have HST := Lib.hid (fun b' => on_step (b' := b') hu hbf)
            have HBM := Lib.hid hbm
            clear hrw hu hbf hbm
            have HMJ := Lib.hid (show m + 1 ≤ j from hmj)
            cases bf
            · have HB' := Lib.hid (HST.out false (by simp))
              clear HST
              go_upto_region 12 with (fail)
              go_quiet (fail)
              go_wp2_with fail
              exact ⟨⟨m + 1, false, HMJ.out, by go_num, rfl, HB'.out, drewNR HBM.out _⟩, by have := HMJ.out; simp [intOf]; omega⟩
            · by_cases e1 : ku = k'
              · by_cases e2 : zu = z'
                · by_cases e3 : su = s'
                  · subst e1 e2 e3
                    have HB' := Lib.hid (HST.out false (by simp))
                    clear HST
                    go_upto_region 12 with (fail)
                    go_quiet (fail)
                    go_wp2_with fail
                    exact ⟨⟨m + 1, false, HMJ.out, by go_num, rfl, HB'.out, drewNR HBM.out _⟩, by have := HMJ.out; simp [intOf]; omega⟩
                  · have e4 := tl_ne e3
                    subst e1 e2
                    have HB' := Lib.hid (HST.out true (by simp [e3]))
                    clear HST
                    go_upto_region 12 with (fail)
                    go_quiet (fail)
                    go_wp2_with fail
                    exact ⟨⟨m + 1, true, HMJ.out, by go_num, rfl, HB'.out, drewNR HBM.out _⟩, by have := HMJ.out; simp [intOf]; omega⟩
                · subst e1
                  have HB' := Lib.hid (HST.out true (by simp [e2]))
                  clear HST
                  go_upto_region 12 with (fail)
                  go_quiet (fail)
                  go_wp2_with fail
                  exact ⟨⟨m + 1, true, HMJ.out, by go_num, rfl, HB'.out, drewNR HBM.out _⟩, by have := HMJ.out; simp [intOf]; omega⟩
              · have HB' := Lib.hid (HST.out true (by simp [e1]))
                clear HST
                go_upto_region 12 with (fail)
                go_quiet (fail)
                go_wp2_with fail
                exact ⟨⟨m + 1, true, HMJ.out, by go_num, rfl, HB'.out, drewNR HBM.out _⟩, by have := HMJ.out; simp [intOf]; omega⟩
          · obtain rfl : m = j := by omega
            have HB7 := Lib.hid (HB.out.trans (hbm.mono HB.out.size))
            have HOW7 := Lib.hid (HOW.out.onB hbm)
            clear hrw hbm
            cases bf
            · have HD := Lib.hid (once_old HT.out (by
                by_cases hin : (k', z', s') ∈ vs.take m
                · exact hin
                · exact absurd (hbf.2 hin) (by simp)))
              clear hbf
              go_wp2_with fail
              exact ⟨⟨m + 1, HJ.out, by go_num, by rw [HD.out]; exact HOW7.out, HB7.out⟩, by have := HJ.out; simp [intOf]; omega⟩
            · have HD := Lib.hid (once_new HT.out (hbf.1 rfl))
              clear hbf
              go_wp2_with (at_builtin; refine wpList_appT rfl (.tmp 50) (.tmp 55) rfl w2.heap.size _ _ [(k', z', s')] rfl (HOW7.out.alloc _) ⟨wr.heap.size, 0, none⟩ 1 rfl (SrcT.one wr k' z' s') (by have := HLN.out; simp only [List.length_cons, List.length_nil]; omega) (Nat.le_trans HB7.out.size (by simp)) ?_; intro v6 w6 HO6 HB6 HK6; have HB8 := Lib.hid ((HB7.out.alloc HB7.out.size (.cells #[.int .u8 k', .int .i64 z', .string s'] 24)).trans HB6.out); clear HB6 HK6)
              rw [← HD.out] at HO6
              exact ⟨⟨m + 1, HJ.out, by go_num, HO6.out, HB8.out⟩, by have := HJ.out; simp [intOf]; omega⟩
      · obtain rfl : j = vs.length := by omega
        rw [List.take_length] at how
        have q1 : ¬ ((vs.length : Int) < (vs.length : Int)) := by omega
        have HOW := Lib.hid how
        have HB := Lib.hid (HB2.out.trans (hb.mono HB2.out.size))
        clear how hb
        go_wp2_with fail
        refine (HOT.out wr (HW.out.on HB.out) A c (HR.out.on HB.out) hc).mono ?_
        rintro e w3 ⟨rfl, hb3⟩
        have HOW3 := Lib.hid (HOW.out.onB hb3)
        have HB3 := Lib.hid (HB.out.trans (hb3.mono HB.out.size))
        clear hb3
        go_upto_region 16 with (fail)
        obtain ⟨w4, hw4⟩ : ∃ w4, w3.alloc (.cells #[.int .u8 k, .int .i64 z, .string s] 24) = w4 := ⟨_, rfl⟩
        rw [hw4]
        have hal4 : Below w3.heap.size w3 w4 := by rw [← hw4]; exact (Below.refl _ _).alloc (Nat.le_refl _) _
        have b4 : BoxT w4 w3.heap.size (k, z, s) := by rw [← hw4]; exact BoxT.new w3 (k, z, s)
        clear hw4
        have HB4 := Lib.hid (HB3.out.trans (hal4.mono HB3.out.size))
        have HOW4 := Lib.hid (HOW3.out.onB hal4)
        have HX4 := Lib.hid b4
        clear hal4 b4
        generalize w3.heap.size = g10 at *
        obtain ⟨A6, c6, rfl, hc6, _, hs6, _, hg6⟩ := HOW4.out.form
        have HRM := Lib.hid (rdT_src hs6 hg6)
        clear hs6 hg6
        go_wp2_with fail
        refine (HOD.out w4 (HW.out.on HB4.out) A6 c6 HRM.out hc6).mono ?_
        rintro e w5 ⟨rfl, hb5⟩
        have HB5 := Lib.hid (HB4.out.trans (hb5.mono HB4.out.size))
        have HX5 := Lib.hid (HX4.out.on hb5)
        clear hb5
        go_upto_region 17 with (fail)
        obtain ⟨w6, hw6⟩ : ∃ w6, w5.alloc (.cells #[.int .u8 k, .int .i64 z, .string s] 24) = w6 := ⟨_, rfl⟩
        rw [hw6]
        have hal6 : Below w5.heap.size w5 w6 := by rw [← hw6]; exact (Below.refl _ _).alloc (Nat.le_refl _) _
        have b6 : BoxT w6 w5.heap.size (k, z, s) := by rw [← hw6]; exact BoxT.new w5 (k, z, s)
        clear hw6
        have HB6 := Lib.hid (HB5.out.trans (hal6.mono HB5.out.size))
        have HX6 := Lib.hid (HX5.out.on hal6)
        have HY6 := Lib.hid b6
        clear hal6 b6
        generalize w5.heap.size = g12 at *
        go_wp2_with fail
        refine (HOF.out w6 (HW.out.on HB6.out) A c (HR.out.on HB6.out) hc).mono ?_
        rintro e w7 ⟨rfl, hb7⟩
        have HB7 := Lib.hid (HB6.out.trans (hb7.mono HB6.out.size))
        have HX7 := Lib.hid (HX6.out.on hb7)
        have HY7 := Lib.hid (HY6.out.on hb7)
        clear hb7
        go_upto_region 18 with (fail)
        obtain ⟨w8, hw8⟩ : ∃ w8, w7.alloc (.cells #[.int .u8 k2, .int .i64 z2, .string s2] 24) = w8 := ⟨_, rfl⟩
        rw [hw8]
        have hal8 : Below w7.heap.size w7 w8 := by rw [← hw8]; exact (Below.refl _ _).alloc (Nat.le_refl _) _
        have b8 : BoxT w8 w7.heap.size (k2, z2, s2) := by rw [← hw8]; exact BoxT.new w7 (k2, z2, s2)
        clear hw8
        have HB8 := Lib.hid (HB7.out.trans (hal8.mono HB7.out.size))
        obtain ⟨x0, x1, x2⟩ := (HX7.out.on hal8).cells
        obtain ⟨y0, y1, y2⟩ := (HY7.out.on hal8).cells
        obtain ⟨u0, u1, u2⟩ := b8.cells
        dsimp only at x0 x1 x2 y0 y1 y2 u0 u1 u2
        clear hal8 b8
        generalize w7.heap.size = g14 at *
        go_upto_region 20 with (fail)
        have hnm := HNM.out
        clear y0 y1 y2
        match i, hi7, HUT, hnm with
        | 0, _, HUT, hnm =>
          obtain rfl : _ = name := Option.some.inj hnm
          go_wp2_with (go_at_call 34; refine (awake_any _ (HW.out.on HB8.out)).mono ?_; rintro e w9 ⟨rfl, hb9⟩; have HB9 := Lib.hid (HB8.out.trans (hb9.mono HB8.out.size)); clear hb9)
          go_ret
          exact ⟨rfl, HB9.out⟩
        | 1, _, HUT, hnm =>
          obtain rfl : _ = name := Option.some.inj hnm
          go_wp2_with (go_at_call 34; refine (awake_any _ (HW.out.on HB8.out)).mono ?_; rintro e w9 ⟨rfl, hb9⟩; have HB9 := Lib.hid (HB8.out.trans (hb9.mono HB8.out.size)); clear hb9)
          go_ret
          exact ⟨rfl, HB9.out⟩
        | 2, _, HUT, hnm =>
          obtain rfl : _ = name := Option.some.inj hnm
          go_wp2_with (go_at_call 34; refine (awake_any _ (HW.out.on HB8.out)).mono ?_; rintro e w9 ⟨rfl, hb9⟩; have HB9 := Lib.hid (HB8.out.trans (hb9.mono HB8.out.size)); clear hb9)
          go_ret
          exact ⟨rfl, HB9.out⟩
        | 3, _, HUT, hnm =>
          obtain rfl : _ = name := Option.some.inj hnm
          obtain ⟨ht, rfl⟩ := HUT.out (.inl rfl)
          injection ht with h1 h2
          injection h2 with h2 h3
          subst h1 h2 h3
          go_wp2_with (go_at_call 34; refine (awake_any _ (HW.out.on HB8.out)).mono ?_; rintro e w9 ⟨rfl, hb9⟩; have HB9 := Lib.hid (HB8.out.trans (hb9.mono HB8.out.size)); clear hb9)
          go_ret
          exact ⟨rfl, HB9.out⟩
        | 4, _, HUT, hnm =>
          obtain rfl : _ = name := Option.some.inj hnm
          obtain ⟨ht, rfl⟩ := HUT.out (.inr rfl)
          injection ht with h1 h2
          injection h2 with h2 h3
          subst h1 h2 h3
          go_wp2_with (go_at_call 34; refine (awake_any _ (HW.out.on HB8.out)).mono ?_; rintro e w9 ⟨rfl, hb9⟩; have HB9 := Lib.hid (HB8.out.trans (hb9.mono HB8.out.size)); clear hb9)
          go_ret
          exact ⟨rfl, HB9.out⟩
        | 5, _, HUT, hnm =>
          obtain rfl : _ = name := Option.some.inj hnm
          go_wp2_with (go_at_call 34; refine (awake_any _ (HW.out.on HB8.out)).mono ?_; rintro e w9 ⟨rfl, hb9⟩; have HB9 := Lib.hid (HB8.out.trans (hb9.mono HB8.out.size)); clear hb9)
          go_ret
          exact ⟨rfl, HB9.out⟩
end Go.Proofs.YtceknmibopnmhaaGreatDoor
