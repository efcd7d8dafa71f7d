/-
  Layer 8: AggNulls' walk. Conditions: sizes.
-/
import Derived.Test.YtceknmibopnmhaaGreatDoorANulR
namespace Go.Proofs.YtceknmibopnmhaaGreatDoor
open Go.ChangeShapes Go.WideShapes Go.ChangeAt Go.RowKit Go.Maps Go.Sort Go.Shelf Go.ChangeMaps Go.Lib
set_option linter.unusedVariables false
set_option linter.unusedSimpArgs false

section
variable {P : Program} {ops : Array Oper} {Q : Exit → Act → World → Prop} {a : Act} {w : World}
theorem region_asN {id : Nat} {ops' : Array Oper} {b : Bool} (h : ops = ops') (g : (Code.region id ops' b).wp P Q a w) : (Code.region id ops b).wp P Q a w := by
  subst h
  exact g
end
theorem an15_fill {v0 v1 v2 v3 v4 v5 v6 v7 v8 v9 v10 v11 v12 v13 v14 v15 v16 v17 v18 v19 v20 v21 v22 v23 v24 v25 v26 v27 v28 v29 v30 v31 v32 v33 v34 v35 v36 v37 v38 v39 v40 v41 v42 v43 v44 v45 v46 v47 v48 v49 v50 v51 v52 v53 v54 v55 v56 v57 v58 v59 v60 v61 v62 v63 v64 v65 v66 v67 v68 v69 v70 v71 v72 v73 v74 v75 v76 v77 v78 v79 v80 v81 v82 v83 v84 v85 v86 v87 v88 v89 v90 v91 v92 v93 v94 v95 v96 v97 v98 v99 v100 v101 v102 v103 v104 v105 v106 v107 v108 v109 v110 v111 v112 v113 v114 v115 v116 v117 v118 v119 v120 v121 v122 v123 v124 v125 v126 v127 v128 v129 v130 v131 : Value} (V : Nat → Value) : fillT an15Ops #[v0, v1, v2, v3, v4, v5, v6, v7, v8, v9, v10, v11, v12, v13, v14, v15, v16, v17, v18, v19, v20, v21, v22, v23, v24, v25, v26, v27, v28, v29, v30, v31, v32, v33, v34, v35, v36, v37, v38, v39, v40, v41, v42, v43, v44, v45, v46, v47, v48, v49, v50, v51, v52, v53, v54, v55, v56, v57, v58, v59, v60, v61, v62, v63, v64, v65, v66, v67, v68, v69, v70, v71, v72, v73, v74, v75, v76, v77, v78, v79, v80, v81, v82, v83, v84, v85, v86, v87, v88, v89, v90, v91, v92, v93, v94, v95, v96, v97, v98, v99, v100, v101, v102, v103, v104, v105, v106, v107, v108, v109, v110, v111, v112, v113, v114, v115, v116, v117, v118, v119, v120, v121, v122, v123, v124, v125, v126, v127, v128, v129, v130, v131] V = #[v0, v1, v2, v3, v4, v5, v6, v7, v8, v9, v10, v11, v12, v13, V 10, V 11, v16, v17, v18, v19, v20, v21, v22, v23, v24, v25, v26, v27, v28, v29, v30, v31, v32, v33, v34, v35, v36, v37, v38, v39, v40, v41, v42, v43, v44, v45, v46, v47, v48, v49, v50, v51, v52, v53, v54, v55, v56, v57, v58, v59, v60, v61, v62, v63, v64, v65, v66, v67, v68, v69, v70, v71, v72, v73, v74, v75, v76, v77, v78, v79, v80, V 0, V 1, V 2, V 3, V 4, V 5, V 6, V 7, V 8, V 9, v91, v92, v93, v94, v95, v96, v97, v98, v99, v100, v101, v102, v103, v104, v105, v106, v107, v108, v109, v110, v111, v112, v113, v114, v115, v116, v117, v118, v119, v120, v121, v122, v123, v124, v125, v126, v127, v128, v129, v130, v131] := by
  kernel_rfl
set_option maxRecDepth 100000 in
set_option maxHeartbeats 4000000 in
theorem nul_walk (q : Int) (d : Bool) (A : Option Addr) (c : Nat) (vs : List Trip) (w : World) (hW : Wd w) (hq : 0 ≤ q ∧ q ≤ 255) (hR : RdT w A vs)
    (hsz : ∀ t ∈ vs, t.2.2.size ≤ 9223372036854775807) (hcap : vs.length ≤ 9223372036854775807) (hc : vs.length ≤ c) (h64 : ∀ t ∈ vs, In64 t.2.1) :
    Calls Tryz.prog 8 #[.int .u8 q, .bool d, .slice A vs.length c] w fun e w' => e = .returned (.bool true) ∧ Below w.heap.size w w' := by
  have HRG := Lib.hid (right8 A c vs w hR hsz hcap)
  cases h : rightA vs
  · rw [h] at HRG
    clear hR hsz h64
    go_enter Tryz.func8, Tryz.ntmps8
    go_wp2_with (go_at_call 39; refine HRG.out.mono ?_; rintro e w1 ⟨rfl, hb⟩)
    refine (awake_any w1 (hW.on hb)).mono ?_
    rintro e w2 ⟨rfl, hb2⟩
    go_wp2_with fail
    go_ret
    exact ⟨rfl, hb.trans (hb2.mono hb.size)⟩
  · rw [h] at HRG
    obtain ⟨hl, hgd⟩ := good_of h h64
    by_cases h40 : 40 < vs.length
    · have h40z : (40 : Int) < (vs.length : Int) := by omega
      clear hR hsz h64 hgd
      go_enter Tryz.func8, Tryz.ntmps8
      go_wp2_with (go_at_call 39; refine HRG.out.mono ?_; rintro e w1 ⟨rfl, hb⟩)
      refine (awake_any w1 (hW.on hb)).mono ?_
      rintro e w2 ⟨rfl, hb2⟩
      go_wp2_with fail
      go_ret
      exact ⟨rfl, hb.trans (hb2.mono hb.size)⟩
    have h40z : ¬ (40 : Int) < (vs.length : Int) := by omega
    have hq7 := Int.emod_nonneg q (show (6 : Int) ≠ 0 by decide)
    have hq7' := Int.emod_lt_of_pos q (show (0 : Int) < 6 by decide)
    obtain ⟨i, hi⟩ : ∃ i : Nat, q % 6 = (i : Int) := ⟨(q % 6).toNat, by omega⟩
    have hi7 : i < 6 := by omega
    obtain ⟨name, fin, hnm, hN⟩ := named_at6 i hi7
    obtain ⟨⟨⟨k, z, s⟩, r⟩, hfin⟩ : ∃ x, fin d (valsOf false vs) = x := ⟨_, rfl⟩
    have hfin2 : fin d (valsOf false (moreT vs ++ [nullT])) = ((k, z, s), r) := by rw [vals_more]; exact hfin
    have HOF := Lib.hid (fun (w : World) (hW : Wd w) (A : Option Addr) (c : Nat) (hR : RdT w A vs) (hc : vs.length ≤ c) => of_any hN (d := d) rfl w hW A c vs hR hgd (by omega) hc)
    rw [hfin] at HOF
    have HOM := Lib.hid (fun (w : World) (hW : Wd w) (A : Option Addr) (c : Nat) (hR : RdT w A (moreT vs ++ [nullT])) (hc : (moreT vs ++ [nullT]).length ≤ c) => of_any hN (d := d) rfl w hW A c (moreT vs ++ [nullT]) hR (fun t ht => by
      rcases List.mem_append.1 ht with ht | ht
      · rcases moreT_mem vs t ht with rfl | ht
        · exact good_null
        · exact hgd t ht
      · obtain rfl : t = nullT := by simpa using ht
        exact good_null) (by rw [List.length_append, moreT_length, List.length_singleton]; omega) hc)
    rw [hfin2] at HOM
    have HR := Lib.hid hR
    have HW := Lib.hid hW
    have HGD := Lib.hid hgd
    have HNM := Lib.hid hnm
    have hi7z : (i : Int) < 6 := by omega
    clear hN hfin hfin2 hR hW hsz h64 hgd h hq7 hq7' hnm
    obtain ⟨hq0, hq1⟩ := hq
    go_enter Tryz.func8, Tryz.ntmps8
    go_upto_region 3 with (go_at_call 39; refine HRG.out.mono ?_; rintro e w1 ⟨rfl, hb1⟩; have HB1 := Lib.hid hb1; have hcell := names6_cell w1 i _ HNM.out; clear hb1)
    simp only [names6, List.map_cons, List.map_nil] at hcell
    go_upto_region 4 with (fail)
    obtain ⟨w2, hw2⟩ : ∃ w2, w1.alloc (.cells (names6.map Value.string).toArray 9) = w2 := ⟨_, rfl⟩
    have ha2 : Below w1.heap.size w1 w2 := by rw [← hw2]; exact (Below.refl _ _).alloc (Nat.le_refl _) _
    simp only [names6, List.map_cons, List.map_nil] at hw2
    rw [hw2]
    have HB2 := Lib.hid (HB1.out.trans (ha2.mono HB1.out.size))
    clear hcell hw2 ha2
    generalize w1.heap.size = g1 at *
    go_wp2_with fail
    rw [hi]
    clear hi
    go_loopw [8, 9] (fun v8 v9 wr => NulRel vs w2 v8 v9 wr) (fun _ v9 _ => vs.length - (intOf v9).toNat)
    case atStart => exact ⟨0, Nat.zero_le _, rfl, OwnT.nil _ _, Below.refl _ _⟩
    case round =>
      obtain ⟨j, hj, rfl, how, hb⟩ := hrel
      by_cases hlt : j < vs.length
      · obtain ⟨⟨k', z', s'⟩, ht⟩ : ∃ t, vs[j]? = some t := ⟨_, List.getElem?_eq_getElem hlt⟩
        have hR := HR.out.on (HB2.out.trans (hb.mono HB2.out.size))
        rcases hR with hrd | ⟨b, off, rfl, hrd⟩
        · subst hrd; simp at hlt
        obtain ⟨y0, y1, y2⟩ := hrd.2 j k' z' s' ht
        have HT := Lib.hid (show moreT (vs.take j) ++ [nullT, (k', z', s')] = moreT (vs.take (j + 1)) by rw [List.take_add_one, ht, Option.toList_some, moreT_snoc])
        have HJ := Lib.hid (show j + 1 ≤ vs.length from hlt)
        have HOW := Lib.hid how
        have HB := Lib.hid hb
        have HLN := Lib.hid (show (moreT (vs.take j)).length ≤ 80 by rw [moreT_length, List.length_take]; omega)
        clear hrd how hb ht
        go_upto_region 7 with (at_builtin; refine wpList_appT rfl (.tmp 37) (.tmp 43) rfl w2.heap.size _ _ [nullT, (k', z', s')] rfl (HOW.out.alloc _) ⟨wr.heap.size, 0, none⟩ 2 rfl (SrcT.two wr 0 0 k' z' ⟨#[]⟩ s') (by have := HLN.out; simp only [List.length_cons, List.length_nil]; omega) (Nat.le_trans HB.out.size (by simp)) ?_; intro v6 w6 HO6 HB6 HK6)
        rw [HT.out] at HO6
        have HB7 := Lib.hid ((HB.out.alloc HB.out.size _).trans HB6.out)
        clear HB6 HK6
        go_wp2_with fail
        refine ⟨⟨j + 1, HJ.out, by go_num, HO6.out, HB7.out⟩, ?_⟩
        have := HJ.out
        simp [intOf]
        omega
      · obtain rfl : j = vs.length := by omega
        rw [List.take_length] at how
        have q1 : ¬ ((vs.length : Int) < (vs.length : Int)) := by omega
        have HOW := Lib.hid how
        have HB := Lib.hid (HB2.out.trans (hb.mono HB2.out.size))
        have HBS := Lib.hid (hb.size)
        have hlm : (moreT vs).length ≤ 80 := by rw [moreT_length]; omega
        have HLM := Lib.hid hlm
        clear how hb hlm
        go_wp2_with fail
        refine (HOF.out wr (HW.out.on HB.out) A c (HR.out.on HB.out) hc).mono ?_
        rintro e w3 ⟨rfl, hb3⟩
        have HOW3 := Lib.hid (HOW.out.onB hb3)
        have HB3 := Lib.hid (HB.out.trans (hb3.mono HB.out.size))
        have HBS3 := Lib.hid (Nat.le_trans HBS.out hb3.size)
        clear hb3
        go_upto_region 10 with (fail)
        obtain ⟨w4, hw4⟩ : ∃ w4, w3.alloc (.cells #[.int .u8 k, .int .i64 z, .string s] 24) = w4 := ⟨_, rfl⟩
        rw [hw4]
        have hal4 : Below w3.heap.size w3 w4 := by rw [← hw4]; exact (Below.refl _ _).alloc (Nat.le_refl _) _
        have b4 : BoxT w4 w3.heap.size (k, z, s) := by rw [← hw4]; exact BoxT.new w3 (k, z, s)
        clear hw4
        have HB4 := Lib.hid (HB3.out.trans (hal4.mono HB3.out.size))
        have HBS4 := Lib.hid (Nat.le_trans HBS3.out hal4.size)
        have HOW4 := Lib.hid (HOW3.out.onB hal4)
        have HX := Lib.hid b4
        clear hal4 b4
        have HNE := Lib.hid (own_ne HOW3.out (Nat.le_refl w3.heap.size))
        generalize w3.heap.size = g10 at *
        go_wp2_with (at_builtin; refine wpList_appT rfl (.tmp 55) (.tmp 57) rfl w2.heap.size _ _ [nullT] rfl (HOW4.out.alloc _) ⟨w4.heap.size, 0, none⟩ 1 rfl (SrcT.one w4 0 0 ⟨#[]⟩) (by have := HLM.out; simp only [List.length_cons, List.length_nil]; omega) (Nat.le_trans HBS4.out (by simp)) ?_; intro v6 w6 HO6 HB6 HK6)
        have HX6 := Lib.hid (show BoxT w6 g10 (k, z, s) from (HK6.out g10 (Nat.lt_of_lt_of_le HX.out.lt (by simp)) HNE.out).trans (HX.out.on ((Below.refl _ w4).alloc (Nat.le_refl _) _)))
        have HB7 := Lib.hid ((HB4.out.alloc HB4.out.size (.cells #[.int .u8 0, .int .i64 0, .string ⟨#[]⟩] 24)).trans (HB6.out.mono HB2.out.size))
        obtain ⟨A6, c6, rfl, hc6, _, hs6, _, hg6⟩ := HO6.out.form
        have HRM := Lib.hid (rdT_src hs6 hg6)
        clear hs6 hg6 HK6 HB6 HO6 HX HNE
        refine (HOM.out w6 (HW.out.on HB7.out) A6 c6 HRM.out hc6).mono ?_
        rintro e w7 ⟨rfl, hb7⟩
        have HB8 := Lib.hid (HB7.out.trans (hb7.mono HB7.out.size))
        have HX7 := Lib.hid (HX6.out.on hb7)
        clear hb7
        go_upto_region 11 with (fail)
        obtain ⟨w8, hw8⟩ : ∃ w8, w7.alloc (.cells #[.int .u8 k, .int .i64 z, .string s] 24) = w8 := ⟨_, rfl⟩
        rw [hw8]
        have hal8 : Below w7.heap.size w7 w8 := by rw [← hw8]; exact (Below.refl _ _).alloc (Nat.le_refl _) _
        have b8 : BoxT w8 w7.heap.size (k, z, s) := by rw [← hw8]; exact BoxT.new w7 (k, z, s)
        clear hw8
        have HB9 := Lib.hid (HB8.out.trans (hal8.mono HB8.out.size))
        obtain ⟨x0, x1, x2⟩ := (HX7.out.on hal8).cells
        obtain ⟨y0, y1, y2⟩ := b8.cells
        dsimp only at x0 x1 x2 y0 y1 y2
        clear hal8 b8
        generalize w7.heap.size = g12 at *
        go_upto_region 13 with (fail)
        clear x0 x1 x2 y0 y1 y2
        by_cases h1 : vs.length = 1
        · obtain ⟨⟨k0, z0, s0⟩, hvs⟩ : ∃ t, vs = [t] := List.length_eq_one_iff.1 h1
          subst hvs
          have hR := HR.out.on HB9.out
          rcases hR with hrd | ⟨b, off, rfl, hrd⟩
          · cases hrd
          have hcel : ∀ X : World, Below w8.heap.size w8 X → X.cell? ⟨b, off, none⟩ = some (.int .u8 k0) ∧ X.cell? ⟨b, off + 1, none⟩ = some (.int .i64 z0) ∧ X.cell? ⟨b, off + 2, none⟩ = some (.string s0) := fun X hX => by
            have := (hrd.on hX).2 0 k0 z0 s0 rfl
            simpa using this
          have HCEL := Lib.hid hcel
          obtain ⟨y0, y1, y2⟩ := hcel w8 (Below.refl _ _)
          clear hcel hrd
          by_cases hk0 : k0 = 0
          · subst hk0
            go_wp2_with (go_at_call 34; refine (awake_any _ (HW.out.on HB9.out)).mono ?_; rintro e w9 ⟨rfl, hb9⟩; have HB10 := Lib.hid (HB9.out.trans (hb9.mono HB9.out.size)); clear hb9)
            go_ret
            exact ⟨rfl, HB10.out⟩
          · have hg0 : GoodT (k0, z0, s0) := HGD.out _ (by simp)
            have HG0 := Lib.hid hg0
            have HS0 := Lib.hid (show s0.size ≤ 4611686018427387904 from by
              rcases hg0.1 with h | h | h
              · have := h.2.2; simp only at this; omega
              · have := h.2; simp only at this; omega
              · have := h.2.2; simp only at this; omega)
            have HN0 := Lib.hid hg0.2
            clear hg0
            go_upto_region 15 with (fail)
            clear y0 y1 y2
            have HW8 := Lib.hid (HW.out.on HB9.out)
            have HT0 := Lib.hid (fun (t : Trip) => dsel_one d t)
            have hv0 : valsOf false [(k0, z0, s0)] = [(k0, z0, s0)] := by rw [valsOf_filter]; simp [hk0]
            have HRW := Lib.hid (show RdT w8 (some ⟨b, off, none⟩) [(k0, z0, s0)] from HR.out.on HB9.out)
            have hc1 : 1 ≤ c := by simpa using hc
            have hgl : ∀ t ∈ [(k0, z0, s0)], GoodT t := fun t ht => by rw [List.mem_singleton.1 ht]; exact HG0.out
            have hi64 : In64 (intV k0 z0 s0) := intV_in HG0.out
            have htx : (textV k0 z0 s0).size ≤ 65536 := text_size HG0.out
            have CM : ∀ {nm : ByteArray} {fn : Bool → List Trip → Trip × Int} (t : Trip), Named nm false fn → fn d [(k0, z0, s0)] = (t, 0) → Hid (∀ W : World, Below w8.heap.size w8 W →
                Calls Tryz.prog 27 #[vvT t, .string nm, .bool d, .slice (some ⟨b, off, none⟩) 1 c] W fun e w' => e = .returned (.bool true) ∧ Below W.heap.size W w') := fun t hn hf => Lib.hid fun W hW => by
              have := comes_any hn (d := d) rfl t W (HW8.out.on hW) (some ⟨b, off, none⟩) c [(k0, z0, s0)] (HRW.out.on hW) hgl (by simp) hc1
              rw [hv0, hf] at this
              simpa using this
            have C1 := CM (1, intV k0 z0 s0, ⟨#[]⟩) named_sum (by rw [HT0.out]; exact finSum_one _ _ hi64)
            have C2 := CM (1, intV k0 z0 s0, ⟨#[]⟩) named_total (by rw [HT0.out]; exact finSum_one _ _ hi64)
            have C3 := CM (k0, z0, s0) named_min (by rw [bestMn_one])
            have C4 := CM (k0, z0, s0) named_max (by rw [bestMx_one])
            have C5 := CM (2, 0, textV k0 z0 s0) named_join (finJoin_one d _ HG0.out htx)
            have C6 := CM (1, 1, ⟨#[]⟩) named_count (by rw [HT0.out]; rfl)
            clear CM hv0 hc1 hgl hi64 htx HT0
            refine region_asN (ops' := an15Ops) (by kernel_rfl) ?_
            refine an15_run b off c k0 z0 s0 HS0.out HN0.out HW8.out rfl rfl HCEL.out ?_
            intro V pn qn wx hbx hvp hvq hbp hbq
            rw [an15_fill V, hvp, hvq]
            have HBX := Lib.hid hbx
            have HP := Lib.hid hbp
            have HQ := Lib.hid hbq
            obtain ⟨x0, x1, x2⟩ := hbp.cells
            dsimp only at x0 x1 x2
            clear hbx hvp hvq hbp hbq
            generalize intV k0 z0 s0 = nn at *
            generalize textV k0 z0 s0 = tt at *
            go_wp2_with fail
            clear x0 x1 x2
            refine (C1.out wx HBX.out).mono ?_
            rintro e wa ⟨rfl, hba⟩
            have HBX1 := Lib.hid (HBX.out.trans (hba.mono HBX.out.size))
            have HP1 := Lib.hid (HP.out.on hba)
            have HQ1 := Lib.hid (HQ.out.on hba)
            obtain ⟨x0, x1, x2⟩ := HP1.out.cells
            dsimp only at x0 x1 x2
            clear hba
            go_wp2_with fail
            clear x0 x1 x2
            refine (C2.out wa HBX1.out).mono ?_
            rintro e wb ⟨rfl, hba⟩
            have HBX2 := Lib.hid (HBX1.out.trans (hba.mono HBX1.out.size))
            have HQ2 := Lib.hid (HQ1.out.on hba)
            clear hba
            obtain ⟨x0, x1, x2⟩ := HCEL.out wb HBX2.out
            go_wp2_with fail
            clear x0 x1 x2
            refine (C3.out wb HBX2.out).mono ?_
            rintro e wc ⟨rfl, hba⟩
            have HBX3 := Lib.hid (HBX2.out.trans (hba.mono HBX2.out.size))
            have HQ3 := Lib.hid (HQ2.out.on hba)
            clear hba
            obtain ⟨x0, x1, x2⟩ := HCEL.out wc HBX3.out
            go_wp2_with fail
            clear x0 x1 x2
            refine (C4.out wc HBX3.out).mono ?_
            rintro e wd ⟨rfl, hba⟩
            have HBX4 := Lib.hid (HBX3.out.trans (hba.mono HBX3.out.size))
            have HQ4 := Lib.hid (HQ3.out.on hba)
            clear hba
            obtain ⟨x0, x1, x2⟩ := HQ4.out.cells
            dsimp only at x0 x1 x2
            go_wp2_with fail
            clear x0 x1 x2
            refine (C5.out wd HBX4.out).mono ?_
            rintro e we ⟨rfl, hba⟩
            have HBX5 := Lib.hid (HBX4.out.trans (hba.mono HBX4.out.size))
            clear hba
            go_wp2_with fail
            refine (numA _ _).mono ?_
            rintro e wf ⟨rfl, hba⟩
            have HBX6 := Lib.hid (HBX5.out.trans (hba.mono HBX5.out.size))
            clear hba
            go_wp2_with fail
            refine (C6.out wf HBX6.out).mono ?_
            rintro e wg ⟨rfl, hba⟩
            have HBX7 := Lib.hid (HB9.out.trans ((HBX6.out.trans (hba.mono HBX6.out.size)).mono HB9.out.size))
            clear hba
            go_wp2_with fail
            refine (awake_any _ (HW.out.on HBX7.out)).mono ?_
            rintro e wh ⟨rfl, hba⟩
            have HBX8 := Lib.hid (HBX7.out.trans (hba.mono HBX7.out.size))
            clear hba
            go_wp2_with fail
            go_ret
            exact ⟨rfl, HBX8.out⟩
        · have h1z : ¬ (vs.length : Int) = 1 := by omega
          go_wp2_with (go_at_call 34; refine (awake_any _ (HW.out.on HB9.out)).mono ?_; rintro e w9 ⟨rfl, hb9⟩; have HB10 := Lib.hid (HB9.out.trans (hb9.mono HB9.out.size)); clear hb9)
          go_ret
          exact ⟨rfl, HB10.out⟩
end Go.Proofs.YtceknmibopnmhaaGreatDoor
