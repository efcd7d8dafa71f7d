/-
  Layer 13, eval: EvalNull, walked. Conditions: sizes; the library's variables are as its text lays them.
-/
import Derived.Test.YteijijoiifbjlaaGreatDoorENuR
import Derived.Test.YteijijoiifbjlaaGreatDoorESwW
namespace Go.Proofs.YteijijoiifbjlaaGreatDoor
open Go.ChangeShapes Go.WideShapes Go.ChangeAt Go.RowKit
set_option linter.unusedVariables false
set_option linter.unusedSimpArgs false
set_option maxRecDepth 100000

abbrev nuArr : Value := .agg #[.string ⟨#[43]⟩, .string ⟨#[45]⟩, .string ⟨#[42]⟩, .string ⟨#[47]⟩, .string ⟨#[37]⟩, .string ⟨#[124, 124]⟩, .string ⟨#[61]⟩, .string ⟨#[60, 62]⟩, .string ⟨#[60]⟩, .string ⟨#[60, 61]⟩, .string ⟨#[62]⟩, .string ⟨#[108, 105, 107, 101]⟩]
theorem nu_index (j : Nat) (hj : j < 12) : ∃ g, g ∈ nulL ∧ ∀ W, (Instr.index 48 nuArr (.int .i64 (j : Int))).run Tryz.prog W = .ok (.string g) W := by
  have hc : j = 0 ∨ j = 1 ∨ j = 2 ∨ j = 3 ∨ j = 4 ∨ j = 5 ∨ j = 6 ∨ j = 7 ∨ j = 8 ∨ j = 9 ∨ j = 10 ∨ j = 11 := by omega
  rcases hc with rfl | rfl | rfl | rfl | rfl | rfl | rfl | rfl | rfl | rfl | rfl | rfl
  · exact ⟨sAdd, by simp [nulL], fun W => by kernel_rfl⟩
  · exact ⟨sSub, by simp [nulL], fun W => by kernel_rfl⟩
  · exact ⟨sMul, by simp [nulL], fun W => by kernel_rfl⟩
  · exact ⟨sQuo, by simp [nulL], fun W => by kernel_rfl⟩
  · exact ⟨sRem, by simp [nulL], fun W => by kernel_rfl⟩
  · exact ⟨sCat, by simp [nulL], fun W => by kernel_rfl⟩
  · exact ⟨sEq, by simp [nulL], fun W => by kernel_rfl⟩
  · exact ⟨sNe, by simp [nulL], fun W => by kernel_rfl⟩
  · exact ⟨sLt, by simp [nulL], fun W => by kernel_rfl⟩
  · exact ⟨sLe, by simp [nulL], fun W => by kernel_rfl⟩
  · exact ⟨sGt, by simp [nulL], fun W => by kernel_rfl⟩
  · exact ⟨sLike, by simp [nulL], fun W => by kernel_rfl⟩
def NuRel (w : World) (i : Value) (wr : World) : Prop := ∃ j : Nat, j ≤ 12 ∧ i = .int .i64 (j : Int) ∧ Below w.heap.size w wr
theorem fit_is (n : Int) (hn : In64 n) {e : Ee} (h : Fit e) : Fit (.mk 8 ⟨#[]⟩ ⟨#[]⟩ n 0 [e]) := fit_mk _ _ _ _ _ hn (by decide) (by simp) fun e he => by
  simp only [List.mem_cons, List.not_mem_nil, or_false] at he
  subst he
  exact h
theorem and_err {a : Trip} (ha : RtT a) : ∃ t, opX sAnd a nulT = (t, 0) := ⟨_, opX_and ha RtT_nul⟩
set_option maxHeartbeats 4000000 in
theorem null_walk (e1 : Ee) (x : EnvM) (k1 : Int) (s1 t1 : ByteArray) (n1 a1 : Int) (A1 : Option Addr) (l1 p1 : Nat) (Ar : Option Addr) (cr : Nat) (Ak : Option Addr) (ck : Nat) (At : Option Addr) (ct : Nat) (Ab : Option Addr) (cb : Nat) (w : World) (hW : Wd w)
    (h1 : ExV w e1 (exprV k1 s1 t1 n1 a1 A1 l1 p1)) (ho1 : OkE e1) (hX : EnvW w x Ar cr Ak ck At ct Ab cb) (hx0 : ∀ r ∈ x.rows, OkTs r) (hx1 : OkTs x.keys) (hx2 : OkTs x.totals) (hx3 : OkTs x.binds) :
    Calls Tryz.prog 5 #[exprV k1 s1 t1 n1 a1 A1 l1 p1, .agg (envC x Ar cr Ak ck At ct Ab cb)] w fun e w' => e = .returned (.bool true) ∧ Below w.heap.size w w' := by
  have hok : OkEL [e1] := by simp only [OkEL]; exact ⟨ho1, trivial⟩
  have HOK := Lib.hid hok
  have HOX := Lib.hid (And.intro hx0 (And.intro hx1 (And.intro hx2 hx3)))
  obtain ⟨w3, hw3⟩ : ∃ X, (w.alloc (.cells #[.int .u8 k1, .string s1, .string t1, .int .i64 n1, .int .i64 a1, .slice A1 l1 p1] 25)).alloc (.cells (envC x Ar cr Ak ck At ct Ab cb) 29) = X := ⟨_, rfl⟩
  have hal : Below w.heap.size w w3 := by rw [← hw3]; exact ((Below.refl _ _).alloc (Nat.le_refl _) _).alloc (by simp) _
  have hc1 : ECell w3 w.heap.size 0 k1 s1 t1 n1 a1 A1 l1 p1 := by rw [← hw3]; refine ⟨?_, ?_, ?_, ?_, ?_, ?_⟩ <;> simp [go_sem]
  have hc3 : X4 w3 (w.heap.size + 1) (.slice Ar x.rows.length cr) (.slice Ak x.keys.length ck) (.slice At x.totals.length ct) (.slice Ab x.binds.length cb) := by rw [← hw3]; refine ⟨?_, ?_, ?_, ?_⟩ <;> simp [go_sem]
  obtain ⟨w4, hw4⟩ : ∃ X, w3.alloc (.cells #[.int .u8 k1, .string s1, .string t1, .int .i64 n1, .int .i64 a1, .slice A1 l1 p1] 25) = X := ⟨_, rfl⟩
  have hal4 : Below w3.heap.size w3 w4 := by rw [← hw4]; exact (Below.refl _ _).alloc (Nat.le_refl _) _
  have hal34 : Below w.heap.size w w4 := hal.trans (hal4.mono hal.size)
  have hk : ExK w4 [e1] (some ⟨w3.heap.size, 0, none⟩) := exk_one (h1.on hal34) (by rw [← hw4]; exact heap_new _ _)
  have HS := Lib.hid (show Calls Tryz.prog 6 #[.slice (some ⟨w3.heap.size, 0, none⟩) 1 1] w4 (fun e w' => e = .returned (.bool (smallB [e1])) ∧ Below w4.heap.size w4 w') from Small_any [e1] (some ⟨w3.heap.size, 0, none⟩) 1 w4 hk hok (by simp [maxLen]))
  have HC1 := Lib.hid (hc1.on hal4)
  have HC3 := Lib.hid (hc3.on hal4)
  have HE1 := Lib.hid (h1.on hal34)
  have HX := Lib.hid (hX.on hal34)
  have HW := Lib.hid (hW.on hal34)
  have HB4 := Lib.hid hal34
  obtain ⟨y0, y1, y2, y3, y4, y5⟩ := hc1
  obtain ⟨x0, x1, x2, x3⟩ := hc3
  simp only [Nat.zero_add] at y0 y1 y2 y3 y4 y5
  clear h1 hX hx0 hx1 hx2 hx3 hok ho1 hW hk hal hal4 hal34
  generalize hsm : smallB [e1] = sm at HS
  have HSM := Lib.hid hsm
  clear hsm
  go_enter Tryz.func5, Tryz.ntmps5
  go_upto_region 1 with (fail)
  clear hw3
  cases sm
  · go_wp2_with (first
      | ((with_reducible refine HS.out.mono ?_); rintro e wa ⟨rfl, ba⟩; have HA := Lib.hid ba; have HBA := Lib.hid (HB4.out.trans (ba.mono HB4.out.size)); clear ba)
      | (go_at_call 8; refine (awake_any _ (HW.out.on HA.out)).mono ?_; rintro e wb ⟨rfl, bb⟩; have HBB := Lib.hid (HBA.out.trans (bb.mono HBA.out.size)); clear bb))
    go_ret
    exact ⟨rfl, HBB.out⟩
  · by_cases hfew : fewX x
    · have HFW := Lib.hid hfew
      have hd := decide_eq_true hfew
      go_upto_region 3 with (first
        | ((with_reducible refine HS.out.mono ?_); rintro e wa ⟨rfl, ba⟩; have HA := Lib.hid ba; have HBA := Lib.hid (HB4.out.trans (ba.mono HB4.out.size)); clear x0 x1 x2 x3; obtain ⟨x0, x1, x2, x3⟩ := HC3.out.on ba; clear ba)
        | (go_at_call 7; refine (few_any x Ar cr Ak ck At ct Ab cb _ (HX.out.on HA.out)).mono ?_; rintro e wb ⟨rfl, bb⟩; rw [hd]; have HB := Lib.hid (HA.out.trans (bb.mono HA.out.size)); clear bb))
      clear hw4 y0 y1 y2 y3 y4 y5 x0 x1 x2 x3 hd HS hfew
      have HWB := Lib.hid (HW.out.on HB.out)
      have HBB := Lib.hid (HB4.out.trans (HB.out.mono HB4.out.size))
      obtain ⟨hxo, hxt⟩ := envT_of HFW.out HOX.out.1 HOX.out.2.1 HOX.out.2.2.1 HOX.out.2.2.2
      have hfit := fitL_small HOK.out HSM.out
      simp only [FitL, and_true] at hfit
      have hf1 := hfit
      obtain ⟨⟨⟨ka, na, sa⟩, ea⟩, hra⟩ : ∃ r, evX x e1 = r := ⟨_, rfl⟩
      have hsz : sa.size ≤ 65536 := by
        have := (evX_ok hxt hf1).2
        rw [hra] at this
        exact this
      have HV1 := Lib.hid (evOn_of HWB.out hxo hxt hf1 hra)
      have HVX : Hid (∀ e r, Fit e → evX x e = r → EvOn wb x e r) := Lib.hid fun e r hf hr => evOn_of HWB.out hxo hxt hf hr
      have HTX : Hid (∀ w v xv, Below wb.heap.size wb w → ExV w e1 v → EnvV w x xv → Calls Tryz.prog 13 #[v, xv] w (RetT (trueT (ka, na, sa)) ea w)) := Lib.hid fun w v xv hb hv hx => by
        have := True_any x e1 hxo hxt hf1 v xv w (HWB.out.on hb) hv hx
        rw [hra] at this
        exact this
      have HRA := Lib.hid hra
      have HF := Lib.hid hf1
      have HSZ := Lib.hid hsz
      have HD1 := Lib.hid (HC1.out.on HB.out)
      have HD3 := Lib.hid (HC3.out.on HB.out)
      have HG1 := Lib.hid (HE1.out.on HB.out)
      have HGX := Lib.hid ((HX.out.on HB.out).v)
      have HN1 := Lib.hid (HV1.out wb _ _ (Below.refl _ _) HG1.out HGX.out)
      obtain ⟨y0, y1, y2, y3, y4, y5⟩ := HD1.out
      obtain ⟨x0, x1, x2, x3⟩ := HD3.out
      simp only [Nat.zero_add] at y0 y1 y2 y3 y4 y5
      clear hra hf1 hfit hsz HA HBA HC1 HC3 HE1 HW
      go_upto_region 4 with (go_at_call 10; (with_reducible refine HN1.out.mono ?_); rintro e wc ⟨rfl, bc⟩; have HBC := Lib.hid bc; clear bc)
      obtain ⟨w6, hw6⟩ : ∃ X, wc.alloc (.cells #[.int .u8 ka, .int .i64 na, .string sa] 38) = X := ⟨_, rfl⟩
      have hb6 : Below wb.heap.size wb w6 := by rw [← hw6]; exact HBC.out.alloc HBC.out.size _
      have hx6 : BoxF wc.heap.size (ka, na, sa) w6 := by rw [← hw6]; exact BoxF.new wc ka na sa
      rw [hw6]
      have HB6 := Lib.hid hb6
      have HV6 := Lib.hid hx6
      obtain ⟨⟨v0, v1, v2⟩, -⟩ := hx6
      generalize wc.heap.size = pv at HV6 v0 v1 v2 ⊢
      clear y0 y1 y2 y3 y4 y5 x0 x1 x2 x3 hw6 hb6 HBC HN1
      by_cases hea : ea = 0
      · subst hea
        by_cases hrt : Rt ka na sa
        · have hd := decide_eq_true hrt
          have HRT := Lib.hid hrt
          have hs9 : sa.size ≤ 9223372036854775807 := by have := HSZ.out; omega
          go_upto_region 7 with (go_at_call 12; refine (Right_any _ _ _ _ hs9).mono ?_; rintro e wd ⟨rfl, bd⟩; rw [hd]; have HBD := Lib.hid (HB6.out.trans (bd.mono HB6.out.size)); have HV7 := Lib.hid (HV6.out.on bd); clear bd)
          obtain ⟨w7, hw7⟩ : ∃ X, wd.alloc (.cells #[.int .u8 1, .string ⟨#[]⟩, .string ⟨#[]⟩, .int .i64 0, .int .i64 0, .slice none 0 0] 25) = X := ⟨_, rfl⟩
          have hb7 : Below wb.heap.size wb w7 := by rw [← hw7]; exact HBD.out.alloc HBD.out.size _
          have hn7 : EBx w7 wd.heap.size (lf 1 0) := by rw [← hw7]; exact ⟨1, ⟨#[]⟩, ⟨#[]⟩, 0, 0, none, 0, 0, ecell_new _ _ _ _ _ _ _ _ _, lf_is _ 1 0⟩
          have hv7 : BoxF pv (ka, na, sa) w7 := by rw [← hw7]; exact HV7.out.on ((Below.refl _ _).alloc (Nat.le_refl _) _)
          rw [hw7]
          have HB7 := Lib.hid hb7
          have HN7 := Lib.hid hn7
          have HV8 := Lib.hid hv7
          have HBX : Hid (EBx w7 w.heap.size e1) := Lib.hid ⟨k1, s1, t1, n1, a1, A1, l1, p1, HD1.out.on hb7, HG1.out.on hb7⟩
          have HBZ : Hid (XBx w7 (w.heap.size + 1) x) := Lib.hid ⟨_, _, _, _, HD3.out.on hb7, HGX.out.on hb7⟩
          have HD17 := Lib.hid (HD1.out.on hb7)
          have HD37 := Lib.hid (HD3.out.on hb7)
          have HG17 := Lib.hid (HG1.out.on hb7)
          have HGX7 := Lib.hid (HGX.out.on hb7)
          have HWW := Lib.hid (HWB.out.on hb7)
          have HVX7 : Hid (∀ e r, Fit e → evX x e = r → EvOn w7 x e r) := Lib.hid fun e r hf hr => (HVX.out e r hf hr).on HB7.out
          have HTX7 : Hid (∀ w v xv, Below w7.heap.size w7 w → ExV w e1 v → EnvV w x xv → Calls Tryz.prog 13 #[v, xv] w (RetT (trueT (ka, na, sa)) 0 w)) := Lib.hid fun w v xv hb hv hx => HTX.out w v xv (HB7.out.trans (hb.mono HB7.out.size)) hv hx
          have HBase := Lib.hid (HBB.out.trans (hb7.mono HBB.out.size))
          clear v0 v1 v2 hv7 hn7 hb7 hw7 HBD HV7 HV6 HB6 HD1 HD3 HG1 HGX HV1 hs9 hrt hd HVX HTX HB7
          generalize wd.heap.size = p7 at HN7 ⊢
          generalize hp3 : w.heap.size = p3 at HBX HBZ HD17 HD37 ⊢
          generalize hp5 : p3 + 1 = p5 at HBZ HD37 ⊢
          clear hp5
          go_wp2_with fail
          go_loopw [50] (fun i wr => NuRel w7 i wr) (fun i _ => 12 - (intOf i).toNat)
          case atStart => exact ⟨0, by omega, rfl, Below.refl _ _⟩
          case round =>
            obtain ⟨j, hj, rfl, hb⟩ := hrel
            by_cases hlt : j < 12
            · obtain ⟨g, hgg, hrun⟩ := nu_index j hlt
              have q1 : (j : Int) < 12 := by omega
              have q2 : (0 : Int) ≤ (j : Int) := by omega
              have HJ := Lib.hid hlt
              have HR := Lib.hid hb
              have HGG := Lib.hid hgg
              clear hlt hj hb hgg
              go_upto_region 10 with (fail)
              have HEV1 : Hid (EvOn wr x (.mk 7 g ⟨#[]⟩ 0 0 [e1, lf 1 0]) (nulT, 0)) := Lib.hid ((HVX7.out _ _ (fit_op2 g HF.out (fit_lf 1 0 (by decide) (by decide))) (by rw [ev_op2 x g HRA.out (ev_null x)]; exact nul_r HGG.out HRT.out)).on HR.out)
              have HEV2 : Hid (EvOn wr x (.mk 7 g ⟨#[]⟩ 0 0 [lf 1 0, e1]) (nulT, 0)) := Lib.hid ((HVX7.out _ _ (fit_op2 g (fit_lf 1 0 (by decide) (by decide)) HF.out) (by rw [ev_op2 x g (ev_null x) HRA.out]; exact nul_l HGG.out HRT.out)).on HR.out)
              clear hrun
              refine region_asE (ops' := nu10Ops) (by kernel_rfl) ?_
              refine nu10 x p3 p7 p5 e1 (lf 1 0) (nulT, 0) g (HBX.out.on HR.out) (HN7.out.on HR.out) (HBZ.out.on HR.out) HEV1.out rfl rfl rfl rfl rfl ?_
              intro V1 q13 X1 hb1 hV1 _ _ hbx1 hU1
              rw [nu10_fill V1, hV1, hU1]
              have HX1 := Lib.hid (HR.out.trans (hb1.mono HR.out.size))
              have HBX1 := Lib.hid hbx1
              have HEV3 := Lib.hid (HEV2.out.on hb1)
              clear hb1 hbx1 hV1 hU1 HEV1 HEV2 HR
              go_upto_region 11 with (fail)
              refine region_asE (ops' := nu11Ops) (by kernel_rfl) ?_
              refine nu11 x p3 p7 p5 e1 (lf 1 0) (nulT, 0) g (HBX.out.on HX1.out) (HN7.out.on HX1.out) (HBZ.out.on HX1.out) HEV3.out rfl rfl rfl rfl rfl ?_
              intro V2 q15 X2 hb2 hV2 _ _ hbx2 hU2
              rw [nu11_fill V2, hV2, hU2]
              have HX2 := Lib.hid (HX1.out.trans (hb2.mono HX1.out.size))
              obtain ⟨⟨c0, c1, c2⟩, -⟩ := HBX1.out.on hb2
              obtain ⟨⟨d0, d1, d2⟩, -⟩ := hbx2
              clear hb2 hV2 hU2 HBX1 HEV3 HX1
              go_wp2_with fail
              have hw : wrap64 ((j : Int) + 1) = (j : Int) + 1 := by
                have := HJ.out
                unfold wrap64
                omega
              exact ⟨⟨j + 1, by have := HJ.out; omega, by go_num, HX2.out⟩, by have := HJ.out; simp [intOf, hw]; omega⟩
            · have q1 : ¬ (j : Int) < 12 := by omega
              have HR := Lib.hid hb
              clear hlt hj hb
              obtain ⟨z, z', hz, hi1, hi2⟩ : ∃ z z' : Int, ((ka = 0 ∧ z = 1 ∧ z' = 0) ∨ (ka ≠ 0 ∧ z = 0 ∧ z' = 1)) ∧ flagT (decide (ka = 0) == decide ((1 : Int) = 1)) = (1, z, ⟨#[]⟩) ∧ flagT (decide (ka = 0) == decide ((0 : Int) = 1)) = (1, z', ⟨#[]⟩) := by
                by_cases hka : ka = 0
                · exact ⟨1, 0, .inl ⟨hka, rfl, rfl⟩, by simp [flagT, hka], by simp [flagT, hka]⟩
                · exact ⟨0, 1, .inr ⟨hka, rfl, rfl⟩, by simp [flagT, hka], by simp [flagT, hka]⟩
              have HZ := Lib.hid hz
              clear hz
              have he1 : evX x (.mk 8 ⟨#[]⟩ ⟨#[]⟩ 1 0 [e1]) = ((1, z, ⟨#[]⟩), 0) := by rw [ev_is x 1 (.inr rfl) HRA.out, ← hi1]
              have he2 : evX x (.mk 8 ⟨#[]⟩ ⟨#[]⟩ 0 0 [e1]) = ((1, z', ⟨#[]⟩), 0) := by rw [ev_is x 0 (.inl rfl) HRA.out, ← hi2]
              have HQX : Hid (EvOn w7 x (.mk 8 ⟨#[]⟩ ⟨#[]⟩ 0 0 [e1]) ((1, z', ⟨#[]⟩), 0)) := Lib.hid (HVX7.out _ _ (fit_is 0 (by decide) HF.out) he2)
              obtain ⟨w15, hw15⟩ : ∃ X, wr.alloc (.cells #[.int .u8 k1, .string s1, .string t1, .int .i64 n1, .int .i64 a1, .slice A1 l1 p1] 25) = X := ⟨_, rfl⟩
              have hb15 : Below wr.heap.size wr w15 := by rw [← hw15]; exact (Below.refl _ _).alloc (Nat.le_refl _) _
              have HB15 := Lib.hid (HR.out.trans (hb15.mono HR.out.size))
              have hk15 : ExK w15 [e1] (some ⟨wr.heap.size, 0, none⟩) := exk_one (HG17.out.on HB15.out) (by rw [← hw15]; exact heap_new _ _)
              have HQ15 := Lib.hid ((HVX7.out _ _ (fit_is 1 (by decide) HF.out) he1) w15 (exprV 8 ⟨#[]⟩ ⟨#[]⟩ 1 0 (some ⟨wr.heap.size, 0, none⟩) 1 1) _ HB15.out (by simp only [ExV]; exact ⟨_, 1, rfl, Nat.le_refl _, hk15⟩) (HGX7.out.on HB15.out))
              obtain ⟨y0, y1, y2, y3, y4, y5⟩ := HD17.out.on HR.out
              obtain ⟨x0, x1, x2, x3⟩ := HD37.out.on HB15.out
              simp only [Nat.zero_add] at y0 y1 y2 y3 y4 y5
              clear hb15 hk15 hi1 hi2 he1 he2
              go_upto_region 16 with (go_at_call 10; (with_reducible refine HQ15.out.mono ?_); rintro e wc ⟨rfl, bc⟩; have HBC := Lib.hid bc; clear bc)
              obtain ⟨w16, hw16⟩ : ∃ X, wc.alloc (.cells #[.int .u8 1, .int .i64 z, .string ⟨#[]⟩] 38) = X := ⟨_, rfl⟩
              have hb16 : Below w7.heap.size w7 w16 := by rw [← hw16]; exact HB15.out.trans ((HBC.out.alloc HBC.out.size _).mono HB15.out.size)
              have HP14 : Hid (BoxF wc.heap.size (1, z, ⟨#[]⟩) w16) := Lib.hid (by rw [← hw16]; exact BoxF.new wc 1 z ⟨#[]⟩)
              rw [hw16]
              have HB16 := Lib.hid hb16
              generalize wc.heap.size = p14 at HP14 ⊢
              clear hw15 hw16 hb16 HBC HB15 HQ15 HR y0 y1 y2 y3 y4 y5 x0 x1 x2 x3
              obtain ⟨w17, hw17⟩ : ∃ X, w16.alloc (.cells #[.int .u8 k1, .string s1, .string t1, .int .i64 n1, .int .i64 a1, .slice A1 l1 p1] 25) = X := ⟨_, rfl⟩
              have hb17 : Below w16.heap.size w16 w17 := by rw [← hw17]; exact (Below.refl _ _).alloc (Nat.le_refl _) _
              have HB17 := Lib.hid (HB16.out.trans (hb17.mono HB16.out.size))
              have hk17 : ExK w17 [e1] (some ⟨w16.heap.size, 0, none⟩) := exk_one (HG17.out.on HB17.out) (by rw [← hw17]; exact heap_new _ _)
              have HQ17 := Lib.hid (HQX.out w17 (exprV 8 ⟨#[]⟩ ⟨#[]⟩ 0 0 (some ⟨w16.heap.size, 0, none⟩) 1 1) _ HB17.out (by simp only [ExV]; exact ⟨_, 1, rfl, Nat.le_refl _, hk17⟩) (HGX7.out.on HB17.out))
              have HP15 := Lib.hid (HP14.out.on hb17)
              obtain ⟨y0, y1, y2, y3, y4, y5⟩ := HD17.out.on HB16.out
              obtain ⟨x0, x1, x2, x3⟩ := HD37.out.on HB17.out
              simp only [Nat.zero_add] at y0 y1 y2 y3 y4 y5
              clear hb17 hk17 HP14 HQX
              go_upto_region 17 with (go_at_call 10; (with_reducible refine HQ17.out.mono ?_); rintro e wd ⟨rfl, bd⟩; have HBD := Lib.hid bd; clear bd)
              obtain ⟨w18, hw18⟩ : ∃ X, wd.alloc (.cells #[.int .u8 1, .int .i64 z', .string ⟨#[]⟩] 38) = X := ⟨_, rfl⟩
              have hb18 : Below w17.heap.size w17 w18 := by rw [← hw18]; exact HBD.out.alloc HBD.out.size _
              have hp16 : BoxF wd.heap.size (1, z', ⟨#[]⟩) w18 := by rw [← hw18]; exact BoxF.new wd 1 z' ⟨#[]⟩
              rw [hw18]
              have HB18 := Lib.hid (HB17.out.trans (hb18.mono HB17.out.size))
              clear y0 y1 y2 y3 y4 y5 x0 x1 x2 x3
              obtain ⟨⟨c0, c1, c2⟩, -⟩ := HP15.out.on hb18
              obtain ⟨⟨d0, d1, d2⟩, -⟩ := hp16
              obtain ⟨⟨v0, v1, v2⟩, -⟩ := HV8.out.on HB18.out
              generalize wd.heap.size = p16 at d0 d1 d2 ⊢
              obtain ⟨y0, y1, y2, y3, y4, y5⟩ := HD17.out.on HB18.out
              obtain ⟨x0, x1, x2, x3⟩ := HD37.out.on HB18.out
              simp only [Nat.zero_add] at y0 y1 y2 y3 y4 y5
              have HT18 := Lib.hid (HTX7.out w18 _ _ HB18.out (HG17.out.on HB18.out) (HGX7.out.on HB18.out))
              clear hw17 hw18 hb18 HBD HB17 HQ17 HP15 HB16
              obtain ⟨tb, htb⟩ : ∃ tb, trueT (ka, na, sa) = tb := ⟨_, rfl⟩
              rw [htb] at HT18
              obtain ⟨ko, no, so, kd, nd, sd, hor, hand, hto⟩ : ∃ ko no so kd nd sd, opX sOr (ka, na, sa) nulT = ((ko, no, so), 0) ∧ opX sAnd (ka, na, sa) nulT = ((kd, nd, sd), 0) ∧ ((tb = true ∧ ko = 1 ∧ no = 1 ∧ kd = 0) ∨ (tb = false ∧ ko = 0)) := by
                have h1 := or_nulX (a := (ka, na, sa)) HRT.out
                cases tb
                · obtain ⟨⟨kd, nd, sd⟩, h2⟩ := and_err (a := (ka, na, sa)) HRT.out
                  rw [htb, if_neg (by simp)] at h1
                  exact ⟨0, 0, ⟨#[]⟩, kd, nd, sd, h1, h2, .inr ⟨rfl, rfl⟩⟩
                · rw [htb, if_pos rfl] at h1
                  exact ⟨1, 1, ⟨#[]⟩, 0, 0, ⟨#[]⟩, h1, and_nulX HRT.out htb, .inl ⟨rfl, rfl, rfl, rfl⟩⟩
              have HTO := Lib.hid hto
              have HOR : Hid (EvOn w7 x (.mk 7 ⟨#[111, 114]⟩ ⟨#[]⟩ 0 0 [e1, lf 1 0]) ((ko, no, so), 0)) := Lib.hid (HVX7.out _ _ (fit_op2 _ HF.out (fit_lf 1 0 (by decide) (by decide))) (by rw [← hor]; exact ev_op2 x sOr HRA.out (ev_null x)))
              have HAN : Hid (EvOn w7 x (.mk 7 ⟨#[97, 110, 100]⟩ ⟨#[]⟩ 0 0 [e1, lf 1 0]) ((kd, nd, sd), 0)) := Lib.hid (HVX7.out _ _ (fit_op2 _ HF.out (fit_lf 1 0 (by decide) (by decide))) (by rw [← hand]; exact ev_op2 x sAnd HRA.out (ev_null x)))
              clear htb hor hand hto
              rcases HZ.out with ⟨hka, rfl, rfl⟩ | ⟨hka, rfl, rfl⟩
              · have hq : (ka == 0) = true := by simpa using hka
                clear hka
                go_upto_region 20 with (go_at_call 13; (with_reducible refine HT18.out.mono ?_); rintro e wt ⟨rfl, bt⟩; have HBT := Lib.hid (HB18.out.trans (bt.mono HB18.out.size)); clear bt)
                clear c0 c1 c2 d0 d1 d2 v0 v1 v2 y0 y1 y2 y3 y4 y5 x0 x1 x2 x3 hq
                refine region_asE (ops' := nu20Ops) (by kernel_rfl) ?_
                refine nu20 x p3 p7 p5 e1 (lf 1 0) ((ko, no, so), 0) (HBX.out.on HBT.out) (HN7.out.on HBT.out) (HBZ.out.on HBT.out) (HOR.out.on HBT.out) rfl rfl rfl rfl ?_
                intro V1 q20 X1 hb1 hV1 _ _ hbx1 hU1
                rw [nu20_fill V1, hV1, hU1]
                have HX1 := Lib.hid (HBT.out.trans (hb1.mono HBT.out.size))
                have HBX1 := Lib.hid hbx1
                clear hb1 hbx1 hV1 hU1 HBT
                go_upto_region 21 with (fail)
                refine region_asE (ops' := nu21Ops) (by kernel_rfl) ?_
                refine nu21 x p3 p7 p5 e1 (lf 1 0) ((kd, nd, sd), 0) (HBX.out.on HX1.out) (HN7.out.on HX1.out) (HBZ.out.on HX1.out) (HAN.out.on HX1.out) rfl rfl rfl rfl ?_
                intro V2 q22 X2 hb2 hV2 _ _ hbx2 hU2
                rw [nu21_fill V2, hV2, hU2]
                have HX2 := Lib.hid (HX1.out.trans (hb2.mono HX1.out.size))
                obtain ⟨⟨c0, c1, c2⟩, -⟩ := HBX1.out.on hb2
                obtain ⟨⟨d0, d1, d2⟩, -⟩ := hbx2
                have HFin := Lib.hid (HBase.out.trans (HX2.out.mono HBase.out.size))
                clear hb2 hV2 hU2 HBX1 HX1
                rcases HTO.out with ⟨rfl, rfl, rfl, rfl⟩ | ⟨rfl, rfl⟩
                · go_wp2_with (go_at_call 8; refine (awake_any _ (HWW.out.on HX2.out)).mono ?_; rintro e wz ⟨rfl, bz⟩; have HZZ := Lib.hid (HFin.out.trans (bz.mono HFin.out.size)); clear bz)
                  go_ret
                  exact ⟨rfl, HZZ.out⟩
                · go_wp2_with (go_at_call 8; refine (awake_any _ (HWW.out.on HX2.out)).mono ?_; rintro e wz ⟨rfl, bz⟩; have HZZ := Lib.hid (HFin.out.trans (bz.mono HFin.out.size)); clear bz)
                  go_ret
                  exact ⟨rfl, HZZ.out⟩
              · have hq : (ka == 0) = false := by simpa using hka
                clear hka
                go_upto_region 20 with (go_at_call 13; (with_reducible refine HT18.out.mono ?_); rintro e wt ⟨rfl, bt⟩; have HBT := Lib.hid (HB18.out.trans (bt.mono HB18.out.size)); clear bt)
                clear c0 c1 c2 d0 d1 d2 v0 v1 v2 y0 y1 y2 y3 y4 y5 x0 x1 x2 x3 hq
                refine region_asE (ops' := nu20Ops) (by kernel_rfl) ?_
                refine nu20 x p3 p7 p5 e1 (lf 1 0) ((ko, no, so), 0) (HBX.out.on HBT.out) (HN7.out.on HBT.out) (HBZ.out.on HBT.out) (HOR.out.on HBT.out) rfl rfl rfl rfl ?_
                intro V1 q20 X1 hb1 hV1 _ _ hbx1 hU1
                rw [nu20_fill V1, hV1, hU1]
                have HX1 := Lib.hid (HBT.out.trans (hb1.mono HBT.out.size))
                have HBX1 := Lib.hid hbx1
                clear hb1 hbx1 hV1 hU1 HBT
                go_upto_region 21 with (fail)
                refine region_asE (ops' := nu21Ops) (by kernel_rfl) ?_
                refine nu21 x p3 p7 p5 e1 (lf 1 0) ((kd, nd, sd), 0) (HBX.out.on HX1.out) (HN7.out.on HX1.out) (HBZ.out.on HX1.out) (HAN.out.on HX1.out) rfl rfl rfl rfl ?_
                intro V2 q22 X2 hb2 hV2 _ _ hbx2 hU2
                rw [nu21_fill V2, hV2, hU2]
                have HX2 := Lib.hid (HX1.out.trans (hb2.mono HX1.out.size))
                obtain ⟨⟨c0, c1, c2⟩, -⟩ := HBX1.out.on hb2
                obtain ⟨⟨d0, d1, d2⟩, -⟩ := hbx2
                have HFin := Lib.hid (HBase.out.trans (HX2.out.mono HBase.out.size))
                clear hb2 hV2 hU2 HBX1 HX1
                rcases HTO.out with ⟨rfl, rfl, rfl, rfl⟩ | ⟨rfl, rfl⟩
                · go_wp2_with (go_at_call 8; refine (awake_any _ (HWW.out.on HX2.out)).mono ?_; rintro e wz ⟨rfl, bz⟩; have HZZ := Lib.hid (HFin.out.trans (bz.mono HFin.out.size)); clear bz)
                  go_ret
                  exact ⟨rfl, HZZ.out⟩
                · go_wp2_with (go_at_call 8; refine (awake_any _ (HWW.out.on HX2.out)).mono ?_; rintro e wz ⟨rfl, bz⟩; have HZZ := Lib.hid (HFin.out.trans (bz.mono HFin.out.size)); clear bz)
                  go_ret
                  exact ⟨rfl, HZZ.out⟩
        · have hd := decide_eq_false hrt
          have hs9 : sa.size ≤ 9223372036854775807 := by have := HSZ.out; omega
          go_wp2_with (first
            | (go_at_call 12; refine (Right_any _ _ _ _ hs9).mono ?_; rintro e wd ⟨rfl, bd⟩; rw [hd]; have HBD := Lib.hid (HB6.out.trans (bd.mono HB6.out.size)); clear bd)
            | (go_at_call 8; refine (awake_any _ (HWB.out.on HBD.out)).mono ?_; rintro e wz ⟨rfl, bz⟩; have HZ := Lib.hid ((HBB.out.trans (HBD.out.mono HBB.out.size)).trans (bz.mono (Nat.le_trans HBB.out.size HBD.out.size))); clear bz))
          go_ret
          exact ⟨rfl, HZ.out⟩
      · have q : (ea == 0) = false := by simpa using hea
        have q' : (ea != 0) = true := by simpa using hea
        go_wp2_with (go_at_call 8; refine (awake_any _ (HWB.out.on HB6.out)).mono ?_; rintro e wz ⟨rfl, bz⟩; have HZ := Lib.hid ((HBB.out.trans (HB6.out.mono HBB.out.size)).trans (bz.mono (Nat.le_trans HBB.out.size HB6.out.size))); clear bz)
        go_ret
        exact ⟨rfl, HZ.out⟩
    · have hd := decide_eq_false hfew
      go_wp2_with (first
        | ((with_reducible refine HS.out.mono ?_); rintro e wa ⟨rfl, ba⟩; have HA := Lib.hid ba; have HBA := Lib.hid (HB4.out.trans (ba.mono HB4.out.size)); clear x0 x1 x2 x3; obtain ⟨x0, x1, x2, x3⟩ := HC3.out.on ba; clear ba)
        | (go_at_call 7; refine (few_any x Ar cr Ak ck At ct Ab cb _ (HX.out.on HA.out)).mono ?_; rintro e wb ⟨rfl, bb⟩; rw [hd]; have HB := Lib.hid (HA.out.trans (bb.mono HA.out.size)); clear bb)
        | (go_at_call 8; refine (awake_any _ (HW.out.on HB.out)).mono ?_; rintro e wb ⟨rfl, bb⟩; have HBB := Lib.hid ((HB4.out.trans (HB.out.mono HB4.out.size)).trans (bb.mono (Nat.le_trans HB4.out.size HB.out.size))); clear bb))
      go_ret
      exact ⟨rfl, HBB.out⟩
end Go.Proofs.YteijijoiifbjlaaGreatDoor
