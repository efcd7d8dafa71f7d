/-
  Layer 13, eval: EvalSwap, walked. Conditions: sizes; the library's variables are as its text lays them.
-/
import Derived.Test.YteijijoiifbjlaaGreatDoorESwR
import Derived.Test.YteijijoiifbjlaaGreatDoorESwM
import Derived.Test.YteijijoiifbjlaaGreatDoorECal
import Derived.Test.YteijijoiifbjlaaGreatDoorEOpX
import Derived.Test.YteijijoiifbjlaaGreatDoorEFew
import Derived.Test.YteijijoiifbjlaaGreatDoorEAwk
import Derived.Deep.CutRange
namespace Go.Proofs.YteijijoiifbjlaaGreatDoor
open Go.ChangeShapes Go.WideShapes Go.ChangeAt Go.RowKit
set_option linter.unusedVariables false
set_option linter.unusedSimpArgs false
set_option maxRecDepth 100000

theorem envT_of {x : EnvM} (hf : fewX x) (h0 : ∀ r ∈ x.rows, OkTs r) (h1 : OkTs x.keys) (h2 : OkTs x.totals) (h3 : OkTs x.binds) : EnvOk x ∧ EnvT x := by
  obtain ⟨f1, f2⟩ := hf
  have g : ∀ l ∈ listsX x, l.length ≤ 1000 := fun l hl => by have := (f2 l hl).1; omega
  have q : ∀ l ∈ listsX x, OkTs l → ∀ t ∈ l, OkT t := fun l hl ho t ht => ⟨(ho t ht).1, by have := (f2 l hl).2 t ht; omega⟩
  have m0 : ∀ r ∈ x.rows, r ∈ listsX x := fun r hr => by simp [listsX, hr]
  have m1 : x.keys ∈ listsX x := by simp [listsX]
  have m2 : x.totals ∈ listsX x := by simp [listsX]
  have m3 : x.binds ∈ listsX x := by simp [listsX]
  exact ⟨⟨by omega, fun r hr => g r (m0 r hr), g _ m1, g _ m2, g _ m3⟩, ⟨fun r hr => q r (m0 r hr) (h0 r hr), q _ m1 h1, q _ m2 h2, q _ m3 h3⟩⟩
theorem fitL_small {l : List Ee} (ho : OkEL l) (hs : smallB l = true) : FitL l := (fit_small (fun s m hm _ => call_ok s m hm) _ 60 500 l (Nat.le_refl _) ho hs (by omega) (by omega)).1
theorem fit_op2 (g : ByteArray) {e1 e2 : Ee} (h1 : Fit e1) (h2 : Fit e2) : Fit (.mk 7 g ⟨#[]⟩ 0 0 [e1, e2]) := fit_mk _ _ _ _ _ (by decide) (by decide) (by simp) fun e he => by
  simp only [List.mem_cons, List.not_mem_nil, or_false] at he
  rcases he with rfl | rfl
  · exact h1
  · exact h2
theorem fit_op1 (g : ByteArray) {e1 : Ee} (h1 : Fit e1) : Fit (.mk 7 g ⟨#[]⟩ 0 0 [e1]) := fit_mk _ _ _ _ _ (by decide) (by decide) (by simp) fun e he => by
  simp only [List.mem_cons, List.not_mem_nil, or_false] at he
  subst he
  exact h1
theorem EvOn.on {w0 w : World} {x : EnvM} {e : Ee} {r : Rv} (h : EvOn w0 x e r) (hb : Below w0.heap.size w0 w) : EvOn w x e r := fun w' v xv hb' hv hx => h w' v xv (hb.trans (hb'.mono hb.size)) hv hx
theorem EnvW.on {w w' : World} {x : EnvM} {Ar : Option Addr} {cr : Nat} {Ak : Option Addr} {ck : Nat} {At : Option Addr} {ct : Nat} {Ab : Option Addr} {cb : Nat} (h : EnvW w x Ar cr Ak ck At ct Ab cb) (hb : Below w.heap.size w w') : EnvW w' x Ar cr Ak ck At ct Ab cb :=
  ⟨h.rows.on hb, h.keys.on hb, h.totals.on hb, h.binds.on hb, h.nil⟩
theorem EnvW.v {w : World} {x : EnvM} {Ar : Option Addr} {cr : Nat} {Ak : Option Addr} {ck : Nat} {At : Option Addr} {ct : Nat} {Ab : Option Addr} {cb : Nat} (h : EnvW w x Ar cr Ak ck At ct Ab cb) : EnvV w x (.agg (envC x Ar cr Ak ck At ct Ab cb)) := ⟨Ar, cr, Ak, ck, At, ct, Ab, cb, rfl, h.rows, h.keys, h.totals, h.binds⟩
/-- two expressions side by side in a new block -/
abbrev cells12 (k1 : Int) (s1 t1 : ByteArray) (n1 a1 : Int) (A1 : Option Addr) (l1 p1 : Nat) (k2 : Int) (s2 t2 : ByteArray) (n2 a2 : Int) (A2 : Option Addr) (l2 p2 : Nat) : Obj :=
  .cells #[.int .u8 k1, .string s1, .string t1, .int .i64 n1, .int .i64 a1, .slice A1 l1 p1, .int .u8 k2, .string s2, .string t2, .int .i64 n2, .int .i64 a2, .slice A2 l2 p2] 25
def EvR (w : World) (r : Rv) (e : Ending) (w' : World) : Prop := RetV (vT r.1) r.2 w e w'
/-- an expression's six cells in its box -/
abbrev ecell (w : World) (p : Nat) (k : Int) (s t : ByteArray) (n a : Int) (A : Option Addr) (l c : Nat) : Prop := ECell w p 0 k s t n a A l c
abbrev swArr : Value := .agg #[.string ⟨#[43]⟩, .string ⟨#[43]⟩, .string ⟨#[42]⟩, .string ⟨#[42]⟩, .string ⟨#[61]⟩, .string ⟨#[61]⟩, .string ⟨#[60, 62]⟩, .string ⟨#[60, 62]⟩, .string ⟨#[60]⟩, .string ⟨#[62]⟩, .string ⟨#[60, 61]⟩, .string ⟨#[62, 61]⟩, .string ⟨#[97, 110, 100]⟩, .string ⟨#[97, 110, 100]⟩, .string ⟨#[111, 114]⟩, .string ⟨#[111, 114]⟩]
theorem sw_index (j : Nat) (hj : j < 8) : ∃ g g', (g, g') ∈ swapL ∧ ∀ W, (Instr.index 44 swArr (.int .i64 (j : Int))).run Tryz.prog W = .ok (.agg #[.string g, .string g']) W := by
  have hc : j = 0 ∨ j = 1 ∨ j = 2 ∨ j = 3 ∨ j = 4 ∨ j = 5 ∨ j = 6 ∨ j = 7 := by omega
  rcases hc with rfl | rfl | rfl | rfl | rfl | rfl | rfl | rfl
  · exact ⟨sAdd, sAdd, by simp [swapL], fun W => by kernel_rfl⟩
  · exact ⟨sMul, sMul, by simp [swapL], fun W => by kernel_rfl⟩
  · exact ⟨sEq, sEq, by simp [swapL], fun W => by kernel_rfl⟩
  · exact ⟨sNe, sNe, by simp [swapL], fun W => by kernel_rfl⟩
  · exact ⟨sLt, sGt, by simp [swapL], fun W => by kernel_rfl⟩
  · exact ⟨sLe, sGe, by simp [swapL], fun W => by kernel_rfl⟩
  · exact ⟨sAnd, sAnd, by simp [swapL], fun W => by kernel_rfl⟩
  · exact ⟨sOr, sOr, by simp [swapL], fun W => by kernel_rfl⟩
def SwRel (w : World) (i : Value) (wr : World) : Prop := ∃ j : Nat, j ≤ 8 ∧ i = .int .i64 (j : Int) ∧ Below w.heap.size w wr
set_option maxHeartbeats 4000000 in
theorem swap_walk (e1 e2 : Ee) (x : EnvM) (k1 : Int) (s1 t1 : ByteArray) (n1 a1 : Int) (A1 : Option Addr) (l1 p1 : Nat) (k2 : Int) (s2 t2 : ByteArray) (n2 a2 : Int) (A2 : Option Addr) (l2 p2 : Nat) (Ar : Option Addr) (cr : Nat) (Ak : Option Addr) (ck : Nat) (At : Option Addr) (ct : Nat) (Ab : Option Addr) (cb : Nat) (w : World) (hW : Wd w)
    (h1 : ExV w e1 (exprV k1 s1 t1 n1 a1 A1 l1 p1)) (h2 : ExV w e2 (exprV k2 s2 t2 n2 a2 A2 l2 p2)) (ho1 : OkE e1) (ho2 : OkE e2) (hX : EnvW w x Ar cr Ak ck At ct Ab cb) (hx0 : ∀ r ∈ x.rows, OkTs r) (hx1 : OkTs x.keys) (hx2 : OkTs x.totals) (hx3 : OkTs x.binds) :
    Calls Tryz.prog 4 #[exprV k1 s1 t1 n1 a1 A1 l1 p1, exprV k2 s2 t2 n2 a2 A2 l2 p2, .agg (envC x Ar cr Ak ck At ct Ab cb)] w fun e w' => e = .returned (.bool true) ∧ Below w.heap.size w w' := by
  have hok : OkEL [e1, e2] := by simp only [OkEL]; exact ⟨ho1, ho2, trivial⟩
  have HOK := Lib.hid hok
  have HOX := Lib.hid (And.intro hx0 (And.intro hx1 (And.intro hx2 hx3)))
  obtain ⟨w3, hw3⟩ : ∃ X, ((w.alloc (.cells #[.int .u8 k1, .string s1, .string t1, .int .i64 n1, .int .i64 a1, .slice A1 l1 p1] 25)).alloc (.cells #[.int .u8 k2, .string s2, .string t2, .int .i64 n2, .int .i64 a2, .slice A2 l2 p2] 25)).alloc (.cells (envC x Ar cr Ak ck At ct Ab cb) 29) = X := ⟨_, rfl⟩
  have hal : Below w.heap.size w w3 := by rw [← hw3]; exact (((Below.refl _ _).alloc (Nat.le_refl _) _).alloc (by simp) _).alloc (by simp; omega) _
  have hsz : w3.heap.size = w.heap.size + 3 := by rw [← hw3]; simp
  have hc1 : ECell w3 w.heap.size 0 k1 s1 t1 n1 a1 A1 l1 p1 := by rw [← hw3]; refine ⟨?_, ?_, ?_, ?_, ?_, ?_⟩ <;> simp [go_sem]
  have hc2 : ECell w3 (w.heap.size + 1) 0 k2 s2 t2 n2 a2 A2 l2 p2 := by rw [← hw3]; refine ⟨?_, ?_, ?_, ?_, ?_, ?_⟩ <;> simp [go_sem]
  have hc3 : X4 w3 (w.heap.size + 1 + 1) (.slice Ar x.rows.length cr) (.slice Ak x.keys.length ck) (.slice At x.totals.length ct) (.slice Ab x.binds.length cb) := by rw [← hw3]; refine ⟨?_, ?_, ?_, ?_⟩ <;> simp [go_sem]
  obtain ⟨w4, hw4⟩ : ∃ X, w3.alloc (cells12 k1 s1 t1 n1 a1 A1 l1 p1 k2 s2 t2 n2 a2 A2 l2 p2) = X := ⟨_, rfl⟩
  have hal4 : Below w3.heap.size w3 w4 := by rw [← hw4]; exact (Below.refl _ _).alloc (Nat.le_refl _) _
  have hal34 : Below w.heap.size w w4 := hal.trans (hal4.mono hal.size)
  have hk : ExK w4 [e1, e2] (some ⟨w3.heap.size, 0, none⟩) := exk_two (h1.on hal34) (h2.on hal34) (by rw [← hw4]; exact heap_new _ _)
  have HS := Lib.hid (show Calls Tryz.prog 6 #[.slice (some ⟨w3.heap.size, 0, none⟩) 2 2] w4 (fun e w' => e = .returned (.bool (smallB [e1, e2])) ∧ Below w4.heap.size w4 w') from Small_any [e1, e2] (some ⟨w3.heap.size, 0, none⟩) 2 w4 hk hok (by simp [maxLen]))
  have HC1 := Lib.hid (hc1.on hal4)
  have HC2 := Lib.hid (hc2.on hal4)
  have HC3 := Lib.hid (hc3.on hal4)
  have HE1 := Lib.hid (h1.on hal34)
  have HE2 := Lib.hid (h2.on hal34)
  have HX := Lib.hid (hX.on hal34)
  have HW := Lib.hid (hW.on hal34)
  have HB4 := Lib.hid hal34
  obtain ⟨y0, y1, y2, y3, y4, y5⟩ := hc1
  obtain ⟨z0, z1, z2, z3, z4, z5⟩ := hc2
  obtain ⟨x0, x1, x2, x3⟩ := hc3
  simp only [Nat.zero_add] at y0 y1 y2 y3 y4 y5 z0 z1 z2 z3 z4 z5
  clear h1 h2 hX hx0 hx1 hx2 hx3 hok ho1 ho2 hW hk hal hal4 hal34
  generalize hsm : smallB [e1, e2] = sm at HS
  have HSM := Lib.hid hsm
  clear hsm
  go_enter Tryz.func4, Tryz.ntmps4
  go_upto_region 1 with (fail)
  clear hw3
  have HS3 : Hid (w3.heap.size = w.heap.size + 3) := Lib.hid hsz
  clear hsz
  cases sm
  · go_wp2_with (first
      | ((with_reducible refine HS.out.mono ?_); rintro e wa ⟨rfl, ba⟩; have HA := Lib.hid ba; have HBA := Lib.hid (HB4.out.trans (ba.mono HB4.out.size)); clear ba)
      | (go_at_call 8; refine (awake_any _ (HW.out.on HA.out)).mono ?_; rintro e wb ⟨rfl, bb⟩; have HBB := Lib.hid (HBA.out.trans (bb.mono HBA.out.size)); clear bb))
    go_ret
    exact ⟨rfl, HBB.out⟩
  · by_cases hfew : fewX x
    · have HFW := Lib.hid hfew
      have hd := decide_eq_true hfew
      go_upto_region 3 with (first
        | ((with_reducible refine HS.out.mono ?_); rintro e wa ⟨rfl, ba⟩; have HA := Lib.hid ba; have HBA := Lib.hid (HB4.out.trans (ba.mono HB4.out.size)); clear x0 x1 x2 x3; obtain ⟨x0, x1, x2, x3⟩ := HC3.out.on ba; clear ba)
        | (go_at_call 7; refine (few_any x Ar cr Ak ck At ct Ab cb _ (HX.out.on HA.out)).mono ?_; rintro e wb ⟨rfl, bb⟩; rw [hd]; have HB := Lib.hid (HA.out.trans (bb.mono HA.out.size)); clear bb))
      clear hw4 y0 y1 y2 y3 y4 y5 z0 z1 z2 z3 z4 z5 x0 x1 x2 x3 hd HS hfew
      have HWB := Lib.hid (HW.out.on HB.out)
      have HBB := Lib.hid (HB4.out.trans (HB.out.mono HB4.out.size))
      obtain ⟨hxo, hxt⟩ := envT_of HFW.out HOX.out.1 HOX.out.2.1 HOX.out.2.2.1 HOX.out.2.2.2
      have hfit := fitL_small HOK.out HSM.out
      simp only [FitL, and_true] at hfit
      obtain ⟨hf1, hf2⟩ := hfit
      obtain ⟨⟨⟨ka, na, sa⟩, ea⟩, hra⟩ : ∃ r, evX x e1 = r := ⟨_, rfl⟩
      obtain ⟨⟨⟨kb, nb, sb⟩, eb⟩, hrb⟩ : ∃ r, evX x e2 = r := ⟨_, rfl⟩
      have HV1 := Lib.hid (evOn_of HWB.out hxo hxt hf1 hra)
      have HV2 := Lib.hid (evOn_of HWB.out hxo hxt hf2 hrb)
      have HVX : Hid (∀ e r, Fit e → evX x e = r → EvOn wb x e r) := Lib.hid fun e r hf hr => evOn_of HWB.out hxo hxt hf hr
      have HRA := Lib.hid hra
      have HRB := Lib.hid hrb
      have HF := Lib.hid (And.intro hf1 hf2)
      have HD1 := Lib.hid (HC1.out.on HB.out)
      have HD2 := Lib.hid (HC2.out.on HB.out)
      have HD3 := Lib.hid (HC3.out.on HB.out)
      have HG1 := Lib.hid (HE1.out.on HB.out)
      have HG2 := Lib.hid (HE2.out.on HB.out)
      have HGX := Lib.hid ((HX.out.on HB.out).v)
      have HN1 := Lib.hid (HV1.out wb _ _ (Below.refl _ _) HG1.out HGX.out)
      obtain ⟨y0, y1, y2, y3, y4, y5⟩ := HD1.out
      obtain ⟨x0, x1, x2, x3⟩ := HD3.out
      simp only [Nat.zero_add] at y0 y1 y2 y3 y4 y5
      clear hra hrb hf1 hf2 HA HBA HC1 HC2 HC3 HE1 HE2 HW
      go_upto_region 4 with (go_at_call 10; (with_reducible refine HN1.out.mono ?_); rintro e wc ⟨rfl, bc⟩; have HBC := Lib.hid bc; clear bc)
      obtain ⟨w6, hw6⟩ : ∃ X, wc.alloc (.cells #[.int .u8 ka, .int .i64 na, .string sa] 38) = X := ⟨_, rfl⟩
      have hb6 : Below wb.heap.size wb w6 := by rw [← hw6]; exact HBC.out.alloc HBC.out.size _
      rw [hw6]
      have HB6 := Lib.hid hb6
      have HN2 := Lib.hid (HV2.out w6 _ _ hb6 (HG2.out.on hb6) (HGX.out.on hb6))
      clear y0 y1 y2 y3 y4 y5 x0 x1 x2 x3
      obtain ⟨y0, y1, y2, y3, y4, y5⟩ := HD2.out.on hb6
      obtain ⟨x0, x1, x2, x3⟩ := HD3.out.on hb6
      simp only [Nat.zero_add] at y0 y1 y2 y3 y4 y5
      clear hw6 hb6 HBC HN1
      by_cases hea : ea = 0
      · by_cases heb : eb = 0
        · subst hea heb
          go_upto_region 5 with (go_at_call 10; (with_reducible refine HN2.out.mono ?_); rintro e wc ⟨rfl, bc⟩; have HBC := Lib.hid bc; clear bc)
          obtain ⟨w7, hw7⟩ : ∃ X, wc.alloc (.cells #[.int .u8 kb, .int .i64 nb, .string sb] 38) = X := ⟨_, rfl⟩
          have hb7 : Below wb.heap.size wb w7 := by rw [← hw7]; exact HB6.out.trans ((HBC.out.alloc HBC.out.size _).mono HB6.out.size)
          rw [hw7]
          have HB7 := Lib.hid hb7
          have HBX : Hid (EBx w7 w.heap.size e1) := Lib.hid ⟨k1, s1, t1, n1, a1, A1, l1, p1, HD1.out.on hb7, HG1.out.on hb7⟩
          have HBY : Hid (EBx w7 (w.heap.size + 1) e2) := Lib.hid ⟨k2, s2, t2, n2, a2, A2, l2, p2, HD2.out.on hb7, HG2.out.on hb7⟩
          have HBZ : Hid (XBx w7 (w.heap.size + 1 + 1) x) := Lib.hid ⟨_, _, _, _, HD3.out.on hb7, HGX.out.on hb7⟩
          clear hw7 hb7 HBC HN2 y0 y1 y2 y3 y4 y5 x0 x1 x2 x3 HG1 HG2 HGX HD1 HD2 HD3 HV1 HV2
          go_wp2_with fail
          generalize hp3 : w.heap.size = p3 at HBX HBY HBZ ⊢
          generalize hp4 : p3 + 1 = p4 at HBY HBZ ⊢
          generalize hp5 : p4 + 1 = p5 at HBZ ⊢
          clear hp4 hp5
          go_loopw [60] (fun i wr => SwRel w7 i wr) (fun i _ => 8 - (intOf i).toNat)
          case atStart => exact ⟨0, by omega, rfl, Below.refl _ _⟩
          case round =>
            obtain ⟨j, hj, rfl, hb⟩ := hrel
            by_cases hlt : j < 8
            · obtain ⟨g, g', hgg, hrun⟩ := sw_index j hlt
              have q1 : (j : Int) < 8 := by omega
              have q2 : (0 : Int) ≤ (j : Int) := by omega
              have HJ := Lib.hid hlt
              have HR := Lib.hid hb
              have HGG := Lib.hid hgg
              clear hlt hj hb hgg
              go_upto_region 10 with (fail)
              obtain ⟨wa, hwa⟩ : ∃ X, wr.alloc (.cells #[.string g, .string g'] 43) = X := ⟨_, rfl⟩
              have hba : Below wr.heap.size wr wa := by rw [← hwa]; exact (Below.refl _ _).alloc (Nat.le_refl _) _
              have hs0 : SBx wa wr.heap.size 0 g := by rw [← hwa]; unfold SBx; simp [go_sem]
              have hs1 : SBx wa wr.heap.size 1 g' := by rw [← hwa]; unfold SBx; simp [go_sem]
              rw [hwa]
              have HRA2 := Lib.hid (HR.out.trans (hba.mono HR.out.size))
              have HS1 := Lib.hid hs1
              obtain ⟨⟨⟨kr, nr, sr⟩, er⟩, hr⟩ : ∃ r, opX g (ka, na, sa) (kb, nb, sb) = r := ⟨_, rfl⟩
              have hr2 : opX g' (kb, nb, sb) (ka, na, sa) = ((kr, nr, sr), er) := by rw [← op_swap HGG.out]; exact hr
              have HEV1 : Hid (EvOn wa x (.mk 7 g ⟨#[]⟩ 0 0 [e1, e2]) ((kr, nr, sr), er)) := Lib.hid ((HVX.out _ _ (fit_op2 g HF.out.1 HF.out.2) (by rw [ev_op2 x g HRA.out HRB.out]; exact hr)).on (HB7.out.trans (HRA2.out.mono HB7.out.size)))
              have HEV2 : Hid (EvOn wa x (.mk 7 g' ⟨#[]⟩ 0 0 [e2, e1]) ((kr, nr, sr), er)) := Lib.hid ((HVX.out _ _ (fit_op2 g' HF.out.2 HF.out.1) (by rw [ev_op2 x g' HRB.out HRA.out]; exact hr2)).on (HB7.out.trans (HRA2.out.mono HB7.out.size)))
              generalize wr.heap.size = p12 at hs0 HS1 ⊢
              clear hwa hba hs1 hr hr2 hrun
              refine region_asE (ops' := sw10Ops) (by kernel_rfl) ?_
              refine sw10 x p3 p4 p5 e1 e2 ((kr, nr, sr), er) p12 g (HBX.out.on HRA2.out) (HBY.out.on HRA2.out) (HBZ.out.on HRA2.out) hs0 HEV1.out rfl rfl rfl rfl rfl ?_
              intro V1 q13 X1 hb1 hV1 _ _ hbx1 hU1
              rw [sw10_fill V1, hV1, hU1]
              have HX1 := Lib.hid (HRA2.out.trans (hb1.mono HRA2.out.size))
              have HBX1 := Lib.hid hbx1
              have HS2 := Lib.hid (HS1.out.on hb1)
              have HEV3 := Lib.hid (HEV2.out.on hb1)
              clear hb1 hbx1 hV1 hU1 hs0 HS1 HEV1 HEV2 HRA2
              go_upto_region 11 with (fail)
              refine region_asE (ops' := sw11Ops) (by kernel_rfl) ?_
              refine sw11 x p3 p4 p5 e1 e2 ((kr, nr, sr), er) p12 g' (HBX.out.on HX1.out) (HBY.out.on HX1.out) (HBZ.out.on HX1.out) HS2.out HEV3.out rfl rfl rfl rfl rfl ?_
              intro V2 q15 X2 hb2 hV2 _ _ hbx2 hU2
              rw [sw11_fill V2, hV2, hU2]
              have HX2 := Lib.hid (HX1.out.trans (hb2.mono HX1.out.size))
              obtain ⟨⟨c0, c1, c2⟩, -⟩ := HBX1.out.on hb2
              obtain ⟨⟨d0, d1, d2⟩, -⟩ := hbx2
              clear hb2 hV2 hU2 HBX1 HS2 HEV3 HX1
              go_wp2_with fail
              have hw : wrap64 ((j : Int) + 1) = (j : Int) + 1 := by
                have := HJ.out
                unfold wrap64
                omega
              exact ⟨⟨j + 1, by have := HJ.out; omega, by go_num, HX2.out⟩, by have := HJ.out; simp [intOf, hw]; omega⟩
            · have q1 : ¬ (j : Int) < 8 := by omega
              have HR := Lib.hid hb
              clear hlt hj hb
              go_upto_region 15 with (fail)
              obtain ⟨⟨⟨kr, nr, sr⟩, er⟩, hr⟩ : ∃ r, opX sNe (ka, na, sa) (kb, nb, sb) = r := ⟨_, rfl⟩
              have HEV1 : Hid (EvOn wr x (.mk 7 ⟨#[110, 111, 116]⟩ ⟨#[]⟩ 0 0 [.mk 7 ⟨#[61]⟩ ⟨#[]⟩ 0 0 [e1, e2]]) ((kr, nr, sr), er)) := Lib.hid ((HVX.out _ _ (fit_op1 _ (fit_op2 _ HF.out.1 HF.out.2)) (by rw [← hr]; exact not_eq_ne x HRA.out HRB.out)).on (HB7.out.trans (HR.out.mono HB7.out.size)))
              have HEV2 : Hid (EvOn wr x (.mk 7 ⟨#[60, 62]⟩ ⟨#[]⟩ 0 0 [e1, e2]) ((kr, nr, sr), er)) := Lib.hid ((HVX.out _ _ (fit_op2 _ HF.out.1 HF.out.2) (by rw [← hr]; exact ev_op2 x sNe HRA.out HRB.out)).on (HB7.out.trans (HR.out.mono HB7.out.size)))
              clear hr
              refine region_asE (ops' := sw15Ops) (by kernel_rfl) ?_
              refine sw15 x p3 p4 p5 e1 e2 ((kr, nr, sr), er) (HBX.out.on HR.out) (HBY.out.on HR.out) (HBZ.out.on HR.out) HEV1.out rfl rfl rfl rfl ?_
              intro V1 q17 X1 hb1 hV1 _ _ hbx1 hU1
              rw [sw15_fill V1, hV1, hU1]
              have HX1 := Lib.hid (HR.out.trans (hb1.mono HR.out.size))
              have HBX1 := Lib.hid hbx1
              have HEV3 := Lib.hid (HEV2.out.on hb1)
              clear hb1 hbx1 hV1 hU1 HEV1 HEV2
              go_upto_region 16 with (fail)
              refine region_asE (ops' := sw16Ops) (by kernel_rfl) ?_
              refine sw16 x p3 p4 p5 e1 e2 ((kr, nr, sr), er) (HBX.out.on HX1.out) (HBY.out.on HX1.out) (HBZ.out.on HX1.out) HEV3.out rfl rfl rfl rfl ?_
              intro V2 q19 X2 hb2 hV2 _ _ hbx2 hU2
              rw [sw16_fill V2, hV2, hU2]
              have HX2 := Lib.hid (HB7.out.trans ((HX1.out.trans (hb2.mono HX1.out.size)).mono HB7.out.size))
              obtain ⟨⟨c0, c1, c2⟩, -⟩ := HBX1.out.on hb2
              obtain ⟨⟨d0, d1, d2⟩, -⟩ := hbx2
              clear hb2 hV2 hU2 HBX1 HEV3 HX1
              have HFin := Lib.hid (HBB.out.trans (HX2.out.mono HBB.out.size))
              go_wp2_with (go_at_call 8; refine (awake_any _ (HWB.out.on HX2.out)).mono ?_; rintro e wz ⟨rfl, bz⟩; have HZ := Lib.hid (HFin.out.trans (bz.mono HFin.out.size)); clear bz)
              go_ret
              exact ⟨rfl, HZ.out⟩
        · have q : (eb == 0) = false := by simpa using heb
          have q' : (eb != 0) = true := by simpa using heb
          subst hea
          go_wp2_with (first
            | (go_at_call 10; (with_reducible refine HN2.out.mono ?_); rintro e wc ⟨rfl, bc⟩; have HBC := Lib.hid (HB6.out.trans (bc.mono HB6.out.size)); clear bc)
            | (go_at_call 8; refine (awake_any _ (HWB.out.on (HBC.out.alloc HBC.out.size _))).mono ?_; rintro e wz ⟨rfl, bz⟩; have HZ := Lib.hid ((HBB.out.trans ((HBC.out.alloc HBC.out.size _).mono HBB.out.size)).trans (bz.mono (Nat.le_trans HBB.out.size (Nat.le_trans HBC.out.size (by simp))))); clear bz))
          go_ret
          exact ⟨rfl, HZ.out⟩
      · have q : (ea == 0) = false := by simpa using hea
        have q' : (ea != 0) = true := by simpa using hea
        go_wp2_with (first
          | (go_at_call 10; (with_reducible refine HN2.out.mono ?_); rintro e wc ⟨rfl, bc⟩; have HBC := Lib.hid (HB6.out.trans (bc.mono HB6.out.size)); clear bc)
          | (go_at_call 8; refine (awake_any _ (HWB.out.on (HBC.out.alloc HBC.out.size _))).mono ?_; rintro e wz ⟨rfl, bz⟩; have HZ := Lib.hid ((HBB.out.trans ((HBC.out.alloc HBC.out.size _).mono HBB.out.size)).trans (bz.mono (Nat.le_trans HBB.out.size (Nat.le_trans HBC.out.size (by simp))))); clear bz))
        go_ret
        exact ⟨rfl, HZ.out⟩
    · have hd := decide_eq_false hfew
      go_wp2_with (first
        | ((with_reducible refine HS.out.mono ?_); rintro e wa ⟨rfl, ba⟩; have HA := Lib.hid ba; have HBA := Lib.hid (HB4.out.trans (ba.mono HB4.out.size)); clear x0 x1 x2 x3; obtain ⟨x0, x1, x2, x3⟩ := HC3.out.on ba; clear ba)
        | (go_at_call 7; refine (few_any x Ar cr Ak ck At ct Ab cb _ (HX.out.on HA.out)).mono ?_; rintro e wb ⟨rfl, bb⟩; rw [hd]; have HB := Lib.hid (HA.out.trans (bb.mono HA.out.size)); clear bb)
        | (go_at_call 8; refine (awake_any _ (HW.out.on HB.out)).mono ?_; rintro e wb ⟨rfl, bb⟩; have HBB := Lib.hid ((HB4.out.trans (HB.out.mono HB4.out.size)).trans (bb.mono (Nat.le_trans HB4.out.size HB.out.size))); clear bb))
      go_ret
      exact ⟨rfl, HBB.out⟩
end Go.Proofs.YteijijoiifbjlaaGreatDoor
