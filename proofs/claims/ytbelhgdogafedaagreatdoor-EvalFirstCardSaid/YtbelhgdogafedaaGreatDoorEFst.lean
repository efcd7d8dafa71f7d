/-
  Layer 13, eval: EvalFirst: its closure, its expressions. Conditions: the library's variables are as its text lays them.
  Layer 13, eval: EvalFirst, walked. Conditions: the library's variables are as its text lays them.
-/
import Derived.Test.YtbelhgdogafedaaGreatDoorEAwk
namespace Go.Proofs.YtbelhgdogafedaaGreatDoor
open Go.ChangeShapes Go.WideShapes Go.ChangeAt Go.RowKit
set_option linter.unusedVariables false
set_option maxRecDepth 100000

abbrev maxI : Int := 9223372036854775807
abbrev eOver : Ee := .mk 7 sAdd ⟨#[]⟩ 0 0 [lf 2 maxI, lf 2 1]
abbrev eNone : Ee := .mk 6 ⟨#[97]⟩ ⟨#[]⟩ 0 0 []
/-- the three of them, by the rest by three -/
def selE (q : Int) : Ee := if q = 0 then lf 2 5 else if q = 1 then eOver else eNone
def selR (q : Int) : Int := if q = 0 then 0 else if q = 1 then 20 else 130
theorem ev_over : evX env0 eOver = (nulT, 20) := by
  simp only [evX]
  rw [if_pos (by simp [mayB]), evL2 _ (ev_num _ maxI) (ev_num _ 1)]
  simp only [toldX]
  simp
  rw [opX_two mem_add (RtT_int _) (RtT_int _) (by simp), twoX_add, if_neg (by decide)]
theorem ev_none : evX env0 eNone = (nulT, 130) := by simp [evX, mayB]
theorem ev_sel (q : Int) : (evX env0 (selE q)).2 = selR q ∧ (selR q = 0 → (evX env0 (selE q)).1 = intT 5) := by
  unfold selE selR
  by_cases h : q = 0
  · rw [if_pos h, if_pos h, ev_num]; exact ⟨rfl, fun _ => rfl⟩
  · rw [if_neg h, if_neg h]
    by_cases h1 : q = 1
    · rw [if_pos h1, if_pos h1, ev_over]; exact ⟨rfl, fun h => absurd h (by decide)⟩
    · rw [if_neg h1, if_neg h1, ev_none]; exact ⟨rfl, fun h => absurd h (by decide)⟩
theorem fit_over : Fit eOver := fit_mk _ _ _ _ _ (by decide) (by decide) (by simp) (fun e he => by simp at he; rcases he with rfl | rfl <;> exact fit_lf _ _ (by decide) (by decide))
theorem fit_sel (q : Int) : Fit (selE q) := by
  unfold selE
  split
  · exact fit_lf _ _ (by decide) (by decide)
  · split
    · exact fit_over
    · exact fit_mk _ _ _ _ _ (by decide) (by decide) (by simp) (by simp)
/-- what counts of two -/
def want2 (q r : Int) : Int := if selR q = 0 then selR r else selR q
theorem ev_two (q r : Int) : evX env0 (.mk 7 sLt ⟨#[]⟩ 0 0 [selE q, selE r]) = (if want2 q r = 0 then flagT false else nulT, want2 q r) := by
  obtain ⟨a1, a2⟩ := ev_sel q
  obtain ⟨b1, b2⟩ := ev_sel r
  simp only [evX]
  rw [if_pos (by simp [mayB])]
  by_cases h : selR q = 0
  · by_cases h2 : selR r = 0
    · have hq : evX env0 (selE q) = (intT 5, 0) := Prod.ext (a2 h) (a1.trans h)
      have hr : evX env0 (selE r) = (intT 5, 0) := Prod.ext (b2 h2) (b1.trans h2)
      rw [evL2 _ hq hr]
      have hw : want2 q r = 0 := by unfold want2; rw [if_pos h]; exact h2
      rw [hw]
      simp [toldX]
      rw [opX_two mem_lt (RtT_int _) (RtT_int _) (by simp), twoX_lt]
      simp [cmpT, cmpV, cmp3]
    · have hw : want2 q r = selR r := by unfold want2; rw [if_pos h]
      have hL : (evL env0 [selE q, selE r]).2 = selR r := by
        simp only [evL]
        rw [if_pos (a1.trans h), b1, if_neg h2]
      rw [hL, if_neg h2, hw, if_neg h2]
  · have hw : want2 q r = selR q := by unfold want2; rw [if_neg h]
    have hL : (evL env0 [selE q, selE r]).2 = selR q := by
      simp only [evL]
      rw [a1, if_neg h]
    rw [hL, if_neg h, hw, if_neg h]
theorem ev_three : evX env0 (.mk 7 sLt ⟨#[]⟩ 0 0 [eOver, eOver, eOver]) = (nulT, 130) := by simp [evX, mayB]

/-- what the closure tells -/
def SelRet (q : Int) (w : World) (e : Ending) (w' : World) : Prop := ∃ k s n A l c, e = .returned (.tuple #[exprV k s ⟨#[]⟩ n 0 A l c, .int .i64 (selR q)]) ∧ ExV w' (selE q) (exprV k s ⟨#[]⟩ n 0 A l c) ∧ Below w.heap.size w w'
theorem which_any (n : Int) (hn : 0 ≤ n ∧ n ≤ 255) (p5 p6 bo : Nat) (w : World) (h5 : ECell w p5 0 7 sAdd ⟨#[]⟩ 0 0 (some ⟨bo, 0, none⟩) 2 2) (hK : ExK w [lf 2 maxI, lf 2 1] (some ⟨bo, 0, none⟩)) (h6 : ECell w p6 0 6 ⟨#[97]⟩ ⟨#[]⟩ 0 0 none 0 0) :
    Calls Tryz.prog 18 #[.int .u8 n, .pointer (some ⟨p5, 0, none⟩), .pointer (some ⟨p6, 0, none⟩)] w (SelRet (n % 3) w) := by
  have hm : n.tmod 3 = n % 3 := Int.tmod_eq_emod_of_nonneg hn.1
  have hm0 := Int.emod_nonneg n (show (3 : Int) ≠ 0 by decide)
  have hm1 := Int.emod_lt_of_pos n (show (0 : Int) < 3 by decide)
  obtain ⟨w1, hw1⟩ : ∃ X, w.alloc (.cells #[.int .u8 0, .string ⟨#[]⟩, .string ⟨#[]⟩, .int .i64 0, .int .i64 0, .slice none 0 0] 25) = X := ⟨_, rfl⟩
  have hal : Below w.heap.size w w1 := by rw [← hw1]; exact (Below.refl _ _).alloc (Nat.le_refl _) _
  have hnw : ECell w1 w.heap.size 0 0 ⟨#[]⟩ ⟨#[]⟩ 0 0 none 0 0 := by rw [← hw1]; exact ecell_new _ _ _ _ _ _ _ _ _
  have hfz : ∀ X, Below w1.heap.size w1 X → ∀ j, j < 6 → X.frozen? ⟨w.heap.size, j, none⟩ = false := by
    intro X hX j hj
    obtain ⟨hc, hf⟩ := bcell hX
    rw [hf _ _ (block_lt_of_cell hnw.1), ← hw1]
    match j, hj with
    | 0, _ => simp [go_sem]
    | 1, _ => simp [go_sem]
    | 2, _ => simp [go_sem]
    | 3, _ => simp [go_sem]
    | 4, _ => simp [go_sem]
    | 5, _ => simp [go_sem]
  have h5' := h5.on hal
  have h6' := h6.on hal
  have HK := Lib.hid hK
  have HAL := Lib.hid hal
  have HNW := Lib.hid hnw
  have HFZ := Lib.hid hfz
  obtain ⟨z0, z1, z2, z3, z4, z5⟩ := hnw
  obtain ⟨c0, c1, c2, c3, c4, c5⟩ := h5'
  obtain ⟨d0, d1, d2, d3, d4, d5⟩ := h6'
  simp only [Nat.zero_add] at z0 z1 z2 z3 z4 z5 c0 c1 c2 c3 c4 c5 d0 d1 d2 d3 d4 d5
  have f0 := hfz w1 (Below.refl _ _) 0 (by omega)
  have f1 := hfz w1 (Below.refl _ _) 1 (by omega)
  have f2 := hfz w1 (Below.refl _ _) 2 (by omega)
  have f3 := hfz w1 (Below.refl _ _) 3 (by omega)
  have f4 := hfz w1 (Below.refl _ _) 4 (by omega)
  have f5 := hfz w1 (Below.refl _ _) 5 (by omega)
  clear h5 hK h6 hal hfz
  have hq : n % 3 = 0 ∨ n % 3 = 1 ∨ n % 3 = 2 := by omega
  rcases hq with hq | hq | hq
  · rw [hq] at hm ⊢
    clear hm0 hm1 hq
    go_enter Tryz.func18, Tryz.ntmps18
    go_wp2_with (go_at_call 17; refine (num_any _ _).mono ?_; rintro e wa ⟨rfl, ba⟩; clear z0 z1 z2 z3 z4 z5 f0 f1 f2 f3 f4 f5; obtain ⟨z0, z1, z2, z3, z4, z5⟩ := HNW.out.on ba; simp only [Nat.zero_add] at z0 z1 z2 z3 z4 z5; have f0 := HFZ.out wa ba 0 (by omega); have f1 := HFZ.out wa ba 1 (by omega); have f2 := HFZ.out wa ba 2 (by omega); have f3 := HFZ.out wa ba 3 (by omega); have f4 := HFZ.out wa ba 4 (by omega); have f5 := HFZ.out wa ba 5 (by omega); have HBA := Lib.hid ba; clear ba)
    have hbe : Below w.heap.size w _ := (((((((HAL.out.trans (HBA.out.mono HAL.out.size)).setCell (p := ⟨w.heap.size, 0, none⟩) (Nat.le_refl _) (.int .u8 2)).setCell (p := ⟨w.heap.size, 1, none⟩) (Nat.le_refl _) (.string ⟨#[]⟩)).setCell (p := ⟨w.heap.size, 2, none⟩) (Nat.le_refl _) (.string ⟨#[]⟩)).setCell (p := ⟨w.heap.size, 3, none⟩) (Nat.le_refl _) (.int .i64 5)).setCell (p := ⟨w.heap.size, 4, none⟩) (Nat.le_refl _) (.int .i64 0)).setCell (p := ⟨w.heap.size, 5, none⟩) (Nat.le_refl _) (.slice none 0 0))
    exact bodyPost_ret (v := .tuple #[exprV 2 ⟨#[]⟩ ⟨#[]⟩ 5 0 none 0 0, .int .i64 0]) (by simp [results, Tryz.results18, go_sem, z0, z1, z2, z3, z4, z5]) rfl ⟨2, ⟨#[]⟩, 5, none, 0, 0, rfl, lf_is _ 2 5, hbe⟩
  · rw [hq] at hm ⊢
    clear hm0 hm1 hq
    go_enter Tryz.func18, Tryz.ntmps18
    go_wp2_with fail
    have hbe : Below w.heap.size w _ := (((((((HAL.out).setCell (p := ⟨w.heap.size, 0, none⟩) (Nat.le_refl _) (.int .u8 7)).setCell (p := ⟨w.heap.size, 1, none⟩) (Nat.le_refl _) (.string sAdd)).setCell (p := ⟨w.heap.size, 2, none⟩) (Nat.le_refl _) (.string ⟨#[]⟩)).setCell (p := ⟨w.heap.size, 3, none⟩) (Nat.le_refl _) (.int .i64 0)).setCell (p := ⟨w.heap.size, 4, none⟩) (Nat.le_refl _) (.int .i64 0)).setCell (p := ⟨w.heap.size, 5, none⟩) (Nat.le_refl _) (.slice (some ⟨bo, 0, none⟩) 2 2))
    exact bodyPost_ret (v := .tuple #[exprV 7 sAdd ⟨#[]⟩ 0 0 (some ⟨bo, 0, none⟩) 2 2, .int .i64 20]) (by simp [results, Tryz.results18, go_sem, z0, z1, z2, z3, z4, z5]) rfl ⟨7, sAdd, 0, (some ⟨bo, 0, none⟩), 2, 2, rfl, (show ExV _ eOver _ by simp only [ExV]; exact ⟨_, 2, rfl, Nat.le_refl _, HK.out.on hbe⟩), hbe⟩
  · rw [hq] at hm ⊢
    clear hm0 hm1 hq
    go_enter Tryz.func18, Tryz.ntmps18
    go_wp2_with fail
    have hbe : Below w.heap.size w _ := (((((((HAL.out).setCell (p := ⟨w.heap.size, 0, none⟩) (Nat.le_refl _) (.int .u8 6)).setCell (p := ⟨w.heap.size, 1, none⟩) (Nat.le_refl _) (.string ⟨#[97]⟩)).setCell (p := ⟨w.heap.size, 2, none⟩) (Nat.le_refl _) (.string ⟨#[]⟩)).setCell (p := ⟨w.heap.size, 3, none⟩) (Nat.le_refl _) (.int .i64 0)).setCell (p := ⟨w.heap.size, 4, none⟩) (Nat.le_refl _) (.int .i64 0)).setCell (p := ⟨w.heap.size, 5, none⟩) (Nat.le_refl _) (.slice none 0 0))
    exact bodyPost_ret (v := .tuple #[exprV 6 ⟨#[97]⟩ ⟨#[]⟩ 0 0 none 0 0, .int .i64 130]) (by simp [results, Tryz.results18, go_sem, z0, z1, z2, z3, z4, z5]) rfl ⟨6, ⟨#[97]⟩, 0, none, 0, 0, rfl, (show ExV _ eNone _ by simp only [ExV]; exact ⟨none, 0, rfl, Nat.le_refl _, by simp only [ExK]⟩), hbe⟩
end Go.Proofs.YtbelhgdogafedaaGreatDoor

namespace Go.Proofs.YtbelhgdogafedaaGreatDoor
open Go.ChangeShapes Go.WideShapes Go.ChangeAt Go.RowKit
set_option linter.unusedVariables false
set_option maxRecDepth 100000

/-- an expression's parts out of its value -/
theorem exv_parts {w : World} {e : Ee} {k : Int} {s t : ByteArray} {n a : Int} {A : Option Addr} {l c : Nat} (h : ExV w e (exprV k s t n a A l c)) : ∃ kids, e = .mk k s t n a kids ∧ kids.length = l ∧ l ≤ c ∧ ExK w kids A := by
  obtain ⟨k', s', t', n', a', kids⟩ := e
  simp only [ExV] at h
  obtain ⟨A', cap, h, hc, hk⟩ := h
  simp only [Value.agg.injEq, Array.mk.injEq, List.cons.injEq, Value.int.injEq, Value.string.injEq, Value.slice.injEq, and_true, true_and] at h
  obtain ⟨rfl, rfl, rfl, rfl, rfl, rfl, rfl, rfl⟩ := h
  exact ⟨kids, rfl, rfl, hc, hk⟩
theorem exk_cons {w : World} {e : Ee} {r : List Ee} {p o : Nat} {k : Int} {s t : ByteArray} {n a : Int} {A : Option Addr} {l c : Nat} (hc : ECell w p o k s t n a A l c) (h : ExV w e (exprV k s t n a A l c)) (hr : ExK w r (some ⟨p, o + 6, none⟩)) : ExK w (e :: r) (some ⟨p, o, none⟩) := by
  obtain ⟨kids, rfl, rfl, h2, h3⟩ := exv_parts h
  simp only [ExK]
  exact ⟨p, o, rfl, ⟨A, c, hc, h2, h3⟩, hr⟩
/-- a new list of two expressions, of three -/
theorem exkB2 {w : World} {a b : Ee} {ka kb na nb : Int} {sa sb : ByteArray} {Aa Ab : Option Addr} {la ca lb cb : Nat} (ha : ExV w a (exprV ka sa ⟨#[]⟩ na 0 Aa la ca)) (hb : ExV w b (exprV kb sb ⟨#[]⟩ nb 0 Ab lb cb)) :
    ExK (w.alloc (.cells #[.int .u8 ka, .string sa, .string ⟨#[]⟩, .int .i64 na, .int .i64 0, .slice Aa la ca, .int .u8 kb, .string sb, .string ⟨#[]⟩, .int .i64 nb, .int .i64 0, .slice Ab lb cb] 25)) [a, b] (some ⟨w.heap.size, 0, none⟩) := by
  have hal : ∀ o, Below w.heap.size w (w.alloc o) := fun o => (Below.refl _ _).alloc (Nat.le_refl _) _
  refine exk_cons ?_ (ha.on (hal _)) (exk_cons ?_ (hb.on (hal _)) (by simp only [ExK]))
  · refine ⟨?_, ?_, ?_, ?_, ?_, ?_⟩ <;> simp [go_sem]
  · refine ⟨?_, ?_, ?_, ?_, ?_, ?_⟩ <;> simp [go_sem]
theorem exkB3 {w : World} {a : Ee} {ka na : Int} {sa : ByteArray} {Aa : Option Addr} {la ca : Nat} (ha : ExV w a (exprV ka sa ⟨#[]⟩ na 0 Aa la ca)) :
    ExK (w.alloc (.cells #[.int .u8 ka, .string sa, .string ⟨#[]⟩, .int .i64 na, .int .i64 0, .slice Aa la ca, .int .u8 ka, .string sa, .string ⟨#[]⟩, .int .i64 na, .int .i64 0, .slice Aa la ca, .int .u8 ka, .string sa, .string ⟨#[]⟩, .int .i64 na, .int .i64 0, .slice Aa la ca] 25)) [a, a, a] (some ⟨w.heap.size, 0, none⟩) := by
  have hal : ∀ o, Below w.heap.size w (w.alloc o) := fun o => (Below.refl _ _).alloc (Nat.le_refl _) _
  refine exk_cons ?_ (ha.on (hal _)) (exk_cons ?_ (ha.on (hal _)) (exk_cons ?_ (ha.on (hal _)) (by simp only [ExK])))
  · refine ⟨?_, ?_, ?_, ?_, ?_, ?_⟩ <;> simp [go_sem]
  · refine ⟨?_, ?_, ?_, ?_, ?_, ?_⟩ <;> simp [go_sem]
  · refine ⟨?_, ?_, ?_, ?_, ?_, ?_⟩ <;> simp [go_sem]
theorem same_nil (w : World) : Calls Tryz.prog 19 #[.slice none 0 0, .slice none 0 0] w fun e w' => e = .returned (.bool true) ∧ Below w.heap.size w w' := by
  go_enter Tryz.func19, Tryz.ntmps19
  go_wp2_with fail
  go_loopw [5] (fun x wr => x = .int .i64 0 ∧ wr = w) (fun _ _ => 0)
  case atStart => exact ⟨rfl, rfl⟩
  case round =>
    obtain ⟨rfl, rfl⟩ := hrel
    go_wp2_with fail
    go_ret
    exact ⟨rfl, Below.refl _ _⟩
def SrcNil : Prop := ∀ (W : World) (v : Value), ExV W eOver v → Calls Tryz.prog 11 #[v] W fun e w' => e = .returned (.slice none 0 0) ∧ Below W.heap.size W w'
theorem enters_which : ∀ (args : Array Value) (W : World), (callFunc 18 args).run Tryz.prog W = .ok (.enter 18 args) W := enters_of Tryz.func18 (by kernel_rfl) rfl
set_option maxHeartbeats 4000000 in
theorem first_walk (n1 n2 : Int) (w : World) (hW : Wd w) (h1 : 0 ≤ n1 ∧ n1 ≤ 255) (h2 : 0 ≤ n2 ∧ n2 ≤ 255) (hS : SrcNil) :
    Calls Tryz.prog 5 #[.int .u8 n1, .int .u8 n2] w fun e w' => e = .returned (.bool true) ∧ Below w.heap.size w w' := by
  have HW := Lib.hid hW
  have HSR := Lib.hid hS
  have HN1 := Lib.hid h1
  have HN2 := Lib.hid h2
  clear hW hS h1 h2
  have hcur := Lib.hid (Below.refl w.heap.size w)
  go_enter Tryz.func5, Tryz.ntmps5
  go_upto_region 2 with (first
    | (go_at_call 17; refine (num_any _ _).mono ?_; rintro e wa ⟨rfl, ba⟩; have hcur := Lib.hid (hcur.out.trans (ba.mono hcur.out.size)); clear ba)
    | (go_at_call 15; refine (op_val _ _ 2 2 _).mono ?_; rintro e wd ⟨rfl, bd⟩; have HK := Lib.hid ((exk2 wa 2 maxI 2 1).on bd); have hcur := Lib.hid ((hcur.out.alloc hcur.out.size _).trans (bd.mono (Nat.le_trans hcur.out.size (by simp)))); clear bd))
  obtain ⟨X1, hX1⟩ : ∃ X, wd.alloc (.cells #[.int .u8 7, .string ⟨#[43]⟩, .string ⟨#[]⟩, .int .i64 0, .int .i64 0, .slice (some ⟨wa.heap.size, 0, none⟩) 2 2] 25) = X := ⟨_, rfl⟩
  have hal1 : Below wd.heap.size wd X1 := by rw [← hX1]; exact (Below.refl _ _).alloc (Nat.le_refl _) _
  have h5 : ECell X1 wd.heap.size 0 7 sAdd ⟨#[]⟩ 0 0 (some ⟨wa.heap.size, 0, none⟩) 2 2 := by rw [← hX1]; exact ecell_new _ _ _ _ _ _ _ _ _
  rw [hX1]
  have HB1 := Lib.hid (hcur.out.trans (hal1.mono hcur.out.size))
  have HK := Lib.hid (HK.out.on hal1)
  have H5 := Lib.hid h5
  clear hX1 hal1 h5 hcur
  generalize wa.heap.size = bo at *
  generalize wd.heap.size = p5 at *
  go_upto_region 4 with (fail)
  obtain ⟨X2, hX2⟩ : ∃ X, X1.alloc (.cells #[.int .u8 6, .string ⟨#[97]⟩, .string ⟨#[]⟩, .int .i64 0, .int .i64 0, .slice none 0 0] 25) = X := ⟨_, rfl⟩
  have hal2 : Below X1.heap.size X1 X2 := by rw [← hX2]; exact (Below.refl _ _).alloc (Nat.le_refl _) _
  have h6 : ECell X2 X1.heap.size 0 6 ⟨#[97]⟩ ⟨#[]⟩ 0 0 none 0 0 := by rw [← hX2]; exact ecell_new _ _ _ _ _ _ _ _ _
  rw [hX2]
  have HB2 := Lib.hid (HB1.out.trans (hal2.mono HB1.out.size))
  have HK := Lib.hid (HK.out.on hal2)
  have H5 := Lib.hid (H5.out.on hal2)
  have H6 := Lib.hid h6
  clear hX2 hal2 h6 HB1
  generalize X1.heap.size = p6 at *
  have hEn := enters_which
  go_upto_region 5 with ((with_reducible refine (which_any n1 HN1.out p5 p6 bo _ H5.out HK.out H6.out).mono ?_); rintro e we ⟨k1, s1, m1, A1, l1, c1, rfl, hv1, be⟩; have HV1 := Lib.hid hv1; have HBE := Lib.hid be; clear hv1 be)
  obtain ⟨X3, hX3⟩ : ∃ X, we.alloc (.cells #[.int .u8 k1, .string s1, .string ⟨#[]⟩, .int .i64 m1, .int .i64 0, .slice A1 l1 c1] 25) = X := ⟨_, rfl⟩
  have hal3 : Below X2.heap.size X2 X3 := by rw [← hX3]; exact HBE.out.alloc HBE.out.size _
  have hal3' : Below we.heap.size we X3 := by rw [← hX3]; exact (Below.refl _ _).alloc (Nat.le_refl _) _
  have h8 : ECell X3 we.heap.size 0 k1 s1 ⟨#[]⟩ m1 0 A1 l1 c1 := by rw [← hX3]; exact ecell_new _ _ _ _ _ _ _ _ _
  rw [hX3]
  have HB3 := Lib.hid (HB2.out.trans (hal3.mono HB2.out.size))
  have HK := Lib.hid (HK.out.on hal3)
  have H5 := Lib.hid (H5.out.on hal3)
  have H6 := Lib.hid (H6.out.on hal3)
  have HV1 := Lib.hid (HV1.out.on hal3')
  have H8 := Lib.hid h8
  clear hX3 hal3 hal3' h8 HB2 HBE
  generalize we.heap.size = p8 at *
  go_upto_region 6 with ((with_reducible refine (which_any n2 HN2.out p5 p6 bo _ H5.out HK.out H6.out).mono ?_); rintro e wf ⟨k2, s2, m2, A2, l2, c2, rfl, hv2, bf⟩; have HV2 := Lib.hid hv2; have HBF := Lib.hid bf; clear hv2 bf)
  obtain ⟨X4, hX4⟩ : ∃ X, wf.alloc (.cells #[.int .u8 k2, .string s2, .string ⟨#[]⟩, .int .i64 m2, .int .i64 0, .slice A2 l2 c2] 25) = X := ⟨_, rfl⟩
  have hal4 : Below X3.heap.size X3 X4 := by rw [← hX4]; exact HBF.out.alloc HBF.out.size _
  have hal4' : Below wf.heap.size wf X4 := by rw [← hX4]; exact (Below.refl _ _).alloc (Nat.le_refl _) _
  have h10 : ECell X4 wf.heap.size 0 k2 s2 ⟨#[]⟩ m2 0 A2 l2 c2 := by rw [← hX4]; exact ecell_new _ _ _ _ _ _ _ _ _
  rw [hX4]
  have HB4 := Lib.hid (HB3.out.trans (hal4.mono HB3.out.size))
  have HK := Lib.hid (HK.out.on hal4)
  have H5 := Lib.hid (H5.out.on hal4)
  have HV1 := Lib.hid (HV1.out.on hal4)
  have HV2 := Lib.hid (HV2.out.on hal4')
  have H8 := Lib.hid (H8.out.on hal4)
  have H10 := Lib.hid h10
  clear hX4 hal4 hal4' h10 HB3 HBF H6
  generalize wf.heap.size = p10 at *
  have HEV := Lib.hid (evOn_of (HW.out.on HB4.out) env0_ok env0_t (fit_mk 7 sLt 0 0 [selE (n1 % 3), selE (n2 % 3)] (by decide) (by decide) (by simp) (fun e he => by simp at he; rcases he with rfl | rfl <;> exact fit_sel _)) (ev_two (n1 % 3) (n2 % 3)))
  have HEV3 := Lib.hid (evOn_of (HW.out.on HB4.out) env0_ok env0_t (fit_mk 7 sLt 0 0 [eOver, eOver, eOver] (by decide) (by decide) (by simp) (fun e he => by simp at he; subst he; exact fit_over)) ev_three)
  generalize hr1 : selR (n1 % 3) = r1 at *
  generalize hr2 : selR (n2 % 3) = r2 at *
  obtain ⟨wt, hwt⟩ : ∃ x, want2 (n1 % 3) (n2 % 3) = x := ⟨_, rfl⟩
  have hwt2 : wt = if r1 = 0 then r2 else r1 := by rw [← hwt, ← hr1, ← hr2]; rfl
  rw [hwt] at HEV
  have hz : r1 = 0 ∧ wt = r2 ∨ ((r1 == 0) = false ∧ wt = r1) := by
    by_cases h : r1 = 0
    · exact .inl ⟨h, by rw [hwt2, if_pos h]⟩
    · exact .inr ⟨by simpa using h, by rw [hwt2, if_neg h]⟩
  clear hwt hwt2 hr1 hr2
  obtain ⟨c0, c1', c2', c3, c4, c5⟩ := H8.out
  obtain ⟨d0, d1, d2, d3, d4, d5⟩ := H10.out
  simp only [Nat.zero_add] at c0 c1' c2' c3 c4 c5 d0 d1 d2 d3 d4 d5
  have hcur := Lib.hid (Below.refl X4.heap.size X4)
  obtain ⟨⟨vk, vn, vs⟩, hrv⟩ : ∃ t : Trip, (if wt = 0 then flagT false else nulT) = t := ⟨_, rfl⟩
  rw [hrv] at HEV
  have HRV := Lib.hid hrv
  clear hrv
  rcases hz with ⟨rfl, rfl⟩ | ⟨hz, rfl⟩
  all_goals
    go_upto_region 10 with (first
      | (go_at_call 15; refine (op_val _ _ 2 2 _).mono ?_; rintro e wg ⟨rfl, bg⟩; have HK9 := Lib.hid ((exkB2 HV1.out HV2.out).on bg); have hcur := Lib.hid ((hcur.out.alloc hcur.out.size _).trans (bg.mono (Nat.le_trans hcur.out.size (by simp)))); clear bg)
      | (go_at_call 12; refine (HEV.out _ _ _ hcur.out (by simp only [ExV]; exact ⟨_, 2, rfl, Nat.le_refl _, HK9.out⟩) (env_nul _)).mono ?_; rintro e wh ⟨rfl, bh⟩; have hcur := Lib.hid (hcur.out.trans (bh.mono hcur.out.size)); clear bh))
    obtain ⟨X5, hX5⟩ : ∃ X, wh.alloc (.cells #[.int .u8 vk, .int .i64 vn, .string vs] 38) = X := ⟨_, rfl⟩
    have hal5 : Below X4.heap.size X4 X5 := by rw [← hX5]; exact hcur.out.alloc hcur.out.size _
    have h13 : BoxF wh.heap.size (vk, vn, vs) X5 := by rw [← hX5]; exact BoxF.new wh vk vn vs
    rw [hX5]
    have HB5 := Lib.hid (HB4.out.trans (hal5.mono HB4.out.size))
    have HO5 := Lib.hid (show ExV X5 eOver (exprV 7 sAdd ⟨#[]⟩ 0 0 (some ⟨bo, 0, none⟩) 2 2) by simp only [ExV]; exact ⟨_, 2, rfl, Nat.le_refl _, HK.out.on hal5⟩)
    have H5 := Lib.hid (H5.out.on hal5)
    have H13 := Lib.hid h13
    have HX5 := Lib.hid hal5
    clear hX5 hal5 h13 hcur HK9 c0 c1' c2' c3 c4 c5 d0 d1 d2 d3 d4 d5 HEV
    generalize wh.heap.size = p13 at *
    obtain ⟨c0, c1', c2', c3, c4, c5⟩ := H5.out
    simp only [Nat.zero_add] at c0 c1' c2' c3 c4 c5
    have hcur := Lib.hid (Below.refl X5.heap.size X5)
    go_upto_region 11 with (go_at_call 12; refine (HEV3.out _ _ _ (HX5.out.alloc HX5.out.size _) (by simp only [ExV]; exact ⟨_, 3, rfl, Nat.le_refl _, exkB3 HO5.out⟩) (env_nul _)).mono ?_; rintro e wi ⟨rfl, bi⟩; have hcur := Lib.hid ((hcur.out.alloc hcur.out.size _).trans (bi.mono (Nat.le_trans hcur.out.size (by simp)))); clear bi)
    obtain ⟨X6, hX6⟩ : ∃ X, wi.alloc (.cells #[.int .u8 0, .int .i64 0, .string ⟨#[]⟩] 38) = X := ⟨_, rfl⟩
    have hal6 : Below X5.heap.size X5 X6 := by rw [← hX6]; exact hcur.out.alloc hcur.out.size _
    have h15 : BoxF wi.heap.size nulT X6 := by rw [← hX6]; exact BoxF.new wi 0 0 ⟨#[]⟩
    rw [hX6]
    have HB6 := Lib.hid (HB5.out.trans (hal6.mono HB5.out.size))
    have HO6 := Lib.hid (HO5.out.on hal6)
    obtain ⟨⟨y0, y1, y2⟩, -⟩ := H13.out.on hal6
    obtain ⟨⟨y3, y4, y5⟩, -⟩ := h15
    clear c0 c1' c2' c3 c4 c5
    obtain ⟨c0, c1', c2', c3, c4, c5⟩ := H5.out.on hal6
    simp only [Nat.zero_add] at c0 c1' c2' c3 c4 c5
    clear hX6 hal6 hcur HB5 HO5 H13
    generalize wi.heap.size = p15 at *
    have hcur := Lib.hid (Below.refl X6.heap.size X6)
    have hw : (wt = 0 ∧ ((vk, vn, vs) : Trip) = flagT false) ∨ ((wt == 0) = false ∧ ((vk, vn, vs) : Trip) = nulT) := by
      by_cases h : wt = 0
      · exact .inl ⟨h, by rw [← HRV.out, if_pos h]⟩
      · exact .inr ⟨by simpa using h, by rw [← HRV.out, if_neg h]⟩
    rcases hw with ⟨rfl, hv⟩ | ⟨hw0, hv⟩
    all_goals
      obtain ⟨rfl, hv2⟩ := Prod.mk.inj hv
      obtain ⟨rfl, rfl⟩ := Prod.mk.inj hv2
      clear hv hv2 HRV
      go_wp2_with (first
        | (go_at_call 11; refine (HSR.out _ _ HO6.out).mono ?_; rintro e wj ⟨rfl, bj⟩; have hcur := Lib.hid (hcur.out.trans (bj.mono hcur.out.size)); clear bj)
        | (go_at_call 19; refine (same_nil _).mono ?_; rintro e wj ⟨rfl, bj⟩; have hcur := Lib.hid (hcur.out.trans (bj.mono hcur.out.size)); clear bj)
        | (go_at_call 10; refine (awake_any _ (HW.out.on (HB6.out.trans (hcur.out.mono HB6.out.size)))).mono ?_; rintro e wj ⟨rfl, bj⟩; have hcur := Lib.hid (hcur.out.trans (bj.mono hcur.out.size)); clear bj))
      go_ret
      exact ⟨rfl, HB6.out.trans (hcur.out.mono HB6.out.size)⟩
end Go.Proofs.YtbelhgdogafedaaGreatDoor
