/-
  ValueThree returns true: the walk. Conditions: the arguments are values; the library's variables are as its text lays them.
-/
import Derived.Test.YtaidipdofomgoaaGreatDoorVThrR
import Derived.Test.YtaidipdofomgoaaGreatDoorVParts
import Derived.Deep.Cut
namespace Go.Proofs.YtaidipdofomgoaaGreatDoor
open Go.ChangeShapes Go.WideShapes Go.ChangeAt Go.RowKit
set_option linter.unusedVariables false

set_option maxRecDepth 100000 in
set_option maxHeartbeats 400000 in
theorem three_no (ka na : Int) (sa : ByteArray) (kb nb : Int) (sb : ByteArray) (kc nc : Int) (sc : ByteArray) (w : World) (ha : sa.size ≤ 9223372036854775807) (hb : sb.size ≤ 9223372036854775807) (hc : sc.size ≤ 9223372036854775807) (HW : Hid (Wd w))
    (hno : Hid ([(ka, na, sa), (kb, nb, sb), (kc, nc, sc)].all shortR = false)) :
    Calls Tryz.prog 5 #[vv ka na sa, vv kb nb sb, vv kc nc sc] w fun e w' => e = .returned (.bool true) ∧ Below w.heap.size w w' := by
  have HB := Lib.hid (v3_below w ka na sa kb nb sb kc nc sc)
  have HSZ := Lib.hid (show ∀ t ∈ [(ka, na, sa), (kb, nb, sb), (kc, nc, sc)], t.2.2.size ≤ 9223372036854775807 by simp [ha, hb, hc])
  clear ha hb hc
  go_enter Tryz.func5, Tryz.ntmps5
  go_wp2_with fail
  refine (right_any _ 0 3 [(ka, na, sa), (kb, nb, sb), (kc, nc, sc)] _ HSZ.out (by simp) (v3_list w _ _ _ _ _ _ _ _ _)).mono ?_
  rintro e w1 ⟨rfl, b1⟩
  have HB := Lib.hid ((HB.out.alloc HB.out.size _).trans (b1.mono (Nat.le_trans HB.out.size (by simp))))
  rw [hno.out]
  clear b1
  go_wp2_with fail
  refine (aw_is w HW.out _ HB.out).mono ?_
  rintro e w2 ⟨rfl, b2⟩
  have HB := Lib.hid (HB.out.trans (b2.mono HB.out.size))
  clear b2
  go_wp2_with fail
  go_ret
  exact ⟨rfl, HB.out⟩

theorem cond_b (b : Bool) : Value.bool b = cond b (.bool true) (.bool false) := by cases b <;> rfl
theorem idx0 (a b c d : ByteArray) (w : World) : (Instr.index 47 (.agg #[.string a, .string b, .string c, .string d]) (.int .i64 0)).run Tryz.prog w = .ok (.agg #[.string a, .string b]) w := by
  simp [Instr.index, asIntOf, run_underlying Tryz.underlying47, go_sem]
theorem idx1 (a b c d : ByteArray) (w : World) : (Instr.index 47 (.agg #[.string a, .string b, .string c, .string d]) (.int .i64 1)).run Tryz.prog w = .ok (.agg #[.string c, .string d]) w := by
  simp [Instr.index, asIntOf, run_underlying Tryz.underlying47, go_sem]
def ThrRel (v : World) (i : Value) (wr : World) : Prop := ∃ z : Int, (z = 0 ∨ z = 1 ∨ z = 2) ∧ i = .int .i64 z ∧ Below v.heap.size v wr
theorem m1 : ∀ a b : T3, and3 a b = and3 b a := by intro a b; rcases a with _ | _ | _ <;> rcases b with _ | _ | _ <;> rfl
theorem m2 : ∀ a b c : T3, and3 a (and3 b c) = and3 (and3 a b) c := by intro a b c; rcases a with _ | _ | _ <;> rcases b with _ | _ | _ <;> rcases c with _ | _ | _ <;> rfl
theorem m3 : ∀ a b c : T3, and3 a (or3 b c) = or3 (and3 a b) (and3 a c) := by intro a b c; rcases a with _ | _ | _ <;> rcases b with _ | _ | _ <;> rcases c with _ | _ | _ <;> rfl
theorem m4 : ∀ a b : T3, not3 (and3 a b) = or3 (not3 a) (not3 b) := by intro a b; rcases a with _ | _ | _ <;> rcases b with _ | _ | _ <;> rfl
theorem m5 : ∀ a : T3, and3 a a = not3 (not3 a) := by intro a; rcases a with _ | _ | _ <;> rfl
theorem m6 : ∀ a b : T3, and3 a (or3 a b) = not3 (not3 a) := by intro a b; rcases a with _ | _ | _ <;> rcases b with _ | _ | _ <;> rfl
theorem o1 : ∀ a b : T3, or3 a b = or3 b a := by intro a b; rcases a with _ | _ | _ <;> rcases b with _ | _ | _ <;> rfl
theorem o2 : ∀ a b c : T3, or3 a (or3 b c) = or3 (or3 a b) c := by intro a b c; rcases a with _ | _ | _ <;> rcases b with _ | _ | _ <;> rcases c with _ | _ | _ <;> rfl
theorem o3 : ∀ a b c : T3, or3 a (and3 b c) = and3 (or3 a b) (or3 a c) := by intro a b c; rcases a with _ | _ | _ <;> rcases b with _ | _ | _ <;> rcases c with _ | _ | _ <;> rfl
theorem o4 : ∀ a b : T3, not3 (or3 a b) = and3 (not3 a) (not3 b) := by intro a b; rcases a with _ | _ | _ <;> rcases b with _ | _ | _ <;> rfl
theorem o5 : ∀ a : T3, or3 a a = not3 (not3 a) := by intro a; rcases a with _ | _ | _ <;> rfl
theorem o6 : ∀ a b : T3, or3 a (and3 a b) = not3 (not3 a) := by intro a b; rcases a with _ | _ | _ <;> rcases b with _ | _ | _ <;> rfl

set_option maxRecDepth 100000 in
set_option maxHeartbeats 800000 in
theorem three_go (ka na : Int) (sa : ByteArray) (kb nb : Int) (sb : ByteArray) (kc nc : Int) (sc : ByteArray) (w : World) (ha : sa.size ≤ 9223372036854775807) (hb : sb.size ≤ 9223372036854775807) (hc : sc.size ≤ 9223372036854775807) (HW : Hid (Wd w))
    (hyes : Hid ([(ka, na, sa), (kb, nb, sb), (kc, nc, sc)].all shortR = true)) (RA : Hid (Rt ka na sa)) (RB : Hid (Rt kb nb sb)) (RC : Hid (Rt kc nc sc)) (α β γ : T3) (TA : Hid (tri ka na sa = α)) (TB : Hid (tri kb nb sb = β)) (TC : Hid (tri kc nc sc = γ))
    (κ τ : Bool) (HT : Hid ((ka != 0 && intV ka na sa != 0) = τ)) (HK : Hid ((ka != 0) = κ)) (e2 : Hid ((kOf (not3 α) == 0) = !κ)) (e3 : Hid (κ = true → sameV (kOf (not3 α)) (nOf (not3 α)) ⟨#[]⟩ 1 0 ⟨#[]⟩ = τ)) (hs4 : sa.size ≤ 4611686018427387904) :
    Calls Tryz.prog 5 #[vv ka na sa, vv kb nb sb, vv kc nc sc] w fun e w' => e = .returned (.bool true) ∧ Below w.heap.size w w' := by
  have HB := Lib.hid (v3_below w ka na sa kb nb sb kc nc sc)
  have HX := Lib.hid (Below.refl (v3 w ka na sa kb nb sb kc nc sc).heap.size (v3 w ka na sa kb nb sb kc nc sc))
  have HSZ := Lib.hid (show ∀ t ∈ [(ka, na, sa), (kb, nb, sb), (kc, nc, sc)], t.2.2.size ≤ 9223372036854775807 by simp [ha, hb, hc])
  clear ha hb hc
  go_enter Tryz.func5, Tryz.ntmps5
  go_wp2_with fail
  refine (right_any _ 0 3 [(ka, na, sa), (kb, nb, sb), (kc, nc, sc)] _ HSZ.out (by simp) (v3_list w _ _ _ _ _ _ _ _ _)).mono ?_
  rintro e w1 ⟨rfl, b1⟩
  have HX := Lib.hid ((HX.out.alloc HX.out.size _).trans (b1.mono (by simp)))
  rw [hyes.out]
  clear b1
  go_wp2_with fail
  go_loopw [24] (fun i wr => ThrRel (v3 w ka na sa kb nb sb kc nc sc) i wr) (fun i _ => 2 - (intOf i).toNat)
  case atStart => exact ⟨0, .inl rfl, rfl, HX.out⟩
  case round =>
  clear HX
  obtain ⟨z, hz, rfl, hbx⟩ := hrel
  have HX := Lib.hid hbx
  clear hbx
  rcases hz with rfl | rfl | rfl
  · go_upto_region 6 with (first | rw [idx0] | rw [idx1])
    have HX := Lib.hid (HX.out.alloc HX.out.size (.cells #[.string ⟨#[97, 110, 100]⟩, .string ⟨#[111, 114]⟩] 46))
    refine region_as2 (ops' := th6Ops) (by kernel_rfl) ?_
    refine th6 wr.heap.size ⟨#[97, 110, 100]⟩ ⟨#[111, 114]⟩ (fun W hb => strs_on wr W _ _ hb) rfl rfl ?_
    intro V Y hb hv9 hv10
    have HX := Lib.hid (HX.out.trans (hb.mono HX.out.size))
    rw [th6_fill V, hv9, hv10]
    clear hb hv9 hv10
    go_upto_region 7 with (fail)
    refine region_as2 (ops' := th7Ops) (by kernel_rfl) ?_
    refine th7 ka na sa kb nb sb kc nc sc w.heap.size (w.heap.size + 1) (w.heap.size + 1 + 1) RA RB RC α β γ TA TB TC ⟨#[97, 110, 100]⟩ ⟨#[111, 114]⟩ and3 or3 bx_and bx_or (Lib.hid (m1 _ _)) (Lib.hid (m2 _ _ _)) (Lib.hid (m3 _ _ _)) (Lib.hid (m4 _ _)) (Lib.hid (m5 _)) (Lib.hid (m6 _ _)) (fun W hb => (v3_boxes _ _ _ _ _ _ _ _ _ _ W (HX.out.trans (hb.mono HX.out.size))).1) (fun W hb => (v3_boxes _ _ _ _ _ _ _ _ _ _ W (HX.out.trans (hb.mono HX.out.size))).2.1) (fun W hb => (v3_boxes _ _ _ _ _ _ _ _ _ _ W (HX.out.trans (hb.mono HX.out.size))).2.2) rfl rfl rfl rfl rfl rfl ?_
    intro V X hb hv
    have HX := Lib.hid (HX.out.trans (hb.mono HX.out.size))
    rw [th7_fill V, hv]
    clear hb hv
    go_wp2_with fail
    go_roundw
    case rel => exact ⟨1, .inr (.inl rfl), rfl, HX.out⟩
    case measure => simp [intOf]
  · go_upto_region 6 with (first | rw [idx0] | rw [idx1])
    have HX := Lib.hid (HX.out.alloc HX.out.size (.cells #[.string ⟨#[111, 114]⟩, .string ⟨#[97, 110, 100]⟩] 46))
    refine region_as2 (ops' := th6Ops) (by kernel_rfl) ?_
    refine th6 wr.heap.size ⟨#[111, 114]⟩ ⟨#[97, 110, 100]⟩ (fun W hb => strs_on wr W _ _ hb) rfl rfl ?_
    intro V Y hb hv9 hv10
    have HX := Lib.hid (HX.out.trans (hb.mono HX.out.size))
    rw [th6_fill V, hv9, hv10]
    clear hb hv9 hv10
    go_upto_region 7 with (fail)
    refine region_as2 (ops' := th7Ops) (by kernel_rfl) ?_
    refine th7 ka na sa kb nb sb kc nc sc w.heap.size (w.heap.size + 1) (w.heap.size + 1 + 1) RA RB RC α β γ TA TB TC ⟨#[111, 114]⟩ ⟨#[97, 110, 100]⟩ or3 and3 bx_or bx_and (Lib.hid (o1 _ _)) (Lib.hid (o2 _ _ _)) (Lib.hid (o3 _ _ _)) (Lib.hid (o4 _ _)) (Lib.hid (o5 _)) (Lib.hid (o6 _ _)) (fun W hb => (v3_boxes _ _ _ _ _ _ _ _ _ _ W (HX.out.trans (hb.mono HX.out.size))).1) (fun W hb => (v3_boxes _ _ _ _ _ _ _ _ _ _ W (HX.out.trans (hb.mono HX.out.size))).2.1) (fun W hb => (v3_boxes _ _ _ _ _ _ _ _ _ _ W (HX.out.trans (hb.mono HX.out.size))).2.2) rfl rfl rfl rfl rfl rfl ?_
    intro V X hb hv
    have HX := Lib.hid (HX.out.trans (hb.mono HX.out.size))
    rw [th7_fill V, hv]
    clear hb hv
    go_wp2_with fail
    go_roundw
    case rel => exact ⟨2, .inr (.inr rfl), rfl, HX.out⟩
    case measure => simp [intOf]
  · obtain ⟨⟨g0, g1, g2⟩, _, _⟩ := v3_boxes _ _ _ _ _ _ _ _ _ _ _ HX.out
    go_wp2_with fail
    refine (Truth_any ka na sa _ hs4).mono ?_
    rintro e x1 ⟨rfl, b1⟩
    rw [HT.out, HK.out]
    have HX := Lib.hid (HX.out.trans (b1.mono HX.out.size))
    clear b1 g0 g1 g2
    obtain ⟨⟨g0, g1, g2⟩, _, _⟩ := v3_boxes _ _ _ _ _ _ _ _ _ _ _ HX.out
    go_wp2_with fail
    refine (n3 RA.out TA.out _).mono ?_
    rintro e x2 ⟨rfl, b2⟩
    have HX := Lib.hid (HX.out.trans (b2.mono HX.out.size))
    have HX := Lib.hid (HX.out.alloc HX.out.size (box (kOf (not3 α)) (nOf (not3 α)) ⟨#[]⟩))
    clear b2 g0 g1 g2
    go_upto_region 12 with (fail)
    refine region_as2 (ops' := th12Ops) (by kernel_rfl) ?_
    refine th12 ka na sa (kOf (not3 α)) (nOf (not3 α)) w.heap.size x2.heap.size κ τ HK e2 e3 (fun W hb => (v3_boxes _ _ _ _ _ _ _ _ _ _ W (HX.out.trans (hb.mono HX.out.size))).1) (fun W hb => box_at hb) (((aw_is w HW.out).on (HB.out.trans (HX.out.mono HB.out.size)))) rfl rfl (cond_b τ) (cond_b κ) rfl ?_
    intro V X hb hv
    have HX := Lib.hid (HX.out.trans (hb.mono HX.out.size))
    rw [th12_fill V, hv]
    clear hb hv
    go_wp2_with fail
    go_ret
    exact ⟨rfl, HB.out.trans (HX.out.mono HB.out.size)⟩

theorem three_walk (ka na : Int) (sa : ByteArray) (kb nb : Int) (sb : ByteArray) (kc nc : Int) (sc : ByteArray) (w : World) (ha : sa.size ≤ 9223372036854775807) (hb : sb.size ≤ 9223372036854775807) (hc : sc.size ≤ 9223372036854775807) (hW : Wd w) :
    Calls Tryz.prog 5 #[vv ka na sa, vv kb nb sb, vv kc nc sc] w fun e w' => e = .returned (.bool true) ∧ Below w.heap.size w w' := by
  cases hall : [(ka, na, sa), (kb, nb, sb), (kc, nc, sc)].all shortR
  · exact three_no ka na sa kb nb sb kc nc sc w ha hb hc (Lib.hid hW) (Lib.hid hall)
  · have hR : Rt ka na sa ∧ Rt kb nb sb ∧ Rt kc nc sc := by
      simp only [List.all_cons, Bool.and_eq_true, shortR, decide_eq_true_eq] at hall
      exact ⟨hall.1.1, hall.2.1.1, hall.2.2.1.1⟩
    obtain ⟨ra, rb, rc⟩ := hR
    have h2 : (kOf (not3 (tri ka na sa)) == 0) = !(ka != 0) := by
      unfold tri
      by_cases h : ka = 0 <;> simp [h, not3, kOf]
    have h3 : (ka != 0) = true → sameV (kOf (not3 (tri ka na sa))) (nOf (not3 (tri ka na sa))) ⟨#[]⟩ 1 0 ⟨#[]⟩ = (ka != 0 && intV ka na sa != 0) := by
      intro h
      have h' : ¬ ka = 0 := by simpa using h
      rw [h, Bool.true_and]
      unfold tri
      rw [if_neg h']
      cases (intV ka na sa != 0) <;> simp [not3, kOf, nOf, sameV]
    exact three_go ka na sa kb nb sb kc nc sc w ha hb hc (Lib.hid hW) (Lib.hid hall) (Lib.hid ra) (Lib.hid rb) (Lib.hid rc) _ _ _ (Lib.hid rfl) (Lib.hid rfl) (Lib.hid rfl) _ _ (Lib.hid rfl) (Lib.hid rfl) (Lib.hid h2) (Lib.hid h3) (by have := Rt_size ra; omega)
end Go.Proofs.YtaidipdofomgoaaGreatDoor
