/-
  ValueOrder returns true: the walk. Conditions: the arguments are values; the library's variables are as its text lays them.
-/
import Derived.Test.YtaidipdofomgoaaGreatDoorVOrdR
import Derived.Test.YtaidipdofomgoaaGreatDoorVArg3
import Derived.Deep.Cut
import Derived.IntWalk
namespace Go.Proofs.YtaidipdofomgoaaGreatDoor
open Go.ChangeShapes Go.WideShapes Go.ChangeAt Go.RowKit
set_option linter.unusedVariables false

/-- a sign that compares two values, neither of them NULL -/
theorem sgn_lt (k n : Int) (s : ByteArray) (k' n' : Int) (s' : ByteArray) (x : Int) (hr : Rt k n s) (hr' : Rt k' n' s') (hk : k ≠ 0) (hk' : k' ≠ 0) (hx : (if decide (cmpV k n s k' n' s' < 0) then (1 : Int) else 0) = x) : BothIs ⟨#[60]⟩ k n s k' n' s' 1 x ⟨#[]⟩ := by
  subst hx
  exact both_is _ _ _ _ _ _ _ _ _ _ 0 fun W => Op_lt k n s k' n' s' W hr hr' hk hk' _ _ _ _ fun X _ => ofTwo_lt k n s k' n' s' X
theorem sgn_eq (k n : Int) (s : ByteArray) (k' n' : Int) (s' : ByteArray) (x : Int) (hr : Rt k n s) (hr' : Rt k' n' s') (hk : k ≠ 0) (hk' : k' ≠ 0) (hx : (if (cmpV k n s k' n' s' == 0) then (1 : Int) else 0) = x) : BothIs ⟨#[61]⟩ k n s k' n' s' 1 x ⟨#[]⟩ := by
  subst hx
  exact both_is _ _ _ _ _ _ _ _ _ _ 0 fun W => Op_eq k n s k' n' s' W hr hr' hk hk' _ _ _ _ fun X _ => ofTwo_eq k n s k' n' s' X
theorem sgn_gt (k n : Int) (s : ByteArray) (k' n' : Int) (s' : ByteArray) (x : Int) (hr : Rt k n s) (hr' : Rt k' n' s') (hk : k ≠ 0) (hk' : k' ≠ 0) (hx : (if decide (0 < cmpV k n s k' n' s') then (1 : Int) else 0) = x) : BothIs ⟨#[62]⟩ k n s k' n' s' 1 x ⟨#[]⟩ := by
  subst hx
  exact both_is _ _ _ _ _ _ _ _ _ _ 0 fun W => Op_gt k n s k' n' s' W hr hr' hk hk' _ _ _ _ fun X _ => ofTwo_gt k n s k' n' s' X
theorem sgn_le (k n : Int) (s : ByteArray) (k' n' : Int) (s' : ByteArray) (x : Int) (hr : Rt k n s) (hr' : Rt k' n' s') (hk : k ≠ 0) (hk' : k' ≠ 0) (hx : (if decide (cmpV k n s k' n' s' ≤ 0) then (1 : Int) else 0) = x) : BothIs ⟨#[60, 61]⟩ k n s k' n' s' 1 x ⟨#[]⟩ := by
  subst hx
  exact both_is _ _ _ _ _ _ _ _ _ _ 0 fun W => Op_le k n s k' n' s' W hr hr' hk hk' _ _ _ _ fun X _ => ofTwo_le k n s k' n' s' X
theorem sgn_ge (k n : Int) (s : ByteArray) (k' n' : Int) (s' : ByteArray) (x : Int) (hr : Rt k n s) (hr' : Rt k' n' s') (hk : k ≠ 0) (hk' : k' ≠ 0) (hx : (if decide (0 ≤ cmpV k n s k' n' s') then (1 : Int) else 0) = x) : BothIs ⟨#[62, 61]⟩ k n s k' n' s' 1 x ⟨#[]⟩ := by
  subst hx
  exact both_is _ _ _ _ _ _ _ _ _ _ 0 fun W => Op_ge k n s k' n' s' W hr hr' hk hk' _ _ _ _ fun X _ => ofTwo_ge k n s k' n' s' X
theorem sgn_ne (k n : Int) (s : ByteArray) (k' n' : Int) (s' : ByteArray) (x : Int) (hr : Rt k n s) (hr' : Rt k' n' s') (hk : k ≠ 0) (hk' : k' ≠ 0) (hx : (if (cmpV k n s k' n' s' != 0) then (1 : Int) else 0) = x) : BothIs ⟨#[60, 62]⟩ k n s k' n' s' 1 x ⟨#[]⟩ := by
  subst hx
  exact both_is _ _ _ _ _ _ _ _ _ _ 0 fun W => Op_ne k n s k' n' s' W hr hr' hk hk' _ _ _ _ fun X _ => ofTwo_ne k n s k' n' s' X
/-- not of a number -/
theorem not_num (n m : Int) (h : (if n = 0 then (1 : Int) else 0) = m) : NotIs 1 n ⟨#[]⟩ 1 m ⟨#[]⟩ := fun W =>
  not_any 1 n ⟨#[]⟩ 1 m ⟨#[]⟩ 0 W fun X => One_not 1 n ⟨#[]⟩ X (Rt_int n) (by omega) m (by subst h; by_cases h0 : n = 0 <;> simp [trueV, intV, h0])
theorem null_eq (k n : Int) (s : ByteArray) (k' n' : Int) (s' : ByteArray) (hr : Rt k n s) (hr' : Rt k' n' s') (hk : k = 0 ∨ k' = 0) : BothIs ⟨#[61]⟩ k n s k' n' s' 0 0 ⟨#[]⟩ := both_is _ _ _ _ _ _ _ _ _ _ 0 fun W => Op_eq_null k n s k' n' s' W hr hr' hk
theorem null_lt (k n : Int) (s : ByteArray) (k' n' : Int) (s' : ByteArray) (hr : Rt k n s) (hr' : Rt k' n' s') (hk : k = 0 ∨ k' = 0) : BothIs ⟨#[60]⟩ k n s k' n' s' 0 0 ⟨#[]⟩ := both_is _ _ _ _ _ _ _ _ _ _ 0 fun W => Op_lt_null k n s k' n' s' W hr hr' hk

theorem cond_or (a b : Bool) : cond a (Value.bool true) (cond b (.bool true) (.bool false)) = .bool (a || b) := by cases a <;> cases b <;> rfl
set_option maxRecDepth 100000 in
set_option maxHeartbeats 400000 in
theorem order_no (ka na : Int) (sa : ByteArray) (kb nb : Int) (sb : ByteArray) (kc nc : Int) (sc : ByteArray) (w : World) (ha : sa.size ≤ 9223372036854775807) (hb : sb.size ≤ 9223372036854775807) (hc : sc.size ≤ 9223372036854775807) (HW : Hid (Wd w))
    (hno : Hid ([(ka, na, sa), (kb, nb, sb), (kc, nc, sc)].all shortR = false)) :
    Calls Tryz.prog 4 #[vv ka na sa, vv kb nb sb, vv kc nc sc] w fun e w' => e = .returned (.bool true) ∧ Below w.heap.size w w' := by
  have HB := Lib.hid (v3_below w ka na sa kb nb sb kc nc sc)
  have HSZ := Lib.hid (show ∀ t ∈ [(ka, na, sa), (kb, nb, sb), (kc, nc, sc)], t.2.2.size ≤ 9223372036854775807 by simp [ha, hb, hc])
  clear ha hb hc
  go_enter Tryz.func4, Tryz.ntmps4
  go_wp2_with fail
  refine (right_any _ 0 3 [(ka, na, sa), (kb, nb, sb), (kc, nc, sc)] _ HSZ.out (by simp) (v3_list w _ _ _ _ _ _ _ _ _)).mono ?_
  rintro e w1 ⟨rfl, b1⟩
  have HB := Lib.hid ((HB.out.alloc HB.out.size _).trans (b1.mono (Nat.le_trans HB.out.size (by simp))))
  rw [hno.out]
  clear b1
  go_wp2_with fail
  refine (aw_is w HW.out _ HB.out).mono ?_
  rintro e w2 ⟨rfl, b2⟩
  have HB := Lib.hid (HB.out.trans (b2.mono HB.out.size))
  clear b2
  go_wp2_with fail
  go_ret
  exact ⟨rfl, HB.out⟩

set_option maxRecDepth 100000 in
set_option maxHeartbeats 600000 in
theorem order_go (ka na : Int) (sa : ByteArray) (kb nb : Int) (sb : ByteArray) (kc nc : Int) (sc : ByteArray) (w : World) (ha : sa.size ≤ 9223372036854775807) (hb : sb.size ≤ 9223372036854775807) (hc : sc.size ≤ 9223372036854775807) (HW : Hid (Wd w))
    (hyes : Hid ([(ka, na, sa), (kb, nb, sb), (kc, nc, sc)].all shortR = true)) (x y z m : Int) (c1 : CmpIs ka na sa kb nb sb x) (c2 : CmpIs kb nb sb kc nc sc y) (c3 : CmpIs ka na sa kc nc sc z) (c4 : CmpIs kb nb sb ka na sa m) (hm : Hid (IntKind.i64.wrap (-m) = x))
    (ε β1 β2 β4 : Bool) (e0 : Hid ((x == 0) = ε)) (e1 : Hid (sameV ka na sa kb nb sb = ε)) (h1 : Hid (decide (x ≤ 0) = β1)) (h2 : Hid (decide (y ≤ 0) = β2)) (h4 : Hid (decide (x < 0) = β4)) (z1 : Hid (β1 = true → β2 = true → decide (0 < z) = false)) (z2 : Hid (β4 = true → β2 = true → decide (0 ≤ z) = false)) (x1 : Hid (decide (x < -1) = false)) (x2 : Hid (decide (1 < x) = false))
    (κa κb : Bool) (k1 : Hid ((ka == 0) = κa)) (k2 : Hid ((kb == 0) = κb))
    (hnul : Hid ((κa || κb) = true → BothIs ⟨#[61]⟩ ka na sa kb nb sb 0 0 ⟨#[]⟩ ∧ BothIs ⟨#[60]⟩ ka na sa kb nb sb 0 0 ⟨#[]⟩))
    (hval : Hid ((κa || κb) = false → ∃ l e g l' e' g' : Int, BothIs ⟨#[60]⟩ ka na sa kb nb sb 1 l ⟨#[]⟩ ∧ BothIs ⟨#[61]⟩ ka na sa kb nb sb 1 e ⟨#[]⟩ ∧ BothIs ⟨#[62]⟩ ka na sa kb nb sb 1 g ⟨#[]⟩ ∧ (∃ s1, IntKind.i64.wrap (l + e) = s1 ∧ IntKind.i64.wrap (s1 + g) = 1) ∧
      BothIs ⟨#[60, 61]⟩ ka na sa kb nb sb 1 g' ⟨#[]⟩ ∧ BothIs ⟨#[62, 61]⟩ ka na sa kb nb sb 1 l' ⟨#[]⟩ ∧ BothIs ⟨#[60, 62]⟩ ka na sa kb nb sb 1 e' ⟨#[]⟩ ∧ BothIs ⟨#[62]⟩ kb nb sb ka na sa 1 l ⟨#[]⟩ ∧ NotIs 1 l ⟨#[]⟩ 1 l' ⟨#[]⟩ ∧ NotIs 1 e ⟨#[]⟩ 1 e' ⟨#[]⟩ ∧ NotIs 1 g ⟨#[]⟩ 1 g' ⟨#[]⟩)) :
    Calls Tryz.prog 4 #[vv ka na sa, vv kb nb sb, vv kc nc sc] w fun e w' => e = .returned (.bool true) ∧ Below w.heap.size w w' := by
  have HB := Lib.hid (v3_below w ka na sa kb nb sb kc nc sc)
  have HX := Lib.hid (Below.refl (v3 w ka na sa kb nb sb kc nc sc).heap.size (v3 w ka na sa kb nb sb kc nc sc))
  have HSZ := Lib.hid (show ∀ t ∈ [(ka, na, sa), (kb, nb, sb), (kc, nc, sc)], t.2.2.size ≤ 9223372036854775807 by simp [ha, hb, hc])
  have C1 := Lib.hid c1
  have C2 := Lib.hid c2
  have C3 := Lib.hid c3
  have C4 := Lib.hid c4
  clear ha hb hc c1 c2 c3 c4
  go_enter Tryz.func4, Tryz.ntmps4
  go_wp2_with fail
  refine (right_any _ 0 3 [(ka, na, sa), (kb, nb, sb), (kc, nc, sc)] _ HSZ.out (by simp) (v3_list w _ _ _ _ _ _ _ _ _)).mono ?_
  rintro e w1 ⟨rfl, b1⟩
  have HX := Lib.hid ((HX.out.alloc HX.out.size _).trans (b1.mono (by simp)))
  rw [hyes.out]
  clear b1
  go_upto_region 3 with (fail)
  refine region_as2 (ops' := or3Ops) (by kernel_rfl) ?_
  refine or3 ka na sa kb nb sb kc nc sc w.heap.size (w.heap.size + 1) (w.heap.size + 1 + 1) x y z C1.out C2.out C3.out (fun W hb => (v3_boxes _ _ _ _ _ _ _ _ _ _ W (HX.out.trans (hb.mono HX.out.size))).1) (fun W hb => (v3_boxes _ _ _ _ _ _ _ _ _ _ W (HX.out.trans (hb.mono HX.out.size))).2.1) (fun W hb => (v3_boxes _ _ _ _ _ _ _ _ _ _ W (HX.out.trans (hb.mono HX.out.size))).2.2) rfl rfl rfl rfl ?_
  intro V X hb hv7 hv8 hv9
  have HX := Lib.hid (HX.out.trans (hb.mono HX.out.size))
  rw [or3_fill V, hv7, hv8, hv9]
  clear hb hv7 hv8 hv9
  go_upto_region 4 with (fail)
  refine region_as2 (ops' := or4Ops) (by kernel_rfl) ?_
  refine or4 ka na sa kb nb sb kc nc sc w.heap.size (w.heap.size + 1) (w.heap.size + 1 + 1) x y z m C4.out hm ε β1 β2 β4 e0 e1 h1 h2 h4 z1 z2 x1 x2 (fun W hb => (v3_boxes _ _ _ _ _ _ _ _ _ _ W (HX.out.trans (hb.mono HX.out.size))).1) (fun W hb => (v3_boxes _ _ _ _ _ _ _ _ _ _ W (HX.out.trans (hb.mono HX.out.size))).2.1) (fun W hb => (v3_boxes _ _ _ _ _ _ _ _ _ _ W (HX.out.trans (hb.mono HX.out.size))).2.2) rfl rfl rfl rfl rfl rfl rfl ?_
  intro V X hb hv
  have HX := Lib.hid (HX.out.trans (hb.mono HX.out.size))
  rw [or4_fill V, hv]
  clear hb hv
  clear e0 e1 h1 h2 h4 z1 z2 x1 x2 C1 C2 C3 C4 hm
  go_upto_region 6 with (fail)
  refine region_as2 (ops' := or6Ops) (by kernel_rfl) ?_
  refine or6 ka na sa kb nb sb kc nc sc w.heap.size (w.heap.size + 1) (w.heap.size + 1 + 1) κa κb k1 k2 (fun W hb => (v3_boxes _ _ _ _ _ _ _ _ _ _ W (HX.out.trans (hb.mono HX.out.size))).1) (fun W hb => (v3_boxes _ _ _ _ _ _ _ _ _ _ W (HX.out.trans (hb.mono HX.out.size))).2.1) (fun W hb => (v3_boxes _ _ _ _ _ _ _ _ _ _ W (HX.out.trans (hb.mono HX.out.size))).2.2) rfl rfl rfl rfl ?_
  intro V X hb hv
  have hv' := hv.trans (cond_or κa κb)
  have HX := Lib.hid (HX.out.trans (hb.mono HX.out.size))
  rw [or6_fill V, hv']
  clear hb hv hv' k1 k2
  cases hκ : (κa || κb)
  · obtain ⟨l, e, g, l', e', g', q1, q2, q3, ⟨s1, q4, q5⟩, q6, q7, q8, q9, q10, q11, q12⟩ := hval.out hκ
    have Q1 := Lib.hid q1
    have Q2 := Lib.hid q2
    have Q3 := Lib.hid q3
    have Q4 := Lib.hid q4
    have Q5 := Lib.hid q5
    have Q6 := Lib.hid q6
    have Q7 := Lib.hid q7
    have Q8 := Lib.hid q8
    have Q9 := Lib.hid q9
    have Q10 := Lib.hid q10
    have Q11 := Lib.hid q11
    have Q12 := Lib.hid q12
    clear q1 q2 q3 q4 q5 q6 q7 q8 q9 q10 q11 q12 hval hnul hκ
    go_upto_region 8 with (fail)
    refine region_as2 (ops' := or8Ops) (by kernel_rfl) ?_
    refine or8 ka na sa kb nb sb kc nc sc w.heap.size (w.heap.size + 1) (w.heap.size + 1 + 1) l e g Q1.out Q2.out Q3.out s1 Q4 Q5 (fun W hb => (v3_boxes _ _ _ _ _ _ _ _ _ _ W (HX.out.trans (hb.mono HX.out.size))).1) (fun W hb => (v3_boxes _ _ _ _ _ _ _ _ _ _ W (HX.out.trans (hb.mono HX.out.size))).2.1) (fun W hb => (v3_boxes _ _ _ _ _ _ _ _ _ _ W (HX.out.trans (hb.mono HX.out.size))).2.2) rfl rfl rfl rfl ?_
    intro V X hb hv
    have HX := Lib.hid (HX.out.trans (hb.mono HX.out.size))
    rw [or8_fill V, hv]
    clear hb hv
    go_upto_region 9 with (fail)
    refine region_as2 (ops' := or9Ops) (by kernel_rfl) ?_
    refine or9 ka na sa kb nb sb kc nc sc w.heap.size (w.heap.size + 1) (w.heap.size + 1 + 1) l e g Q1.out Q2.out Q3.out l' e' g' Q6.out Q7.out Q8.out Q9.out Q10.out Q11.out Q12.out (fun W hb => (v3_boxes _ _ _ _ _ _ _ _ _ _ W (HX.out.trans (hb.mono HX.out.size))).1) (fun W hb => (v3_boxes _ _ _ _ _ _ _ _ _ _ W (HX.out.trans (hb.mono HX.out.size))).2.1) (fun W hb => (v3_boxes _ _ _ _ _ _ _ _ _ _ W (HX.out.trans (hb.mono HX.out.size))).2.2) ((aw_is w HW.out).on (HB.out.trans (HX.out.mono HB.out.size))) rfl rfl rfl rfl rfl ?_
    intro V X hb hv
    have HX := Lib.hid (HX.out.trans (hb.mono HX.out.size))
    rw [or9_fill V, hv]
    clear hb hv
    go_wp2_with fail
    go_ret
    exact ⟨rfl, HB.out.trans (HX.out.mono HB.out.size)⟩
  · obtain ⟨n1, n2⟩ := hnul.out hκ
    have N1 := Lib.hid n1
    have N2 := Lib.hid n2
    clear n1 n2 hnul hval hκ
    go_upto_region 7 with (fail)
    refine region_as2 (ops' := or7Ops) (by kernel_rfl) ?_
    refine or7 ka na sa kb nb sb kc nc sc w.heap.size (w.heap.size + 1) (w.heap.size + 1 + 1) N1.out N2.out (fun W hb => (v3_boxes _ _ _ _ _ _ _ _ _ _ W (HX.out.trans (hb.mono HX.out.size))).1) (fun W hb => (v3_boxes _ _ _ _ _ _ _ _ _ _ W (HX.out.trans (hb.mono HX.out.size))).2.1) (fun W hb => (v3_boxes _ _ _ _ _ _ _ _ _ _ W (HX.out.trans (hb.mono HX.out.size))).2.2) ((aw_is w HW.out).on (HB.out.trans (HX.out.mono HB.out.size))) rfl rfl rfl rfl ?_
    intro V X hb hv
    have HX := Lib.hid (HX.out.trans (hb.mono HX.out.size))
    rw [or7_fill V, hv]
    clear hb hv
    go_wp2_with fail
    go_ret
    exact ⟨rfl, HB.out.trans (HX.out.mono HB.out.size)⟩

theorem order_walk (ka na : Int) (sa : ByteArray) (kb nb : Int) (sb : ByteArray) (kc nc : Int) (sc : ByteArray) (w : World) (ha : sa.size ≤ 9223372036854775807) (hb : sb.size ≤ 9223372036854775807) (hc : sc.size ≤ 9223372036854775807) (hW : Wd w) :
    Calls Tryz.prog 4 #[vv ka na sa, vv kb nb sb, vv kc nc sc] w fun e w' => e = .returned (.bool true) ∧ Below w.heap.size w w' := by
  cases hall : [(ka, na, sa), (kb, nb, sb), (kc, nc, sc)].all shortR
  · exact order_no ka na sa kb nb sb kc nc sc w ha hb hc (Lib.hid hW) (Lib.hid hall)
  · have hR : Rt ka na sa ∧ Rt kb nb sb := by
      simp only [List.all_cons, Bool.and_eq_true, shortR, decide_eq_true_eq] at hall
      exact ⟨hall.1.1, hall.2.1.1⟩
    obtain ⟨ra, rb⟩ := hR
    have hz := cmp_zero ka na sa kb nb sb ra rb
    have hr1 := cmp_range ka na sa kb nb sb
    have han := cmp_anti ka na sa kb nb sb
    have ht := cmp_trans ka na sa kb nb sb kc nc sc
    have hs : sameV ka na sa kb nb sb = (cmpV ka na sa kb nb sb == 0) := by
      rw [Bool.eq_iff_iff]
      simp only [sameV, decide_eq_true_eq, beq_iff_eq]
      exact hz.symm
    refine order_go ka na sa kb nb sb kc nc sc w ha hb hc (Lib.hid hW) (Lib.hid hall) (cmpV ka na sa kb nb sb) (cmpV kb nb sb kc nc sc) (cmpV ka na sa kc nc sc) (cmpV kb nb sb ka na sa) (cmp_is _ _ _ _ _ _ _ rfl) (cmp_is _ _ _ _ _ _ _ rfl) (cmp_is _ _ _ _ _ _ _ rfl) (cmp_is _ _ _ _ _ _ _ rfl) (Lib.hid ?_)
      _ _ _ _ (Lib.hid rfl) (Lib.hid hs) (Lib.hid rfl) (Lib.hid rfl) (Lib.hid rfl) (Lib.hid ?_) (Lib.hid ?_) (Lib.hid ?_) (Lib.hid ?_) _ _ (Lib.hid rfl) (Lib.hid rfl) (Lib.hid ?_) (Lib.hid ?_)
    · rw [han, Int.neg_neg]
      exact IntWalk.i64_in _ (by omega)
    · simp only [decide_eq_true_eq, decide_eq_false_iff_not]
      intro p q
      have := (ht p q).1
      omega
    · simp only [decide_eq_true_eq, decide_eq_false_iff_not]
      intro p q
      have := (ht (by omega) q).2 p
      omega
    · simp only [decide_eq_false_iff_not]; omega
    · simp only [decide_eq_false_iff_not]; omega
    · simp only [Bool.or_eq_true, beq_iff_eq]
      exact fun h => ⟨null_eq _ _ _ _ _ _ ra rb h, null_lt _ _ _ _ _ _ ra rb h⟩
    · simp only [Bool.or_eq_false_iff, beq_eq_false_iff_ne, ne_eq]
      rintro ⟨h1, h2⟩
      generalize hx : cmpV ka na sa kb nb sb = x at *
      have hcase : x = -1 ∨ x = 0 ∨ x = 1 := by omega
      refine ⟨if decide (x < 0) then 1 else 0, if (x == 0) then 1 else 0, if decide (0 < x) then 1 else 0, if decide (0 ≤ x) then 1 else 0, if (x != 0) then 1 else 0, if decide (x ≤ 0) then 1 else 0, sgn_lt _ _ _ _ _ _ _ ra rb h1 h2 (by rw [hx]), sgn_eq _ _ _ _ _ _ _ ra rb h1 h2 (by rw [hx]), sgn_gt _ _ _ _ _ _ _ ra rb h1 h2 (by rw [hx]), ?_, sgn_le _ _ _ _ _ _ _ ra rb h1 h2 (by rw [hx]), sgn_ge _ _ _ _ _ _ _ ra rb h1 h2 (by rw [hx]), sgn_ne _ _ _ _ _ _ _ ra rb h1 h2 (by rw [hx]), sgn_gt _ _ _ _ _ _ _ rb ra h2 h1 (by rw [han]; rcases hcase with rfl | rfl | rfl <;> rfl), not_num _ _ ?_, not_num _ _ ?_, not_num _ _ ?_⟩
      · refine ⟨_, rfl, ?_⟩
        rcases hcase with rfl | rfl | rfl <;> decide +kernel
      · rcases hcase with rfl | rfl | rfl <;> rfl
      · rcases hcase with rfl | rfl | rfl <;> rfl
      · rcases hcase with rfl | rfl | rfl <;> rfl
end Go.Proofs.YtaidipdofomgoaaGreatDoor
