/-
  ValueCasts returns true for every two values: the walk. Conditions: the arguments are values; the library's variables are as its text lays them.
-/
import Derived.Test.YtaidipdofomgoaaGreatDoorVCasR
import Derived.Test.YtaidipdofomgoaaGreatDoorVParts
import Derived.Deep.Cut
namespace Go.Proofs.YtaidipdofomgoaaGreatDoor
open Go.ChangeShapes Go.WideShapes Go.ChangeAt Go.RowKit
set_option linter.unusedVariables false

abbrev v2 (w : World) (ka na : Int) (sa : ByteArray) (kb nb : Int) (sb : ByteArray) : World := (w.alloc (box ka na sa)).alloc (box kb nb sb)
theorem v2_below (w : World) (ka na : Int) (sa : ByteArray) (kb nb : Int) (sb : ByteArray) : Below w.heap.size w (v2 w ka na sa kb nb sb) :=
  ((Below.refl _ _).alloc (Nat.le_refl _) _).alloc (by simp) _
theorem v2_boxes (w : World) (ka na : Int) (sa : ByteArray) (kb nb : Int) (sb : ByteArray) (X : World) (h : Below (v2 w ka na sa kb nb sb).heap.size (v2 w ka na sa kb nb sb) X) :
    BoxAt w.heap.size ka na sa X ∧ BoxAt (w.heap.size + 1) kb nb sb X := by
  obtain ⟨hc, hf⟩ := bcell h
  have hs : (v2 w ka na sa kb nb sb).heap.size = w.heap.size + 2 := by simp
  refine ⟨⟨?_, ?_, ?_⟩, ⟨?_, ?_, ?_⟩⟩ <;> (rw [hc _ _ (by rw [hs]; omega)]; simp [go_sem])
theorem v2_list (w : World) (ka na : Int) (sa : ByteArray) (kb nb : Int) (sb : ByteArray) :
    RdV ((v2 w ka na sa kb nb sb).alloc (cells2 ka na sa kb nb sb)) (w.heap.size + 1 + 1) 0 [(ka, na, sa), (kb, nb, sb)] := by
  have h := rdv2 (v2 w ka na sa kb nb sb) ka na sa kb nb sb
  have hs : (v2 w ka na sa kb nb sb).heap.size = w.heap.size + 1 + 1 := by simp
  rw [hs] at h
  exact h
def CastOn (w0 : World) (g : ByteArray) (k n : Int) (s : ByteArray) (x y : Int) (z : ByteArray) : Prop :=
  ∀ W, Below w0.heap.size w0 W → Calls Tryz.prog 17 #[.string g, vv k n s] W (RetV (vv x y z) 0 W)
abbrev tobj : Obj := .cells #[.string ⟨#[105, 110, 116]⟩, .string ⟨#[116, 101, 120, 116]⟩] 9
theorem to_at (V X : World) (h : Below (V.alloc tobj).heap.size (V.alloc tobj) X) : X.cell? ⟨V.heap.size, 0, none⟩ = some (.string ⟨#[105, 110, 116]⟩) ∧ X.cell? ⟨V.heap.size, 1, none⟩ = some (.string ⟨#[116, 101, 120, 116]⟩) := by
  obtain ⟨hc, hf⟩ := bcell h
  refine ⟨?_, ?_⟩ <;> (rw [hc _ _ (by simp)]; simp [go_sem])
def ToRel (v : World) (i : Value) (wr : World) : Prop := ∃ z : Int, (z = 0 ∨ z = 1 ∨ z = 2) ∧ i = .int .i64 z ∧ Below v.heap.size v wr
set_option maxRecDepth 100000 in
set_option maxHeartbeats 400000 in
theorem casts_no (ka na : Int) (sa : ByteArray) (kb nb : Int) (sb : ByteArray) (w : World) (ha : sa.size ≤ 9223372036854775807) (hb : sb.size ≤ 9223372036854775807) (HW : Hid (Wd w)) (RR : Hid ([(ka, na, sa), (kb, nb, sb)].all shortR = false)) :
    Calls Tryz.prog 9 #[vv ka na sa, vv kb nb sb] w fun e w' => e = .returned (.bool true) ∧ Below w.heap.size w w' := by
  have HB := Lib.hid (v2_below w ka na sa kb nb sb)
  have HX := Lib.hid (Below.refl (v2 w ka na sa kb nb sb).heap.size (v2 w ka na sa kb nb sb))
  have HSZ := Lib.hid (show ∀ t ∈ [(ka, na, sa), (kb, nb, sb)], t.2.2.size ≤ 9223372036854775807 by simp [ha, hb])
  clear ha hb
  go_enter Tryz.func9, Tryz.ntmps9
  go_wp2_with fail
  refine (right_any _ 0 2 [(ka, na, sa), (kb, nb, sb)] _ HSZ.out (by simp) (v2_list w _ _ _ _ _ _)).mono ?_
  rintro e x1 ⟨rfl, b1⟩
  have HX := Lib.hid ((HX.out.alloc HX.out.size _).trans (b1.mono (by simp)))
  rw [RR.out]
  clear b1
  have HX := Lib.hid (HB.out.trans (HX.out.mono HB.out.size))
  go_wp2_with fail
  refine (aw_is w HW.out _ HX.out).mono ?_
  rintro e w2 ⟨rfl, b2⟩
  have HX := Lib.hid (HX.out.trans (b2.mono HX.out.size))
  clear b2
  go_wp2_with fail
  go_ret
  exact ⟨rfl, HX.out⟩

set_option maxRecDepth 100000 in
set_option maxHeartbeats 1000000 in
theorem casts_go (ka na : Int) (sa : ByteArray) (kb nb : Int) (sb : ByteArray) (w : World) (ha : sa.size ≤ 9223372036854775807) (hb : sb.size ≤ 9223372036854775807) (HW : Hid (Wd w)) (RR : Hid ([(ka, na, sa), (kb, nb, sb)].all shortR = true)) (x y : ByteArray) (A1 : Hid (ShowOn w ka na sa x)) (A2 : Hid (ShowOn w kb nb sb y)) (ε : Bool) (e1 : Hid ((x.toList == y.toList) = ε)) (e2 : Hid (sameV ka na sa kb nb sb = ε))
    (ki ni : Int) (si : ByteArray) (I1 : Hid (CastOn w ⟨#[105, 110, 116]⟩ ka na sa ki ni si)) (I2 : Hid (CastOn w ⟨#[105, 110, 116]⟩ ki ni si ki ni si)) (i0 : Hid ((ki == 0) = (ka == 0))) (kt nt : Int) (st : ByteArray) (T1 : Hid (CastOn w ⟨#[116, 101, 120, 116]⟩ ka na sa kt nt st)) (T2 : Hid (CastOn w ⟨#[116, 101, 120, 116]⟩ kt nt st kt nt st)) (t0 : Hid ((kt == 0) = (ka == 0)))
    (κ : Bool) (hκ : Hid ((ka == 1) = κ)) (N : Hid (κ = true → kt = 2 ∧ nt = 0 ∧ CastOn w ⟨#[105, 110, 116]⟩ 2 0 st 1 na ⟨#[]⟩ ∧ BothIs ⟨#[43]⟩ 2 0 st 1 0 ⟨#[]⟩ 1 na ⟨#[]⟩ ∧ (!sameV 1 na ⟨#[]⟩ ka na sa) = false)) :
    Calls Tryz.prog 9 #[vv ka na sa, vv kb nb sb] w fun e w' => e = .returned (.bool true) ∧ Below w.heap.size w w' := by
  have HB := Lib.hid (v2_below w ka na sa kb nb sb)
  have HX := Lib.hid (Below.refl (v2 w ka na sa kb nb sb).heap.size (v2 w ka na sa kb nb sb))
  have HSZ := Lib.hid (show ∀ t ∈ [(ka, na, sa), (kb, nb, sb)], t.2.2.size ≤ 9223372036854775807 by simp [ha, hb])
  clear ha hb
  go_enter Tryz.func9, Tryz.ntmps9
  go_wp2_with fail
  refine (right_any _ 0 2 [(ka, na, sa), (kb, nb, sb)] _ HSZ.out (by simp) (v2_list w _ _ _ _ _ _)).mono ?_
  rintro e x1 ⟨rfl, b1⟩
  have HX := Lib.hid ((HX.out.alloc HX.out.size _).trans (b1.mono (by simp)))
  rw [RR.out]
  clear b1
  have HVS := Lib.hid (HX.out.alloc HX.out.size tobj)
  clear HX RR
  go_wp2_with fail
  go_loopw [23] (fun i wr => ToRel (x1.alloc tobj) i wr) (fun i _ => 2 - (intOf i).toNat)
  case atStart => exact ⟨0, .inl rfl, rfl, Below.refl _ _⟩
  case round =>
  obtain ⟨z, hz, rfl, hbx⟩ := hrel
  have HS := Lib.hid hbx
  clear hbx
  rcases hz with rfl | rfl | rfl
  · obtain ⟨t0, t1⟩ := to_at x1 wr HS.out
    have HX := Lib.hid (HVS.out.trans (HS.out.mono HVS.out.size))
    obtain ⟨⟨g0, g1, g2⟩, _⟩ := v2_boxes _ _ _ _ _ _ _ _ HX.out
    go_wp2_with fail
    refine (I1.out _ (HB.out.trans (HX.out.mono HB.out.size))).mono ?_
    rintro e y1 ⟨rfl, b1⟩
    have HX := Lib.hid (HX.out.trans (b1.mono HX.out.size))
    have HS := Lib.hid (HS.out.trans (b1.mono HS.out.size))
    clear b1 g0 g1 g2 t0 t1
    have HX := Lib.hid (HX.out.alloc HX.out.size (box ki ni si))
    have HS := Lib.hid (HS.out.alloc HS.out.size (box ki ni si))
    have H7 := Lib.hid (Below.refl (y1.alloc (box ki ni si)).heap.size (y1.alloc (box ki ni si)))
    go_wp2_with fail
    refine (I2.out _ (HB.out.trans (HX.out.mono HB.out.size))).mono ?_
    rintro e y2 ⟨rfl, b1⟩
    have HX := Lib.hid (HX.out.trans (b1.mono HX.out.size))
    have HS := Lib.hid (HS.out.trans (b1.mono HS.out.size))
    have H7 := Lib.hid (H7.out.trans (b1.mono H7.out.size))
    clear b1
    have HX := Lib.hid (HX.out.alloc HX.out.size (box ki ni si))
    have HS := Lib.hid (HS.out.alloc HS.out.size (box ki ni si))
    have H7 := Lib.hid (H7.out.alloc H7.out.size (box ki ni si))
    go_upto_region 8 with (fail)
    refine region_as2 (ops' := ca8Ops) (by kernel_rfl) ?_
    refine ca8 ka na sa ki ni si w.heap.size y1.heap.size y2.heap.size _ i0 (Lib.hid rfl) (fun W hb => (v2_boxes _ _ _ _ _ _ _ W (HX.out.trans (hb.mono HX.out.size))).1) (fun W hb => box_at (H7.out.trans (hb.mono H7.out.size))) (fun W hb => box_at hb) rfl rfl rfl rfl rfl rfl ?_
    intro V X hb hv
    have HS := Lib.hid (HS.out.trans (hb.mono HS.out.size))
    rw [ca8_fill V, hv]
    clear hb hv HX H7
    go_wp2_with fail
    go_roundw
    case rel => exact ⟨1, .inr (.inl rfl), rfl, HS.out⟩
    case measure => simp [intOf]
  · obtain ⟨t0, t1⟩ := to_at x1 wr HS.out
    have HX := Lib.hid (HVS.out.trans (HS.out.mono HVS.out.size))
    obtain ⟨⟨g0, g1, g2⟩, _⟩ := v2_boxes _ _ _ _ _ _ _ _ HX.out
    go_wp2_with fail
    refine (T1.out _ (HB.out.trans (HX.out.mono HB.out.size))).mono ?_
    rintro e y1 ⟨rfl, b1⟩
    have HX := Lib.hid (HX.out.trans (b1.mono HX.out.size))
    have HS := Lib.hid (HS.out.trans (b1.mono HS.out.size))
    clear b1 g0 g1 g2 t0 t1
    have HX := Lib.hid (HX.out.alloc HX.out.size (box kt nt st))
    have HS := Lib.hid (HS.out.alloc HS.out.size (box kt nt st))
    have H7 := Lib.hid (Below.refl (y1.alloc (box kt nt st)).heap.size (y1.alloc (box kt nt st)))
    go_wp2_with fail
    refine (T2.out _ (HB.out.trans (HX.out.mono HB.out.size))).mono ?_
    rintro e y2 ⟨rfl, b1⟩
    have HX := Lib.hid (HX.out.trans (b1.mono HX.out.size))
    have HS := Lib.hid (HS.out.trans (b1.mono HS.out.size))
    have H7 := Lib.hid (H7.out.trans (b1.mono H7.out.size))
    clear b1
    have HX := Lib.hid (HX.out.alloc HX.out.size (box kt nt st))
    have HS := Lib.hid (HS.out.alloc HS.out.size (box kt nt st))
    have H7 := Lib.hid (H7.out.alloc H7.out.size (box kt nt st))
    go_upto_region 8 with (fail)
    refine region_as2 (ops' := ca8Ops) (by kernel_rfl) ?_
    refine ca8 ka na sa kt nt st w.heap.size y1.heap.size y2.heap.size _ t0 (Lib.hid rfl) (fun W hb => (v2_boxes _ _ _ _ _ _ _ W (HX.out.trans (hb.mono HX.out.size))).1) (fun W hb => box_at (H7.out.trans (hb.mono H7.out.size))) (fun W hb => box_at hb) rfl rfl rfl rfl rfl rfl ?_
    intro V X hb hv
    have HS := Lib.hid (HS.out.trans (hb.mono HS.out.size))
    rw [ca8_fill V, hv]
    clear hb hv HX H7
    go_wp2_with fail
    go_roundw
    case rel => exact ⟨2, .inr (.inr rfl), rfl, HS.out⟩
    case measure => simp [intOf]
  · have HX := Lib.hid (HVS.out.trans (HS.out.mono HVS.out.size))
    clear HS HVS I1 I2 T2
    obtain ⟨⟨g0, g1, g2⟩, _⟩ := v2_boxes _ _ _ _ _ _ _ _ HX.out
    cases κ
    · have hk := hκ.out
      clear N T1
      go_upto_region 16 with (fail)
      refine region_as2 (ops' := ca16Ops) (by kernel_rfl) ?_
      refine ca16 ka na sa kb nb sb x y w.heap.size (w.heap.size + 1) ε e1 e2 (fun W hb => (v2_boxes _ _ _ _ _ _ _ W (HX.out.trans (hb.mono HX.out.size))).1) (fun W hb => (v2_boxes _ _ _ _ _ _ _ W (HX.out.trans (hb.mono HX.out.size))).2) ((aw_is w HW.out).on (HB.out.trans (HX.out.mono HB.out.size))) (A1.out.on (HB.out.trans (HX.out.mono HB.out.size))) (A2.out.on (HB.out.trans (HX.out.mono HB.out.size))) rfl rfl rfl ?_
      intro V X hb hv
      have HX := Lib.hid (HX.out.trans (hb.mono HX.out.size))
      rw [ca16_fill V, hv]
      clear hb hv
      go_wp2_with fail
      go_ret
      exact ⟨rfl, HB.out.trans (HX.out.mono HB.out.size)⟩
    · have hk := hκ.out
      obtain ⟨q1, q2, q3, q4, q5⟩ := N.out rfl
      have Q3 := Lib.hid q3
      have Q4 := Lib.hid q4
      have Q5 := Lib.hid q5
      have TT := Lib.hid (show CastOn w ⟨#[116, 101, 120, 116]⟩ ka na sa 2 0 st by have := T1.out; rw [q1, q2] at this; exact this)
      clear q1 q2 q3 q4 q5 N T1 t0
      go_wp2_with fail
      refine (TT.out _ (HB.out.trans (HX.out.mono HB.out.size))).mono ?_
      rintro e y1 ⟨rfl, b1⟩
      have HX := Lib.hid (HX.out.trans (b1.mono HX.out.size))
      have HX := Lib.hid (HX.out.alloc HX.out.size (box 2 0 st))
      have H11 := Lib.hid (Below.refl (y1.alloc (box 2 0 st)).heap.size (y1.alloc (box 2 0 st)))
      clear b1 g0 g1 g2
      go_wp2_with fail
      refine (Q3.out _ (HB.out.trans (HX.out.mono HB.out.size))).mono ?_
      rintro e y2 ⟨rfl, b1⟩
      have HX := Lib.hid (HX.out.trans (b1.mono HX.out.size))
      have H11 := Lib.hid (H11.out.trans (b1.mono H11.out.size))
      have HX := Lib.hid (HX.out.alloc HX.out.size (box 1 na ⟨#[]⟩))
      have H11 := Lib.hid (H11.out.alloc H11.out.size (box 1 na ⟨#[]⟩))
      clear b1
      go_upto_region 14 with (fail)
      refine region_as2 (ops' := ca14Ops) (by kernel_rfl) ?_
      refine ca14 ka na sa st w.heap.size y1.heap.size y2.heap.size Q4.out Q5 (fun W hb => (v2_boxes _ _ _ _ _ _ _ W (HX.out.trans (hb.mono HX.out.size))).1) (fun W hb => box_at (H11.out.trans (hb.mono H11.out.size))) (fun W hb => box_at hb) rfl rfl rfl rfl ?_
      intro V X hb hv
      have HX := Lib.hid (HX.out.trans (hb.mono HX.out.size))
      rw [ca14_fill V, hv]
      clear hb hv H11 TT Q3 Q4 Q5
      go_upto_region 16 with (fail)
      refine region_as2 (ops' := ca16Ops) (by kernel_rfl) ?_
      refine ca16 ka na sa kb nb sb x y w.heap.size (w.heap.size + 1) ε e1 e2 (fun W hb => (v2_boxes _ _ _ _ _ _ _ W (HX.out.trans (hb.mono HX.out.size))).1) (fun W hb => (v2_boxes _ _ _ _ _ _ _ W (HX.out.trans (hb.mono HX.out.size))).2) ((aw_is w HW.out).on (HB.out.trans (HX.out.mono HB.out.size))) (A1.out.on (HB.out.trans (HX.out.mono HB.out.size))) (A2.out.on (HB.out.trans (HX.out.mono HB.out.size))) rfl rfl rfl ?_
      intro V X hb hv
      have HX := Lib.hid (HX.out.trans (hb.mono HX.out.size))
      rw [ca16_fill V, hv]
      clear hb hv
      go_wp2_with fail
      go_ret
      exact ⟨rfl, HB.out.trans (HX.out.mono HB.out.size)⟩

theorem len_size (s : ByteArray) : s.data.toList.length = s.size := by
  rcases s with ⟨⟨l⟩⟩
  rfl
theorem dec_len : ∀ (k u : Nat), u < 10 ^ (k + 1) → (Lib.decDigits u).length ≤ k + 1 := by
  intro k
  induction k with
  | zero =>
    intro u hu
    rw [Lib.decDigits_one (by simpa using hu)]
    simp
  | succ k ih =>
    intro u hu
    by_cases h : u < 10
    · rw [Lib.decDigits_one h]
      simp
    · rw [Lib.decDigits, dif_neg h]
      have := ih (u / 10) (by rw [Nat.pow_succ] at hu; omega)
      simp only [List.length_append, List.length_cons, List.length_nil]
      omega
theorem itoa_len (n : Int) (h : In64 n) : (Lib.itoa n).length ≤ 20 := by
  unfold In64 at h
  unfold Lib.itoa
  split
  · have := dec_len 18 n.natAbs (by have : (10 : Nat) ^ 19 = 10000000000000000000 := by decide
                                    omega)
    simp only [List.length_cons]
    omega
  · have := dec_len 18 n.toNat (by have : (10 : Nat) ^ 19 = 10000000000000000000 := by decide
                                   omega)
    omega
theorem dbl_len : ∀ s : List UInt8, (dbl s).length ≤ 2 * s.length
  | [] => by simp [dbl]
  | c :: r => by
    have := dbl_len r
    unfold dbl
    split
    · simp only [List.length_cons]; omega
    · simp only [List.length_cons]; omega
theorem text_size (k n : Int) (s : ByteArray) (hn : In64 n) (hs : s.size ≤ 300) : (textV k n s).size ≤ 65536 := by
  unfold textV
  split
  · have := itoa_len n hn
    show (Lib.itoa n).toArray.size ≤ _
    simp
    omega
  · split
    · omega
    · show (0 : Nat) ≤ _
      omega
/-- what Show tells -/
def showX (k n : Int) (s : ByteArray) : ByteArray := if k = 0 then ⟨#[78, 85, 76, 76]⟩ else if k = 1 then textV 1 n ⟨#[]⟩ else if k = 2 then showT s else showB s
theorem show_on (k n : Int) (s : ByteArray) (w : World) (hr : Rt k n s) (hs : s.size ≤ 300) (hn : In64 n) (hW : Wd w) : ShowOn w k n s (showX k n s) := by
  intro W hb
  have hW' := hW.on hb
  rcases hr with ⟨rfl, rfl, h0⟩ | ⟨rfl, h0⟩ | ⟨h1, rfl, h0⟩
  · rw [ba_nil h0]
    exact Show_null W
  · rw [ba_nil h0]
    exact Show_int n W hn hW' _ rfl
  · rcases h1 with rfl | rfl
    · refine Show_text 0 s W hW' (by omega) ?_ ?_
      · have h2 : Lib.countB s ⟨#[39]⟩ = s.data.toList.count 39 := by
          unfold Lib.countB
          exact Lib.count_one 39 _
        have h3 : s.data.toList.count 39 ≤ s.data.toList.length := List.count_le_length
        have h4 : s.data.toList.length = s.size := len_size s
        rw [h2]
        omega
      · rw [repAll_dbl]
        have h3 := dbl_len s.data.toList
        have h4 : s.data.toList.length = s.size := len_size s
        omega
    · exact Show_blob 0 s W (by omega)
theorem ba_list {s t : ByteArray} (h : s = t) : s.data.toList = t.data.toList := by rw [h]
theorem showX_list (k n : Int) (s : ByteArray) (hr : Rt k n s) : (showX k n s).data.toList = if k = 0 then [78, 85, 76, 76] else if k = 1 then Lib.itoa n else if k = 2 then 39 :: (dbl s.data.toList ++ [39]) else 88 :: 39 :: (hexL s.data.toList ++ [39]) := by
  unfold showX
  split
  · rfl
  · split
    · simp [textV]
    · split
      · unfold showT
        rw [repAll_dbl]
        simp [ByteArray.data_append]
      · unfold showB
        simp [ByteArray.data_append]
/-- WHAT IS SHOWN OF A VALUE IS NO OTHER's -/
theorem show_inj (k n : Int) (s : ByteArray) (k' n' : Int) (s' : ByteArray) (hr : Rt k n s) (hr' : Rt k' n' s') (hn : In64 n) (hn' : In64 n') (h : showX k n s = showX k' n' s') : k = k' ∧ n = n' ∧ s = s' := by
  have hl := ba_list h
  rw [showX_list k n s hr, showX_list k' n' s' hr'] at hl
  obtain ⟨c, r, hc, hc2⟩ := itoa_head n
  obtain ⟨d, q, hd, hd2⟩ := itoa_head n'
  have n78 : (78 : UInt8).toNat = 78 := rfl
  have n39 : (39 : UInt8).toNat = 39 := rfl
  have n88 : (88 : UInt8).toNat = 88 := rfl
  rcases hr with ⟨rfl, rfl, h0⟩ | ⟨rfl, h0⟩ | ⟨h1, rfl, h0⟩
  · rcases hr' with ⟨rfl, rfl, h0'⟩ | ⟨rfl, h0'⟩ | ⟨h1', rfl, h0'⟩
    · exact ⟨rfl, rfl, (ba_nil h0).trans (ba_nil h0').symm⟩
    · rw [if_pos rfl, if_neg (by omega), if_pos rfl, hd] at hl
      have := (List.cons.inj hl).1
      rw [← this] at hd2
      omega
    · rw [if_pos rfl, if_neg (by omega), if_neg (by omega)] at hl
      rcases h1' with rfl | rfl
      · rw [if_pos rfl] at hl
        exact absurd (List.cons.inj hl).1 (by decide)
      · rw [if_neg (by omega)] at hl
        exact absurd (List.cons.inj hl).1 (by decide)
  · rw [if_neg (by omega), if_pos rfl] at hl
    rcases hr' with ⟨rfl, rfl, h0'⟩ | ⟨rfl, h0'⟩ | ⟨h1', rfl, h0'⟩
    · rw [if_pos rfl, hc] at hl
      have := (List.cons.inj hl).1
      rw [this] at hc2
      omega
    · rw [if_neg (by omega), if_pos rfl] at hl
      exact ⟨rfl, itoa_inj hn hn' hl, (ba_nil h0).trans (ba_nil h0').symm⟩
    · rw [if_neg (by omega), if_neg (by omega), hc] at hl
      rcases h1' with rfl | rfl
      · rw [if_pos rfl] at hl
        have := (List.cons.inj hl).1
        rw [this] at hc2
        omega
      · rw [if_neg (by omega)] at hl
        have := (List.cons.inj hl).1
        rw [this] at hc2
        omega
  · rw [if_neg (by omega), if_neg (by omega)] at hl
    rcases hr' with ⟨rfl, rfl, h0'⟩ | ⟨rfl, h0'⟩ | ⟨h1', rfl, h0'⟩
    · rw [if_pos rfl] at hl
      rcases h1 with rfl | rfl
      · rw [if_pos rfl] at hl
        exact absurd (List.cons.inj hl).1 (by decide)
      · rw [if_neg (by omega)] at hl
        exact absurd (List.cons.inj hl).1 (by decide)
    · rw [if_neg (by omega : ¬ (1 : Int) = 0), if_pos rfl, hd] at hl
      rcases h1 with rfl | rfl
      · rw [if_pos rfl] at hl
        have := (List.cons.inj hl).1
        rw [← this] at hd2
        omega
      · rw [if_neg (by omega)] at hl
        have := (List.cons.inj hl).1
        rw [← this] at hd2
        omega
    · rw [if_neg (by omega : ¬ k' = 0), if_neg (by omega : ¬ k' = 1)] at hl
      rcases h1 with rfl | rfl
      · rcases h1' with rfl | rfl
        · rw [if_pos rfl, if_pos rfl] at hl
          have := (List.cons.inj hl).2
          exact ⟨rfl, rfl, ba_ext (dbl_inj _ _ (List.append_cancel_right this))⟩
        · rw [if_pos rfl, if_neg (by omega)] at hl
          exact absurd (List.cons.inj hl).1 (by decide)
      · rcases h1' with rfl | rfl
        · rw [if_neg (by omega), if_pos rfl] at hl
          exact absurd (List.cons.inj hl).1 (by decide)
        · rw [if_neg (by omega), if_neg (by omega)] at hl
          have := (List.cons.inj (List.cons.inj hl).2).2
          exact ⟨rfl, rfl, ba_ext (hexL_inj _ _ (List.append_cancel_right this))⟩

theorem casts_walk (ka na : Int) (sa : ByteArray) (kb nb : Int) (sb : ByteArray) (w : World) (ha : sa.size ≤ 9223372036854775807) (hb : sb.size ≤ 9223372036854775807) (hna : In64 na) (hnb : In64 nb) (hW : Wd w) :
    Calls Tryz.prog 9 #[vv ka na sa, vv kb nb sb] w fun e w' => e = .returned (.bool true) ∧ Below w.heap.size w w' := by
  cases hall : [(ka, na, sa), (kb, nb, sb)].all shortR
  · exact casts_no ka na sa kb nb sb w ha hb (Lib.hid hW) (Lib.hid hall)
  · have hR : (Rt ka na sa ∧ sa.size ≤ 300) ∧ (Rt kb nb sb ∧ sb.size ≤ 300) := by
      simp only [List.all_cons, Bool.and_eq_true, shortR, decide_eq_true_eq] at hall
      exact ⟨hall.1, hall.2.1⟩
    obtain ⟨⟨ra, za⟩, rb, zb⟩ := hR
    have hshow : ((showX ka na sa).toList == (showX kb nb sb).toList) = sameV ka na sa kb nb sb := by
      rw [toList_beq, Bool.eq_iff_iff]
      simp only [sameV, decide_eq_true_eq]
      constructor
      · exact show_inj _ _ _ _ _ _ ra rb hna hnb
      · rintro ⟨rfl, rfl, rfl⟩
        rfl
    have go := casts_go ka na sa kb nb sb w ha hb (Lib.hid hW) (Lib.hid hall) _ _ (Lib.hid (show_on ka na sa w ra za hna hW)) (Lib.hid (show_on kb nb sb w rb zb hnb hW)) _ (Lib.hid hshow) (Lib.hid rfl)
    by_cases hk : ka = 0
    · refine go 0 0 ⟨#[]⟩ (Lib.hid fun W _ => Cast_int_null ka na sa W ra hk) (Lib.hid fun W _ => Cast_int_null 0 0 ⟨#[]⟩ W Rt_nul rfl) (Lib.hid (by simp [hk])) 0 0 ⟨#[]⟩ (Lib.hid fun W _ => Cast_text_nul ka na sa W ra hk) (Lib.hid fun W _ => Cast_text_nul 0 0 ⟨#[]⟩ W Rt_nul rfl) (Lib.hid (by simp [hk])) _ (Lib.hid rfl) (Lib.hid ?_)
      intro h
      rw [hk] at h
      cases h
    · have hk0 : (ka == 0) = false := by simpa using hk
      have ht := text_size ka na sa hna za
      have rt : Rt 2 0 (textV ka na sa) := .inr (.inr ⟨.inl rfl, rfl, ht⟩)
      refine go 1 (intV ka na sa) ⟨#[]⟩ (Lib.hid fun W _ => Cast_int ka na sa W ra hk _ rfl) (Lib.hid fun W _ => Cast_int 1 (intV ka na sa) ⟨#[]⟩ W (Rt_int _) (by omega) _ rfl) (Lib.hid (by rw [hk0]; rfl)) 2 0 (textV ka na sa) (Lib.hid fun W hx => Cast_text ka na sa W ra hk hna (hW.on hx) _ rfl) (Lib.hid fun W hx => Cast_text 2 0 (textV ka na sa) W rt (by omega) (by decide) (hW.on hx) _ rfl) (Lib.hid (by rw [hk0]; rfl)) _ (Lib.hid rfl) (Lib.hid ?_)
      intro h
      have h1 : ka = 1 := by simpa using h
      subst h1
      have hs0 : sa = ⟨#[]⟩ := by
        rcases ra with ⟨h, _, _⟩ | ⟨_, h⟩ | ⟨h, _, _⟩
        · omega
        · exact ba_nil h
        · omega
      subst hs0
      have hi : intV 2 0 (textV 1 na ⟨#[]⟩) = na := by
        have : intV 2 0 (textV 1 na ⟨#[]⟩) = leadInt (Lib.itoa na) := by simp [intV, textV]
        rw [this, lead_itoa na hna]
      refine ⟨rfl, rfl, fun W _ => Cast_int 2 0 _ W rt (by omega) na hi, both_is _ _ _ _ _ _ _ _ _ _ 0 fun W => ?_, by rw [same_self]; rfl⟩
      have hz : (textV 1 na ⟨#[]⟩).size ≤ 4611686018427387904 := by omega
      have := Op_add 2 0 (textV 1 na ⟨#[]⟩) 1 0 ⟨#[]⟩ W rt (Rt_int _) (by omega) (by omega) _ _ _ _ fun X _ => ofTwo_add 2 0 (textV 1 na ⟨#[]⟩) 1 0 ⟨#[]⟩ X hz sz0 (by rw [hi]; exact hna) (by decide) (by rw [hi]; show In64 (na + 0); rw [Int.add_zero]; exact hna)
      rw [hi] at this
      have e : na + intV 1 0 ⟨#[]⟩ = na := Int.add_zero na
      rw [e] at this
      exact this
end Go.Proofs.YtaidipdofomgoaaGreatDoor
