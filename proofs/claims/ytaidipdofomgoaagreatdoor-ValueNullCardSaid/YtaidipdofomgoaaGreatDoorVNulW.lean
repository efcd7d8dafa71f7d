/-
  ValueNull returns true for every value: the walk. Conditions: the argument is a value; the library's variables are as its text lays them.
-/
import Derived.Test.YtaidipdofomgoaaGreatDoorVNulR
import Derived.Test.YtaidipdofomgoaaGreatDoorVParts
import Derived.Deep.Cut
namespace Go.Proofs.YtaidipdofomgoaaGreatDoor
open Go.ChangeShapes Go.WideShapes Go.ChangeAt Go.RowKit
set_option linter.unusedVariables false

abbrev sobj : Obj := .cells #[.string ⟨#[43]⟩, .string ⟨#[45]⟩, .string ⟨#[42]⟩, .string ⟨#[47]⟩, .string ⟨#[37]⟩, .string ⟨#[124, 124]⟩, .string ⟨#[61]⟩, .string ⟨#[60, 62]⟩, .string ⟨#[60]⟩, .string ⟨#[60, 61]⟩, .string ⟨#[62]⟩, .string ⟨#[62, 61]⟩, .string ⟨#[108, 105, 107, 101]⟩] 9
abbrev fobj : Obj := .cells #[.string ⟨#[108, 101, 110, 103, 116, 104]⟩, .string ⟨#[117, 112, 112, 101, 114]⟩, .string ⟨#[108, 111, 119, 101, 114]⟩, .string ⟨#[97, 98, 115]⟩] 9
def sgs : List ByteArray := [⟨#[43]⟩, ⟨#[45]⟩, ⟨#[42]⟩, ⟨#[47]⟩, ⟨#[37]⟩, ⟨#[124, 124]⟩, ⟨#[61]⟩, ⟨#[60, 62]⟩, ⟨#[60]⟩, ⟨#[60, 61]⟩, ⟨#[62]⟩, ⟨#[62, 61]⟩, ⟨#[108, 105, 107, 101]⟩]
def fgs : List ByteArray := [⟨#[108, 101, 110, 103, 116, 104]⟩, ⟨#[117, 112, 112, 101, 114]⟩, ⟨#[108, 111, 119, 101, 114]⟩, ⟨#[97, 98, 115]⟩]
theorem sg_at (V X : World) (h : Below (V.alloc sobj).heap.size (V.alloc sobj) X) : ∀ j : Nat, j < 13 → X.cell? ⟨V.heap.size, j, none⟩ = some (.string (sgs.getD j ⟨#[]⟩)) := by
  obtain ⟨hc, hf⟩ := bcell h
  intro j hj
  rw [hc _ _ (by simp)]
  match j, hj with
  | 0, _ => simp [go_sem, sgs]
  | 1, _ => simp [go_sem, sgs]
  | 2, _ => simp [go_sem, sgs]
  | 3, _ => simp [go_sem, sgs]
  | 4, _ => simp [go_sem, sgs]
  | 5, _ => simp [go_sem, sgs]
  | 6, _ => simp [go_sem, sgs]
  | 7, _ => simp [go_sem, sgs]
  | 8, _ => simp [go_sem, sgs]
  | 9, _ => simp [go_sem, sgs]
  | 10, _ => simp [go_sem, sgs]
  | 11, _ => simp [go_sem, sgs]
  | 12, _ => simp [go_sem, sgs]
theorem fg_at (V X : World) (h : Below (V.alloc fobj).heap.size (V.alloc fobj) X) : ∀ j : Nat, j < 4 → X.cell? ⟨V.heap.size, j, none⟩ = some (.string (fgs.getD j ⟨#[]⟩)) := by
  obtain ⟨hc, hf⟩ := bcell h
  intro j hj
  rw [hc _ _ (by simp)]
  match j, hj with
  | 0, _ => simp [go_sem, fgs]
  | 1, _ => simp [go_sem, fgs]
  | 2, _ => simp [go_sem, fgs]
  | 3, _ => simp [go_sem, fgs]
def SgRel (v : World) (i : Value) (wr : World) : Prop := ∃ z : Int, (z = 0 ∨ z = 1 ∨ z = 2 ∨ z = 3 ∨ z = 4 ∨ z = 5 ∨ z = 6 ∨ z = 7 ∨ z = 8 ∨ z = 9 ∨ z = 10 ∨ z = 11 ∨ z = 12 ∨ z = 13) ∧ i = .int .i64 z ∧ Below v.heap.size v wr
def FgRel (v : World) (i : Value) (wr : World) : Prop := ∃ z : Int, (z = 0 ∨ z = 1 ∨ z = 2 ∨ z = 3 ∨ z = 4) ∧ i = .int .i64 z ∧ Below v.heap.size v wr

theorem v1_list (w : World) (ka na : Int) (sa : ByteArray) : RdV ((w.alloc (box ka na sa)).alloc (box ka na sa)) (w.heap.size + 1) 0 [(ka, na, sa)] := by
  have h := rdv1 (w.alloc (box ka na sa)) ka na sa
  have hs : (w.alloc (box ka na sa)).heap.size = w.heap.size + 1 := by simp
  rw [hs] at h
  exact h
set_option maxRecDepth 100000 in
set_option maxHeartbeats 400000 in
theorem null_no (ka na : Int) (sa : ByteArray) (w : World) (ha : sa.size ≤ 9223372036854775807) (HW : Hid (Wd w)) (RR : Hid ([(ka, na, sa)].all shortR = false)) :
    Calls Tryz.prog 11 #[vv ka na sa] w fun e w' => e = .returned (.bool true) ∧ Below w.heap.size w w' := by
  have HB := Lib.hid ((Below.refl w.heap.size w).alloc (Nat.le_refl _) (box ka na sa))
  have HA := Lib.hid (Below.refl (w.alloc (box ka na sa)).heap.size (w.alloc (box ka na sa)))
  have HSZ := Lib.hid (show ∀ t ∈ [(ka, na, sa)], t.2.2.size ≤ 9223372036854775807 by simp [ha])
  clear ha
  go_enter Tryz.func11, Tryz.ntmps11
  go_wp2_with fail
  refine (right_any _ 0 1 [(ka, na, sa)] _ HSZ.out (by simp) (v1_list w ka na sa)).mono ?_
  rintro e x1 ⟨rfl, b1⟩
  have HA := Lib.hid ((HA.out.alloc HA.out.size _).trans (b1.mono (by simp)))
  rw [RR.out]
  clear b1
  have HX := Lib.hid (HB.out.trans (HA.out.mono HB.out.size))
  go_wp2_with fail
  refine (aw_is w HW.out _ HX.out).mono ?_
  rintro e w2 ⟨rfl, b2⟩
  have HX := Lib.hid (HX.out.trans (b2.mono HX.out.size))
  clear b2
  go_wp2_with fail
  go_ret
  exact ⟨rfl, HX.out⟩

theorem sg_at1 (x X : World) (h : Below ((w1 x).alloc sobj).heap.size ((w1 x).alloc sobj) X) : ∀ j : Nat, j < 13 → X.cell? ⟨x.heap.size + 1, j, none⟩ = some (.string (sgs.getD j ⟨#[]⟩)) := by
  have e := sg_at (w1 x) X h
  rw [w1_size] at e
  exact e
set_option maxRecDepth 100000 in
set_option maxHeartbeats 2000000 in
theorem null_go (ka na : Int) (sa : ByteArray) (w : World) (ha : sa.size ≤ 9223372036854775807) (HW : Hid (Wd w)) (RR : Hid ([(ka, na, sa)].all shortR = true)) (RA : Hid (Rt ka na sa)) :
    Calls Tryz.prog 11 #[vv ka na sa] w fun e w' => e = .returned (.bool true) ∧ Below w.heap.size w w' := by
  have HB := Lib.hid ((Below.refl w.heap.size w).alloc (Nat.le_refl _) (box ka na sa))
  have HA := Lib.hid (Below.refl (w.alloc (box ka na sa)).heap.size (w.alloc (box ka na sa)))
  have HSZ := Lib.hid (show ∀ t ∈ [(ka, na, sa)], t.2.2.size ≤ 9223372036854775807 by simp [ha])
  clear ha
  go_enter Tryz.func11, Tryz.ntmps11
  go_wp2_with fail
  refine (right_any _ 0 1 [(ka, na, sa)] _ HSZ.out (by simp) (v1_list w ka na sa)).mono ?_
  rintro e x1 ⟨rfl, b1⟩
  have HA := Lib.hid ((HA.out.alloc HA.out.size _).trans (b1.mono (by simp)))
  rw [RR.out]
  clear b1
  have HAS := Lib.hid ((HA.out.alloc HA.out.size (box 0 0 ⟨#[]⟩)).alloc (by have := HA.out.size; simp at this ⊢; omega) sobj)
  have HNS := Lib.hid ((Below.refl (w1 x1).heap.size (w1 x1)).alloc (Nat.le_refl _) sobj)
  clear HA RR
  go_wp2_with fail
  go_loopw [20] (fun i wr => SgRel ((w1 x1).alloc sobj) i wr) (fun i _ => 13 - (intOf i).toNat)
  case atStart => exact ⟨0, .inl rfl, rfl, Below.refl _ _⟩
  case round =>
  obtain ⟨z, hz, rfl, hbx⟩ := hrel
  have HS := Lib.hid hbx
  clear hbx
  rcases hz with rfl | rfl | rfl | rfl | rfl | rfl | rfl | rfl | rfl | rfl | rfl | rfl | rfl | rfl
  · have g : wr.cell? ⟨x1.heap.size + 1, 0, none⟩ = some (.string ⟨#[43]⟩) := sg_at1 x1 wr HS.out 0 (by decide)
    go_upto_region 7 with (fail)
    refine region_as2 (ops' := nu7Ops) (by kernel_rfl) ?_
    refine nu7 ka na sa w.heap.size x1.heap.size RA ⟨#[43]⟩ opn_add (fun W hb => box_at (HAS.out.trans ((HS.out.trans (hb.mono HS.out.size)).mono HAS.out.size))) (fun W hb => box_at (HNS.out.trans ((HS.out.trans (hb.mono HS.out.size)).mono HNS.out.size))) rfl rfl rfl rfl ?_
    intro V X hb hv
    have HX := Lib.hid (HS.out.trans (hb.mono HS.out.size))
    rw [nu7_fill V, hv]
    clear hb hv g HS
    go_wp2_with fail
    go_roundw
    case rel => exact ⟨1, .inr (.inl rfl), rfl, HX.out⟩
    case measure => simp [intOf]
  · have g : wr.cell? ⟨x1.heap.size + 1, 1, none⟩ = some (.string ⟨#[45]⟩) := sg_at1 x1 wr HS.out 1 (by decide)
    go_upto_region 7 with (fail)
    refine region_as2 (ops' := nu7Ops) (by kernel_rfl) ?_
    refine nu7 ka na sa w.heap.size x1.heap.size RA ⟨#[45]⟩ opn_sub (fun W hb => box_at (HAS.out.trans ((HS.out.trans (hb.mono HS.out.size)).mono HAS.out.size))) (fun W hb => box_at (HNS.out.trans ((HS.out.trans (hb.mono HS.out.size)).mono HNS.out.size))) rfl rfl rfl rfl ?_
    intro V X hb hv
    have HX := Lib.hid (HS.out.trans (hb.mono HS.out.size))
    rw [nu7_fill V, hv]
    clear hb hv g HS
    go_wp2_with fail
    go_roundw
    case rel => exact ⟨2, .inr (.inr (.inl rfl)), rfl, HX.out⟩
    case measure => simp [intOf]
  · have g : wr.cell? ⟨x1.heap.size + 1, 2, none⟩ = some (.string ⟨#[42]⟩) := sg_at1 x1 wr HS.out 2 (by decide)
    go_upto_region 7 with (fail)
    refine region_as2 (ops' := nu7Ops) (by kernel_rfl) ?_
    refine nu7 ka na sa w.heap.size x1.heap.size RA ⟨#[42]⟩ opn_mul (fun W hb => box_at (HAS.out.trans ((HS.out.trans (hb.mono HS.out.size)).mono HAS.out.size))) (fun W hb => box_at (HNS.out.trans ((HS.out.trans (hb.mono HS.out.size)).mono HNS.out.size))) rfl rfl rfl rfl ?_
    intro V X hb hv
    have HX := Lib.hid (HS.out.trans (hb.mono HS.out.size))
    rw [nu7_fill V, hv]
    clear hb hv g HS
    go_wp2_with fail
    go_roundw
    case rel => exact ⟨3, .inr (.inr (.inr (.inl rfl))), rfl, HX.out⟩
    case measure => simp [intOf]
  · have g : wr.cell? ⟨x1.heap.size + 1, 3, none⟩ = some (.string ⟨#[47]⟩) := sg_at1 x1 wr HS.out 3 (by decide)
    go_upto_region 7 with (fail)
    refine region_as2 (ops' := nu7Ops) (by kernel_rfl) ?_
    refine nu7 ka na sa w.heap.size x1.heap.size RA ⟨#[47]⟩ opn_quo (fun W hb => box_at (HAS.out.trans ((HS.out.trans (hb.mono HS.out.size)).mono HAS.out.size))) (fun W hb => box_at (HNS.out.trans ((HS.out.trans (hb.mono HS.out.size)).mono HNS.out.size))) rfl rfl rfl rfl ?_
    intro V X hb hv
    have HX := Lib.hid (HS.out.trans (hb.mono HS.out.size))
    rw [nu7_fill V, hv]
    clear hb hv g HS
    go_wp2_with fail
    go_roundw
    case rel => exact ⟨4, .inr (.inr (.inr (.inr (.inl rfl)))), rfl, HX.out⟩
    case measure => simp [intOf]
  · have g : wr.cell? ⟨x1.heap.size + 1, 4, none⟩ = some (.string ⟨#[37]⟩) := sg_at1 x1 wr HS.out 4 (by decide)
    go_upto_region 7 with (fail)
    refine region_as2 (ops' := nu7Ops) (by kernel_rfl) ?_
    refine nu7 ka na sa w.heap.size x1.heap.size RA ⟨#[37]⟩ opn_rem (fun W hb => box_at (HAS.out.trans ((HS.out.trans (hb.mono HS.out.size)).mono HAS.out.size))) (fun W hb => box_at (HNS.out.trans ((HS.out.trans (hb.mono HS.out.size)).mono HNS.out.size))) rfl rfl rfl rfl ?_
    intro V X hb hv
    have HX := Lib.hid (HS.out.trans (hb.mono HS.out.size))
    rw [nu7_fill V, hv]
    clear hb hv g HS
    go_wp2_with fail
    go_roundw
    case rel => exact ⟨5, .inr (.inr (.inr (.inr (.inr (.inl rfl))))), rfl, HX.out⟩
    case measure => simp [intOf]
  · have g : wr.cell? ⟨x1.heap.size + 1, 5, none⟩ = some (.string ⟨#[124, 124]⟩) := sg_at1 x1 wr HS.out 5 (by decide)
    go_upto_region 7 with (fail)
    refine region_as2 (ops' := nu7Ops) (by kernel_rfl) ?_
    refine nu7 ka na sa w.heap.size x1.heap.size RA ⟨#[124, 124]⟩ opn_cat (fun W hb => box_at (HAS.out.trans ((HS.out.trans (hb.mono HS.out.size)).mono HAS.out.size))) (fun W hb => box_at (HNS.out.trans ((HS.out.trans (hb.mono HS.out.size)).mono HNS.out.size))) rfl rfl rfl rfl ?_
    intro V X hb hv
    have HX := Lib.hid (HS.out.trans (hb.mono HS.out.size))
    rw [nu7_fill V, hv]
    clear hb hv g HS
    go_wp2_with fail
    go_roundw
    case rel => exact ⟨6, .inr (.inr (.inr (.inr (.inr (.inr (.inl rfl)))))), rfl, HX.out⟩
    case measure => simp [intOf]
  · have g : wr.cell? ⟨x1.heap.size + 1, 6, none⟩ = some (.string ⟨#[61]⟩) := sg_at1 x1 wr HS.out 6 (by decide)
    go_upto_region 7 with (fail)
    refine region_as2 (ops' := nu7Ops) (by kernel_rfl) ?_
    refine nu7 ka na sa w.heap.size x1.heap.size RA ⟨#[61]⟩ opn_eq (fun W hb => box_at (HAS.out.trans ((HS.out.trans (hb.mono HS.out.size)).mono HAS.out.size))) (fun W hb => box_at (HNS.out.trans ((HS.out.trans (hb.mono HS.out.size)).mono HNS.out.size))) rfl rfl rfl rfl ?_
    intro V X hb hv
    have HX := Lib.hid (HS.out.trans (hb.mono HS.out.size))
    rw [nu7_fill V, hv]
    clear hb hv g HS
    go_wp2_with fail
    go_roundw
    case rel => exact ⟨7, .inr (.inr (.inr (.inr (.inr (.inr (.inr (.inl rfl))))))), rfl, HX.out⟩
    case measure => simp [intOf]
  · have g : wr.cell? ⟨x1.heap.size + 1, 7, none⟩ = some (.string ⟨#[60, 62]⟩) := sg_at1 x1 wr HS.out 7 (by decide)
    go_upto_region 7 with (fail)
    refine region_as2 (ops' := nu7Ops) (by kernel_rfl) ?_
    refine nu7 ka na sa w.heap.size x1.heap.size RA ⟨#[60, 62]⟩ opn_ne (fun W hb => box_at (HAS.out.trans ((HS.out.trans (hb.mono HS.out.size)).mono HAS.out.size))) (fun W hb => box_at (HNS.out.trans ((HS.out.trans (hb.mono HS.out.size)).mono HNS.out.size))) rfl rfl rfl rfl ?_
    intro V X hb hv
    have HX := Lib.hid (HS.out.trans (hb.mono HS.out.size))
    rw [nu7_fill V, hv]
    clear hb hv g HS
    go_wp2_with fail
    go_roundw
    case rel => exact ⟨8, .inr (.inr (.inr (.inr (.inr (.inr (.inr (.inr (.inl rfl)))))))), rfl, HX.out⟩
    case measure => simp [intOf]
  · have g : wr.cell? ⟨x1.heap.size + 1, 8, none⟩ = some (.string ⟨#[60]⟩) := sg_at1 x1 wr HS.out 8 (by decide)
    go_upto_region 7 with (fail)
    refine region_as2 (ops' := nu7Ops) (by kernel_rfl) ?_
    refine nu7 ka na sa w.heap.size x1.heap.size RA ⟨#[60]⟩ opn_lt (fun W hb => box_at (HAS.out.trans ((HS.out.trans (hb.mono HS.out.size)).mono HAS.out.size))) (fun W hb => box_at (HNS.out.trans ((HS.out.trans (hb.mono HS.out.size)).mono HNS.out.size))) rfl rfl rfl rfl ?_
    intro V X hb hv
    have HX := Lib.hid (HS.out.trans (hb.mono HS.out.size))
    rw [nu7_fill V, hv]
    clear hb hv g HS
    go_wp2_with fail
    go_roundw
    case rel => exact ⟨9, .inr (.inr (.inr (.inr (.inr (.inr (.inr (.inr (.inr (.inl rfl))))))))), rfl, HX.out⟩
    case measure => simp [intOf]
  · have g : wr.cell? ⟨x1.heap.size + 1, 9, none⟩ = some (.string ⟨#[60, 61]⟩) := sg_at1 x1 wr HS.out 9 (by decide)
    go_upto_region 7 with (fail)
    refine region_as2 (ops' := nu7Ops) (by kernel_rfl) ?_
    refine nu7 ka na sa w.heap.size x1.heap.size RA ⟨#[60, 61]⟩ opn_le (fun W hb => box_at (HAS.out.trans ((HS.out.trans (hb.mono HS.out.size)).mono HAS.out.size))) (fun W hb => box_at (HNS.out.trans ((HS.out.trans (hb.mono HS.out.size)).mono HNS.out.size))) rfl rfl rfl rfl ?_
    intro V X hb hv
    have HX := Lib.hid (HS.out.trans (hb.mono HS.out.size))
    rw [nu7_fill V, hv]
    clear hb hv g HS
    go_wp2_with fail
    go_roundw
    case rel => exact ⟨10, .inr (.inr (.inr (.inr (.inr (.inr (.inr (.inr (.inr (.inr (.inl rfl)))))))))), rfl, HX.out⟩
    case measure => simp [intOf]
  · have g : wr.cell? ⟨x1.heap.size + 1, 10, none⟩ = some (.string ⟨#[62]⟩) := sg_at1 x1 wr HS.out 10 (by decide)
    go_upto_region 7 with (fail)
    refine region_as2 (ops' := nu7Ops) (by kernel_rfl) ?_
    refine nu7 ka na sa w.heap.size x1.heap.size RA ⟨#[62]⟩ opn_gt (fun W hb => box_at (HAS.out.trans ((HS.out.trans (hb.mono HS.out.size)).mono HAS.out.size))) (fun W hb => box_at (HNS.out.trans ((HS.out.trans (hb.mono HS.out.size)).mono HNS.out.size))) rfl rfl rfl rfl ?_
    intro V X hb hv
    have HX := Lib.hid (HS.out.trans (hb.mono HS.out.size))
    rw [nu7_fill V, hv]
    clear hb hv g HS
    go_wp2_with fail
    go_roundw
    case rel => exact ⟨11, .inr (.inr (.inr (.inr (.inr (.inr (.inr (.inr (.inr (.inr (.inr (.inl rfl))))))))))), rfl, HX.out⟩
    case measure => simp [intOf]
  · have g : wr.cell? ⟨x1.heap.size + 1, 11, none⟩ = some (.string ⟨#[62, 61]⟩) := sg_at1 x1 wr HS.out 11 (by decide)
    go_upto_region 7 with (fail)
    refine region_as2 (ops' := nu7Ops) (by kernel_rfl) ?_
    refine nu7 ka na sa w.heap.size x1.heap.size RA ⟨#[62, 61]⟩ opn_ge (fun W hb => box_at (HAS.out.trans ((HS.out.trans (hb.mono HS.out.size)).mono HAS.out.size))) (fun W hb => box_at (HNS.out.trans ((HS.out.trans (hb.mono HS.out.size)).mono HNS.out.size))) rfl rfl rfl rfl ?_
    intro V X hb hv
    have HX := Lib.hid (HS.out.trans (hb.mono HS.out.size))
    rw [nu7_fill V, hv]
    clear hb hv g HS
    go_wp2_with fail
    go_roundw
    case rel => exact ⟨12, .inr (.inr (.inr (.inr (.inr (.inr (.inr (.inr (.inr (.inr (.inr (.inr (.inl rfl)))))))))))), rfl, HX.out⟩
    case measure => simp [intOf]
  · have g : wr.cell? ⟨x1.heap.size + 1, 12, none⟩ = some (.string ⟨#[108, 105, 107, 101]⟩) := sg_at1 x1 wr HS.out 12 (by decide)
    go_upto_region 7 with (fail)
    refine region_as2 (ops' := nu7Ops) (by kernel_rfl) ?_
    refine nu7 ka na sa w.heap.size x1.heap.size RA ⟨#[108, 105, 107, 101]⟩ opn_like (fun W hb => box_at (HAS.out.trans ((HS.out.trans (hb.mono HS.out.size)).mono HAS.out.size))) (fun W hb => box_at (HNS.out.trans ((HS.out.trans (hb.mono HS.out.size)).mono HNS.out.size))) rfl rfl rfl rfl ?_
    intro V X hb hv
    have HX := Lib.hid (HS.out.trans (hb.mono HS.out.size))
    rw [nu7_fill V, hv]
    clear hb hv g HS
    go_wp2_with fail
    go_roundw
    case rel => exact ⟨13, .inr (.inr (.inr (.inr (.inr (.inr (.inr (.inr (.inr (.inr (.inr (.inr (.inr rfl)))))))))))), rfl, HX.out⟩
    case measure => simp [intOf]
  · obtain ⟨V2, hV2⟩ : ∃ V2, V2 = wr := ⟨_, rfl⟩
    subst hV2
    have HAT := Lib.hid ((HAS.out.trans (HS.out.mono HAS.out.size)).alloc (HAS.out.trans (HS.out.mono HAS.out.size)).size fobj)
    have HNT := Lib.hid ((HNS.out.trans (HS.out.mono HNS.out.size)).alloc (HNS.out.trans (HS.out.mono HNS.out.size)).size fobj)
    clear HAS HNS HS
    go_wp2_with fail
    go_loopw [41] (fun i wr2 => FgRel (V2.alloc fobj) i wr2) (fun i _ => 4 - (intOf i).toNat)
    case atStart => exact ⟨0, .inl rfl, rfl, Below.refl _ _⟩
    case round =>
    obtain ⟨z, hz, rfl, hbx⟩ := hrel
    have HT := Lib.hid hbx
    clear hbx
    rcases hz with rfl | rfl | rfl | rfl | rfl
    · have g : wr.cell? ⟨V2.heap.size, 0, none⟩ = some (.string ⟨#[108, 101, 110, 103, 116, 104]⟩) := fg_at V2 wr HT.out 0 (by decide)
      go_upto_region 13 with (fail)
      refine region_as2 (ops' := nu13Ops) (by kernel_rfl) ?_
      refine nu13 x1.heap.size ⟨#[108, 101, 110, 103, 116, 104]⟩ fnn_length (fun W hb => box_at (HNT.out.trans ((HT.out.trans (hb.mono HT.out.size)).mono HNT.out.size))) rfl rfl rfl ?_
      intro V X hb hv
      have HX := Lib.hid (HT.out.trans (hb.mono HT.out.size))
      rw [nu13_fill V, hv]
      clear hb hv g HT
      go_wp2_with fail
      go_roundw
      case rel => exact ⟨1, .inr (.inl rfl), rfl, HX.out⟩
      case measure => simp [intOf]
    · have g : wr.cell? ⟨V2.heap.size, 1, none⟩ = some (.string ⟨#[117, 112, 112, 101, 114]⟩) := fg_at V2 wr HT.out 1 (by decide)
      go_upto_region 13 with (fail)
      refine region_as2 (ops' := nu13Ops) (by kernel_rfl) ?_
      refine nu13 x1.heap.size ⟨#[117, 112, 112, 101, 114]⟩ fnn_upper (fun W hb => box_at (HNT.out.trans ((HT.out.trans (hb.mono HT.out.size)).mono HNT.out.size))) rfl rfl rfl ?_
      intro V X hb hv
      have HX := Lib.hid (HT.out.trans (hb.mono HT.out.size))
      rw [nu13_fill V, hv]
      clear hb hv g HT
      go_wp2_with fail
      go_roundw
      case rel => exact ⟨2, .inr (.inr (.inl rfl)), rfl, HX.out⟩
      case measure => simp [intOf]
    · have g : wr.cell? ⟨V2.heap.size, 2, none⟩ = some (.string ⟨#[108, 111, 119, 101, 114]⟩) := fg_at V2 wr HT.out 2 (by decide)
      go_upto_region 13 with (fail)
      refine region_as2 (ops' := nu13Ops) (by kernel_rfl) ?_
      refine nu13 x1.heap.size ⟨#[108, 111, 119, 101, 114]⟩ fnn_lower (fun W hb => box_at (HNT.out.trans ((HT.out.trans (hb.mono HT.out.size)).mono HNT.out.size))) rfl rfl rfl ?_
      intro V X hb hv
      have HX := Lib.hid (HT.out.trans (hb.mono HT.out.size))
      rw [nu13_fill V, hv]
      clear hb hv g HT
      go_wp2_with fail
      go_roundw
      case rel => exact ⟨3, .inr (.inr (.inr (.inl rfl))), rfl, HX.out⟩
      case measure => simp [intOf]
    · have g : wr.cell? ⟨V2.heap.size, 3, none⟩ = some (.string ⟨#[97, 98, 115]⟩) := fg_at V2 wr HT.out 3 (by decide)
      go_upto_region 13 with (fail)
      refine region_as2 (ops' := nu13Ops) (by kernel_rfl) ?_
      refine nu13 x1.heap.size ⟨#[97, 98, 115]⟩ fnn_abs (fun W hb => box_at (HNT.out.trans ((HT.out.trans (hb.mono HT.out.size)).mono HNT.out.size))) rfl rfl rfl ?_
      intro V X hb hv
      have HX := Lib.hid (HT.out.trans (hb.mono HT.out.size))
      rw [nu13_fill V, hv]
      clear hb hv g HT
      go_wp2_with fail
      go_roundw
      case rel => exact ⟨4, .inr (.inr (.inr (.inr rfl))), rfl, HX.out⟩
      case measure => simp [intOf]
    · have HAX := Lib.hid (HAT.out.trans (HT.out.mono HAT.out.size))
      have HNX := Lib.hid (HNT.out.trans (HT.out.mono HNT.out.size))
      clear HAT HNT HT
      obtain ⟨g0, g1, g2⟩ := box_at HNX.out
      go_wp2_with fail
      refine (One_neg_null 0 0 ⟨#[]⟩ _ Rt_nul rfl).mono ?_
      rintro e y1 ⟨rfl, b1⟩
      have HAX := Lib.hid (HAX.out.trans (b1.mono HAX.out.size))
      have HNX := Lib.hid (HNX.out.trans (b1.mono HNX.out.size))
      clear b1 g0 g1 g2
      have HAX := Lib.hid (HAX.out.alloc HAX.out.size (box 0 0 ⟨#[]⟩))
      have HNX := Lib.hid (HNX.out.alloc HNX.out.size (box 0 0 ⟨#[]⟩))
      have H8 := Lib.hid (Below.refl (y1.alloc (box 0 0 ⟨#[]⟩)).heap.size (y1.alloc (box 0 0 ⟨#[]⟩)))
      obtain ⟨g0, g1, g2⟩ := box_at HNX.out
      go_wp2_with fail
      refine (Cast_text_null _).mono ?_
      rintro e y2 ⟨rfl, b1⟩
      have HAX := Lib.hid (HAX.out.trans (b1.mono HAX.out.size))
      have HNX := Lib.hid (HNX.out.trans (b1.mono HNX.out.size))
      have H8 := Lib.hid (H8.out.trans (b1.mono H8.out.size))
      clear b1 g0 g1 g2
      have HAX := Lib.hid (HAX.out.alloc HAX.out.size (box 0 0 ⟨#[]⟩))
      have HNX := Lib.hid (HNX.out.alloc HNX.out.size (box 0 0 ⟨#[]⟩))
      have H8 := Lib.hid (H8.out.alloc H8.out.size (box 0 0 ⟨#[]⟩))
      have HX := Lib.hid (HB.out.trans (HAX.out.mono HB.out.size))
      go_upto_region 18 with (fail)
      refine region_as2 (ops' := nu18Ops) (by kernel_rfl) ?_
      refine nu18 ka na sa w.heap.size x1.heap.size RA y1.heap.size y2.heap.size (fun W hb => box_at (HAX.out.trans (hb.mono HAX.out.size))) (fun W hb => box_at (HNX.out.trans (hb.mono HNX.out.size))) (fun W hb => box_at (H8.out.trans (hb.mono H8.out.size))) (fun W hb => box_at hb) ((aw_is w HW.out).on HX.out) rfl rfl rfl rfl rfl rfl rfl ?_
      intro V X hb hv
      have HX := Lib.hid (HX.out.trans (hb.mono HX.out.size))
      rw [nu18_fill V, hv]
      clear hb hv
      go_wp2_with fail
      go_ret
      exact ⟨rfl, HX.out⟩

theorem null_walk (ka na : Int) (sa : ByteArray) (w : World) (ha : sa.size ≤ 9223372036854775807) (hW : Wd w) :
    Calls Tryz.prog 11 #[vv ka na sa] w fun e w' => e = .returned (.bool true) ∧ Below w.heap.size w w' := by
  cases hall : [(ka, na, sa)].all shortR
  · exact null_no ka na sa w ha (Lib.hid hW) (Lib.hid hall)
  · have hR : Rt ka na sa := by
      simp only [List.all_cons, Bool.and_eq_true, shortR, decide_eq_true_eq] at hall
      exact hall.1.1
    exact null_go ka na sa w ha (Lib.hid hW) (Lib.hid hall) (Lib.hid hR)
end Go.Proofs.YtaidipdofomgoaaGreatDoor
