/-
  ValueSums returns true for every three numbers: the walk. Conditions: numbers of 64 bits; the library's variables are as its text lays them.
-/
import Derived.Test.YtaidipdofomgoaaGreatDoorVSumR
import Derived.Test.YtaidipdofomgoaaGreatDoorVSlot4
import Derived.Deep.Cut
import Derived.Deep.RegionHeld
import Derived.Deep.RegionHeld3
import Derived.IntWalk
namespace Go.Proofs.YtaidipdofomgoaaGreatDoor
open Go.ChangeShapes Go.WideShapes Go.ChangeAt Go.RowKit
set_option linter.unusedVariables false

theorem opI_add_no (a b : Int) (w : World) (ha : In64 a) (hb : In64 b) (h : ¬ In64 (a + b)) : Calls Tryz.prog 14 #[.string ⟨#[43]⟩, vv 1 a ⟨#[]⟩, vv 1 b ⟨#[]⟩] w (RetV nul 20 w) :=
  Op_add _ _ _ _ _ _ w (Rt_int _) (Rt_int _) (by omega) (by omega) _ _ _ _ fun X _ => ofTwo_add_no 1 a ⟨#[]⟩ 1 b ⟨#[]⟩ X sz0 sz0 ha hb h
theorem opI_sub (a b : Int) (w : World) (ha : In64 a) (hb : In64 b) (h : In64 (a - b)) : Calls Tryz.prog 14 #[.string ⟨#[45]⟩, vv 1 a ⟨#[]⟩, vv 1 b ⟨#[]⟩] w (RetV (vv 1 (a - b) ⟨#[]⟩) 0 w) :=
  Op_sub _ _ _ _ _ _ w (Rt_int _) (Rt_int _) (by omega) (by omega) _ _ _ _ fun X _ => ofTwo_sub 1 a ⟨#[]⟩ 1 b ⟨#[]⟩ X sz0 sz0 ha hb h
theorem opI_sub_no (a b : Int) (w : World) (ha : In64 a) (hb : In64 b) (h : ¬ In64 (a - b)) : Calls Tryz.prog 14 #[.string ⟨#[45]⟩, vv 1 a ⟨#[]⟩, vv 1 b ⟨#[]⟩] w (RetV nul 20 w) :=
  Op_sub _ _ _ _ _ _ w (Rt_int _) (Rt_int _) (by omega) (by omega) _ _ _ _ fun X _ => ofTwo_sub_no 1 a ⟨#[]⟩ 1 b ⟨#[]⟩ X sz0 sz0 ha hb h
/-- what Op tells of a sign and two numbers, wherever it is called -/
def OpIs (g : ByteArray) (a b k n er : Int) : Prop := ∀ W, Calls Tryz.prog 14 #[.string g, vv 1 a ⟨#[]⟩, vv 1 b ⟨#[]⟩] W (RetV (vv k n ⟨#[]⟩) er W)
def Sum (s : Int) (k n er : Int) : Prop := (k = 1 ∧ n = s ∧ er = 0 ∧ In64 s) ∨ (k = 0 ∧ n = 0 ∧ er = 20 ∧ ¬ In64 s)
theorem add_res (a b : Int) (ha : In64 a) (hb : In64 b) : ∃ k n er, OpIs ⟨#[43]⟩ a b k n er ∧ OpIs ⟨#[43]⟩ b a k n er ∧ Sum (a + b) k n er := by
  by_cases h : In64 (a + b)
  · refine ⟨1, a + b, 0, fun W => opI_add a b W ha hb h, fun W => ?_, .inl ⟨rfl, rfl, rfl, h⟩⟩
    rw [Int.add_comm a b] at h ⊢
    exact opI_add b a W hb ha h
  · refine ⟨0, 0, 20, fun W => opI_add_no a b W ha hb h, fun W => ?_, .inr ⟨rfl, rfl, rfl, h⟩⟩
    rw [Int.add_comm a b] at h
    exact opI_add_no b a W hb ha h
theorem mul_res (a b : Int) (ha : In64 a) (hb : In64 b) : ∃ k n er, OpIs ⟨#[42]⟩ a b k n er ∧ OpIs ⟨#[42]⟩ b a k n er ∧ Sum (a * b) k n er := by
  by_cases h : In64 (a * b)
  · refine ⟨1, a * b, 0, fun W => opI_mul a b W ha hb h, fun W => ?_, .inl ⟨rfl, rfl, rfl, h⟩⟩
    rw [Int.mul_comm a b] at h ⊢
    exact opI_mul b a W hb ha h
  · refine ⟨0, 0, 20, fun W => opI_mul_no a b W ha hb h, fun W => ?_, .inr ⟨rfl, rfl, rfl, h⟩⟩
    rw [Int.mul_comm a b] at h
    exact opI_mul_no b a W hb ha h
theorem sub_res (a b : Int) (ha : In64 a) (hb : In64 b) : ∃ k n er, OpIs ⟨#[45]⟩ a b k n er ∧ Sum (a - b) k n er := by
  by_cases h : In64 (a - b)
  · exact ⟨1, a - b, 0, fun W => opI_sub a b W ha hb h, .inl ⟨rfl, rfl, rfl, h⟩⟩
  · exact ⟨0, 0, 20, fun W => opI_sub_no a b W ha hb h, .inr ⟨rfl, rfl, rfl, h⟩⟩
theorem sum_e2 {s k n er : Int} (h : Sum s k n er) {ε : Bool} (he : (er != 0) = ε) : (ε = true → (er != 20) = false) ∧ (ε = true → (!sameV k n ⟨#[]⟩ 0 0 ⟨#[]⟩) = false) := by
  subst he
  rcases h with ⟨rfl, rfl, rfl, _⟩ | ⟨rfl, rfl, rfl, _⟩
  · exact ⟨fun h => by simp at h, fun h => by simp at h⟩
  · exact ⟨fun _ => by decide, fun _ => by rw [same_self]; rfl⟩
/-- the places of a list of two strings -/
def TwoStr (v : World) (X : World) : Prop := X.cell? ⟨v.heap.size, 0, none⟩ = some (.string ⟨#[43]⟩) ∧ X.cell? ⟨v.heap.size, 1, none⟩ = some (.string ⟨#[42]⟩)
abbrev two_obj : Obj := .cells #[.string ⟨#[43]⟩, .string ⟨#[42]⟩] 9
theorem two_str (v X : World) (h : Below (v.alloc two_obj).heap.size (v.alloc two_obj) X) : TwoStr v X := by
  obtain ⟨hc, hf⟩ := bcell h
  refine ⟨?_, ?_⟩ <;> (rw [hc _ _ (by simp)]; simp [go_sem])
def SumRel (v : World) (i : Value) (wr : World) : Prop := ∃ z : Int, (z = 0 ∨ z = 1 ∨ z = 2) ∧ i = .int .i64 z ∧ Below v.heap.size v wr
theorem cond_six (a b c d e f : Bool) : cond a (cond b (cond c (cond d (cond e (cond f (Value.bool true) (.bool false)) (.bool false)) (.bool false)) (.bool false)) (.bool false)) (.bool false) = .bool (a && b && c && d && e && f) := by
  cases a <;> cases b <;> cases c <;> cases d <;> cases e <;> cases f <;> rfl

set_option maxRecDepth 100000 in
set_option maxHeartbeats 800000 in
theorem sums_go (a b c : Int) (w : World) (HW : Hid (Wd w)) (k1 n1 r1 k2 n2 r2 kd nd rd kn nn g : Int) (P1 : Hid (OpIs ⟨#[43]⟩ a b k1 n1 r1)) (P2 : Hid (OpIs ⟨#[43]⟩ b a k1 n1 r1)) (M1 : Hid (OpIs ⟨#[42]⟩ a b k2 n2 r2)) (M2 : Hid (OpIs ⟨#[42]⟩ b a k2 n2 r2)) (S1 : Hid (Sum (a + b) k1 n1 r1)) (S2 : Hid (Sum (a * b) k2 n2 r2))
    (D1 : Hid (OpIs ⟨#[45]⟩ a b kd nd rd)) (N1 : Hid (∀ W, Calls Tryz.prog 16 #[.string ⟨#[45]⟩, vv 1 b ⟨#[]⟩] W (RetV (vv kn nn ⟨#[]⟩) g W)))
    (gz : Bool) (hg : (g == 0) = gz) (D2 : Hid (gz = true → OpRet ⟨#[43]⟩ 1 a ⟨#[]⟩ kn nn ⟨#[]⟩ kd nd rd)) (hbm : gz = false → (b != -9223372036854775808) = false)
    (s mb lb : Int) (ε β : Bool) (e1 : Hid ((r1 == 0) = ε)) (hβ : Hid (decide (0 ≤ b) = β)) (hγ : Hid (decide (b < 0) = !β)) (hmx : Hid (β = true → max b 0 = b)) (hmb : Hid (β = true → IntKind.i64.wrap (9223372036854775807 - b) = mb)) (hle : Hid (β = true → decide (a ≤ mb) = ε)) (hmn : Hid (β = false → min b 0 = b)) (hlb : Hid (β = false → IntKind.i64.wrap (-9223372036854775808 - b) = lb)) (hge : Hid (β = false → decide (lb ≤ a) = ε)) (hsm : Hid (ε = true → IntKind.i64.wrap (a + b) = s)) (hv0 : Hid (ε = true → (!sameV k1 n1 ⟨#[]⟩ 1 s ⟨#[]⟩) = false)) (cm : Hid (ε = true → BothIs ⟨#[45]⟩ k1 n1 ⟨#[]⟩ 1 b ⟨#[]⟩ 1 a ⟨#[]⟩))
    (β1 β2 β3 β4 β5 β6 : Bool) (hβ1 : Hid (decide (-1048576 < a) = β1)) (hβ2 : Hid (decide (a < 1048576) = β2)) (hβ3 : Hid (decide (-1048576 < b) = β3)) (hβ4 : Hid (decide (b < 1048576) = β4)) (hβ5 : Hid (decide (-1048576 < c) = β5)) (hβ6 : Hid (decide (c < 1048576) = β6))
    (small : Hid ((β1 && β2 && β3 && β4 && β5 && β6) = true → ∃ t1 t2 t3 t4 : Int, BothIs ⟨#[43]⟩ 1 b ⟨#[]⟩ 1 c ⟨#[]⟩ 1 t1 ⟨#[]⟩ ∧ BothIs ⟨#[42]⟩ 1 a ⟨#[]⟩ 1 t1 ⟨#[]⟩ 1 t2 ⟨#[]⟩ ∧ BothIs ⟨#[42]⟩ 1 a ⟨#[]⟩ 1 b ⟨#[]⟩ 1 t3 ⟨#[]⟩ ∧ BothIs ⟨#[42]⟩ 1 a ⟨#[]⟩ 1 c ⟨#[]⟩ 1 t4 ⟨#[]⟩ ∧ BothIs ⟨#[43]⟩ 1 t3 ⟨#[]⟩ 1 t4 ⟨#[]⟩ 1 t2 ⟨#[]⟩)) :
    Calls Tryz.prog 6 #[.int .i64 a, .int .i64 b, .int .i64 c] w fun e w' => e = .returned (.bool true) ∧ Below w.heap.size w w' := by
  have HX := Lib.hid (Below.refl (w.alloc two_obj).heap.size (w.alloc two_obj))
  have HB := Lib.hid ((Below.refl w.heap.size w).alloc (Nat.le_refl _) two_obj)
  have HG := Lib.hid hg
  have HM := Lib.hid hbm
  clear hg hbm
  go_enter Tryz.func6, Tryz.ntmps6
  go_wp2_with fail
  go_loopw [23] (fun i wr => SumRel (w.alloc two_obj) i wr) (fun i _ => 2 - (intOf i).toNat)
  case atStart => exact ⟨0, .inl rfl, rfl, HX.out⟩
  case round =>
  clear HX
  obtain ⟨z, hz, rfl, hbx⟩ := hrel
  have HX := Lib.hid hbx
  clear hbx
  rcases hz with rfl | rfl | rfl
  · obtain ⟨g0, g1⟩ := two_str w _ HX.out
    go_wp2_with fail
    refine (num_any _ _).mono ?_
    rintro e x1 ⟨rfl, b1⟩
    go_wp2_with fail
    refine (num_any _ _).mono ?_
    rintro e x2 ⟨rfl, b2⟩
    go_wp2_with fail
    refine (P1.out _).mono ?_
    rintro e x3 ⟨rfl, b3⟩
    have B1 := Lib.hid (((b1.trans (b2.mono b1.size)).trans (b3.mono (Nat.le_trans b1.size b2.size))))
    clear b1 b2 b3
    have HX := Lib.hid (HX.out.trans (B1.out.mono HX.out.size))
    have HX := Lib.hid (HX.out.alloc HX.out.size (box k1 n1 ⟨#[]⟩))
    have H9 := Lib.hid (Below.refl (x3.alloc (box k1 n1 ⟨#[]⟩)).heap.size (x3.alloc (box k1 n1 ⟨#[]⟩)))
    clear B1 g0 g1
    go_wp2_with fail
    refine (num_any _ _).mono ?_
    rintro e x4 ⟨rfl, b1⟩
    go_wp2_with fail
    refine (num_any _ _).mono ?_
    rintro e x5 ⟨rfl, b2⟩
    go_wp2_with fail
    refine (P2.out _).mono ?_
    rintro e x6 ⟨rfl, b3⟩
    have B2 := Lib.hid (((b1.trans (b2.mono b1.size)).trans (b3.mono (Nat.le_trans b1.size b2.size))))
    clear b1 b2 b3
    have HX := Lib.hid (HX.out.trans (B2.out.mono HX.out.size))
    have HX := Lib.hid (HX.out.alloc HX.out.size (box k1 n1 ⟨#[]⟩))
    have H9 := Lib.hid (H9.out.trans (B2.out.mono H9.out.size))
    have H9 := Lib.hid (H9.out.alloc H9.out.size (box k1 n1 ⟨#[]⟩))
    clear B2
    go_upto_region 6 with (fail)
    refine region_as2 (ops' := su6Ops) (by kernel_rfl) ?_
    refine su6 k1 n1 r1 x3.heap.size x6.heap.size _ (Lib.hid rfl) (Lib.hid (sum_e2 S1.out rfl).1) (Lib.hid (sum_e2 S1.out rfl).2) (fun W hb => box_at (H9.out.trans (hb.mono H9.out.size))) (fun W hb => box_at hb) rfl rfl rfl rfl rfl ?_
    intro V X hb hv
    have HX := Lib.hid (HX.out.trans (hb.mono HX.out.size))
    rw [su6_fill V, hv]
    clear hb hv H9
    go_wp2_with fail
    go_roundw
    case rel => exact ⟨1, .inr (.inl rfl), rfl, HX.out⟩
    case measure => simp [intOf]
  · obtain ⟨g0, g1⟩ := two_str w _ HX.out
    go_wp2_with fail
    refine (num_any _ _).mono ?_
    rintro e x1 ⟨rfl, b1⟩
    go_wp2_with fail
    refine (num_any _ _).mono ?_
    rintro e x2 ⟨rfl, b2⟩
    go_wp2_with fail
    refine (M1.out _).mono ?_
    rintro e x3 ⟨rfl, b3⟩
    have B1 := Lib.hid (((b1.trans (b2.mono b1.size)).trans (b3.mono (Nat.le_trans b1.size b2.size))))
    clear b1 b2 b3
    have HX := Lib.hid (HX.out.trans (B1.out.mono HX.out.size))
    have HX := Lib.hid (HX.out.alloc HX.out.size (box k2 n2 ⟨#[]⟩))
    have H9 := Lib.hid (Below.refl (x3.alloc (box k2 n2 ⟨#[]⟩)).heap.size (x3.alloc (box k2 n2 ⟨#[]⟩)))
    clear B1 g0 g1
    go_wp2_with fail
    refine (num_any _ _).mono ?_
    rintro e x4 ⟨rfl, b1⟩
    go_wp2_with fail
    refine (num_any _ _).mono ?_
    rintro e x5 ⟨rfl, b2⟩
    go_wp2_with fail
    refine (M2.out _).mono ?_
    rintro e x6 ⟨rfl, b3⟩
    have B2 := Lib.hid (((b1.trans (b2.mono b1.size)).trans (b3.mono (Nat.le_trans b1.size b2.size))))
    clear b1 b2 b3
    have HX := Lib.hid (HX.out.trans (B2.out.mono HX.out.size))
    have HX := Lib.hid (HX.out.alloc HX.out.size (box k2 n2 ⟨#[]⟩))
    have H9 := Lib.hid (H9.out.trans (B2.out.mono H9.out.size))
    have H9 := Lib.hid (H9.out.alloc H9.out.size (box k2 n2 ⟨#[]⟩))
    clear B2
    go_upto_region 6 with (fail)
    refine region_as2 (ops' := su6Ops) (by kernel_rfl) ?_
    refine su6 k2 n2 r2 x3.heap.size x6.heap.size _ (Lib.hid rfl) (Lib.hid (sum_e2 S2.out rfl).1) (Lib.hid (sum_e2 S2.out rfl).2) (fun W hb => box_at (H9.out.trans (hb.mono H9.out.size))) (fun W hb => box_at hb) rfl rfl rfl rfl rfl ?_
    intro V X hb hv
    have HX := Lib.hid (HX.out.trans (hb.mono HX.out.size))
    rw [su6_fill V, hv]
    clear hb hv H9
    go_wp2_with fail
    go_roundw
    case rel => exact ⟨2, .inr (.inr rfl), rfl, HX.out⟩
    case measure => simp [intOf]
  · go_wp2_with fail
    refine (num_any _ _).mono ?_
    rintro e x1 ⟨rfl, b1⟩
    go_wp2_with fail
    refine (num_any _ _).mono ?_
    rintro e x2 ⟨rfl, b2⟩
    go_wp2_with fail
    refine (P1.out _).mono ?_
    rintro e x3 ⟨rfl, b3⟩
    have B1 := Lib.hid (((b1.trans (b2.mono b1.size)).trans (b3.mono (Nat.le_trans b1.size b2.size))))
    clear b1 b2 b3
    have HX := Lib.hid (HX.out.trans (B1.out.mono HX.out.size))
    have HX := Lib.hid (HX.out.alloc HX.out.size (box k1 n1 ⟨#[]⟩))
    clear B1
    go_upto_region 10 with (fail)
    refine region_as2 (ops' := su10Ops) (by kernel_rfl) ?_
    refine su10 a b s mb lb k1 n1 r1 x3.heap.size ε β e1 hβ hγ hmx hmb hle hmn hlb hge hsm hv0 cm (fun W hb => box_at hb) rfl rfl rfl rfl rfl ?_
    intro V X hb hv
    have HX := Lib.hid (HX.out.trans (hb.mono HX.out.size))
    rw [su10_fill V, hv]
    clear hb hv e1 hβ hγ hmx hmb hle hmn hlb hge hsm hv0 cm P1 P2 M1 M2 S1 S2
    go_wp2_with fail
    refine (num_any _ _).mono ?_
    rintro e y1 ⟨rfl, b1⟩
    go_wp2_with fail
    refine (num_any _ _).mono ?_
    rintro e y2 ⟨rfl, b2⟩
    go_wp2_with fail
    refine (D1.out _).mono ?_
    rintro e y3 ⟨rfl, b3⟩
    have B1 := Lib.hid (((b1.trans (b2.mono b1.size)).trans (b3.mono (Nat.le_trans b1.size b2.size))))
    clear b1 b2 b3
    have HX := Lib.hid (HX.out.trans (B1.out.mono HX.out.size))
    have HX := Lib.hid (HX.out.alloc HX.out.size (box kd nd ⟨#[]⟩))
    have HD := Lib.hid (Below.refl (y3.alloc (box kd nd ⟨#[]⟩)).heap.size (y3.alloc (box kd nd ⟨#[]⟩)))
    clear B1 D1
    go_wp2_with fail
    refine (num_any _ _).mono ?_
    rintro e y4 ⟨rfl, b1⟩
    go_wp2_with fail
    refine (N1.out _).mono ?_
    rintro e y5 ⟨rfl, b2⟩
    have B2 := Lib.hid (b1.trans (b2.mono b1.size))
    clear b1 b2 N1
    have HX := Lib.hid (HX.out.trans (B2.out.mono HX.out.size))
    have HX := Lib.hid (HX.out.alloc HX.out.size (box kn nn ⟨#[]⟩))
    have HD := Lib.hid (HD.out.trans (B2.out.mono HD.out.size))
    have HD := Lib.hid (HD.out.alloc HD.out.size (box kn nn ⟨#[]⟩))
    have HN := Lib.hid (Below.refl (y5.alloc (box kn nn ⟨#[]⟩)).heap.size (y5.alloc (box kn nn ⟨#[]⟩)))
    clear B2
    cases gz
    · have hbm' := HM.out rfl
      have hg' := HG.out
      clear HM D2
      go_upto_region 20 with (fail)
      refine region_as2 (ops' := su20Ops) (by kernel_rfl) ?_
      refine su20 a b c β1 β2 β3 β4 β5 β6 hβ1 hβ2 hβ3 hβ4 hβ5 hβ6 rfl rfl rfl rfl ?_
      intro V X hb hv
      have hv' := hv.trans (cond_six β1 β2 β3 β4 β5 β6)
      have HX := Lib.hid (HX.out.trans (hb.mono HX.out.size))
      rw [su20_fill V, hv']
      clear hb hv hv' hβ1 hβ2 hβ3 hβ4 hβ5 hβ6
      cases hκ : (β1 && β2 && β3 && β4 && β5 && β6)
      · clear hκ small
        go_wp2_with fail
        refine (aw_is w HW.out _ (HB.out.trans (HX.out.mono HB.out.size))).mono ?_
        rintro e z1 ⟨rfl, b1⟩
        have HX := Lib.hid (HX.out.trans (b1.mono HX.out.size))
        clear b1
        go_wp2_with fail
        go_ret
        exact ⟨rfl, HB.out.trans (HX.out.mono HB.out.size)⟩
      · obtain ⟨t1, t2, t3, t4, q1, q2, q3, q4, q5⟩ := small.out hκ
        have Q1 := Lib.hid q1
        have Q2 := Lib.hid q2
        have Q3 := Lib.hid q3
        have Q4 := Lib.hid q4
        have Q5 := Lib.hid q5
        clear q1 q2 q3 q4 q5 small hκ
        go_upto_region 21 with (fail)
        refine region_as2 (ops' := su21Ops) (by kernel_rfl) ?_
        refine su21 a b c t1 t2 t3 t4 Q1.out Q2.out Q3.out Q4.out Q5.out ((aw_is w HW.out).on (HB.out.trans (HX.out.mono HB.out.size))) rfl rfl rfl rfl ?_
        intro V X hb hv
        have HX := Lib.hid (HX.out.trans (hb.mono HX.out.size))
        rw [su21_fill V, hv]
        clear hb hv
        go_wp2_with fail
        go_ret
        exact ⟨rfl, HB.out.trans (HX.out.mono HB.out.size)⟩
    · clear HM
      have hg' := HG.out
      have D2' := Lib.hid (D2.out rfl)
      clear D2
      go_upto_region 15 with (fail)
      refine region_as2 (ops' := su15Ops) (by kernel_rfl) ?_
      refine su15 a kn nn kd nd rd y5.heap.size D2'.out (fun W hb => box_at (HN.out.trans (hb.mono HN.out.size))) rfl rfl rfl ?_
      intro V p X hb hp hp0 hp1 hB hv
      have HX := Lib.hid (HX.out.trans (hb.mono HX.out.size))
      have HD := Lib.hid (HD.out.trans (hb.mono HD.out.size))
      have HP := Lib.hid (show BoxOn X p kd nd ⟨#[]⟩ from fun W hb => boxAt_keep p X W hB hp1 hb)
      rw [su15_fill V, hp, hv]
      clear hb hp hp0 hp1 hB hv HN D2'
      go_upto_region 16 with (fail)
      refine region_as2 (ops' := su16Ops) (by kernel_rfl) ?_
      refine su16 kd nd rd p y3.heap.size HP.out (fun W hb => box_at (HD.out.trans (hb.mono HD.out.size))) rfl rfl rfl rfl rfl ?_
      intro V X hb hv
      have HX := Lib.hid (HX.out.trans (hb.mono HX.out.size))
      rw [su16_fill V, hv]
      clear hb hv HD HP
      go_upto_region 20 with (fail)
      refine region_as2 (ops' := su20Ops) (by kernel_rfl) ?_
      refine su20 a b c β1 β2 β3 β4 β5 β6 hβ1 hβ2 hβ3 hβ4 hβ5 hβ6 rfl rfl rfl rfl ?_
      intro V X hb hv
      have hv' := hv.trans (cond_six β1 β2 β3 β4 β5 β6)
      have HX := Lib.hid (HX.out.trans (hb.mono HX.out.size))
      rw [su20_fill V, hv']
      clear hb hv hv' hβ1 hβ2 hβ3 hβ4 hβ5 hβ6
      cases hκ : (β1 && β2 && β3 && β4 && β5 && β6)
      · clear hκ small
        go_wp2_with fail
        refine (aw_is w HW.out _ (HB.out.trans (HX.out.mono HB.out.size))).mono ?_
        rintro e z1 ⟨rfl, b1⟩
        have HX := Lib.hid (HX.out.trans (b1.mono HX.out.size))
        clear b1
        go_wp2_with fail
        go_ret
        exact ⟨rfl, HB.out.trans (HX.out.mono HB.out.size)⟩
      · obtain ⟨t1, t2, t3, t4, q1, q2, q3, q4, q5⟩ := small.out hκ
        have Q1 := Lib.hid q1
        have Q2 := Lib.hid q2
        have Q3 := Lib.hid q3
        have Q4 := Lib.hid q4
        have Q5 := Lib.hid q5
        clear q1 q2 q3 q4 q5 small hκ
        go_upto_region 21 with (fail)
        refine region_as2 (ops' := su21Ops) (by kernel_rfl) ?_
        refine su21 a b c t1 t2 t3 t4 Q1.out Q2.out Q3.out Q4.out Q5.out ((aw_is w HW.out).on (HB.out.trans (HX.out.mono HB.out.size))) rfl rfl rfl rfl ?_
        intro V X hb hv
        have HX := Lib.hid (HX.out.trans (hb.mono HX.out.size))
        rw [su21_fill V, hv]
        clear hb hv
        go_wp2_with fail
        go_ret
        exact ⟨rfl, HB.out.trans (HX.out.mono HB.out.size)⟩

theorem mul_small (x y : Int) (h1 : -1048576 < x) (h2 : x < 1048576) (h3 : -4194304 < y) (h4 : y < 4194304) : In64 (x * y) := by
  have e : (x * y).natAbs = x.natAbs * y.natAbs := Int.natAbs_mul x y
  have : x.natAbs * y.natAbs ≤ 1048576 * 4194304 := Nat.mul_le_mul (by omega) (by omega)
  unfold In64
  omega
theorem sums_walk (a b c : Int) (w : World) (ha : In64 a) (hb : In64 b) (hc : In64 c) (hW : Wd w) :
    Calls Tryz.prog 6 #[.int .i64 a, .int .i64 b, .int .i64 c] w fun e w' => e = .returned (.bool true) ∧ Below w.heap.size w w' := by
  obtain ⟨k1, n1, r1, p1, p2, s1⟩ := add_res a b ha hb
  obtain ⟨k2, n2, r2, m1, m2, s2⟩ := mul_res a b ha hb
  obtain ⟨kd, nd, rd, d1, sd⟩ := sub_res a b ha hb
  have ha1 := ha.1
  have ha2 := ha.2
  have hb1 := hb.1
  have hb2 := hb.2
  have one : ∃ kn nn g, (∀ W, Calls Tryz.prog 16 #[.string ⟨#[45]⟩, vv 1 b ⟨#[]⟩] W (RetV (vv kn nn ⟨#[]⟩) g W)) ∧ ((g == 0) = true → kn = 1 ∧ nn = 0 - b ∧ In64 (0 - b)) ∧ ((g == 0) = false → b = -9223372036854775808) := by
    by_cases h : In64 (0 - b)
    · exact ⟨1, 0 - b, 0, fun W => One_neg 1 b ⟨#[]⟩ W (Rt_int _) (by omega) hb h, fun _ => ⟨rfl, rfl, h⟩, (fun h => (by cases h))⟩
    · refine ⟨0, 0, 20, fun W => One_neg_no 1 b ⟨#[]⟩ W (Rt_int _) (by omega) hb h, (fun h => (by cases h)), fun _ => ?_⟩
      unfold In64 at h
      omega
  obtain ⟨kn, nn, g, o1, o2, o3⟩ := one
  have hr1 : (r1 == 0) = true ↔ In64 (a + b) := by
    rcases s1 with ⟨_, _, rfl, h⟩ | ⟨_, _, rfl, h⟩
    · simp [h]
    · simp [h]
  refine sums_go a b c w (Lib.hid hW) k1 n1 r1 k2 n2 r2 kd nd rd kn nn g (Lib.hid p1) (Lib.hid p2) (Lib.hid m1) (Lib.hid m2) (Lib.hid s1) (Lib.hid s2) (Lib.hid d1) (Lib.hid o1) _ rfl (Lib.hid ?_) ?_
    (a + b) (9223372036854775807 - b) (-9223372036854775808 - b) _ _ (Lib.hid rfl) (Lib.hid rfl) (Lib.hid ?_) (Lib.hid ?_) (Lib.hid ?_) (Lib.hid ?_) (Lib.hid ?_) (Lib.hid ?_) (Lib.hid ?_) (Lib.hid ?_) (Lib.hid ?_) (Lib.hid ?_)
    _ _ _ _ _ _ (Lib.hid rfl) (Lib.hid rfl) (Lib.hid rfl) (Lib.hid rfl) (Lib.hid rfl) (Lib.hid rfl) (Lib.hid ?_)
  · intro h
    obtain ⟨rfl, rfl, h64⟩ := o2 h
    have e : a + (0 - b) = a - b := by omega
    rcases sd with ⟨rfl, rfl, rfl, hs⟩ | ⟨rfl, rfl, rfl, hs⟩
    · intro W
      have := opI_add a (0 - b) W ha h64 (by rw [e]; exact hs)
      rw [e] at this
      exact this
    · exact fun W => opI_add_no a (0 - b) W ha h64 (by rw [e]; exact hs)
  · intro h
    rw [o3 h]
    rfl
  · by_cases h : 0 ≤ b
    · have h' : ¬ b < 0 := by omega
      simp [h, h']
    · have h' : b < 0 := by omega
      simp [h, h']
  · intro h
    have : 0 ≤ b := by simpa using h
    omega
  · intro h
    have : 0 ≤ b := by simpa using h
    exact IntWalk.i64_in _ (by omega)
  · intro h
    have : 0 ≤ b := by simpa using h
    rw [Bool.eq_iff_iff, hr1]
    unfold In64
    simp only [decide_eq_true_eq]
    omega
  · intro h
    have : b < 0 := by simpa using h
    omega
  · intro h
    have : b < 0 := by simpa using h
    exact IntWalk.i64_in _ (by omega)
  · intro h
    have : b < 0 := by simpa using h
    rw [Bool.eq_iff_iff, hr1]
    unfold In64
    simp only [decide_eq_true_eq]
    omega
  · intro h
    have := hr1.1 h
    unfold In64 at this
    exact IntWalk.i64_in _ (by omega)
  · intro h
    have h64 := hr1.1 h
    rcases s1 with ⟨rfl, rfl, _, _⟩ | ⟨_, _, _, hn⟩
    · rw [same_self]
      rfl
    · exact absurd h64 hn
  · intro h
    have h64 := hr1.1 h
    rcases s1 with ⟨rfl, rfl, _, _⟩ | ⟨_, _, _, hn⟩
    · refine both_is _ _ _ _ _ _ _ _ _ _ 0 fun W => ?_
      have e : a + b - b = a := by omega
      have := opI_sub (a + b) b W h64 hb (by rw [e]; exact ha)
      rw [e] at this
      exact this
    · exact absurd h64 hn
  · simp only [Bool.and_eq_true, decide_eq_true_eq]
    rintro ⟨⟨⟨⟨⟨h1, h2⟩, h3⟩, h4⟩, h5⟩, h6⟩
    have q1 : In64 (b + c) := by unfold In64; omega
    have q2 := mul_small a (b + c) h1 h2 (by omega) (by omega)
    have q3 := mul_small a b h1 h2 (by omega) (by omega)
    have q4 := mul_small a c h1 h2 (by omega) (by omega)
    have e : a * b + a * c = a * (b + c) := (Int.mul_add a b c).symm
    refine ⟨b + c, a * (b + c), a * b, a * c, both_is _ _ _ _ _ _ _ _ _ _ 0 fun W => opI_add b c W hb hc q1, both_is _ _ _ _ _ _ _ _ _ _ 0 fun W => opI_mul a (b + c) W ha q1 q2, both_is _ _ _ _ _ _ _ _ _ _ 0 fun W => opI_mul a b W ha hb q3, both_is _ _ _ _ _ _ _ _ _ _ 0 fun W => opI_mul a c W ha hc q4, both_is _ _ _ _ _ _ _ _ _ _ 0 fun W => ?_⟩
    have := opI_add (a * b) (a * c) W q3 q4 (by rw [e]; exact q2)
    rw [e] at this
    exact this
end Go.Proofs.YtaidipdofomgoaaGreatDoor
