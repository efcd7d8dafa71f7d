/-
  Layer 8: AggNumbers' walk. No conditions.
-/
import Derived.Test.YtceknmibopnmhaaGreatDoorAEnH
import Derived.Test.YtceknmibopnmhaaGreatDoorAAccM
namespace Go.Proofs.YtceknmibopnmhaaGreatDoor
open Go.ChangeShapes Go.WideShapes Go.ChangeAt Go.RowKit Go.Maps Go.Sort Go.Shelf Go.ChangeMaps Go.Lib
set_option linter.unusedVariables false
set_option linter.unusedSimpArgs false

def LpAt (wl : World) (m : Nat) (v : Value) (wr : World) : Prop := ∃ j : Nat, j ≤ m ∧ v = .int .i64 (j : Int) ∧ Below wl.heap.size wl wr
set_option maxRecDepth 100000 in
set_option maxHeartbeats 4000000 in
theorem num8_walk (w : World) (hW : Wd w) :
    Calls Tryz.prog 4 #[] w fun e w' => e = .returned (.bool true) ∧ Below w.heap.size w w' := by
  have HW := Lib.hid hW
  clear hW
  go_enter Tryz.func4, Tryz.ntmps4
  go_upto_region 2 with (fail)
  obtain ⟨w1, hw1⟩ : ∃ w1, w.alloc (.cells #[.int .u8 0, .int .i64 0, .string ⟨#[]⟩] 24) = w1 := ⟨_, rfl⟩
  have hb1 : Below w.heap.size w w1 := by rw [← hw1]; exact (Below.refl _ _).alloc (Nat.le_refl _) _
  have hn1 : BoxT w1 w.heap.size nuT := by rw [← hw1]; exact BoxT.new w nuT
  rw [hw1]
  clear hw1
  have hnw := NmsAt.new w1 names5
  obtain ⟨w2, hw2⟩ : ∃ w2, w1.alloc (.cells (names5.map Value.string).toArray 9) = w2 := ⟨_, rfl⟩
  have ha2 : Below w1.heap.size w1 w2 := by rw [← hw2]; exact (Below.refl _ _).alloc (Nat.le_refl _) _
  rw [hw2] at hnw
  have HNW := Lib.hid hnw
  have HN2 := Lib.hid (hn1.on ha2)
  have HB2 := Lib.hid (hb1.trans (ha2.mono hb1.size))
  have HW2 := Lib.hid (HW.out.on HB2.out)
  clear hnw ha2 hn1 hb1 HW
  obtain ⟨bn, hbn⟩ : ∃ n, w.heap.size = n := ⟨_, rfl⟩
  rw [hbn] at HN2
  rw [hbn]
  simp only [names5, List.map_cons, List.map_nil] at hw2
  go_upto_region 3 with (fail)
  clear hw2
  generalize w1.heap.size = g2 at *
  go_loopw [22] (fun v wr => LpAt w2 5 v wr) (fun v _ => 5 - (intOf v).toNat)
  case atStart => exact ⟨0, by omega, rfl, Below.refl _ _⟩
  case round =>
    obtain ⟨j, hj, rfl, hb⟩ := hrel
    by_cases hlt : j < 5
    · obtain ⟨nm, hnm, hout⟩ := names5_out j hlt
      have hcell := (HNW.out.on hb).2 j nm hnm
      have HNO := Lib.hid (fun (w : World) => New_unk nm false hout w)
      have HKN := Lib.hid (fun (w : World) => Known_no nm hout w)
      have HB0 := Lib.hid hb
      have HJ := Lib.hid hlt
      have hj5 : (j : Int) < 5 := by omega
      clear hb hnm hout hlt
      go_wp2_with fail
      clear hcell
      refine (HNO.out _).mono ?_
      rintro e X1 ⟨rfl, hb⟩
      have HB1 := Lib.hid (HB0.out.trans (hb.mono HB0.out.size))
      clear hb
      go_wp2_with fail
      refine (HKN.out _).mono ?_
      rintro e X2 ⟨rfl, hb⟩
      have HB3 := Lib.hid (HB1.out.trans (hb.mono HB1.out.size))
      clear hb
      go_wp2_with fail
      exact ⟨⟨j + 1, HJ.out, by go_num, HB3.out⟩, by have := HJ.out; simp [intOf]; omega⟩
    · have hj5 : ¬ (j : Int) < 5 := by omega
      have HB3 := Lib.hid hb
      clear hb hlt
      go_upto_region 9 with (fail)
      have HDI := Lib.hid (fun (w : World) => New_dis named_countAll w)
      obtain ⟨jj, hjj⟩ : ∃ z : Int, (j : Int) = z := ⟨_, rfl⟩
      rw [hjj]
      clear hj5 hj hjj
      go_wp2_with fail
      refine (HDI.out _).mono ?_
      rintro e X1 ⟨rfl, hb⟩
      have HB4 := Lib.hid (HB3.out.trans (hb.mono HB3.out.size))
      have HB5 := Lib.hid (HB2.out.trans (HB4.out.mono HB2.out.size))
      have HN5 := Lib.hid (HN2.out.on HB4.out)
      have HW5 := Lib.hid (HW2.out.on HB4.out)
      clear hb HB3 HB4 HNW HN2 HW2 HDI
      go_upto_region 10 with (fail)
      have hnw := NmsAt.new X1 names4
      obtain ⟨w3, hw3⟩ : ∃ w3, X1.alloc (.cells (names4.map Value.string).toArray 9) = w3 := ⟨_, rfl⟩
      have ha3 : Below X1.heap.size X1 w3 := by rw [← hw3]; exact (Below.refl _ _).alloc (Nat.le_refl _) _
      rw [hw3] at hnw
      have HNW := Lib.hid hnw
      have HB6 := Lib.hid (HB5.out.trans (ha3.mono HB5.out.size))
      have HN6 := Lib.hid (HN5.out.on ha3)
      have HW6 := Lib.hid (HW5.out.on ha3)
      clear hnw ha3 HN5 HW5 HB5 HB2
      simp only [names4, List.map_cons, List.map_nil] at hw3
      go_upto_region 11 with (fail)
      clear hw3
      generalize X1.heap.size = g3 at *
      go_loopw [51] (fun v wr => LpAt w3 4 v wr) (fun v _ => 4 - (intOf v).toNat)
      case atStart => exact ⟨0, by omega, rfl, Below.refl _ _⟩
      case round =>
        obtain ⟨i, hi, rfl, hb⟩ := hrel
        by_cases hlt : i < 4
        · obtain ⟨nm, fin, hnm, hN, hf1, hf2⟩ := named_at4 i hlt
          have hcell := (HNW.out.on hb).2 i nm hnm
          have HB0 := Lib.hid hb
          have HJ := Lib.hid hlt
          have hi4 : (i : Int) < 4 := by omega
          have K1 := Lib.hid (show ∀ X : World, Below w3.heap.size w3 X → Calls Tryz.prog 27 #[vv 0 0 ⟨#[]⟩, .string nm, .bool false, .slice none 0 0] X fun e w' => e = .returned (.bool true) ∧ Below X.heap.size X w' from fun X hX => comes_none hN rfl nuT hf1 HW6.out hX)
          have K2 := Lib.hid (show ∀ X : World, Below w3.heap.size w3 X → Calls Tryz.prog 27 #[vv 0 0 ⟨#[]⟩, .string nm, .bool true, .slice (some ⟨X.heap.size, 0, none⟩) 2 2] (X.alloc (.cells #[.int .u8 0, .int .i64 0, .string ⟨#[]⟩, .int .u8 0, .int .i64 0, .string ⟨#[]⟩] 24)) fun e w' => e = .returned (.bool true) ∧ Below X.heap.size X w' from fun X hX => comes_built hN rfl nuT [nuT, nuT] hf2 (good2 nu_good nu_good) (by decide) _ rfl _ rfl HW6.out hX)
          obtain ⟨y0, y1, y2⟩ := (HN6.out.on hb).cells
          dsimp only at y0 y1 y2
          clear hb hnm hlt hN hf1 hf2
          go_wp2_with fail
          clear hcell
          refine (K1.out _ HB0.out).mono ?_
          rintro e X2 ⟨rfl, hb⟩
          have HB7 := Lib.hid (HB0.out.trans (hb.mono HB0.out.size))
          clear hb y0 y1 y2
          obtain ⟨y0, y1, y2⟩ := (HN6.out.on HB7.out).cells
          dsimp only at y0 y1 y2
          go_wp2_with fail
          refine (K2.out _ HB7.out).mono ?_
          rintro e X3 ⟨rfl, hb⟩
          have HB8 := Lib.hid (HB7.out.trans (hb.mono HB7.out.size))
          clear hb y0 y1 y2
          go_wp2_with fail
          exact ⟨⟨i + 1, HJ.out, by go_num, HB8.out⟩, by have := HJ.out; simp [intOf]; omega⟩
        · have hi4 : ¬ (i : Int) < 4 := by omega
          have HB7 := Lib.hid (HB6.out.trans (hb.mono HB6.out.size))
          have HN7 := Lib.hid (HN6.out.on hb)
          have HW7 := Lib.hid (HW6.out.on hb)
          clear hb hlt HNW HB6 HN6 HW6
          go_upto_region 16 with (fail)
          obtain ⟨w4, hw4⟩ : ∃ X, wr = X := ⟨_, rfl⟩
          rw [hw4] at HB7 HN7 HW7 ⊢
          clear hw4
          have hbx : BoxOn w4 bn 0 0 ⟨#[]⟩ := fun X hX => HN7.out.on hX
          have K0 : CmIs w4 1 0 ⟨#[]⟩ ⟨#[99, 111, 117, 110, 116]⟩ false [(0, 0, ⟨#[]⟩)] true := cm_is named_count rfl 1 0 ⟨#[]⟩ [nuT] true (by rw [en1]; simp) (fun t ht => by rw [List.mem_singleton.1 ht]; exact nu_good) (by decide) HW7.out
          have K1 : CmIs w4 1 0 ⟨#[]⟩ ⟨#[116, 111, 116, 97, 108]⟩ true [(0, 0, ⟨#[]⟩)] true := cm_is named_total rfl 1 0 ⟨#[]⟩ [nuT] true (by rw [en2]; simp) (fun t ht => by rw [List.mem_singleton.1 ht]; exact nu_good) (by decide) HW7.out
          have K2 : CmIs w4 1 2 ⟨#[]⟩ ⟨#[99, 111, 117, 110, 116, 42]⟩ false [(0, 0, ⟨#[]⟩), (0, 0, ⟨#[]⟩)] true := cm_is named_countAll rfl 1 2 ⟨#[]⟩ [nuT, nuT] true (by rw [en3]; simp) (good2 nu_good nu_good) (by decide) HW7.out
          refine region_asE (ops' := en16Ops) (by kernel_rfl) ?_
          refine en16 bn hbx K0 K1 K2 rfl rfl rfl ?_
          intro V X hb hv
          have HB8 := Lib.hid (HB7.out.trans (hb.mono HB7.out.size))
          have HN8 := Lib.hid (HN7.out.on hb)
          have HW8 := Lib.hid (HW7.out.on hb)
          rw [en16_fill V, hv]
          clear hb hv hbx K0 K1 K2 HB7 HN7 HW7
          have HNEW := Lib.hid (fun (w : World) => New_okM (B := w.heap.size) named_sum (d := false) rfl w (Nat.le_refl _))
          go_upto_region 18 with (fail)
          go_wp2_with fail
          refine (HNEW.out X).mono ?_
          rintro e w5 ⟨a, rfl, hat, hla, hb5⟩
          obtain ⟨m, hm⟩ : ∃ m, w5.heap.size = m := ⟨_, rfl⟩
          rw [hm] at hat
          have HM := Lib.hid (Nat.le_of_eq hm.symm)
          have HAM := Lib.hid (show a < m by obtain ⟨_, _, _, _, _, _, hb, _⟩ := hat; rw [← hm]; exact hb.lt)
          have HLA := Lib.hid hla
          have HAT := Lib.hid hat
          have HX5 := Lib.hid hb5
          have HSB := Lib.hid (Step_bad hat.at (0, 1, ⟨#[]⟩) (by simp [Rt]) (by decide))
          clear hat hla hb5 HNEW hm
          go_wp2_with fail
          refine HSB.out.mono ?_
          rintro e w6 ⟨rfl, hb⟩
          have HAT := Lib.hid (HAT.out.keep hb)
          have HM := Lib.hid (Nat.le_trans HM.out hb.size)
          have HX6 := Lib.hid (HX5.out.trans (hb.mono HX5.out.size))
          clear hb HSB
          go_wp2_with fail
          refine (numA _ _).mono ?_
          rintro e w7 ⟨rfl, hb⟩
          have HAT := Lib.hid (HAT.out.keep hb)
          have HM := Lib.hid (Nat.le_trans HM.out hb.size)
          have HX7 := Lib.hid (HX6.out.trans (hb.mono HX6.out.size))
          clear hb
          have HST := Lib.hid (Step_okM HAT.out (nmT 4) (nm_good 4 (by unfold In64; omega)) (by simp) ⟨X, HW8.out, Nat.le_refl _, HX7.out⟩)
          go_wp2_with fail
          refine HST.out.mono ?_
          rintro e w8 ⟨rfl, hac, hk⟩
          rw [show oneMore false [] (nmT 4) = [nmT 4] from by simp [oneMore]] at hac
          have HAT := Lib.hid hac
          have HM := Lib.hid (Nat.le_trans HM.out hk.size)
          have HX8 := Lib.hid (HX7.out.trans (hk.below HX7.out.size fun k hk => by have := HLA.out; omega))
          clear hac hk HST
          have hfo := Final_ok HAT.out.at (by simp) ⟨X, HW8.out, Nat.le_refl _, HX8.out⟩
          rw [en8] at hfo
          have HFN := Lib.hid hfo
          clear hfo
          go_wp2_with fail
          refine HFN.out.mono ?_
          rintro e w9 ⟨rfl, hb⟩
          have HAT := Lib.hid (HAT.out.keep hb)
          have HM := Lib.hid (Nat.le_trans HM.out hb.size)
          have HX9 := Lib.hid (HX8.out.trans (hb.mono HX8.out.size))
          clear hb HFN
          go_upto_region 22 with (fail)
          obtain ⟨w10, hw10⟩ : ∃ w10, w9.alloc (.cells #[.int .u8 1, .int .i64 4, .string ⟨#[]⟩] 24) = w10 := ⟨_, rfl⟩
          rw [hw10]
          have hal : Below w9.heap.size w9 w10 := by rw [← hw10]; exact (Below.refl _ _).alloc (Nat.le_refl _) _
          have hbx : BoxT w10 w9.heap.size (nmT 4) := by rw [← hw10]; exact BoxT.new w9 (nmT 4)
          have HAT := Lib.hid (HAT.out.keep hal)
          have HX10 := Lib.hid (HX9.out.trans (hal.mono HX9.out.size))
          obtain ⟨g12, hg⟩ : ∃ g, w9.heap.size = g := ⟨_, rfl⟩
          rw [hg] at hbx HM ⊢
          have HG := Lib.hid (show a < g12 from Nat.lt_of_lt_of_le HAM.out HM.out)
          have HBX := Lib.hid hbx
          clear hal hbx hw10 hg
          go_wp2_with fail
          refine (textA _ _).mono ?_
          rintro e w11 ⟨rfl, hb⟩
          have HAT := Lib.hid (HAT.out.keep hb)
          have HBX := Lib.hid (HBX.out.on hb)
          have HX11 := Lib.hid (HX10.out.trans (hb.mono HX10.out.size))
          clear hb
          have HST := Lib.hid (Step_okM HAT.out (txT ⟨#[54, 120]⟩) (tx_good _ (by decide)) (by simp) ⟨X, HW8.out, Nat.le_refl _, HX11.out⟩)
          go_wp2_with fail
          refine HST.out.mono ?_
          rintro e w12 ⟨rfl, hac, hk⟩
          rw [show oneMore false [nmT 4] (txT ⟨#[54, 120]⟩) = [nmT 4, txT ⟨#[54, 120]⟩] from by simp [oneMore]] at hac
          have HAT := Lib.hid hac
          have HBX := Lib.hid (show BoxT w12 g12 (nmT 4) from (hk.block g12 HBX.out.lt (by have := HM.out; omega)).trans HBX.out)
          have HX12 := Lib.hid (HX11.out.trans (hk.below HX11.out.size fun k hk => by have := HLA.out; omega))
          clear hac hk HST
          have hfo := Final_ok HAT.out.at (by simp) ⟨X, HW8.out, Nat.le_refl _, HX12.out⟩
          rw [en9] at hfo
          have HFN := Lib.hid hfo
          clear hfo
          go_wp2_with fail
          refine HFN.out.mono ?_
          rintro e w13 ⟨rfl, hb⟩
          have HAT := Lib.hid (HAT.out.keep hb)
          have HBX := Lib.hid (HBX.out.on hb)
          have HX13 := Lib.hid (HX12.out.trans (hb.mono HX12.out.size))
          clear hb HFN
          go_upto_region 24 with (fail)
          obtain ⟨w14, hw14⟩ : ∃ w14, w13.alloc (.cells #[.int .u8 1, .int .i64 10, .string ⟨#[]⟩] 24) = w14 := ⟨_, rfl⟩
          rw [hw14]
          have hal : Below w13.heap.size w13 w14 := by rw [← hw14]; exact (Below.refl _ _).alloc (Nat.le_refl _) _
          have hbx : BoxT w14 w13.heap.size (nmT 10) := by rw [← hw14]; exact BoxT.new w13 (nmT 10)
          have HAT := Lib.hid (HAT.out.keep hal)
          have HGE := Lib.hid (show a < w13.heap.size from Nat.lt_trans HG.out HBX.out.lt)
          have HBX := Lib.hid (HBX.out.on hal)
          have HX14 := Lib.hid (HX13.out.trans (hal.mono HX13.out.size))
          obtain ⟨g14, hg⟩ : ∃ g, w13.heap.size = g := ⟨_, rfl⟩
          rw [hg] at hbx HGE ⊢
          have HBY := Lib.hid hbx
          clear hal hbx hw14 hg
          have HRS := Lib.hid (Reset_at HAT.out.at)
          go_wp2_with fail
          refine HRS.out.mono ?_
          rintro e w15 ⟨rfl, hac, hk⟩
          have HAT := Lib.hid hac
          have HBX := Lib.hid (show BoxT w15 g12 (nmT 4) from (hk.block g12 HBX.out.lt (by have := HG.out; omega)).trans HBX.out)
          have HBY := Lib.hid (show BoxT w15 g14 (nmT 10) from (hk.block g14 HBY.out.lt (by have := HGE.out; omega)).trans HBY.out)
          have HX15 := Lib.hid (HX14.out.trans (hk.below HX14.out.size fun k hk => by have := HLA.out; omega))
          clear hac hk HRS
          have hfo := Final_ok HAT.out (by simp) ⟨X, HW8.out, Nat.le_refl _, HX15.out⟩
          rw [en0] at hfo
          have HFN := Lib.hid hfo
          clear hfo
          go_wp2_with fail
          refine HFN.out.mono ?_
          rintro e w16 ⟨rfl, hb⟩
          have HBX := Lib.hid (HBX.out.on hb)
          have HBY := Lib.hid (HBY.out.on hb)
          have HX16 := Lib.hid (HX15.out.trans (hb.mono HX15.out.size))
          clear hb HFN HAT
          go_upto_region 26 with (fail)
          obtain ⟨w17, hw17⟩ : ∃ w17, w16.alloc (.cells #[.int .u8 0, .int .i64 0, .string ⟨#[]⟩] 24) = w17 := ⟨_, rfl⟩
          rw [hw17]
          have hal : Below w16.heap.size w16 w17 := by rw [← hw17]; exact (Below.refl _ _).alloc (Nat.le_refl _) _
          have hbx : BoxT w17 w16.heap.size nuT := by rw [← hw17]; exact BoxT.new w16 nuT
          have HBX := Lib.hid (HBX.out.on hal)
          have HBY := Lib.hid (HBY.out.on hal)
          have HX17 := Lib.hid (HX16.out.trans (hal.mono HX16.out.size))
          obtain ⟨g16, hg⟩ : ∃ g, w16.heap.size = g := ⟨_, rfl⟩
          rw [hg] at hbx ⊢
          have HBZ := Lib.hid hbx
          clear hal hbx hw17 hg
          have HREP := Lib.hid (fun (w : World) => (show Calls Tryz.prog 11 #[.string ⟨#[120]⟩, .int .i64 32768] w fun e w' => e = .returned (.string ⟨(Lib.repeatL [120] 32768).toArray⟩) ∧ Below w.heap.size w w' from Tryz.strings_Repeat ⟨#[120]⟩ 32768 w (by decide) (by decide)))
          obtain ⟨s, hs⟩ : ∃ s : ByteArray, s = ⟨(Lib.repeatL [120] 32768).toArray⟩ := ⟨_, rfl⟩
          rw [← hs] at HREP
          obtain ⟨u, s1, s2, s3, s4, q0, q1, q2, q3, q4, z1, z2, e1, e2, e3, e4⟩ := half_facts s hs
          have Q0 := Lib.hid q0
          have Q1 := Lib.hid q1
          have Q2 := Lib.hid q2
          have Q3 := Lib.hid q3
          have Q4 := Lib.hid q4
          have Z1 := Lib.hid z1
          have Z2 := Lib.hid z2
          have E1 := Lib.hid e1
          have E2 := Lib.hid e2
          have E3 := Lib.hid e3
          have E4 := Lib.hid e4
          clear q0 q1 q2 q3 q4 z1 z2 e1 e2 e3 e4 hs
          go_wp2_with fail
          refine (HREP.out _).mono ?_
          rintro e w18 ⟨rfl, hb⟩
          have HBX := Lib.hid (HBX.out.on hb)
          have HBY := Lib.hid (HBY.out.on hb)
          have HBZ := Lib.hid (HBZ.out.on hb)
          have HX18 := Lib.hid (HX17.out.trans (hb.mono HX17.out.size))
          clear hb HREP
          go_upto_region 27 with (fail)
          have HBN := Lib.hid (HN8.out.on HX18.out)
          have HWZ := Lib.hid (HW8.out.on HX18.out)
          have HBB := Lib.hid (HB8.out.trans (HX18.out.mono HB8.out.size))
          have K0 : BoxOn w18 bn 0 0 ⟨#[]⟩ := fun X hX => HBN.out.on hX
          have K1 : BoxOn w18 g12 1 4 ⟨#[]⟩ := fun X hX => HBX.out.on hX
          have K2 : BoxOn w18 g14 1 10 ⟨#[]⟩ := fun X hX => HBY.out.on hX
          have K3 : BoxOn w18 g16 0 0 ⟨#[]⟩ := fun X hX => HBZ.out.on hX
          have KA : AwOn w18 := fun X hX => awake_any X (HWZ.out.on hX)
          have C0 := c0_is w18 HWZ.out
          have C1 := c1_is w18 HWZ.out
          have C2 := c2_is w18 HWZ.out
          have C3 := c3_is w18 HWZ.out
          have C4 := c4_is w18 HWZ.out s Z1.out
          have C5 := c5_is w18 HWZ.out s u s2 Z1.out Z2.out E1.out E2.out E3.out
          have C6 := c6_is w18 HWZ.out s u s4 Z1.out Z2.out E1.out E4.out
          refine region_asE (ops' := en27Ops) (by kernel_rfl) ?_
          refine en27 bn g12 g14 g16 s u s1 s2 s3 s4 Q0 Q1 Q2 Q3 Q4 K0 K1 K2 K3 KA C0 C1 C2 C3 C4 C5 C6 rfl rfl rfl rfl rfl rfl rfl rfl rfl ?_
          intro V Y hb hv
          rw [en27_fill V, hv]
          have HBE := Lib.hid (HBB.out.trans (hb.mono HBB.out.size))
          clear hb hv
          go_wp2_with fail
          go_ret
          exact ⟨rfl, HBE.out⟩
end Go.Proofs.YtceknmibopnmhaaGreatDoor
