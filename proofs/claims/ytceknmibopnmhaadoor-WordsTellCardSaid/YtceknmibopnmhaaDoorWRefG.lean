/-
  Layer 9: the document's own answer: one token: names, signs. Conditions: sizes.
-/
import Derived.Test.YtceknmibopnmhaaDoorWRefF
namespace Go.Proofs.YtceknmibopnmhaaDoor
open Go.ChangeShapes Go.WideShapes Go.ChangeAt Go.RowKit
set_option linter.unusedVariables false

def keysR : List ByteArray := [⟨#[97, 110, 100]⟩, ⟨#[97, 115]⟩, ⟨#[97, 115, 99]⟩, ⟨#[98, 101, 103, 105, 110]⟩, ⟨#[98, 101, 116, 119, 101, 101, 110]⟩, ⟨#[98, 121]⟩, ⟨#[99, 97, 115, 116]⟩, ⟨#[99, 111, 109, 109, 105, 116]⟩, ⟨#[99, 114, 101, 97, 116, 101]⟩, ⟨#[100, 101, 108, 101, 116, 101]⟩, ⟨#[100, 101, 115, 99]⟩, ⟨#[100, 105, 115, 116, 105, 110, 99, 116]⟩, ⟨#[100, 114, 111, 112]⟩, ⟨#[102, 114, 111, 109]⟩, ⟨#[103, 114, 111, 117, 112]⟩, ⟨#[104, 97, 118, 105, 110, 103]⟩, ⟨#[105, 110]⟩, ⟨#[105, 110, 100, 101, 120]⟩, ⟨#[105, 110, 115, 101, 114, 116]⟩, ⟨#[105, 110, 116]⟩, ⟨#[105, 110, 116, 111]⟩, ⟨#[105, 115]⟩, ⟨#[106, 111, 105, 110]⟩, ⟨#[108, 105, 107, 101]⟩, ⟨#[108, 105, 109, 105, 116]⟩, ⟨#[110, 111, 116]⟩, ⟨#[110, 117, 108, 108]⟩, ⟨#[111, 102, 102, 115, 101, 116]⟩, ⟨#[111, 110]⟩, ⟨#[111, 114]⟩, ⟨#[111, 114, 100, 101, 114]⟩, ⟨#[114, 111, 108, 108, 98, 97, 99, 107]⟩, ⟨#[115, 101, 108, 101, 99, 116]⟩, ⟨#[115, 101, 116]⟩, ⟨#[116, 97, 98, 108, 101]⟩, ⟨#[116, 101, 120, 116]⟩, ⟨#[117, 110, 105, 113, 117, 101]⟩, ⟨#[117, 112, 100, 97, 116, 101]⟩, ⟨#[118, 97, 108, 117, 101, 115]⟩, ⟨#[119, 104, 101, 114, 101]⟩]
def signsR : List ByteArray := [⟨#[124, 124]⟩, ⟨#[60, 62]⟩, ⟨#[60, 61]⟩, ⟨#[62, 61]⟩, ⟨#[61]⟩, ⟨#[60]⟩, ⟨#[62]⟩, ⟨#[43]⟩, ⟨#[45]⟩, ⟨#[42]⟩, ⟨#[47]⟩, ⟨#[37]⟩, ⟨#[40]⟩, ⟨#[41]⟩, ⟨#[44]⟩, ⟨#[46]⟩, ⟨#[59]⟩, ⟨#[63]⟩]
theorem keysR_list : keysR.map (fun b => b.data.toList) = keysW := by decide +kernel
theorem signsR_list : signsR.map (fun b => b.data.toList) = M.sgL := by decide +kernel
theorem keysR_mem (y : ByteArray) : y ∈ keysR ↔ y.data.toList ∈ keysW := by
  rw [← keysR_list, List.mem_map]
  exact ⟨fun h => ⟨y, h, rfl⟩, fun ⟨z, hz, e⟩ => by rw [← ba_ext e]; exact hz⟩
theorem ext_kj (s : ByteArray) (k j : Nat) : (s.extract k j).data.toList = (s.data.toList.drop k).take (j - k) := by
  rw [ByteArray.data_extract, Array.toList_extract, List.extract_eq_take_drop]
theorem ret_nm {k N a e e2 : Int} {S S2 : ByteArray} (hS : S2 = S) (h : e = e2) : Ending.returned (wd k S N a e) = .returned (wd k S2 N a e2) := by rw [h, hS]
def NmRel (s : ByteArray) (k : Nat) (w1 : World) (ve : Value) (wr : World) : Prop :=
  ∃ j : Nat, k ≤ j ∧ j ≤ s.size ∧ ve = .int .i64 (j : Int) ∧ ((s.data.toList.drop k).take (j - k)).all M.nmd = true ∧ wr = w1
theorem nm_not (c : UInt8) (h : M.nm c = true) : M.dg c = false ∧ c.toNat ≠ 39 := by
  rw [nm_n, decide_eq_true_eq] at h
  refine ⟨?_, by omega⟩
  unfold M.dg
  exact decide_eq_false (by omega)
set_option maxRecDepth 100000 in
set_option maxHeartbeats 2000000 in
theorem rone_name (s : ByteArray) (k : Nat) (w : World) (hs : s.size ≤ 65536) (hk : k < s.size) (hd : M.nm s[k] = true) (hnb : ∀ h : k + 1 < s.size, s[k].toNat = 120 ∨ s[k].toNat = 88 → s[k + 1].toNat ≠ 39) :
    Calls Tryd.prog 14 #[.string s, .int .i64 (k : Int)] w (RetOne (M.nameT keysW (s.data.toList.drop k)) k w) := by
  obtain ⟨w1, hw1, HB5, HB⟩ := w5_named w
  have HC := Lib.hid (rdigit_any s[k])
  have HL := Lib.hid (rletter_any s[k])
  obtain ⟨hn1, hn2⟩ := nm_not _ hd
  rw [hn1] at HC
  rw [hd] at HL
  have h3 : ((s[k].toNat : Int) == 39) = false := beq_eq_false_iff_ne.2 (by omega)
  have HD1 := Lib.hid hd
  clear hn1 hn2 hd
  go_enter Tryd.func14, Tryd.ntmps14
  go_upto_region 3 with (fail)
  go_cut [19] from 20 to 39 (fun v wx => v = .bool false ∧ wx = w1)
  case first =>
    by_cases hx : s[k].toNat = 120 ∨ s[k].toNat = 88
    · by_cases h2 : k + 1 < s.size
      · have h5 : ((s[k + 1].toNat : Int) == 39) = false := beq_eq_false_iff_ne.2 (by have := hnb h2 hx; omega)
        have h6 : ¬ (s[k + 1].toNat : Int) = 39 := beq_eq_false_iff_ne.1 h5
        rcases hx with hx | hx
        · have e1 : ((s[k].toNat : Int) == 120) = true := by simp [hx]
          clear hx hnb
          go_wp2_with fail
          go_meet
          exact ⟨rfl, rfl⟩
        · have e1 : ((s[k].toNat : Int) == 120) = false := by simp [hx]
          have e2 : ((s[k].toNat : Int) == 88) = true := by simp [hx]
          clear hx hnb
          go_wp2_with fail
          go_meet
          exact ⟨rfl, rfl⟩
      · rcases hx with hx | hx
        · have e1 : ((s[k].toNat : Int) == 120) = true := by simp [hx]
          clear hx hnb
          go_wp2_with fail
          go_meet
          exact ⟨rfl, rfl⟩
        · have e1 : ((s[k].toNat : Int) == 120) = false := by simp [hx]
          have e2 : ((s[k].toNat : Int) == 88) = true := by simp [hx]
          clear hx hnb
          go_wp2_with fail
          go_meet
          exact ⟨rfl, rfl⟩
    · have e1 : ((s[k].toNat : Int) == 120) = false := beq_eq_false_iff_ne.2 (by omega)
      have e2 : ((s[k].toNat : Int) == 88) = false := beq_eq_false_iff_ne.2 (by omega)
      clear hx hnb
      go_wp2_with fail
      go_meet
      exact ⟨rfl, rfl⟩
  case rest =>
    obtain ⟨rfl, rfl⟩ := hcut
    rename World => wc1
    clear hnb
    go_wp2_with fail
    refine (HC.out _).mono ?_
    rintro e w2 ⟨rfl, rfl⟩
    go_wp2_with fail
    refine (HL.out _).mono ?_
    rintro e w2 ⟨rfl, rfl⟩
    go_wp2_with fail
    clear HC HL h3
    go_loopw [5] (fun ve wr => NmRel s k wc1 ve wr) (fun ve _ => s.size - (intOf ve).toNat)
    case atStart => exact ⟨k, Nat.le_refl _, by omega, rfl, by simp, rfl⟩
    case round =>
      obtain ⟨j, hkj, hj, rfl, ha, rfl⟩ := hrel
      have HA := Lib.hid ha
      clear ha
      have HSTEP := Lib.hid (show ∀ h : j < s.size, M.nmd s[j] = true → ((s.data.toList.drop k).take (j + 1 - k)).all M.nmd = true from fun h hn => by
        rw [take_snocD s k j hkj h, List.all_append, HA.out]
        simp [hn])
      by_cases hgo : ∃ h : j < s.size, M.nmd s[j] = true
      · obtain ⟨hlt, hn⟩ := hgo
        have HS := Lib.hid (HSTEP.out hlt hn)
        have HL := Lib.hid (rletter_any s[j])
        have HD := Lib.hid (rdigit_any s[j])
        cases hnm : M.nm s[j]
        · have hdg : M.dg s[j] = true := by simpa [M.nmd, hnm] using hn
          rw [hnm] at HL
          rw [hdg] at HD
          clear hnm hdg hn
          go_wp2_with fail
          refine (HL.out _).mono ?_
          rintro e w2 ⟨rfl, rfl⟩
          go_wp2_with fail
          refine (HD.out _).mono ?_
          rintro e w2 ⟨rfl, rfl⟩
          go_wp2_with fail
          exact ⟨⟨j + 1, by omega, hlt, by go_num, HS.out, rfl⟩, by simp [intOf]; omega⟩
        · rw [hnm] at HL
          clear hnm hn HD
          go_wp2_with fail
          refine (HL.out _).mono ?_
          rintro e w2 ⟨rfl, rfl⟩
          go_wp2_with fail
          exact ⟨⟨j + 1, by omega, hlt, by go_num, HS.out, rfl⟩, by simp [intOf]; omega⟩
      · have hkjlt : k < j := by
          rcases Nat.lt_or_ge k j with h | h
          · exact h
          · obtain rfl : k = j := by omega
            exact absurd ⟨hk, by simp [M.nmd, HD1.out]⟩ hgo
        have htw := tw_all_take (l := s.data.toList.drop k) HA.out (by simp; omega) (fun c hc => by
          by_cases hlt : j < s.size
          · rw [List.getElem?_drop, show k + (j - k) = j by omega, get_at s j hlt] at hc
            obtain rfl := Option.some.inj hc
            cases hq : M.nmd s[j]
            · rfl
            · exact absurd ⟨hlt, hq⟩ hgo
          · rw [List.getElem?_drop, List.getElem?_eq_none (by simp; omega)] at hc
            cases hc)
        obtain ⟨x, hx⟩ : ∃ x, s.extract k j = x := ⟨_, rfl⟩
        have hxl : x.data.toList = (s.data.toList.drop k).takeWhile M.nmd := by rw [← hx, ext_kj, ← M.tw_take, htw]
        have hxs : x.size ≤ 65536 := by rw [← hx]; simp; omega
        obtain ⟨y, hy⟩ : ∃ y, turnedS M.sm x = y := ⟨_, rfl⟩
        have hyl : y.data.toList = ((s.data.toList.drop k).takeWhile M.nmd).map M.sm := by rw [← hy]; simp [turnedS, hxl]
        have HT := Lib.hid (show M.nameT keysW (s.data.toList.drop k) = (if y.data.toList ∈ keysW then 3 else 2, y.data.toList, 0, j - k) by
          have e2 : (((s.data.toList.drop k).takeWhile M.nmd).map M.sm).length = j - k := by rw [List.length_map]; exact htw
          simp only [M.nameT, hyl, e2])
        have HSM := Lib.hid (fun W => rsmall_any x W hxs)
        rw [hy] at HSM
        have HEX := Lib.hid (show (∃ h : j < s.size, M.nm s[j] = false ∧ M.dg s[j] = false) ∨ j = s.size from by
          by_cases hlt : j < s.size
          · refine .inl ⟨hlt, ?_⟩
            cases hq : M.nmd s[j]
            · simpa [M.nmd] using hq
            · exact absurd ⟨hlt, hq⟩ hgo
          · exact .inr (by omega))
        have HYE := Lib.hid (show (⟨y.data.toList.toArray⟩ : ByteArray) = y from ba_eta y)
        clear hy hyl hxl htw hgo HSTEP hxs
        have HXE := Lib.hid hx
        clear hx
        rcases HEX.out with ⟨hlt, hn1, hn2⟩ | hjs
        · have HL := Lib.hid (rletter_any s[j])
          have HD := Lib.hid (rdigit_any s[j])
          rw [hn1] at HL
          rw [hn2] at HD
          clear hn1 hn2
          go_wp2_with fail
          refine (HL.out _).mono ?_
          rintro e w2 ⟨rfl, rfl⟩
          go_wp2_with fail
          refine (HD.out _).mono ?_
          rintro e w2 ⟨rfl, rfl⟩
          have hx0 := HXE.out
          go_wp2_with fail
          clear hx0
          refine (HSM.out _).mono ?_
          rintro e w3 ⟨rfl, hb3⟩
          have HB3 := Lib.hid (HB.out.trans (hb3.mono HB.out.size))
          have HX3 := Lib.hid (HB5.out.on hb3)
          clear hb3
          go_upto_region 25 with (fail)
          obtain ⟨w4, hw4, HB4, HY4⟩ : ∃ w4, w3.alloc (.cells #[.int .u8 2, .string y, .int .i64 0, .int .i64 k, .int .i64 j] 24) = w4 ∧ Hid (Below w3.heap.size w3 w4) ∧ Hid (Box5 w4 w3.heap.size 2 y 0 k j) :=
            ⟨_, rfl, Lib.hid ((Below.refl _ _).alloc (Nat.le_refl _) _), Lib.hid (heap_alloc_new w3 _)⟩
          rw [hw4]
          clear hw4
          have HB5b := Lib.hid (HB3.out.trans (HB4.out.mono HB3.out.size))
          have HX4 := Lib.hid (HX3.out.on HB4.out)
          have hne : w.heap.size ≠ w3.heap.size := by
            have := HX3.out.lt
            omega
          have HLE := Lib.hid (show w.heap.size ≤ w3.heap.size from HB3.out.size)
          obtain ⟨d0, d1, d2, d3, d4⟩ := HY4.out.cells
          generalize w3.heap.size = g12 at *
          go_wp2_with fail
          clear d0 d1 d2 d3 d4
          obtain ⟨w6, hw6⟩ : ∃ w6, w4.alloc (.cells (keysR.map Value.string).toArray 9) = w6 := ⟨_, rfl⟩
          have hls : LsAt w6 w4.heap.size keysR := by rw [← hw6]; exact LsAt.new _ _
          have hal6 : Below w4.heap.size w4 w6 := by rw [← hw6]; exact (Below.refl _ _).alloc (Nat.le_refl _) _
          simp only [keysR, List.map_cons, List.map_nil] at hw6
          rw [hw6]
          clear hw6
          have HB6 := Lib.hid (HB5b.out.trans (hal6.mono HB5b.out.size))
          have HX6 := Lib.hid (HX4.out.on hal6)
          have HY6 := Lib.hid (HY4.out.on hal6)
          have HIN : Calls Tryd.prog 37 #[.string y, .slice (some ⟨w4.heap.size, 0, none⟩) 40 40] w6 (InRetR y keysR w6) := rin_any y w4.heap.size keysR 40 w6 (by decide) hls
          clear hal6 hls
          refine HIN.mono ?_
          clear HIN
          rintro e w7 ⟨b, rfl, hbi, rfl⟩
          rw [keysR_mem] at hbi
          obtain ⟨c0, c1, c2, c3, c4⟩ := HX6.out.cells
          obtain ⟨f0, f1, f2, f3, f4⟩ := HX6.out.frz
          obtain ⟨d0, d1, d2, d3, d4⟩ := HY6.out.cells
          obtain ⟨g0, g1, g2, g3, g4⟩ := HY6.out.frz
          cases b
          · have HNK := Lib.hid (show ¬ y.data.toList ∈ keysW from fun h => by have := hbi.2 h; cases this)
            clear hbi
            go_wp2_with fail
            refine bodyPost_ret (v := wd 2 y 0 k j) (by simp [results, Tryd.results14, go_sem, c0, c1, c2, c3, c4]) rfl ⟨.inr ?_, end5 HB6.out _ _ _ _ _⟩
            rw [HT.out, if_neg HNK.out]
            exact ⟨by simp, ret_nm (ba_eta y) (show (j : Int) = ((k + (j - k) : Nat) : Int) by omega)⟩
          · have HNK := Lib.hid (hbi.1 rfl)
            clear hbi
            go_wp2_with fail
            refine bodyPost_ret (v := wd 3 y 0 k j) (by simp [results, Tryd.results14, go_sem, c0, c1, c2, c3, c4]) rfl ⟨.inr ?_, end5 (HB6.out.setCell (p := ⟨g12, 0, none⟩) HLE.out _) _ _ _ _ _⟩
            rw [HT.out, if_pos HNK.out]
            exact ⟨by simp, ret_nm (ba_eta y) (show (j : Int) = ((k + (j - k) : Nat) : Int) by omega)⟩
        · have hjz : ¬ (j : Int) < (s.size : Int) := by omega
          clear hjs
          have hx0 := HXE.out
          go_wp2_with fail
          clear hx0
          refine (HSM.out _).mono ?_
          rintro e w3 ⟨rfl, hb3⟩
          have HB3 := Lib.hid (HB.out.trans (hb3.mono HB.out.size))
          have HX3 := Lib.hid (HB5.out.on hb3)
          clear hb3
          go_upto_region 25 with (fail)
          obtain ⟨w4, hw4, HB4, HY4⟩ : ∃ w4, w3.alloc (.cells #[.int .u8 2, .string y, .int .i64 0, .int .i64 k, .int .i64 j] 24) = w4 ∧ Hid (Below w3.heap.size w3 w4) ∧ Hid (Box5 w4 w3.heap.size 2 y 0 k j) :=
            ⟨_, rfl, Lib.hid ((Below.refl _ _).alloc (Nat.le_refl _) _), Lib.hid (heap_alloc_new w3 _)⟩
          rw [hw4]
          clear hw4
          have HB5b := Lib.hid (HB3.out.trans (HB4.out.mono HB3.out.size))
          have HX4 := Lib.hid (HX3.out.on HB4.out)
          have hne : w.heap.size ≠ w3.heap.size := by
            have := HX3.out.lt
            omega
          have HLE := Lib.hid (show w.heap.size ≤ w3.heap.size from HB3.out.size)
          obtain ⟨d0, d1, d2, d3, d4⟩ := HY4.out.cells
          generalize w3.heap.size = g12 at *
          go_wp2_with fail
          clear d0 d1 d2 d3 d4
          obtain ⟨w6, hw6⟩ : ∃ w6, w4.alloc (.cells (keysR.map Value.string).toArray 9) = w6 := ⟨_, rfl⟩
          have hls : LsAt w6 w4.heap.size keysR := by rw [← hw6]; exact LsAt.new _ _
          have hal6 : Below w4.heap.size w4 w6 := by rw [← hw6]; exact (Below.refl _ _).alloc (Nat.le_refl _) _
          simp only [keysR, List.map_cons, List.map_nil] at hw6
          rw [hw6]
          clear hw6
          have HB6 := Lib.hid (HB5b.out.trans (hal6.mono HB5b.out.size))
          have HX6 := Lib.hid (HX4.out.on hal6)
          have HY6 := Lib.hid (HY4.out.on hal6)
          have HIN : Calls Tryd.prog 37 #[.string y, .slice (some ⟨w4.heap.size, 0, none⟩) 40 40] w6 (InRetR y keysR w6) := rin_any y w4.heap.size keysR 40 w6 (by decide) hls
          clear hal6 hls
          refine HIN.mono ?_
          clear HIN
          rintro e w7 ⟨b, rfl, hbi, rfl⟩
          rw [keysR_mem] at hbi
          obtain ⟨c0, c1, c2, c3, c4⟩ := HX6.out.cells
          obtain ⟨f0, f1, f2, f3, f4⟩ := HX6.out.frz
          obtain ⟨d0, d1, d2, d3, d4⟩ := HY6.out.cells
          obtain ⟨g0, g1, g2, g3, g4⟩ := HY6.out.frz
          cases b
          · have HNK := Lib.hid (show ¬ y.data.toList ∈ keysW from fun h => by have := hbi.2 h; cases this)
            clear hbi
            go_wp2_with fail
            refine bodyPost_ret (v := wd 2 y 0 k j) (by simp [results, Tryd.results14, go_sem, c0, c1, c2, c3, c4]) rfl ⟨.inr ?_, end5 HB6.out _ _ _ _ _⟩
            rw [HT.out, if_neg HNK.out]
            exact ⟨by simp, ret_nm (ba_eta y) (show (j : Int) = ((k + (j - k) : Nat) : Int) by omega)⟩
          · have HNK := Lib.hid (hbi.1 rfl)
            clear hbi
            go_wp2_with fail
            refine bodyPost_ret (v := wd 3 y 0 k j) (by simp [results, Tryd.results14, go_sem, c0, c1, c2, c3, c4]) rfl ⟨.inr ?_, end5 (HB6.out.setCell (p := ⟨g12, 0, none⟩) HLE.out _) _ _ _ _ _⟩
            rw [HT.out, if_pos HNK.out]
            exact ⟨by simp, ret_nm (ba_eta y) (show (j : Int) = ((k + (j - k) : Nat) : Int) by omega)⟩
end Go.Proofs.YtceknmibopnmhaaDoor
