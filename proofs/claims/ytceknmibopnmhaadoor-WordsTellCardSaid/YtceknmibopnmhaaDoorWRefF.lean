/-
  Layer 9: the document's own answer: one token: blobs, numbers. Conditions: sizes.
-/
import Derived.Test.YtceknmibopnmhaaDoorWRefD
import Derived.Test.YtceknmibopnmhaaDoorWRefE
import Derived.Deep.DeepCutAuto
namespace Go.Proofs.YtceknmibopnmhaaDoor
open Go.ChangeShapes Go.WideShapes Go.ChangeAt Go.RowKit
set_option linter.unusedVariables false

theorem ret_wd {k N a e e2 : Int} {S : ByteArray} (h : e = e2) : Ending.returned (wd k S N a e) = .returned (wd k S N a e2) := by rw [h]
theorem sm_x {c : UInt8} : (M.sm c == 120) = decide (c.toNat = 120 ∨ c.toNat = 88) := by
  rw [Bool.eq_iff_iff]
  simp only [beq_iff_eq, decide_eq_true_eq, ← UInt8.toNat_inj, M.sm_n]
  have h1 : (120 : UInt8).toNat = 120 := rfl
  have := c.toNat_lt
  rw [h1]
  split <;> omega
set_option maxRecDepth 100000 in
set_option maxHeartbeats 1000000 in
theorem rone_blob (s : ByteArray) (k : Nat) (w : World) (hs : s.size ≤ 65536) (hk : k + 1 < s.size) (hx : s[k].toNat = 120 ∨ s[k].toNat = 88) (h39 : s[k + 1].toNat = 39) :
    Calls Tryd.prog 14 #[.string s, .int .i64 (k : Int)] w (RetOne (M.blobT (s.data.toList.drop (k + 2))) k w) := by
  obtain ⟨w1, hw1, HB5, HB⟩ := w5_named w
  have h39z : (s[k + 1].toNat : Int) = 39 := by omega
  have HQ := Lib.hid (fun W => rblob_any s k (k + 2) W hs rfl hk)
  have hk2 : k < s.size := by omega
  obtain ⟨n, hn⟩ : ∃ n, (s[k].toNat : Int) = n := ⟨_, rfl⟩
  have hxz : n = 120 ∨ n = 88 := by omega
  clear h39 hx
  go_enter Tryd.func14, Tryd.ntmps14
  go_upto_region 3 with (fail)
  go_cut [19] from 20 to 39 (fun v wx => v = .bool true ∧ wx = w1)
  case first =>
    rcases hxz with hxz | hxz
    · subst hxz
      go_wp2_with fail
      go_meet
      exact ⟨rfl, rfl⟩
    · subst hxz
      go_wp2_with fail
      go_meet
      exact ⟨rfl, rfl⟩
  case rest =>
    obtain ⟨rfl, rfl⟩ := hcut
    clear hxz
    go_wp2_with fail
    refine (HQ.out _).mono ?_
    rintro e w2 (⟨l, n, hq, rfl, hb⟩ | ⟨hq, rfl, hb⟩)
    · have HQQ := Lib.hid hq
      have HB2 := Lib.hid (HB.out.trans (hb.mono HB.out.size))
      obtain ⟨c0, c1, c2, c3, c4⟩ := (HB5.out.on hb).cells
      obtain ⟨f0, f1, f2, f3, f4⟩ := (HB5.out.on hb).frz
      have hnl : ((k + 2 + n : Nat) : Int) = ((k + (n + 2) : Nat) : Int) := by omega
      rw [hnl]
      obtain ⟨m, hm⟩ : ∃ m, k + (n + 2) = m := ⟨_, rfl⟩
      rw [hm]
      have HM := Lib.hid hm
      have hmz : ¬ (m : Int) < 0 := by omega
      clear hb hq hnl hm
      go_wp2_with fail
      refine bodyPost_ret (v := wd 5 ⟨l.toArray⟩ 0 k m) (by simp [results, Tryd.results14, go_sem, c0, c1, c2, c3, c4]) rfl ⟨.inr ?_, end5 HB2.out _ _ _ _ _⟩
      have e : M.blobT (s.data.toList.drop (k + 2)) = (5, l, 0, n + 2) := by rw [M.blobT_R, HQQ.out]
      rw [e]
      exact ⟨by simp, by rw [← HM.out]; rfl⟩
    · have HQQ := Lib.hid hq
      have HB2 := Lib.hid (HB.out.trans (hb.mono HB.out.size))
      obtain ⟨c0, c1, c2, c3, c4⟩ := (HB5.out.on hb).cells
      obtain ⟨f0, f1, f2, f3, f4⟩ := (HB5.out.on hb).frz
      clear hb hq
      go_wp2_with fail
      refine bodyPost_ret (v := wd 0 nb 0 0 0) (by simp [results, Tryd.results14, go_sem, c0, c1, c2, c3, c4]) rfl ⟨.inl ?_, end5 HB2.out _ _ _ _ _⟩
      have e : M.blobT (s.data.toList.drop (k + 2)) = M.no := by rw [M.blobT_R, HQQ.out]
      rw [e]
      exact ⟨rfl, rfl⟩
def NumRel (s : ByteArray) (k : Nat) (w1 : World) (ve vn : Value) (wr : World) : Prop :=
  ∃ j : Nat, k ≤ j ∧ j ≤ s.size ∧ ve = .int .i64 (j : Int) ∧ vn = .int .u64 (M.valD ((s.data.toList.drop k).take (j - k)) : Int) ∧ M.valD ((s.data.toList.drop k).take (j - k)) < 9223372036854775808 ∧ ((s.data.toList.drop k).take (j - k)).all M.dg = true ∧ wr = w1
theorem take_snocD (s : ByteArray) (k j : Nat) (hkj : k ≤ j) (hj : j < s.size) : (s.data.toList.drop k).take (j + 1 - k) = (s.data.toList.drop k).take (j - k) ++ [s[j]] := by
  rw [show j + 1 - k = (j - k) + 1 by omega, List.take_add_one, List.getElem?_drop, show k + (j - k) = j by omega, get_at s j hj]
  rfl
theorem numT_end {l : List UInt8} {n : Nat} (ha : (l.take n).all M.dg = true) (hn : n ≤ l.length) (hstop : ∀ c, l[n]? = some c → M.dg c = false) (hv : M.valD (l.take n) < 9223372036854775808) : M.numT l = (1, [], ((M.valD (l.take n) : Nat) : Int), n) := by
  have e := tw_all_take ha hn hstop
  have e2 : l.takeWhile M.dg = l.take n := by rw [← M.tw_take, e]
  unfold M.numT
  dsimp only
  rw [e2, if_pos hv, List.length_take]
  congr
  omega
set_option maxRecDepth 100000 in
set_option maxHeartbeats 1000000 in
theorem rone_num (s : ByteArray) (k : Nat) (w : World) (hs : s.size ≤ 65536) (hk : k < s.size) (hd : M.dg s[k] = true) :
    Calls Tryd.prog 14 #[.string s, .int .i64 (k : Int)] w (RetOne (M.numT (s.data.toList.drop k)) k w) := by
  obtain ⟨w1, hw1, HB5, HB⟩ := w5_named w
  have hd2 := of_decide_eq_true (show decide (48 ≤ s[k].toNat ∧ s[k].toNat ≤ 57) = true from hd)
  have HC := Lib.hid (rdigit_any s[k])
  rw [hd] at HC
  have h1 : ((s[k].toNat : Int) == 120) = false := beq_eq_false_iff_ne.2 (by omega)
  have h2 : ((s[k].toNat : Int) == 88) = false := beq_eq_false_iff_ne.2 (by omega)
  have h3 : ((s[k].toNat : Int) == 39) = false := beq_eq_false_iff_ne.2 (by omega)
  clear hd2 hd
  go_enter Tryd.func14, Tryd.ntmps14
  go_wp2_with fail
  refine (HC.out w1).mono ?_
  rintro e w2 ⟨rfl, rfl⟩
  go_wp2_with fail
  go_loopw [5, 11] (fun ve vn wr => NumRel s k w1 ve vn wr) (fun ve _ _ => s.size - (intOf ve).toNat)
  case atStart => exact ⟨k, Nat.le_refl _, by omega, rfl, by simp [M.valD], by simp [M.valD], by simp, rfl⟩
  case round =>
    obtain ⟨j, hkj, hj, rfl, rfl, hv, ha, rfl⟩ := hrel
    obtain ⟨v, hvv⟩ : ∃ v, M.valD ((s.data.toList.drop k).take (j - k)) = v := ⟨_, rfl⟩
    rw [hvv] at hv ⊢
    clear HC h1 h2 h3
    obtain ⟨vi, hvi⟩ : ∃ vi : Int, (v : Int) = vi := ⟨_, rfl⟩
    rw [hvi]
    have hvi0 : 0 ≤ vi := by omega
    have hvi1 : vi ≤ 9223372036854775807 := by omega
    have HVI := Lib.hid hvi
    have HV := Lib.hid hv
    have HVV := Lib.hid hvv
    have HA := Lib.hid ha
    clear hvi hv hvv ha
    have hwi : IntKind.i64.wrap vi = vi := IntWalk.i64_in _ (by omega)
    have HEND := Lib.hid (show (∀ c, (s.data.toList.drop k)[j - k]? = some c → M.dg c = false) → M.numT (s.data.toList.drop k) = (1, [], vi, j - k) from fun hst => by
      have := numT_end (l := s.data.toList.drop k) HA.out (by simp; omega) hst (by rw [HVV.out]; exact HV.out)
      rw [HVV.out, HVI.out] at this
      exact this)
    by_cases hlt : j < s.size
    · have HD := Lib.hid (rdigit_any s[j])
      cases hdj : M.dg s[j]
      · rw [hdj] at HD
        have HE := Lib.hid (HEND.out (fun c hc => by
          rw [List.getElem?_drop, show k + (j - k) = j by omega, get_at s j hlt] at hc
          obtain rfl := Option.some.inj hc
          exact hdj))
        obtain ⟨c0, c1, c2, c3, c4⟩ := HB5.out.cells
        obtain ⟨f0, f1, f2, f3, f4⟩ := HB5.out.frz
        clear hdj
        go_wp2_with fail
        refine (HD.out _).mono ?_
        rintro e w3 ⟨rfl, rfl⟩
        go_wp2_with fail
        refine bodyPost_ret (v := wd 1 nb vi k j) (by simp [results, Tryd.results14, go_sem, c0, c1, c2, c3, c4]) rfl ⟨.inr ?_, end5 HB.out _ _ _ _ _⟩
        rw [HE.out]
        exact ⟨by simp, ret_wd (show (j : Int) = ((k + (j - k) : Nat) : Int) by omega)⟩
      · rw [hdj] at HD
        have hd2 := of_decide_eq_true (show decide (48 ≤ s[j].toNat ∧ s[j].toNat ≤ 57) = true from hdj)
        obtain ⟨d, hdd⟩ : ∃ d : Nat, s[j].toNat - 48 = d := ⟨_, rfl⟩
        have hsub : (s[j].toNat : Int) - 48 = (d : Int) := by omega
        have hd9 : d ≤ 9 := by omega
        have HDD := Lib.hid hdd
        have HSN := Lib.hid (show M.valD ((s.data.toList.drop k).take (j + 1 - k)) = v * 10 + d by
          rw [take_snocD s k j hkj hlt, M.valD_F, M.valF_snoc, ← M.valD_F, HVV.out, hdd])
        have HAL := Lib.hid (show ((s.data.toList.drop k).take (j + 1 - k)).all M.dg = true by
          rw [take_snocD s k j hkj hlt, List.all_append, HA.out]
          simp [hdj])
        have hw1 : IntKind.u8.wrap (d : Int) = (d : Int) := IntWalk.u8_in _ (by omega)
        have hw2 : IntKind.u64.wrap (d : Int) = (d : Int) := IntWalk.u64_in _ (by omega)
        obtain ⟨m, hm⟩ : ∃ m : Int, 9223372036854775807 - (d : Int) = m := ⟨_, rfl⟩
        have hm0 : 0 ≤ m := by omega
        have hm1 : m ≤ 9223372036854775807 := by omega
        have hw3 : IntKind.u64.wrap m = m := IntWalk.u64_in _ (by omega)
        obtain ⟨q, hq⟩ : ∃ q : Int, m / 10 = q := ⟨_, rfl⟩
        have hq2 : m.tdiv 10 = q := by rw [Int.tdiv_eq_ediv_of_nonneg hm0]; exact hq
        have hq0 : 0 ≤ q := by omega
        have hq1 : q ≤ 922337203685477580 := by omega
        have hw4 : IntKind.u64.wrap q = q := IntWalk.u64_in _ (by omega)
        clear hd2 hdj hdd
        by_cases hov : q < vi
        · have HE := Lib.hid (show M.numT (s.data.toList.drop k) = M.no from M.numT_far HAL.out (by simp; omega) (by rw [HSN.out]; have := HVI.out; omega))
          obtain ⟨c0, c1, c2, c3, c4⟩ := HB5.out.cells
          obtain ⟨f0, f1, f2, f3, f4⟩ := HB5.out.frz
          go_wp2_with fail
          refine (HD.out _).mono ?_
          rintro e w3 ⟨rfl, rfl⟩
          go_wp2_with fail
          refine bodyPost_ret (v := wd 0 nb 0 0 0) (by simp [results, Tryd.results14, go_sem, c0, c1, c2, c3, c4]) rfl ⟨.inl ?_, end5 HB.out _ _ _ _ _⟩
          rw [HE.out]
          exact ⟨rfl, rfl⟩
        · have hmul : IntKind.u64.wrap (vi * 10) = vi * 10 := IntWalk.u64_in _ (by omega)
          have hadd : IntKind.u64.wrap (vi * 10 + (d : Int)) = vi * 10 + (d : Int) := IntWalk.u64_in _ (by omega)
          have HNV := Lib.hid (show vi * 10 + (d : Int) = ((v * 10 + d : Nat) : Int) by have := HVI.out; omega)
          have HLT := Lib.hid (show v * 10 + d < 9223372036854775808 by have := HVI.out; omega)
          go_wp2_with fail
          refine (HD.out _).mono ?_
          rintro e w3 ⟨rfl, rfl⟩
          go_wp2_with fail
          exact ⟨⟨j + 1, by omega, hlt, by go_num, by rw [HSN.out, HNV.out], by rw [HSN.out]; exact HLT.out, HAL.out, rfl⟩, by simp [intOf]; omega⟩
    · obtain rfl : j = s.size := by omega
      have HE := Lib.hid (HEND.out (fun c hc => by
        rw [List.getElem?_drop, List.getElem?_eq_none (by simp; omega)] at hc
        cases hc))
      obtain ⟨c0, c1, c2, c3, c4⟩ := HB5.out.cells
      obtain ⟨f0, f1, f2, f3, f4⟩ := HB5.out.frz
      go_wp2_with fail
      refine bodyPost_ret (v := wd 1 nb vi k s.size) (by simp [results, Tryd.results14, go_sem, c0, c1, c2, c3, c4]) rfl ⟨.inr ?_, end5 HB.out _ _ _ _ _⟩
      rw [HE.out]
      exact ⟨by simp, ret_wd (show (s.size : Int) = ((k + (s.size - k) : Nat) : Int) by omega)⟩
end Go.Proofs.YtceknmibopnmhaaDoor
