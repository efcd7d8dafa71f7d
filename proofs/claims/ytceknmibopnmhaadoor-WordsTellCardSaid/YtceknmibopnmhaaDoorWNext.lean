/-
  Layer 9: the token that stands first; Next; Quote and Hex. Conditions: sizes; the library's variables are as its text lays them.
-/
import Derived.Test.YtceknmibopnmhaaDoorWBlob
namespace Go.Proofs.YtceknmibopnmhaaDoor
open Go.ChangeShapes Go.WideShapes Go.ChangeAt Go.RowKit
set_option linter.unusedVariables false

theorem ext_one (s : ByteArray) (h : 1 < s.size) : (s.extract 1 2).toList = [s[1]] := by
  rw [ByteArray.toList_eq, ByteArray.data_extract, Array.toList_extract, List.extract_eq_take_drop]
  have h2 : 1 < s.data.toList.length := by simpa using h
  rw [show 2 - 1 = 1 from rfl]
  have h3 : s.data.toList.drop 1 = s.data.toList[1] :: s.data.toList.drop 2 := List.drop_eq_getElem_cons h2
  rw [h3]
  rfl
set_option maxHeartbeats 1000000 in
theorem beginsBlob_any (s : ByteArray) (w : World) (hs : s.size ≤ 65536) : Calls Tryd.prog 24 #[.string s] w fun e w' => e = .returned (.bool (M.isBl s.data.toList)) ∧ w = w' := by
  by_cases h : 1 < s.size
  · have h0 : 0 < s.size := by omega
    have HE := Lib.hid (ext_one s h)
    have HC := Lib.hid (small_any s[0])
    have hl : s.data.toList = s[0] :: s[1] :: s.data.toList.drop 2 := by
      have h2 : 0 < s.data.toList.length := by simpa using h0
      have h3 : 1 < s.data.toList.length := by simpa using h
      have h4 := List.drop_eq_getElem_cons h2
      have h5 := List.drop_eq_getElem_cons h3
      rw [List.drop_zero] at h4
      rw [h4, h5]
      rfl
    have HV := Lib.hid (show M.isBl s.data.toList = (M.sm s[0] == 120 && s[1] == 39) by rw [hl]; rfl)
    have HN := Lib.hid (show (M.sm s[0] == 120) = ((M.sm s[0]).toNat == 120) by rw [Bool.eq_iff_iff]; simp [← UInt8.toNat_inj])
    have hm := (M.sm s[0]).toNat_lt
    clear hl
    generalize M.isBl s.data.toList = r at HV ⊢
    rw [HN.out] at HV
    clear HN
    generalize (M.sm s[0]).toNat = m at HC HV hm
    by_cases h120 : m = 120
    · subst h120
      cases hq : s[1] == 39
      · have HQ := Lib.hid (show ((s.extract 1 2).toList == [39]) = false by
          rw [HE.out]
          simpa using hq)
        have HD := Lib.hid (show false = r by rw [HV.out, hq]; rfl)
        clear hq
        have hQ := HQ.out
        go_enter Tryd.func24, Tryd.ntmps24
        go_wp2_with fail
        refine (HC.out _).mono ?_
        rintro e w' ⟨rfl, rfl⟩
        go_wp2_with fail
        go_ret
        exact ⟨ret_b HD.out, rfl⟩
      · have HQ := Lib.hid (show ((s.extract 1 2).toList == [39]) = true by
          rw [HE.out]
          simpa using hq)
        have HD := Lib.hid (show true = r by rw [HV.out, hq]; rfl)
        clear hq
        have hQ := HQ.out
        go_enter Tryd.func24, Tryd.ntmps24
        go_wp2_with fail
        refine (HC.out _).mono ?_
        rintro e w' ⟨rfl, rfl⟩
        go_wp2_with fail
        go_ret
        exact ⟨ret_b HD.out, rfl⟩
    · have h120' : ((m : Int) == 120) = false := beq_eq_false_iff_ne.2 (by omega)
      have HD := Lib.hid (show false = r by rw [HV.out, beq_eq_false_iff_ne.2 h120]; rfl)
      clear h120
      go_enter Tryd.func24, Tryd.ntmps24
      go_wp2_with fail
      refine (HC.out _).mono ?_
      rintro e w' ⟨rfl, rfl⟩
      go_wp2_with fail
      go_ret
      exact ⟨ret_b HD.out, rfl⟩
  · have HD := Lib.hid (show false = M.isBl s.data.toList by
      have h2 : s.data.toList.length ≤ 1 := by simp; omega
      match hl : s.data.toList, h2 with
      | [], _ => rfl
      | [c], _ => rfl
      | c :: d :: r, h2 => simp at h2)
    go_enter Tryd.func24, Tryd.ntmps24
    go_wp2_with fail
    go_ret
    exact ⟨ret_b HD.out, rfl⟩

set_option maxRecDepth 100000 in
set_option maxHeartbeats 2000000 in
theorem token_any (s : ByteArray) (w : World) (hs : s.size ≤ 65536) (hW : Wv w) : Calls Tryd.prog 12 #[.string s] w (RetTk (M.tok keysW s.data.toList) w) := by
  obtain ⟨w1, hw1, HB5, HB⟩ := w5_named w
  have HW1 := Lib.hid (hW.on HB.out)
  clear hW
  by_cases hE : s.size = 0
  · obtain rfl : s = nb := by
      apply ba_ext
      exact List.eq_nil_of_length_eq_zero (by simpa using hE)
    obtain ⟨c0, c1, c2, c3, c4⟩ := HB5.out.cells
    obtain ⟨f0, f1, f2, f3, f4⟩ := HB5.out.frz
    have HT := Lib.hid (show M.tok keysW nb.data.toList = (7, [], 0, 0) from rfl)
    go_enter Tryd.func12, Tryd.ntmps12
    go_wp2_with fail
    refine bodyPost_ret (v := .tuple #[wd 7 nb 0 0 0, .int .i64 0, .bool true]) (by simp [results, Tryd.results12, go_sem, c0, c1, c2, c3, c4]) rfl ⟨?_, end5 HB.out _ _ _ _ _⟩
    rw [HT.out]
    rfl
  · have h0 : 0 < s.size := by omega
    obtain ⟨r, hl⟩ : ∃ r, s.data.toList = s[0] :: r := by
      have hlen : 0 < s.data.toList.length := by simpa using h0
      exact ⟨_, by rw [← List.drop_zero (l := s.data.toList), List.drop_eq_getElem_cons hlen]; rfl⟩
    have hne : s.toList ≠ [] := by rw [ByteArray.toList_eq, hl]; simp
    have he1 : s.toList.isEmpty = false := by cases h : s.toList with | nil => exact absurd h hne | cons => rfl
    have HNE := Lib.hid hne
    have HBB := Lib.hid (beginsBlob_any s · hs)
    have HDG := Lib.hid (isDigit_any s[0])
    have HNM := Lib.hid (beginsName_any s[0])
    have HL := Lib.hid hl
    have HTK := Lib.hid (show M.tok keysW s.data.toList = if M.isBl s.data.toList = true then M.blobT (s.data.toList.drop 2) else if M.dg s[0] = true then M.numT s.data.toList else if M.nm s[0] = true then M.nameT keysW s.data.toList else if s[0] = 39 then M.qtT r else M.sgT s.data.toList by
      rw [hl]
      rfl)
    clear hl hE hne
    by_cases hb : M.isBl s.data.toList = true
    · have h2 : 2 ≤ s.size := by
        rcases Nat.lt_or_ge s.size 2 with h | h
        · have h3 : s.data.toList.length ≤ 1 := by simp; omega
          revert hb
          match s.data.toList, h3 with
          | [], _ => intro h; cases h
          | [c], _ => intro h; cases h
          | c :: d :: r, h3 => simp at h3
        · exact h
      have HC : Hid (Calls Tryd.prog 25 #[.string s] w1 (RetTk (M.tok keysW s.data.toList) w1)) := Lib.hid (by rw [HTK.out, if_pos hb]; exact blob_any s w1 hs h2)
      rw [hb] at HBB
      clear hb HTK
      have hdum : True := trivial
      generalize M.tok keysW s.data.toList = T at HC ⊢
      obtain ⟨k, S, N, n⟩ := T
      go_enter Tryd.func12, Tryd.ntmps12
      go_wp2_with fail
      refine (HBB.out w1).mono ?_
      rintro e w' ⟨rfl, hw⟩
      subst hw
      go_wp2_with fail
      refine HC.out.mono ?_
      rintro e w2 ⟨rfl, hb2⟩
      have hB := Lib.hid (HB.out.trans (hb2.mono HB.out.size))
      obtain ⟨c0, c1, c2, c3, c4⟩ := (HB5.out.on hb2).cells
      obtain ⟨f0, f1, f2, f3, f4⟩ := (HB5.out.on hb2).frz
      clear hb2
      have HV : Hid (tkV (k, S, N, n) = .tuple #[wd k ⟨S.toArray⟩ N 0 0, .int .i64 n, .bool (decide (k ≠ 0))]) := Lib.hid rfl
      rw [HV.out]
      generalize decide (k ≠ 0) = ok at HV ⊢
      generalize (⟨S.toArray⟩ : ByteArray) = S' at HV ⊢
      go_wp2_with fail
      exact bodyPost_ret (v := .tuple #[wd k S' N 0 0, .int .i64 n, .bool ok]) (by simp [results, Tryd.results12, go_sem, c0, c1, c2, c3, c4]) rfl ⟨by rw [HV.out], end5 hB.out _ _ _ _ _⟩
    · have HBF : M.isBl s.data.toList = false := by simpa using hb
      rw [HBF] at HBB
      by_cases hd : M.dg s[0] = true
      · have HC : Hid (Calls Tryd.prog 27 #[.string s] w1 (RetTk (M.tok keysW s.data.toList) w1)) := Lib.hid (by
          rw [HTK.out, if_neg hb, if_pos hd]
          exact number_any s w1 hs (by rw [HL.out, List.takeWhile_cons_of_pos hd]; simp) HW1.out)
        rw [hd] at HDG
        clear hd hb HTK HBF
        generalize M.tok keysW s.data.toList = T at HC ⊢
        obtain ⟨k, S, N, n⟩ := T
        go_enter Tryd.func12, Tryd.ntmps12
        go_wp2_with fail
        refine (HBB.out w1).mono ?_
        rintro e w' ⟨rfl, hw⟩
        subst hw
        go_wp2_with fail
        refine (HDG.out _).mono ?_
        rintro e w' ⟨rfl, hw⟩
        subst hw
        go_wp2_with fail
        refine HC.out.mono ?_
        rintro e w2 ⟨rfl, hb2⟩
        have hB := Lib.hid (HB.out.trans (hb2.mono HB.out.size))
        obtain ⟨c0, c1, c2, c3, c4⟩ := (HB5.out.on hb2).cells
        obtain ⟨f0, f1, f2, f3, f4⟩ := (HB5.out.on hb2).frz
        clear hb2
        have HV : Hid (tkV (k, S, N, n) = .tuple #[wd k ⟨S.toArray⟩ N 0 0, .int .i64 n, .bool (decide (k ≠ 0))]) := Lib.hid rfl
        rw [HV.out]
        generalize decide (k ≠ 0) = ok at HV ⊢
        generalize (⟨S.toArray⟩ : ByteArray) = S' at HV ⊢
        go_wp2_with fail
        exact bodyPost_ret (v := .tuple #[wd k S' N 0 0, .int .i64 n, .bool ok]) (by simp [results, Tryd.results12, go_sem, c0, c1, c2, c3, c4]) rfl ⟨by rw [HV.out], end5 hB.out _ _ _ _ _⟩
      · have HDF : M.dg s[0] = false := by simpa using hd
        rw [HDF] at HDG
        by_cases hn : M.nm s[0] = true
        · have HC : Hid (Calls Tryd.prog 29 #[.string s] w1 (RetTk (M.tok keysW s.data.toList) w1)) := Lib.hid (by
            rw [HTK.out, if_neg hb, if_neg hd, if_pos hn]
            exact name_any s w1 hs)
          rw [hn] at HNM
          clear hd hb hn HTK HBF HDF
          generalize M.tok keysW s.data.toList = T at HC ⊢
          obtain ⟨k, S, N, n⟩ := T
          go_enter Tryd.func12, Tryd.ntmps12
          go_wp2_with fail
          refine (HBB.out w1).mono ?_
          rintro e w' ⟨rfl, hw⟩
          subst hw
          go_wp2_with fail
          refine (HDG.out _).mono ?_
          rintro e w' ⟨rfl, hw⟩
          subst hw
          go_wp2_with fail
          refine (HNM.out _).mono ?_
          rintro e w' ⟨rfl, hw⟩
          subst hw
          go_wp2_with fail
          refine HC.out.mono ?_
          rintro e w2 ⟨rfl, hb2⟩
          have hB := Lib.hid (HB.out.trans (hb2.mono HB.out.size))
          obtain ⟨c0, c1, c2, c3, c4⟩ := (HB5.out.on hb2).cells
          obtain ⟨f0, f1, f2, f3, f4⟩ := (HB5.out.on hb2).frz
          clear hb2
          have HV : Hid (tkV (k, S, N, n) = .tuple #[wd k ⟨S.toArray⟩ N 0 0, .int .i64 n, .bool (decide (k ≠ 0))]) := Lib.hid rfl
          rw [HV.out]
          generalize decide (k ≠ 0) = ok at HV ⊢
          generalize (⟨S.toArray⟩ : ByteArray) = S' at HV ⊢
          go_wp2_with fail
          exact bodyPost_ret (v := .tuple #[wd k S' N 0 0, .int .i64 n, .bool ok]) (by simp [results, Tryd.results12, go_sem, c0, c1, c2, c3, c4]) rfl ⟨by rw [HV.out], end5 hB.out _ _ _ _ _⟩
        · have HNF : M.nm s[0] = false := by simpa using hn
          rw [HNF] at HNM
          by_cases hq : s[0] = 39
          · have HC : Hid (Calls Tryd.prog 30 #[.string s] w1 (RetTk (M.tok keysW s.data.toList) w1)) := Lib.hid (by
              rw [HTK.out, if_neg hb, if_neg hd, if_neg hn, if_pos hq]
              exact quoted_any s r w1 hs (by rw [HL.out, hq]))
            have HPQ := Lib.hid (show Lib.hasPrefix s.data.toList [39] = true by rw [HL.out, hq]; simp [Lib.hasPrefix, List.isPrefixOf])
            clear hd hb hn HTK HBF HDF HNF hq
            generalize M.tok keysW s.data.toList = T at HC ⊢
            obtain ⟨k, S, N, n⟩ := T
            go_enter Tryd.func12, Tryd.ntmps12
            go_wp2_with fail
            refine (HBB.out w1).mono ?_
            rintro e w' ⟨rfl, hw⟩
            subst hw
            go_wp2_with fail
            refine (HDG.out _).mono ?_
            rintro e w' ⟨rfl, hw⟩
            subst hw
            go_wp2_with fail
            refine (HNM.out _).mono ?_
            rintro e w' ⟨rfl, hw⟩
            subst hw
            go_wp2_with fail
            refine (Tryd.strings_HasPrefix _ _ _).mono ?_
            rintro e w' ⟨rfl, hw⟩
            subst hw
            rw [HPQ.out]
            go_wp2_with fail
            refine HC.out.mono ?_
            rintro e w2 ⟨rfl, hb2⟩
            have hB := Lib.hid (HB.out.trans (hb2.mono HB.out.size))
            obtain ⟨c0, c1, c2, c3, c4⟩ := (HB5.out.on hb2).cells
            obtain ⟨f0, f1, f2, f3, f4⟩ := (HB5.out.on hb2).frz
            clear hb2
            have HV : Hid (tkV (k, S, N, n) = .tuple #[wd k ⟨S.toArray⟩ N 0 0, .int .i64 n, .bool (decide (k ≠ 0))]) := Lib.hid rfl
            rw [HV.out]
            generalize decide (k ≠ 0) = ok at HV ⊢
            generalize (⟨S.toArray⟩ : ByteArray) = S' at HV ⊢
            go_wp2_with fail
            exact bodyPost_ret (v := .tuple #[wd k S' N 0 0, .int .i64 n, .bool ok]) (by simp [results, Tryd.results12, go_sem, c0, c1, c2, c3, c4]) rfl ⟨by rw [HV.out], end5 hB.out _ _ _ _ _⟩
          · have HC : Hid (Calls Tryd.prog 31 #[.string s] w1 (RetTk (M.tok keysW s.data.toList) w1)) := Lib.hid (by
              rw [HTK.out, if_neg hb, if_neg hd, if_neg hn, if_neg hq]
              exact sign_any s w1 hs)
            have HPQ := Lib.hid (show Lib.hasPrefix s.data.toList [39] = false by rw [HL.out]; simp [Lib.hasPrefix, List.isPrefixOf, Ne.symm hq])
            clear hd hb hn HTK HBF HDF HNF hq
            generalize M.tok keysW s.data.toList = T at HC ⊢
            obtain ⟨k, S, N, n⟩ := T
            go_enter Tryd.func12, Tryd.ntmps12
            go_wp2_with fail
            refine (HBB.out w1).mono ?_
            rintro e w' ⟨rfl, hw⟩
            subst hw
            go_wp2_with fail
            refine (HDG.out _).mono ?_
            rintro e w' ⟨rfl, hw⟩
            subst hw
            go_wp2_with fail
            refine (HNM.out _).mono ?_
            rintro e w' ⟨rfl, hw⟩
            subst hw
            go_wp2_with fail
            refine (Tryd.strings_HasPrefix _ _ _).mono ?_
            rintro e w' ⟨rfl, hw⟩
            subst hw
            rw [HPQ.out]
            go_wp2_with fail
            refine HC.out.mono ?_
            rintro e w2 ⟨rfl, hb2⟩
            have hB := Lib.hid (HB.out.trans (hb2.mono HB.out.size))
            obtain ⟨c0, c1, c2, c3, c4⟩ := (HB5.out.on hb2).cells
            obtain ⟨f0, f1, f2, f3, f4⟩ := (HB5.out.on hb2).frz
            clear hb2
            have HV : Hid (tkV (k, S, N, n) = .tuple #[wd k ⟨S.toArray⟩ N 0 0, .int .i64 n, .bool (decide (k ≠ 0))]) := Lib.hid rfl
            rw [HV.out]
            generalize decide (k ≠ 0) = ok at HV ⊢
            generalize (⟨S.toArray⟩ : ByteArray) = S' at HV ⊢
            go_wp2_with fail
            exact bodyPost_ret (v := .tuple #[wd k S' N 0 0, .int .i64 n, .bool ok]) (by simp [results, Tryd.results12, go_sem, c0, c1, c2, c3, c4]) rfl ⟨by rw [HV.out], end5 hB.out _ _ _ _ _⟩
end Go.Proofs.YtceknmibopnmhaaDoor
