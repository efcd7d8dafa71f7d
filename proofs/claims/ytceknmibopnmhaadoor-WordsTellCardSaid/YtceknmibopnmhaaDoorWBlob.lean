/-
  Layer 9: one token: blobs. Conditions: sizes.
-/
import Derived.Test.YtceknmibopnmhaaDoorWQuo
namespace Go.Proofs.YtceknmibopnmhaaDoor
open Go.ChangeShapes Go.WideShapes Go.ChangeAt Go.RowKit
set_option linter.unusedVariables false

namespace M
def pr (a b : UInt8) : UInt8 := (16 * hxN a.toNat + hxN b.toNat).toNat.toUInt8
theorem pairs_snoc (a b : UInt8) : ∀ (k : Nat) (u : List UInt8), u.length = 2 * k → pairs (u ++ [a, b]) = pairs u ++ [pr a b]
  | 0, u, h => by
    obtain rfl : u = [] := List.eq_nil_of_length_eq_zero (by omega)
    rfl
  | k + 1, u, h => by
    match u, h with
    | x :: y :: u, h =>
      simp only [List.length_cons] at h
      simp only [List.cons_append, pairs]
      rw [pairs_snoc a b k u (by omega)]
theorem hxN_range (c : UInt8) (h : hxd c = true) : 0 ≤ hxN c.toNat ∧ hxN c.toNat ≤ 15 := by
  have h0 : 0 ≤ hxN c.toNat := by simpa [hxd] using h
  refine ⟨h0, ?_⟩
  unfold hxN at *
  repeat' split
  all_goals omega
theorem pr_n {a b : UInt8} (ha : hxd a = true) (hb : hxd b = true) : ((pr a b).toNat : Int) = 16 * hxN a.toNat + hxN b.toNat := by
  have h1 := hxN_range a ha
  have h2 := hxN_range b hb
  unfold pr
  simp only [Nat.toUInt8, UInt8.toNat_ofNat']
  omega
end M
theorem bldWBz {w : World} {b : Nat} {l : List UInt8} (h : Bld w b l) (z : Int) (c : UInt8) (hz : (c.toNat : Int) = z) (hl : l.length ≤ 1000000) :
    Calls Tryd.prog 18 #[.pointer (some ⟨b, 0, none⟩), .int .u8 z] w fun e w' => e = .returned .nilIface ∧ Bld w' b (l ++ [c]) ∧ Below b w w' := by
  subst hz
  exact bldWB h c hl
def BlobRel (x : ByteArray) (n b : Nat) (w2 : World) (t : Value) (wr : World) : Prop :=
  ∃ j : Nat, 2 * j ≤ n ∧ t = .int .i64 ((2 * j : Nat) : Int) ∧ Bld wr b (M.pairs (x.data.toList.take (2 * j))) ∧ Below b w2 wr
theorem pairs_le : ∀ (k : Nat) (l : List UInt8), l.length ≤ k → (M.pairs l).length ≤ l.length
  | _, [], _ => by simp [M.pairs]
  | _, [a], _ => by simp [M.pairs]
  | 0, a :: b :: r, h => by simp at h
  | k + 1, a :: b :: r, h => by
    have := pairs_le k r (by simp at h; omega)
    simp only [M.pairs, List.length_cons]
    omega
set_option maxRecDepth 100000 in
set_option maxHeartbeats 2000000 in
theorem blob_any (s : ByteArray) (w : World) (hs : s.size ≤ 65536) (hs2 : 2 ≤ s.size) : Calls Tryd.prog 25 #[.string s] w (RetTk (M.blobT (s.data.toList.drop 2)) w) := by
  obtain ⟨w1, hw1, HB5, HB⟩ := w5_named w
  obtain ⟨w2, hw2, HL2, HB2⟩ : ∃ w2, w1.alloc (.cells #[.pointer none, .slice none 0 0] 42) = w2 ∧ Hid (Bld w2 w1.heap.size []) ∧ Hid (Below w1.heap.size w1 w2) := ⟨_, rfl, Lib.hid (Bld.new w1), Lib.hid ((Below.refl _ _).alloc (Nat.le_refl _) _)⟩
  have HBW := Lib.hid (HB5.out.on HB2.out)
  have HLB := Lib.hid (show w.heap.size < w1.heap.size from HB5.out.lt)
  have hxl : (s.extract 2 s.size).data.toList = s.data.toList.drop 2 := ext_drop s 2
  have hxs : (s.extract 2 s.size).size = s.size - 2 := by simp
  obtain ⟨x, HX⟩ : ∃ x, Hid (s.extract 2 s.size = x) := ⟨_, Lib.hid rfl⟩
  rw [HX.out] at hxl hxs
  rw [← hxl]
  have hx0 := HX.out
  have hx6 : x.size ≤ 65536 := by omega
  obtain ⟨n, HN⟩ : ∃ n, Hid ((x.data.toList.takeWhile M.hxd).length = n) := ⟨_, Lib.hid rfl⟩
  have hn : n ≤ x.size := by
    have := M.tw_le (p := M.hxd) x.data.toList
    rw [HN.out] at this
    simpa using this
  have HR := Lib.hid (run_hxd x w1 (by omega))
  have HPX := Lib.hid (show (x.extract n x.size).data.toList = x.data.toList.drop n from ext_drop x n)
  have HT : Hid (M.blobT x.data.toList = if n % 2 = 0 ∧ (x.data.toList.drop n).head? = some 39 then (5, M.pairs (x.data.toList.take n), 0, n + 3) else M.no) := Lib.hid (by unfold M.blobT; simp only [HN.out])
  have HALL : Hid (∀ i (h : i < x.size), i < n → M.hxd x[i] = true) := Lib.hid fun i h hi => by
    refine M.tw_all x.data.toList _ ?_
    rw [← M.tw_take, HN.out]
    refine List.mem_of_getElem? (i := i) ?_
    rw [List.getElem?_take, if_pos hi, get_at x i h]
  generalize M.blobT x.data.toList = T at HT ⊢
  clear hxl hxs
  by_cases hev : n % 2 = 0
  · have hmod : ((n : Int) % 2 != 0) = false := by
      have : (n : Int) % 2 = 0 := by omega
      rw [this]; rfl
    by_cases hq : (x.data.toList.drop n).head? = some 39
    · have HT2 := Lib.hid (HT.out.trans (if_pos ⟨hev, hq⟩))
      have HH := Lib.hid (show Lib.hasPrefix (x.extract n x.size).data.toList [39] = true by
        rw [HPX.out]
        cases hd : x.data.toList.drop n with
        | nil => rw [hd] at hq; cases hq
        | cons d r => rw [hd] at hq; obtain rfl := Option.some.inj hq; simp [Lib.hasPrefix, List.isPrefixOf])
      have HEV := Lib.hid hev
      clear hq hev HT
      go_enter Tryd.func25, Tryd.ntmps25
      go_wp2_with fail
      refine HR.out.mono ?_
      rintro e w3 ⟨rfl, rfl⟩
      rw [HN.out]
      go_wp2_with fail
      refine (Tryd.strings_HasPrefix _ _ _).mono ?_
      rintro e w3 ⟨rfl, hw⟩
      subst hw
      rw [HH.out]
      go_wp2_with fail
      clear hw1 hw2
      generalize hbz : w3.heap.size = b at *
      go_loopw [8] (fun t wr => BlobRel x n b w2 t wr) (fun t _ => n - (intOf t).toNat)
      case atStart => exact ⟨0, Nat.zero_le _, rfl, HL2.out, Below.refl _ _⟩
      case round =>
        obtain ⟨j, hj, rfl, hbl, hb⟩ := hrel
        obtain ⟨i, hi⟩ : ∃ i, 2 * j = i := ⟨_, rfl⟩
        have HBL := Lib.hid hbl
        have HBB := Lib.hid hb
        have HJ := Lib.hid hi
        rw [hi] at hj HBL ⊢
        clear hbl hb hi
        by_cases hlt : i < n
        · obtain ⟨i1, HI1⟩ : ∃ i1, Hid (i + 1 = i1) := ⟨_, Lib.hid rfl⟩
          have hi1 : i1 < n := by
            have h1 := HJ.out
            have h2 := HEV.out
            have h3 := HI1.out
            omega
          have hwi : IntKind.i64.wrap ((i : Int) + 1) = (i1 : Int) := by
            have h3 := HI1.out
            rw [IntWalk.i64_in _ (by omega)]
            omega
          have hix : i < x.size := by omega
          have hix1 : i1 < x.size := by omega
          have g1 := HALL.out i hix hlt
          have g2 := HALL.out i1 hix1 hi1
          have HP := Lib.hid (M.pr_n g1 g2)
          obtain ⟨p1, p2⟩ := M.hxN_range _ g1
          obtain ⟨q1, q2⟩ := M.hxN_range _ g2
          have HSN := Lib.hid (show M.pairs (x.data.toList.take (i + 2)) = M.pairs (x.data.toList.take i) ++ [M.pr x[i] x[i1]] by
            have h3 := HI1.out
            subst h3
            rw [show i + 2 = i + 1 + 1 from rfl, List.take_add_one, List.take_add_one, get_at x i hix, get_at x (i + 1) hix1, Option.toList_some, Option.toList_some, List.append_assoc]
            exact M.pairs_snoc _ _ j _ (by rw [List.length_take]; have := HJ.out; simp; omega))
          have hpl : (M.pairs (x.data.toList.take i)).length ≤ 1000000 := by
            have h1 := pairs_le _ (x.data.toList.take i) (Nat.le_refl _)
            rw [List.length_take] at h1
            omega
          have HD1 := Lib.hid (hexDigit_any x[i])
          have HD2 := Lib.hid (hexDigit_any x[i1])
          have HPL := Lib.hid hpl
          clear g1 g2 hpl
          generalize M.pr x[i] x[i1] = c at HP HSN
          generalize M.hxN (x[i]).toNat = ha at *
          generalize M.hxN (x[i1]).toNat = hb at *
          have hwa : IntKind.i64.wrap (16 * ha) = 16 * ha := IntWalk.i64_in _ (by omega)
          have hwb : IntKind.i64.wrap (16 * ha + hb) = 16 * ha + hb := IntWalk.i64_in _ (by omega)
          have hwc : IntKind.u8.wrap (16 * ha + hb) = 16 * ha + hb := IntWalk.u8_in _ (by omega)
          go_wp2_with fail
          go_region_law (first
            | (go_simp; go_at_call 47; (with_reducible refine (HD1.out _).mono ?_); rintro e w5 ⟨rfl, rfl⟩)
            | (go_simp; go_at_call 47; (with_reducible refine (HD2.out _).mono ?_); rintro e w5 ⟨rfl, rfl⟩)
            | (go_simp; go_at_call 18; (with_reducible refine (bldWBz (HBL.out.drew) _ c HP.out HPL.out).mono ?_); rintro e w6 ⟨rfl, hl6, hb6⟩; have HL6 := Lib.hid hl6; have HB6 := Lib.hid ((drewR HBB.out).trans hb6); clear hl6 hb6))
          all_goals
            have HFIN := Lib.hid (show BlobRel x n b w2 (.int .i64 ((i : Int) + 2)) w6 from by
              have h1 := HJ.out
              have h2 := HI1.out
              refine ⟨j + 1, by omega, by congr 1; omega, ?_, HB6.out⟩
              rw [show 2 * (j + 1) = i + 2 by omega, HSN.out]
              exact HL6.out)
            clear hwi hwa hwb hwc
            go_wp2_with fail
            refine ⟨HFIN.out, ?_⟩
            simp [intOf]
            omega
        · obtain rfl : i = n := by omega
          obtain ⟨A, HA⟩ : ∃ A, Hid (M.pairs (x.data.toList.take i) = A) := ⟨_, Lib.hid rfl⟩
          rw [HA.out] at HBL HT2
          have HS := Lib.hid (bldSt HBL.out)
          go_wp2_with fail
          refine HS.out.mono ?_
          rintro e w9 ⟨rfl, hb9⟩
          have HB9 := Lib.hid (HBB.out.trans hb9)
          have HBO := Lib.hid (HB.out.trans ((HB2.out.trans (HB9.out.mono (Nat.le_refl _))).mono (Nat.le_of_lt HLB.out)))
          obtain ⟨c0, c1, c2, c3, c4⟩ := (HBW.out.onB HB9.out HLB.out).cells
          obtain ⟨f0, f1, f2, f3, f4⟩ := (HBW.out.onB HB9.out HLB.out).frz
          clear hb9
          go_wp2_with fail
          refine bodyPost_ret (v := .tuple #[wd 5 ⟨A.toArray⟩ 0 0 0, .int .i64 (i + 3), .bool true]) (by simp [results, Tryd.results25, go_sem, c0, c1, c2, c3, c4]; omega) rfl ⟨?_, end5 HBO.out _ _ _ _ _⟩
          rw [HT2.out]
          rfl
    · have HT2 := Lib.hid (HT.out.trans (if_neg (fun h => hq h.2)))
      have HH := Lib.hid (show Lib.hasPrefix (x.extract n x.size).data.toList [39] = false by
        rw [HPX.out]
        cases hd : x.data.toList.drop n with
        | nil => rfl
        | cons d r =>
          have : d ≠ 39 := fun e => hq (by rw [hd, e]; rfl)
          simp [Lib.hasPrefix, List.isPrefixOf, Ne.symm this])
      obtain ⟨c0, c1, c2, c3, c4⟩ := HB5.out.cells
      obtain ⟨f0, f1, f2, f3, f4⟩ := HB5.out.frz
      clear hq hev HT
      go_enter Tryd.func25, Tryd.ntmps25
      go_wp2_with fail
      refine HR.out.mono ?_
      rintro e w3 ⟨rfl, rfl⟩
      rw [HN.out]
      go_wp2_with fail
      refine (Tryd.strings_HasPrefix _ _ _).mono ?_
      rintro e w3 ⟨rfl, hw⟩
      subst hw
      rw [HH.out]
      go_wp2_with fail
      refine bodyPost_ret (v := .tuple #[wd 0 nb 0 0 0, .int .i64 0, .bool false]) (by simp [results, Tryd.results25, go_sem, c0, c1, c2, c3, c4]) rfl ⟨?_, end5 HB.out _ _ _ _ _⟩
      rw [HT2.out]
      rfl
  · have hmod : ((n : Int) % 2 != 0) = true := by
      have : (n : Int) % 2 = 1 := by omega
      rw [this]; rfl
    have HT2 := Lib.hid (HT.out.trans (if_neg (fun h => hev h.1)))
    obtain ⟨c0, c1, c2, c3, c4⟩ := HB5.out.cells
    obtain ⟨f0, f1, f2, f3, f4⟩ := HB5.out.frz
    clear hev HT
    go_enter Tryd.func25, Tryd.ntmps25
    go_wp2_with fail
    refine HR.out.mono ?_
    rintro e w3 ⟨rfl, rfl⟩
    rw [HN.out]
    go_wp2_with fail
    refine bodyPost_ret (v := .tuple #[wd 0 nb 0 0 0, .int .i64 0, .bool false]) (by simp [results, Tryd.results25, go_sem, c0, c1, c2, c3, c4]) rfl ⟨?_, end5 HB.out _ _ _ _ _⟩
    rw [HT2.out]
    rfl
end Go.Proofs.YtceknmibopnmhaaDoor
