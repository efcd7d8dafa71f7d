/-
  BytesLimits returns true for all lists, limits and cuts, and changes nothing that was there. No conditions.
-/
import Derived.Test.YtnmlbkgkamfioaaOpen
import Derived.Test.YtnmlbkgkamfioaaListMath
namespace Go.Proofs.Ytnmlbkgkamfioaa
open Go.ChangeShapes Go.WideShapes Go.ChangeAt Go.RowKit
set_option linter.unusedVariables false

def LongRel (ls : List (List UInt8)) (lo x i : Value) : Prop := ∃ k : Nat, k ≤ ls.length ∧ i = .int .i64 k ∧ lo = .int .i64 (longest (ls.take k) : Nat) ∧ ∀ m ∈ ls.take k, m.length ≤ 80

set_option maxRecDepth 100000 in
set_option maxHeartbeats 1000000 in
theorem limits_none_ok (A : Option Addr) (c : Nat) (ls : List (List UInt8)) (many most : Int) (f : Nat) (w : World) (hf : f < 65536) (hn1 : -9223372036854775808 ≤ many) (hn2 : many ≤ 9223372036854775807) (hm1 : -9223372036854775808 ≤ most) (hm2 : most ≤ 9223372036854775807)
    (hA : RdL w w.heap.size A ls) (hl : ls.length ≤ 10) (hls : ls = []) (hmn : (ls.length : Int) ≤ many) (hmo : 0 ≤ most) :
    Calls Try.prog 9 #[.slice A ls.length c, .int .i64 many, .int .i64 most, .int .u16 f] w fun e w' => e = .returned (.bool true) ∧ Below w.heap.size w w' := by
  have HLS := Lib.hid hls
  clear hls
  have h10 : decide ((10 : Int) < ls.length) = false := decide_eq_false (by omega)
  go_enter Try.func9, Try.ntmps9
  go_wp2_with fail
  go_loop [9, 11, 30] (fun lo x i => LongRel ls lo x i) (fun _ _ i => ls.length - (intOf i).toNat)
  case atStart => exact ⟨0, Nat.zero_le _, rfl, rfl, by simp⟩
  case round =>
    obtain ⟨k, hk, rfl, rfl, h80⟩ := hrel
    by_cases hlt : k < ls.length
    · obtain ⟨ad, m, A1, c1, rfl, hadb, hget, hcell, hc1, hc2, hrd⟩ := hA.cell hlt
      unfold maxLen at hc2
      by_cases hm80 : 80 < m.length
      · clear h80 hget
        go_wp2_with fail
        refine (awake_any _).mono ?_
        rintro e w9 ⟨rfl, hb9⟩
        go_wp2_with fail
        go_ret
        exact ⟨rfl, hb9⟩
      · have hsn := take_snoc hget
        have HS := Lib.hid (show longest (ls.take (k + 1)) = max (longest (ls.take k)) m.length from by rw [hsn, longest_snoc])
        have H80 := Lib.hid (show ∀ x ∈ ls.take (k + 1), x.length ≤ 80 from by
          intro x hx
          rw [hsn] at hx
          rcases List.mem_append.1 hx with hx | hx
          · exact h80 x hx
          · obtain rfl : x = m := by simpa using hx
            omega)
        have hlk : longest (ls.take k) ≤ 80 := by
          have hall : ∀ (l : List (List UInt8)), (∀ x ∈ l, x.length ≤ 80) → longest l ≤ 80 := by
            intro l
            induction l with
            | nil => intro _; simp [longest]
            | cons x r ih =>
              intro hx
              rw [longest_cons]
              have h1 := hx x (by simp)
              have h2 := ih (fun y hy => hx y (by simp [hy]))
              omega
          exact hall _ h80
        clear hsn h80 hget
        go_wp2_with fail
        go_round
        case rel => exact ⟨k + 1, by omega, by go_num, by rw [HS.out]; go_num, H80.out⟩
        case measure => simp [intOf]; omega
    · obtain rfl : k = ls.length := by omega
      rw [List.take_length] at h80
      have hbl := blobsE_bound 80 ls h80 (by omega)
      have hD1 := Lib.uvarint_pos ls.length
      have hD2 := Lib.uvarint_length64 (x := ls.length) (by omega)
      have HENC := Lib.hid (blobsAt_enc [] [] ls 0 many most rfl (by omega) (fun m hm => by have := h80 m hm; omega))
      have HCUT := Lib.hid (blobsAt_cut ls)
      have H80 := Lib.hid h80
      have hel : (Lib.uvarint ls.length ++ blobsE ls).length ≤ 2000 := by rw [List.length_append]; omega
      have hel1 : 1 ≤ (Lib.uvarint ls.length ++ blobsE ls).length := by rw [List.length_append]; omega
      simp only [List.nil_append, List.append_nil] at HENC
      have HBL := Lib.hid (Blobs_any none 0 [] A c ls w (by simp) (by omega) (by omega) Rd.nil hA)
      rw [List.nil_append] at HBL
      have htl : ls.take ls.length = ls := List.take_length
      clear h80 hlt hk hbl
      go_wp2_with fail
      refine HBL.out.mono ?_
      rintro e w1 ⟨v1, rfl, ho1, hb1⟩
      obtain ⟨A1, c1, rfl, hx1, hx2, hr1⟩ := ho1.form
      have HFEW := Lib.hid (blobsAt_cutfew ls)
      generalize hE : Lib.uvarint ls.length ++ blobsE ls = E at *
      have hR : blobsAt E 0 many most = if above ls.length many = true then ([], 0, 3) else if fitsAll ls most = true then (ls, E.length, 0) else ([], 0, 3) := by
        rw [HENC.out]
        have : E.length = ([] : List UInt8).length + (Lib.uvarint ls.length).length + (blobsE ls).length := by rw [← hE]; simp
        rw [this]
      have HE := Lib.hid hE
      have HR := Lib.hid hR
      have hkm := Nat.mod_lt f (show 0 < E.length by omega)
      have hk0 : (0 : Int) ≤ (f : Int) % (E.length : Int) := by omega
      have hk1 : (f : Int) % (E.length : Int) < (E.length : Int) := Int.emod_lt_of_pos _ (by omega)
      have hnz : ((E.length : Int) == 0) = false := beq_eq_false_iff_ne.2 (by omega)
      have hxx := hx2
      unfold maxLen at hxx
      clear hE hR HENC HBL ho1
      have HG := Lib.hid (GetBlobs_any A1 c1 E 0 many most w1 (by omega) hx1 hx2 hr1 hn1 hn2 hm1 hm2)
      have hkE : (E.take (f % E.length)).length = f % E.length := by rw [List.length_take]; omega
      have hcut := HCUT.out (f % E.length) hl H80.out hkm
      have HC1 := Lib.hid (fun (W : World) (g : Rd W W.heap.size A1 E) => GetBlobs_any A1 c1 (E.take (f % E.length)) 0 10 80 W (by omega) (by omega) hx2 (g.take _) (by omega) (by omega) (by omega) (by omega))
      rw [hkE, hcut] at HC1
      have HC2 := Lib.hid (fun (W : World) (g : Rd W W.heap.size A1 E) => GetBlobs_any A1 c1 (E.take (f % E.length)) 0 ((ls.length : Int) - 1) 80 W (by omega) (by omega) hx2 (g.take _) (by omega) (by omega) (by omega) (by omega))
      rw [hkE] at HC2
      have hz : (f % E.length = 0 ∧ blobsAt (E.take (f % E.length)) 0 ((ls.length : Int) - 1) 80 = ([], 0, 11) ∧ ((f : Int) % (E.length : Int) == 0) = true ∧ decide (0 < (f : Int) % (E.length : Int)) = false) ∨
          (0 < f % E.length ∧ blobsAt (E.take (f % E.length)) 0 ((ls.length : Int) - 1) 80 = ([], 0, 3) ∧ ((f : Int) % (E.length : Int) == 0) = false ∧ decide (0 < (f : Int) % (E.length : Int)) = true) := by
        rcases Nat.eq_zero_or_pos (f % E.length) with h0 | h0
        · refine .inl ⟨h0, by rw [h0, List.take_zero, blobsAt_none], by simp; omega, decide_eq_false (by omega)⟩
        · refine .inr ⟨h0, HFEW.out _ hl h0 80, beq_eq_false_iff_ne.2 (by omega), decide_eq_true (by omega)⟩
      clear hkE hcut
      have HZ := Lib.hid hz
      clear hz
      have hab : above ls.length many = false := above_of_le (by omega) hmn
      have hR1 : blobsAt E 0 many most = (ls, E.length, 0) := by rw [HR.out, hab, show fitsAll ls most = true from by rw [HLS.out]; rfl]; simp
      clear hab
      have hz0 : ((ls.length : Int) == 0) = true := by rw [HLS.out]; rfl
      have hlo : longest ls ≤ 0 := by rw [HLS.out]; exact Nat.le_refl _
      rw [hR1] at HG
      clear hR1
      go_wp2_with fail
      refine HG.out.mono ?_
      rintro e w2 ⟨v2, rfl, ho2, hb2⟩
      have hw2 := hb1.trans (hb2.mono hb1.size)
      have hr2 := hr1.on hb2
      clear ho2
      go_wp2_with fail
      refine (HC1.out _ hr2).mono ?_
      rintro e w3 ⟨v3, rfl, ho3, hb3⟩
      have hw3 := hw2.trans (hb3.mono hw2.size)
      have hr3 := hr2.on hb3
      clear ho3
      have H2 := HC2.out _ hr3
      rcases HZ.out with ⟨hz1, hz2, hz3, hz4⟩ | ⟨hz1, hz2, hz3, hz4⟩
      · rw [hz2] at H2
        have HH2 := Lib.hid H2
        clear H2 hz1 hz2
        go_wp2_with fail
        refine HH2.out.mono ?_
        rintro e w4 ⟨v4, rfl, ho4, hb4⟩
        have hw4 := hw3.trans (hb4.mono hw3.size)
        clear ho4
        go_wp2_with fail
        refine (awake_any _).mono ?_
        rintro e w9 ⟨rfl, hb9⟩
        go_wp2_with fail
        go_ret
        exact ⟨rfl, hw4.trans (hb9.mono hw4.size)⟩
      · rw [hz2] at H2
        have HH2 := Lib.hid H2
        clear H2 hz1 hz2
        go_wp2_with fail
        refine HH2.out.mono ?_
        rintro e w4 ⟨v4, rfl, ho4, hb4⟩
        have hw4 := hw3.trans (hb4.mono hw3.size)
        clear ho4
        go_wp2_with fail
        refine (awake_any _).mono ?_
        rintro e w9 ⟨rfl, hb9⟩
        go_wp2_with fail
        go_ret
        exact ⟨rfl, hw4.trans (hb9.mono hw4.size)⟩

set_option maxRecDepth 100000 in
set_option maxHeartbeats 1000000 in
theorem limits_none_neg (A : Option Addr) (c : Nat) (ls : List (List UInt8)) (many most : Int) (f : Nat) (w : World) (hf : f < 65536) (hn1 : -9223372036854775808 ≤ many) (hn2 : many ≤ 9223372036854775807) (hm1 : -9223372036854775808 ≤ most) (hm2 : most ≤ 9223372036854775807)
    (hA : RdL w w.heap.size A ls) (hl : ls.length ≤ 10) (hls : ls = []) (hmn : (ls.length : Int) ≤ many) (hmo : ¬ 0 ≤ most) :
    Calls Try.prog 9 #[.slice A ls.length c, .int .i64 many, .int .i64 most, .int .u16 f] w fun e w' => e = .returned (.bool true) ∧ Below w.heap.size w w' := by
  have HLS := Lib.hid hls
  clear hls
  have h10 : decide ((10 : Int) < ls.length) = false := decide_eq_false (by omega)
  go_enter Try.func9, Try.ntmps9
  go_wp2_with fail
  go_loop [9, 11, 30] (fun lo x i => LongRel ls lo x i) (fun _ _ i => ls.length - (intOf i).toNat)
  case atStart => exact ⟨0, Nat.zero_le _, rfl, rfl, by simp⟩
  case round =>
    obtain ⟨k, hk, rfl, rfl, h80⟩ := hrel
    by_cases hlt : k < ls.length
    · obtain ⟨ad, m, A1, c1, rfl, hadb, hget, hcell, hc1, hc2, hrd⟩ := hA.cell hlt
      unfold maxLen at hc2
      by_cases hm80 : 80 < m.length
      · clear h80 hget
        go_wp2_with fail
        refine (awake_any _).mono ?_
        rintro e w9 ⟨rfl, hb9⟩
        go_wp2_with fail
        go_ret
        exact ⟨rfl, hb9⟩
      · have hsn := take_snoc hget
        have HS := Lib.hid (show longest (ls.take (k + 1)) = max (longest (ls.take k)) m.length from by rw [hsn, longest_snoc])
        have H80 := Lib.hid (show ∀ x ∈ ls.take (k + 1), x.length ≤ 80 from by
          intro x hx
          rw [hsn] at hx
          rcases List.mem_append.1 hx with hx | hx
          · exact h80 x hx
          · obtain rfl : x = m := by simpa using hx
            omega)
        have hlk : longest (ls.take k) ≤ 80 := by
          have hall : ∀ (l : List (List UInt8)), (∀ x ∈ l, x.length ≤ 80) → longest l ≤ 80 := by
            intro l
            induction l with
            | nil => intro _; simp [longest]
            | cons x r ih =>
              intro hx
              rw [longest_cons]
              have h1 := hx x (by simp)
              have h2 := ih (fun y hy => hx y (by simp [hy]))
              omega
          exact hall _ h80
        clear hsn h80 hget
        go_wp2_with fail
        go_round
        case rel => exact ⟨k + 1, by omega, by go_num, by rw [HS.out]; go_num, H80.out⟩
        case measure => simp [intOf]; omega
    · obtain rfl : k = ls.length := by omega
      rw [List.take_length] at h80
      have hbl := blobsE_bound 80 ls h80 (by omega)
      have hD1 := Lib.uvarint_pos ls.length
      have hD2 := Lib.uvarint_length64 (x := ls.length) (by omega)
      have HENC := Lib.hid (blobsAt_enc [] [] ls 0 many most rfl (by omega) (fun m hm => by have := h80 m hm; omega))
      have HCUT := Lib.hid (blobsAt_cut ls)
      have H80 := Lib.hid h80
      have hel : (Lib.uvarint ls.length ++ blobsE ls).length ≤ 2000 := by rw [List.length_append]; omega
      have hel1 : 1 ≤ (Lib.uvarint ls.length ++ blobsE ls).length := by rw [List.length_append]; omega
      simp only [List.nil_append, List.append_nil] at HENC
      have HBL := Lib.hid (Blobs_any none 0 [] A c ls w (by simp) (by omega) (by omega) Rd.nil hA)
      rw [List.nil_append] at HBL
      have htl : ls.take ls.length = ls := List.take_length
      clear h80 hlt hk hbl
      go_wp2_with fail
      refine HBL.out.mono ?_
      rintro e w1 ⟨v1, rfl, ho1, hb1⟩
      obtain ⟨A1, c1, rfl, hx1, hx2, hr1⟩ := ho1.form
      have HFEW := Lib.hid (blobsAt_cutfew ls)
      generalize hE : Lib.uvarint ls.length ++ blobsE ls = E at *
      have hR : blobsAt E 0 many most = if above ls.length many = true then ([], 0, 3) else if fitsAll ls most = true then (ls, E.length, 0) else ([], 0, 3) := by
        rw [HENC.out]
        have : E.length = ([] : List UInt8).length + (Lib.uvarint ls.length).length + (blobsE ls).length := by rw [← hE]; simp
        rw [this]
      have HE := Lib.hid hE
      have HR := Lib.hid hR
      have hkm := Nat.mod_lt f (show 0 < E.length by omega)
      have hk0 : (0 : Int) ≤ (f : Int) % (E.length : Int) := by omega
      have hk1 : (f : Int) % (E.length : Int) < (E.length : Int) := Int.emod_lt_of_pos _ (by omega)
      have hnz : ((E.length : Int) == 0) = false := beq_eq_false_iff_ne.2 (by omega)
      have hxx := hx2
      unfold maxLen at hxx
      clear hE hR HENC HBL ho1
      have HG := Lib.hid (GetBlobs_any A1 c1 E 0 many most w1 (by omega) hx1 hx2 hr1 hn1 hn2 hm1 hm2)
      have hkE : (E.take (f % E.length)).length = f % E.length := by rw [List.length_take]; omega
      have hcut := HCUT.out (f % E.length) hl H80.out hkm
      have HC1 := Lib.hid (fun (W : World) (g : Rd W W.heap.size A1 E) => GetBlobs_any A1 c1 (E.take (f % E.length)) 0 10 80 W (by omega) (by omega) hx2 (g.take _) (by omega) (by omega) (by omega) (by omega))
      rw [hkE, hcut] at HC1
      have HC2 := Lib.hid (fun (W : World) (g : Rd W W.heap.size A1 E) => GetBlobs_any A1 c1 (E.take (f % E.length)) 0 ((ls.length : Int) - 1) 80 W (by omega) (by omega) hx2 (g.take _) (by omega) (by omega) (by omega) (by omega))
      rw [hkE] at HC2
      have hz : (f % E.length = 0 ∧ blobsAt (E.take (f % E.length)) 0 ((ls.length : Int) - 1) 80 = ([], 0, 11) ∧ ((f : Int) % (E.length : Int) == 0) = true ∧ decide (0 < (f : Int) % (E.length : Int)) = false) ∨
          (0 < f % E.length ∧ blobsAt (E.take (f % E.length)) 0 ((ls.length : Int) - 1) 80 = ([], 0, 3) ∧ ((f : Int) % (E.length : Int) == 0) = false ∧ decide (0 < (f : Int) % (E.length : Int)) = true) := by
        rcases Nat.eq_zero_or_pos (f % E.length) with h0 | h0
        · refine .inl ⟨h0, by rw [h0, List.take_zero, blobsAt_none], by simp; omega, decide_eq_false (by omega)⟩
        · refine .inr ⟨h0, HFEW.out _ hl h0 80, beq_eq_false_iff_ne.2 (by omega), decide_eq_true (by omega)⟩
      clear hkE hcut
      have HZ := Lib.hid hz
      clear hz
      have hab : above ls.length many = false := above_of_le (by omega) hmn
      have hR1 : blobsAt E 0 many most = (ls, E.length, 0) := by rw [HR.out, hab, show fitsAll ls most = true from by rw [HLS.out]; rfl]; simp
      have hmo' : decide (0 ≤ most) = false := decide_eq_false (by omega)
      clear hab
      have hz0 : ((ls.length : Int) == 0) = true := by rw [HLS.out]; rfl
      have hlo : longest ls ≤ 0 := by rw [HLS.out]; exact Nat.le_refl _
      rw [hR1] at HG
      clear hR1
      go_wp2_with fail
      refine HG.out.mono ?_
      rintro e w2 ⟨v2, rfl, ho2, hb2⟩
      have hw2 := hb1.trans (hb2.mono hb1.size)
      have hr2 := hr1.on hb2
      clear ho2
      go_wp2_with fail
      refine (HC1.out _ hr2).mono ?_
      rintro e w3 ⟨v3, rfl, ho3, hb3⟩
      have hw3 := hw2.trans (hb3.mono hw2.size)
      have hr3 := hr2.on hb3
      clear ho3
      have H2 := HC2.out _ hr3
      rcases HZ.out with ⟨hz1, hz2, hz3, hz4⟩ | ⟨hz1, hz2, hz3, hz4⟩
      · rw [hz2] at H2
        have HH2 := Lib.hid H2
        clear H2 hz1 hz2
        go_wp2_with fail
        refine HH2.out.mono ?_
        rintro e w4 ⟨v4, rfl, ho4, hb4⟩
        have hw4 := hw3.trans (hb4.mono hw3.size)
        clear ho4
        go_wp2_with fail
        refine (awake_any _).mono ?_
        rintro e w9 ⟨rfl, hb9⟩
        go_wp2_with fail
        go_ret
        exact ⟨rfl, hw4.trans (hb9.mono hw4.size)⟩
      · rw [hz2] at H2
        have HH2 := Lib.hid H2
        clear H2 hz1 hz2
        go_wp2_with fail
        refine HH2.out.mono ?_
        rintro e w4 ⟨v4, rfl, ho4, hb4⟩
        have hw4 := hw3.trans (hb4.mono hw3.size)
        clear ho4
        go_wp2_with fail
        refine (awake_any _).mono ?_
        rintro e w9 ⟨rfl, hb9⟩
        go_wp2_with fail
        go_ret
        exact ⟨rfl, hw4.trans (hb9.mono hw4.size)⟩

set_option maxRecDepth 100000 in
set_option maxHeartbeats 1000000 in
theorem limits_ok (A : Option Addr) (c : Nat) (ls : List (List UInt8)) (many most : Int) (f : Nat) (w : World) (hf : f < 65536) (hn1 : -9223372036854775808 ≤ many) (hn2 : many ≤ 9223372036854775807) (hm1 : -9223372036854775808 ≤ most) (hm2 : most ≤ 9223372036854775807)
    (hA : RdL w w.heap.size A ls) (hl : ls.length ≤ 10) (hls : ls ≠ []) (hmn : (ls.length : Int) ≤ many) (hmo : (longest ls : Int) ≤ most) :
    Calls Try.prog 9 #[.slice A ls.length c, .int .i64 many, .int .i64 most, .int .u16 f] w fun e w' => e = .returned (.bool true) ∧ Below w.heap.size w w' := by
  have HLS := Lib.hid hls
  clear hls
  have h10 : decide ((10 : Int) < ls.length) = false := decide_eq_false (by omega)
  go_enter Try.func9, Try.ntmps9
  go_wp2_with fail
  go_loop [9, 11, 30] (fun lo x i => LongRel ls lo x i) (fun _ _ i => ls.length - (intOf i).toNat)
  case atStart => exact ⟨0, Nat.zero_le _, rfl, rfl, by simp⟩
  case round =>
    obtain ⟨k, hk, rfl, rfl, h80⟩ := hrel
    by_cases hlt : k < ls.length
    · obtain ⟨ad, m, A1, c1, rfl, hadb, hget, hcell, hc1, hc2, hrd⟩ := hA.cell hlt
      unfold maxLen at hc2
      by_cases hm80 : 80 < m.length
      · clear h80 hget
        go_wp2_with fail
        refine (awake_any _).mono ?_
        rintro e w9 ⟨rfl, hb9⟩
        go_wp2_with fail
        go_ret
        exact ⟨rfl, hb9⟩
      · have hsn := take_snoc hget
        have HS := Lib.hid (show longest (ls.take (k + 1)) = max (longest (ls.take k)) m.length from by rw [hsn, longest_snoc])
        have H80 := Lib.hid (show ∀ x ∈ ls.take (k + 1), x.length ≤ 80 from by
          intro x hx
          rw [hsn] at hx
          rcases List.mem_append.1 hx with hx | hx
          · exact h80 x hx
          · obtain rfl : x = m := by simpa using hx
            omega)
        have hlk : longest (ls.take k) ≤ 80 := by
          have hall : ∀ (l : List (List UInt8)), (∀ x ∈ l, x.length ≤ 80) → longest l ≤ 80 := by
            intro l
            induction l with
            | nil => intro _; simp [longest]
            | cons x r ih =>
              intro hx
              rw [longest_cons]
              have h1 := hx x (by simp)
              have h2 := ih (fun y hy => hx y (by simp [hy]))
              omega
          exact hall _ h80
        clear hsn h80 hget
        go_wp2_with fail
        go_round
        case rel => exact ⟨k + 1, by omega, by go_num, by rw [HS.out]; go_num, H80.out⟩
        case measure => simp [intOf]; omega
    · obtain rfl : k = ls.length := by omega
      rw [List.take_length] at h80
      have hbl := blobsE_bound 80 ls h80 (by omega)
      have hD1 := Lib.uvarint_pos ls.length
      have hD2 := Lib.uvarint_length64 (x := ls.length) (by omega)
      have HENC := Lib.hid (blobsAt_enc [] [] ls 0 many most rfl (by omega) (fun m hm => by have := h80 m hm; omega))
      have HCUT := Lib.hid (blobsAt_cut ls)
      have H80 := Lib.hid h80
      have hel : (Lib.uvarint ls.length ++ blobsE ls).length ≤ 2000 := by rw [List.length_append]; omega
      have hel1 : 1 ≤ (Lib.uvarint ls.length ++ blobsE ls).length := by rw [List.length_append]; omega
      simp only [List.nil_append, List.append_nil] at HENC
      have HBL := Lib.hid (Blobs_any none 0 [] A c ls w (by simp) (by omega) (by omega) Rd.nil hA)
      rw [List.nil_append] at HBL
      have htl : ls.take ls.length = ls := List.take_length
      clear h80 hlt hk hbl
      go_wp2_with fail
      refine HBL.out.mono ?_
      rintro e w1 ⟨v1, rfl, ho1, hb1⟩
      obtain ⟨A1, c1, rfl, hx1, hx2, hr1⟩ := ho1.form
      have HFEW := Lib.hid (blobsAt_cutfew ls)
      generalize hE : Lib.uvarint ls.length ++ blobsE ls = E at *
      have hR : blobsAt E 0 many most = if above ls.length many = true then ([], 0, 3) else if fitsAll ls most = true then (ls, E.length, 0) else ([], 0, 3) := by
        rw [HENC.out]
        have : E.length = ([] : List UInt8).length + (Lib.uvarint ls.length).length + (blobsE ls).length := by rw [← hE]; simp
        rw [this]
      have HE := Lib.hid hE
      have HR := Lib.hid hR
      have hkm := Nat.mod_lt f (show 0 < E.length by omega)
      have hk0 : (0 : Int) ≤ (f : Int) % (E.length : Int) := by omega
      have hk1 : (f : Int) % (E.length : Int) < (E.length : Int) := Int.emod_lt_of_pos _ (by omega)
      have hnz : ((E.length : Int) == 0) = false := beq_eq_false_iff_ne.2 (by omega)
      have hxx := hx2
      unfold maxLen at hxx
      clear hE hR HENC HBL ho1
      have HG := Lib.hid (GetBlobs_any A1 c1 E 0 many most w1 (by omega) hx1 hx2 hr1 hn1 hn2 hm1 hm2)
      have hkE : (E.take (f % E.length)).length = f % E.length := by rw [List.length_take]; omega
      have hcut := HCUT.out (f % E.length) hl H80.out hkm
      have HC1 := Lib.hid (fun (W : World) (g : Rd W W.heap.size A1 E) => GetBlobs_any A1 c1 (E.take (f % E.length)) 0 10 80 W (by omega) (by omega) hx2 (g.take _) (by omega) (by omega) (by omega) (by omega))
      rw [hkE, hcut] at HC1
      have HC2 := Lib.hid (fun (W : World) (g : Rd W W.heap.size A1 E) => GetBlobs_any A1 c1 (E.take (f % E.length)) 0 ((ls.length : Int) - 1) 80 W (by omega) (by omega) hx2 (g.take _) (by omega) (by omega) (by omega) (by omega))
      rw [hkE] at HC2
      have hz : (f % E.length = 0 ∧ blobsAt (E.take (f % E.length)) 0 ((ls.length : Int) - 1) 80 = ([], 0, 11) ∧ ((f : Int) % (E.length : Int) == 0) = true ∧ decide (0 < (f : Int) % (E.length : Int)) = false) ∨
          (0 < f % E.length ∧ blobsAt (E.take (f % E.length)) 0 ((ls.length : Int) - 1) 80 = ([], 0, 3) ∧ ((f : Int) % (E.length : Int) == 0) = false ∧ decide (0 < (f : Int) % (E.length : Int)) = true) := by
        rcases Nat.eq_zero_or_pos (f % E.length) with h0 | h0
        · refine .inl ⟨h0, by rw [h0, List.take_zero, blobsAt_none], by simp; omega, decide_eq_false (by omega)⟩
        · refine .inr ⟨h0, HFEW.out _ hl h0 80, beq_eq_false_iff_ne.2 (by omega), decide_eq_true (by omega)⟩
      clear hkE hcut
      have HZ := Lib.hid hz
      clear hz
      have hab : above ls.length many = false := above_of_le (by omega) hmn
      have hR1 : blobsAt E 0 many most = (ls, E.length, 0) := by rw [HR.out, hab, (fitsAll_iff ls most HLS.out).2 hmo]; simp
      have hmo0 : 0 ≤ most := by omega
      clear hab
      rw [hR1] at HG
      clear hR1
      go_wp2_with fail
      refine HG.out.mono ?_
      rintro e w2 ⟨v2, rfl, ho2, hb2⟩
      have hw2 := hb1.trans (hb2.mono hb1.size)
      have hr2 := hr1.on hb2
      clear ho2
      go_wp2_with fail
      refine (HC1.out _ hr2).mono ?_
      rintro e w3 ⟨v3, rfl, ho3, hb3⟩
      have hw3 := hw2.trans (hb3.mono hw2.size)
      have hr3 := hr2.on hb3
      clear ho3
      have H2 := HC2.out _ hr3
      rcases HZ.out with ⟨hz1, hz2, hz3, hz4⟩ | ⟨hz1, hz2, hz3, hz4⟩
      · rw [hz2] at H2
        have HH2 := Lib.hid H2
        clear H2 hz1 hz2
        go_wp2_with fail
        refine HH2.out.mono ?_
        rintro e w4 ⟨v4, rfl, ho4, hb4⟩
        have hw4 := hw3.trans (hb4.mono hw3.size)
        clear ho4
        go_wp2_with fail
        refine (awake_any _).mono ?_
        rintro e w9 ⟨rfl, hb9⟩
        go_wp2_with fail
        go_ret
        exact ⟨rfl, hw4.trans (hb9.mono hw4.size)⟩
      · rw [hz2] at H2
        have HH2 := Lib.hid H2
        clear H2 hz1 hz2
        go_wp2_with fail
        refine HH2.out.mono ?_
        rintro e w4 ⟨v4, rfl, ho4, hb4⟩
        have hw4 := hw3.trans (hb4.mono hw3.size)
        clear ho4
        go_wp2_with fail
        refine (awake_any _).mono ?_
        rintro e w9 ⟨rfl, hb9⟩
        go_wp2_with fail
        go_ret
        exact ⟨rfl, hw4.trans (hb9.mono hw4.size)⟩

set_option maxRecDepth 100000 in
set_option maxHeartbeats 1000000 in
theorem limits_long (A : Option Addr) (c : Nat) (ls : List (List UInt8)) (many most : Int) (f : Nat) (w : World) (hf : f < 65536) (hn1 : -9223372036854775808 ≤ many) (hn2 : many ≤ 9223372036854775807) (hm1 : -9223372036854775808 ≤ most) (hm2 : most ≤ 9223372036854775807)
    (hA : RdL w w.heap.size A ls) (hl : ls.length ≤ 10) (hls : ls ≠ []) (hmn : (ls.length : Int) ≤ many) (hmo : ¬ (longest ls : Int) ≤ most) :
    Calls Try.prog 9 #[.slice A ls.length c, .int .i64 many, .int .i64 most, .int .u16 f] w fun e w' => e = .returned (.bool true) ∧ Below w.heap.size w w' := by
  have HLS := Lib.hid hls
  clear hls
  have h10 : decide ((10 : Int) < ls.length) = false := decide_eq_false (by omega)
  go_enter Try.func9, Try.ntmps9
  go_wp2_with fail
  go_loop [9, 11, 30] (fun lo x i => LongRel ls lo x i) (fun _ _ i => ls.length - (intOf i).toNat)
  case atStart => exact ⟨0, Nat.zero_le _, rfl, rfl, by simp⟩
  case round =>
    obtain ⟨k, hk, rfl, rfl, h80⟩ := hrel
    by_cases hlt : k < ls.length
    · obtain ⟨ad, m, A1, c1, rfl, hadb, hget, hcell, hc1, hc2, hrd⟩ := hA.cell hlt
      unfold maxLen at hc2
      by_cases hm80 : 80 < m.length
      · clear h80 hget
        go_wp2_with fail
        refine (awake_any _).mono ?_
        rintro e w9 ⟨rfl, hb9⟩
        go_wp2_with fail
        go_ret
        exact ⟨rfl, hb9⟩
      · have hsn := take_snoc hget
        have HS := Lib.hid (show longest (ls.take (k + 1)) = max (longest (ls.take k)) m.length from by rw [hsn, longest_snoc])
        have H80 := Lib.hid (show ∀ x ∈ ls.take (k + 1), x.length ≤ 80 from by
          intro x hx
          rw [hsn] at hx
          rcases List.mem_append.1 hx with hx | hx
          · exact h80 x hx
          · obtain rfl : x = m := by simpa using hx
            omega)
        have hlk : longest (ls.take k) ≤ 80 := by
          have hall : ∀ (l : List (List UInt8)), (∀ x ∈ l, x.length ≤ 80) → longest l ≤ 80 := by
            intro l
            induction l with
            | nil => intro _; simp [longest]
            | cons x r ih =>
              intro hx
              rw [longest_cons]
              have h1 := hx x (by simp)
              have h2 := ih (fun y hy => hx y (by simp [hy]))
              omega
          exact hall _ h80
        clear hsn h80 hget
        go_wp2_with fail
        go_round
        case rel => exact ⟨k + 1, by omega, by go_num, by rw [HS.out]; go_num, H80.out⟩
        case measure => simp [intOf]; omega
    · obtain rfl : k = ls.length := by omega
      rw [List.take_length] at h80
      have hbl := blobsE_bound 80 ls h80 (by omega)
      have hD1 := Lib.uvarint_pos ls.length
      have hD2 := Lib.uvarint_length64 (x := ls.length) (by omega)
      have HENC := Lib.hid (blobsAt_enc [] [] ls 0 many most rfl (by omega) (fun m hm => by have := h80 m hm; omega))
      have HCUT := Lib.hid (blobsAt_cut ls)
      have H80 := Lib.hid h80
      have hel : (Lib.uvarint ls.length ++ blobsE ls).length ≤ 2000 := by rw [List.length_append]; omega
      have hel1 : 1 ≤ (Lib.uvarint ls.length ++ blobsE ls).length := by rw [List.length_append]; omega
      simp only [List.nil_append, List.append_nil] at HENC
      have HBL := Lib.hid (Blobs_any none 0 [] A c ls w (by simp) (by omega) (by omega) Rd.nil hA)
      rw [List.nil_append] at HBL
      have htl : ls.take ls.length = ls := List.take_length
      clear h80 hlt hk hbl
      go_wp2_with fail
      refine HBL.out.mono ?_
      rintro e w1 ⟨v1, rfl, ho1, hb1⟩
      obtain ⟨A1, c1, rfl, hx1, hx2, hr1⟩ := ho1.form
      have HFEW := Lib.hid (blobsAt_cutfew ls)
      generalize hE : Lib.uvarint ls.length ++ blobsE ls = E at *
      have hR : blobsAt E 0 many most = if above ls.length many = true then ([], 0, 3) else if fitsAll ls most = true then (ls, E.length, 0) else ([], 0, 3) := by
        rw [HENC.out]
        have : E.length = ([] : List UInt8).length + (Lib.uvarint ls.length).length + (blobsE ls).length := by rw [← hE]; simp
        rw [this]
      have HE := Lib.hid hE
      have HR := Lib.hid hR
      have hkm := Nat.mod_lt f (show 0 < E.length by omega)
      have hk0 : (0 : Int) ≤ (f : Int) % (E.length : Int) := by omega
      have hk1 : (f : Int) % (E.length : Int) < (E.length : Int) := Int.emod_lt_of_pos _ (by omega)
      have hnz : ((E.length : Int) == 0) = false := beq_eq_false_iff_ne.2 (by omega)
      have hxx := hx2
      unfold maxLen at hxx
      clear hE hR HENC HBL ho1
      have HG := Lib.hid (GetBlobs_any A1 c1 E 0 many most w1 (by omega) hx1 hx2 hr1 hn1 hn2 hm1 hm2)
      have hkE : (E.take (f % E.length)).length = f % E.length := by rw [List.length_take]; omega
      have hcut := HCUT.out (f % E.length) hl H80.out hkm
      have HC1 := Lib.hid (fun (W : World) (g : Rd W W.heap.size A1 E) => GetBlobs_any A1 c1 (E.take (f % E.length)) 0 10 80 W (by omega) (by omega) hx2 (g.take _) (by omega) (by omega) (by omega) (by omega))
      rw [hkE, hcut] at HC1
      have HC2 := Lib.hid (fun (W : World) (g : Rd W W.heap.size A1 E) => GetBlobs_any A1 c1 (E.take (f % E.length)) 0 ((ls.length : Int) - 1) 80 W (by omega) (by omega) hx2 (g.take _) (by omega) (by omega) (by omega) (by omega))
      rw [hkE] at HC2
      have hz : (f % E.length = 0 ∧ blobsAt (E.take (f % E.length)) 0 ((ls.length : Int) - 1) 80 = ([], 0, 11) ∧ ((f : Int) % (E.length : Int) == 0) = true ∧ decide (0 < (f : Int) % (E.length : Int)) = false) ∨
          (0 < f % E.length ∧ blobsAt (E.take (f % E.length)) 0 ((ls.length : Int) - 1) 80 = ([], 0, 3) ∧ ((f : Int) % (E.length : Int) == 0) = false ∧ decide (0 < (f : Int) % (E.length : Int)) = true) := by
        rcases Nat.eq_zero_or_pos (f % E.length) with h0 | h0
        · refine .inl ⟨h0, by rw [h0, List.take_zero, blobsAt_none], by simp; omega, decide_eq_false (by omega)⟩
        · refine .inr ⟨h0, HFEW.out _ hl h0 80, beq_eq_false_iff_ne.2 (by omega), decide_eq_true (by omega)⟩
      clear hkE hcut
      have HZ := Lib.hid hz
      clear hz
      have hab : above ls.length many = false := above_of_le (by omega) hmn
      have hfa : fitsAll ls most = false := by
        cases hq : fitsAll ls most with
        | false => rfl
        | true => exact absurd ((fitsAll_iff ls most HLS.out).1 hq) (by omega)
      have hR1 : blobsAt E 0 many most = ([], 0, 3) := by rw [HR.out, hab, hfa]; simp
      clear hfa
      have hz0 : ((ls.length : Int) == 0) = false := beq_eq_false_iff_ne.2 (by have : ls.length ≠ 0 := (fun h => HLS.out (List.eq_nil_of_length_eq_zero h)); omega)
      have hmo' : decide ((longest ls : Int) ≤ most) = false := decide_eq_false (by omega)
      clear hab
      rw [hR1] at HG
      clear hR1
      go_wp2_with fail
      refine HG.out.mono ?_
      rintro e w2 ⟨v2, rfl, ho2, hb2⟩
      have hw2 := hb1.trans (hb2.mono hb1.size)
      have hr2 := hr1.on hb2
      clear ho2
      go_wp2_with fail
      refine (HC1.out _ hr2).mono ?_
      rintro e w3 ⟨v3, rfl, ho3, hb3⟩
      have hw3 := hw2.trans (hb3.mono hw2.size)
      have hr3 := hr2.on hb3
      clear ho3
      have H2 := HC2.out _ hr3
      rcases HZ.out with ⟨hz1, hz2, hz3, hz4⟩ | ⟨hz1, hz2, hz3, hz4⟩
      · rw [hz2] at H2
        have HH2 := Lib.hid H2
        clear H2 hz1 hz2
        go_wp2_with fail
        refine HH2.out.mono ?_
        rintro e w4 ⟨v4, rfl, ho4, hb4⟩
        have hw4 := hw3.trans (hb4.mono hw3.size)
        clear ho4
        go_wp2_with fail
        refine (awake_any _).mono ?_
        rintro e w9 ⟨rfl, hb9⟩
        go_wp2_with fail
        go_ret
        exact ⟨rfl, hw4.trans (hb9.mono hw4.size)⟩
      · rw [hz2] at H2
        have HH2 := Lib.hid H2
        clear H2 hz1 hz2
        go_wp2_with fail
        refine HH2.out.mono ?_
        rintro e w4 ⟨v4, rfl, ho4, hb4⟩
        have hw4 := hw3.trans (hb4.mono hw3.size)
        clear ho4
        go_wp2_with fail
        refine (awake_any _).mono ?_
        rintro e w9 ⟨rfl, hb9⟩
        go_wp2_with fail
        go_ret
        exact ⟨rfl, hw4.trans (hb9.mono hw4.size)⟩

set_option maxRecDepth 100000 in
set_option maxHeartbeats 1000000 in
theorem limits_many (A : Option Addr) (c : Nat) (ls : List (List UInt8)) (many most : Int) (f : Nat) (w : World) (hf : f < 65536) (hn1 : -9223372036854775808 ≤ many) (hn2 : many ≤ 9223372036854775807) (hm1 : -9223372036854775808 ≤ most) (hm2 : most ≤ 9223372036854775807)
    (hA : RdL w w.heap.size A ls) (hl : ls.length ≤ 10) (hmn : ¬ (ls.length : Int) ≤ many) :
    Calls Try.prog 9 #[.slice A ls.length c, .int .i64 many, .int .i64 most, .int .u16 f] w fun e w' => e = .returned (.bool true) ∧ Below w.heap.size w w' := by
  have h10 : decide ((10 : Int) < ls.length) = false := decide_eq_false (by omega)
  go_enter Try.func9, Try.ntmps9
  go_wp2_with fail
  go_loop [9, 11, 30] (fun lo x i => LongRel ls lo x i) (fun _ _ i => ls.length - (intOf i).toNat)
  case atStart => exact ⟨0, Nat.zero_le _, rfl, rfl, by simp⟩
  case round =>
    obtain ⟨k, hk, rfl, rfl, h80⟩ := hrel
    by_cases hlt : k < ls.length
    · obtain ⟨ad, m, A1, c1, rfl, hadb, hget, hcell, hc1, hc2, hrd⟩ := hA.cell hlt
      unfold maxLen at hc2
      by_cases hm80 : 80 < m.length
      · clear h80 hget
        go_wp2_with fail
        refine (awake_any _).mono ?_
        rintro e w9 ⟨rfl, hb9⟩
        go_wp2_with fail
        go_ret
        exact ⟨rfl, hb9⟩
      · have hsn := take_snoc hget
        have HS := Lib.hid (show longest (ls.take (k + 1)) = max (longest (ls.take k)) m.length from by rw [hsn, longest_snoc])
        have H80 := Lib.hid (show ∀ x ∈ ls.take (k + 1), x.length ≤ 80 from by
          intro x hx
          rw [hsn] at hx
          rcases List.mem_append.1 hx with hx | hx
          · exact h80 x hx
          · obtain rfl : x = m := by simpa using hx
            omega)
        have hlk : longest (ls.take k) ≤ 80 := by
          have hall : ∀ (l : List (List UInt8)), (∀ x ∈ l, x.length ≤ 80) → longest l ≤ 80 := by
            intro l
            induction l with
            | nil => intro _; simp [longest]
            | cons x r ih =>
              intro hx
              rw [longest_cons]
              have h1 := hx x (by simp)
              have h2 := ih (fun y hy => hx y (by simp [hy]))
              omega
          exact hall _ h80
        clear hsn h80 hget
        go_wp2_with fail
        go_round
        case rel => exact ⟨k + 1, by omega, by go_num, by rw [HS.out]; go_num, H80.out⟩
        case measure => simp [intOf]; omega
    · obtain rfl : k = ls.length := by omega
      rw [List.take_length] at h80
      have hbl := blobsE_bound 80 ls h80 (by omega)
      have hD1 := Lib.uvarint_pos ls.length
      have hD2 := Lib.uvarint_length64 (x := ls.length) (by omega)
      have HENC := Lib.hid (blobsAt_enc [] [] ls 0 many most rfl (by omega) (fun m hm => by have := h80 m hm; omega))
      have HCUT := Lib.hid (blobsAt_cut ls)
      have H80 := Lib.hid h80
      have hel : (Lib.uvarint ls.length ++ blobsE ls).length ≤ 2000 := by rw [List.length_append]; omega
      have hel1 : 1 ≤ (Lib.uvarint ls.length ++ blobsE ls).length := by rw [List.length_append]; omega
      simp only [List.nil_append, List.append_nil] at HENC
      have HBL := Lib.hid (Blobs_any none 0 [] A c ls w (by simp) (by omega) (by omega) Rd.nil hA)
      rw [List.nil_append] at HBL
      have htl : ls.take ls.length = ls := List.take_length
      clear h80 hlt hk hbl
      go_wp2_with fail
      refine HBL.out.mono ?_
      rintro e w1 ⟨v1, rfl, ho1, hb1⟩
      obtain ⟨A1, c1, rfl, hx1, hx2, hr1⟩ := ho1.form
      have HFEW := Lib.hid (blobsAt_cutfew ls)
      generalize hE : Lib.uvarint ls.length ++ blobsE ls = E at *
      have hR : blobsAt E 0 many most = if above ls.length many = true then ([], 0, 3) else if fitsAll ls most = true then (ls, E.length, 0) else ([], 0, 3) := by
        rw [HENC.out]
        have : E.length = ([] : List UInt8).length + (Lib.uvarint ls.length).length + (blobsE ls).length := by rw [← hE]; simp
        rw [this]
      have HE := Lib.hid hE
      have HR := Lib.hid hR
      have hkm := Nat.mod_lt f (show 0 < E.length by omega)
      have hk0 : (0 : Int) ≤ (f : Int) % (E.length : Int) := by omega
      have hk1 : (f : Int) % (E.length : Int) < (E.length : Int) := Int.emod_lt_of_pos _ (by omega)
      have hnz : ((E.length : Int) == 0) = false := beq_eq_false_iff_ne.2 (by omega)
      have hxx := hx2
      unfold maxLen at hxx
      clear hE hR HENC HBL ho1
      have HG := Lib.hid (GetBlobs_any A1 c1 E 0 many most w1 (by omega) hx1 hx2 hr1 hn1 hn2 hm1 hm2)
      have hkE : (E.take (f % E.length)).length = f % E.length := by rw [List.length_take]; omega
      have hcut := HCUT.out (f % E.length) hl H80.out hkm
      have HC1 := Lib.hid (fun (W : World) (g : Rd W W.heap.size A1 E) => GetBlobs_any A1 c1 (E.take (f % E.length)) 0 10 80 W (by omega) (by omega) hx2 (g.take _) (by omega) (by omega) (by omega) (by omega))
      rw [hkE, hcut] at HC1
      have HC2 := Lib.hid (fun (W : World) (g : Rd W W.heap.size A1 E) => GetBlobs_any A1 c1 (E.take (f % E.length)) 0 ((ls.length : Int) - 1) 80 W (by omega) (by omega) hx2 (g.take _) (by omega) (by omega) (by omega) (by omega))
      rw [hkE] at HC2
      have hz : (f % E.length = 0 ∧ blobsAt (E.take (f % E.length)) 0 ((ls.length : Int) - 1) 80 = ([], 0, 11) ∧ ((f : Int) % (E.length : Int) == 0) = true ∧ decide (0 < (f : Int) % (E.length : Int)) = false) ∨
          (0 < f % E.length ∧ blobsAt (E.take (f % E.length)) 0 ((ls.length : Int) - 1) 80 = ([], 0, 3) ∧ ((f : Int) % (E.length : Int) == 0) = false ∧ decide (0 < (f : Int) % (E.length : Int)) = true) := by
        rcases Nat.eq_zero_or_pos (f % E.length) with h0 | h0
        · refine .inl ⟨h0, by rw [h0, List.take_zero, blobsAt_none], by simp; omega, decide_eq_false (by omega)⟩
        · refine .inr ⟨h0, HFEW.out _ hl h0 80, beq_eq_false_iff_ne.2 (by omega), decide_eq_true (by omega)⟩
      clear hkE hcut
      have HZ := Lib.hid hz
      clear hz
      have hR1 : blobsAt E 0 many most = ([], 0, 3) := by rw [HR.out, if_pos (above_of_lt (by omega))]
      have hmn' : decide ((ls.length : Int) ≤ many) = false := decide_eq_false (by omega)
      rw [hR1] at HG
      clear hR1
      go_wp2_with fail
      refine HG.out.mono ?_
      rintro e w2 ⟨v2, rfl, ho2, hb2⟩
      have hw2 := hb1.trans (hb2.mono hb1.size)
      have hr2 := hr1.on hb2
      clear ho2
      go_wp2_with fail
      refine (HC1.out _ hr2).mono ?_
      rintro e w3 ⟨v3, rfl, ho3, hb3⟩
      have hw3 := hw2.trans (hb3.mono hw2.size)
      have hr3 := hr2.on hb3
      clear ho3
      have H2 := HC2.out _ hr3
      rcases HZ.out with ⟨hz1, hz2, hz3, hz4⟩ | ⟨hz1, hz2, hz3, hz4⟩
      · rw [hz2] at H2
        have HH2 := Lib.hid H2
        clear H2 hz1 hz2
        go_wp2_with fail
        refine HH2.out.mono ?_
        rintro e w4 ⟨v4, rfl, ho4, hb4⟩
        have hw4 := hw3.trans (hb4.mono hw3.size)
        clear ho4
        go_wp2_with fail
        refine (awake_any _).mono ?_
        rintro e w9 ⟨rfl, hb9⟩
        go_wp2_with fail
        go_ret
        exact ⟨rfl, hw4.trans (hb9.mono hw4.size)⟩
      · rw [hz2] at H2
        have HH2 := Lib.hid H2
        clear H2 hz1 hz2
        go_wp2_with fail
        refine HH2.out.mono ?_
        rintro e w4 ⟨v4, rfl, ho4, hb4⟩
        have hw4 := hw3.trans (hb4.mono hw3.size)
        clear ho4
        go_wp2_with fail
        refine (awake_any _).mono ?_
        rintro e w9 ⟨rfl, hb9⟩
        go_wp2_with fail
        go_ret
        exact ⟨rfl, hw4.trans (hb9.mono hw4.size)⟩

theorem limits_walk (A : Option Addr) (c : Nat) (ls : List (List UInt8)) (many most : Int) (f : Nat) (w : World) (hf : f < 65536) (hn1 : -9223372036854775808 ≤ many) (hn2 : many ≤ 9223372036854775807) (hm1 : -9223372036854775808 ≤ most) (hm2 : most ≤ 9223372036854775807)
    (hA : RdL w w.heap.size A ls) (hl : ls.length ≤ 10) :
    Calls Try.prog 9 #[.slice A ls.length c, .int .i64 many, .int .i64 most, .int .u16 f] w fun e w' => e = .returned (.bool true) ∧ Below w.heap.size w w' := by
  by_cases hmn : (ls.length : Int) ≤ many
  · by_cases hls : ls = []
    · by_cases hmo : 0 ≤ most
      · exact limits_none_ok A c ls many most f w hf hn1 hn2 hm1 hm2 hA hl hls hmn hmo
      · exact limits_none_neg A c ls many most f w hf hn1 hn2 hm1 hm2 hA hl hls hmn hmo
    · by_cases hmo : (longest ls : Int) ≤ most
      · exact limits_ok A c ls many most f w hf hn1 hn2 hm1 hm2 hA hl hls hmn hmo
      · exact limits_long A c ls many most f w hf hn1 hn2 hm1 hm2 hA hl hls hmn hmo
  · exact limits_many A c ls many most f w hf hn1 hn2 hm1 hm2 hA hl hmn

theorem limits_far (A : Option Addr) (c n : Nat) (many most f : Int) (w : World) (hn : n ≤ 9223372036854775807) (hl : 10 < n) :
    Calls Try.prog 9 #[.slice A n c, .int .i64 many, .int .i64 most, .int .u16 f] w fun e w' => e = .returned (.bool true) ∧ Below w.heap.size w w' := by
  go_enter Try.func9, Try.ntmps9
  go_wp2_with fail
  refine (awake_any _).mono ?_
  rintro e w9 ⟨rfl, hb9⟩
  go_wp2_with fail
  go_ret
  exact ⟨rfl, hb9⟩
end Go.Proofs.Ytnmlbkgkamfioaa
