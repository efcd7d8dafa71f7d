/-
  The contract of the document's own GetBlobs. Conditions: sizes as stated.
-/
import Derived.Test.YtlobfmdkaghfmaaRefB
namespace Go.Proofs.Ytlobfmdkaghfmaa
open Go.ChangeShapes Go.WideShapes Go.ChangeAt Go.RowKit
set_option linter.unusedVariables false

set_option maxHeartbeats 1000000 in
theorem refGetBlobs_any (A : Option Addr) (c : Nat) (l : List UInt8) (p many most : Int) (w : World) (hl : l.length ≤ 274877906944) (hc : l.length ≤ c) (hcm : c ≤ maxLen) (hA : Rd w w.heap.size A l)
    (hn1 : -9223372036854775808 ≤ many) (hn2 : many ≤ 9223372036854775807) (hm1 : -9223372036854775808 ≤ most) (hm2 : most ≤ 9223372036854775807) :
    Calls Try.prog 18 #[.slice A l.length c, .int .i64 p, .int .i64 many, .int .i64 most] w (RetL (blobsAt l p many most) w) := by
  obtain ⟨hu1, hu2, hu3⟩ := uintAt_lt l p
  have HU := Lib.hid (refGetUint_any A c l p w (by omega) hA)
  have hback := uintAt_back l p (uintAt l p).1 (uintAt l p).2.1
  generalize hR : blobsAt l p many most = R at *
  unfold blobsAt at hR
  generalize uintAt l p = r at *
  obtain ⟨n, q0, e0⟩ := r
  simp only at hu1 hu2 hu3 hR hback
  by_cases h0 : e0 = 0
  · subst h0
    rw [if_neg (by simp)] at hR
    have hpos := Lib.uvarint_pos n
    have hq0 := (hback rfl).2.2.1
    have hq1 : 1 ≤ q0 := by omega
    clear hback hq0 hpos
    by_cases h1 : above n many = true
    · rw [if_pos h1] at hR
      subst hR
      obtain ⟨z, hz⟩ : ∃ z : Int, z = n := ⟨_, rfl⟩
      have hz0 : 0 ≤ z := by omega
      have hz1 : z ≤ 18446744073709551615 := by omega
      rw [← hz] at HU
      simp only [above, Bool.or_eq_true, decide_eq_true_eq] at h1
      rw [← hz] at h1
      clear hz hu1
      by_cases hneg : many < 0
      · go_enter Try.func18, Try.ntmps18
        go_wp2_with fail
        refine HU.out.mono ?_
        rintro e w1 ⟨rfl, hb1⟩
        go_wp2_with fail
        go_ret3
        exact ⟨_, rfl, OwnL.nil _ _, hb1⟩
      · have hneg' : decide (many < 0) = false := decide_eq_false hneg
        have hgt : many < z := by omega
        clear h1
        go_enter Try.func18, Try.ntmps18
        go_wp2_with fail
        refine HU.out.mono ?_
        rintro e w1 ⟨rfl, hb1⟩
        go_wp2_with fail
        go_ret3
        exact ⟨_, rfl, OwnL.nil _ _, hb1⟩
    · rw [if_neg h1] at hR
      have h1' : above n many = false := by simpa using h1
      have h1'' := above_false h1'
      have hneg' : decide (many < 0) = false := decide_eq_false (by omega)
      have hle : (n : Int) ≤ many := h1''.2
      clear h1 h1' h1''
      have HR := Lib.hid hR
      clear hR
      go_enter Try.func18, Try.ntmps18
      go_wp2_with fail
      refine HU.out.mono ?_
      rintro e w0 ⟨rfl, hb0⟩
      go_wp2_with fail
      go_loopw [12, 14, 15, 16, 17, 18] (fun next v i x16 x17 x18 wr => GetsRel l most n R w.heap.size w next v i wr) (fun _ _ i _ _ _ _ => n - (intOf i).toNat)
      case atStart => exact ⟨0, q0, [], Nat.zero_le _, rfl, rfl, hu2, Nat.zero_le _, by rw [afterL_nil]; exact HR.out, OwnL.nil _ _, hb0⟩
      case round =>
        obtain ⟨k, q, acc, hk, rfl, rfl, hq, hacc, haft, ho, hb⟩ := hrel
        have hsz := hb.size
        have hrd := (hA.below hb).more hsz
        have hat := refGetBlob_err A c l q most
        have hok := refGetBlob_ok A c l q most
        by_cases hlt : k < n
        · by_cases hbad : (blobAt l q most).2.2 = 0
          · obtain ⟨m, q', hm⟩ : ∃ m q', blobAt l q most = (m, q', 0) := ⟨_, _, Prod.ext rfl (Prod.ext rfl hbad)⟩
            obtain ⟨hq1', hq2', hml⟩ := blobAt_ok l q most m q' hm
            have hq3 : q < q' := by simpa using hq1'
            rw [afterL_step l most (n - k) q acc m q' (by omega) hm, show n - k - 1 = n - (k + 1) from by omega] at haft
            have HAFT := Lib.hid haft
            have HOK := Lib.hid (hok m q' wr hl hc hcm hrd hm1 hm2 hm)
            clear hat hok haft hbad hm hq1'
            obtain ⟨A1, c1, rfl, hc1, hc2, hrd1⟩ := ho.form
            go_wp2_with fail
            refine HOK.out.mono ?_
            rintro e w1 ⟨v1, rfl, ho1, hb1⟩
            have hsz1 := hb1.size
            have HO := ho.below hb1
            have HO1 := ho1.mono hsz
            obtain ⟨A2, c2, rfl, hc3, hc4, hrd2⟩ := ho1.form
            clear ho ho1
            go_wp2_with (at_builtin; refine wpList_app1L rfl (.tmp 53) (.tmp 55) rfl w.heap.size (.slice A1 acc.length c1) acc rfl HO (.slice A2 m.length c2) m HO1 rfl (by omega) (by omega) ?_; intro v3 w3 ho3 hb3)
            go_roundw
            case rel => exact ⟨k + 1, q', acc ++ [m], by omega, by go_num, rfl, hq2', by rw [List.length_append, List.length_singleton]; omega, HAFT.out, ho3, (hb.trans (hb1.mono hsz)).trans hb3⟩
            case measure => simp [intOf]; omega
          · rw [afterL_bad l most (n - k) q acc (by omega) hbad] at haft
            subst haft
            generalize hbe : blobAt l q most = be at *
            obtain ⟨m, q', e1⟩ := be
            have hbad' : e1 ≠ 0 := hbad
            have HAT := Lib.hid (hat m q' e1 wr (by omega) hc hrd hm1 hm2 rfl hbad')
            have hne := neqI e1 hbad'
            clear hat hok hbe
            go_wp2_with fail
            refine HAT.out.mono ?_
            rintro e w1 ⟨rfl, hb1⟩
            go_wp2_with fail
            go_ret3
            exact ⟨_, rfl, OwnL.nil _ _, hb.trans (hb1.mono hsz)⟩
        · obtain rfl : k = n := by omega
          rw [Nat.sub_self] at haft
          have hfin : R = (acc, q, 0) := by
            rw [← haft]
            simp [afterL, blobsGo]
          subst hfin
          clear hat hok haft
          obtain ⟨A1, c1, rfl, hc1, hc2, hrd1⟩ := ho.form
          go_wp2_with fail
          go_ret3
          exact ⟨_, rfl, ho, hb⟩
  · rw [if_pos h0] at hR
    subst hR
    have hne := neqI e0 h0
    clear hback
    go_enter Try.func18, Try.ntmps18
    go_wp2_with fail
    refine HU.out.mono ?_
    rintro e w1 ⟨rfl, hb1⟩
    go_wp2_with fail
    go_ret3
    exact ⟨_, rfl, OwnL.nil _ _, hb1⟩
end Go.Proofs.Ytlobfmdkaghfmaa
