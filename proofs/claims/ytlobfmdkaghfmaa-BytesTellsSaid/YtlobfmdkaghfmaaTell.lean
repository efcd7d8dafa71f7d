/-
  BytesTells: the walk. No conditions.
-/
import Derived.Test.YtlobfmdkaghfmaaTellB
import Derived.Test.YtlobfmdkaghfmaaClose
import Derived.Test.YtlobfmdkaghfmaaListMath
import Derived.Deep.RegionHeld
import Derived.Deep.DeepCutAuto
namespace Go.Proofs.Ytlobfmdkaghfmaa
open Go.ChangeShapes Go.WideShapes Go.ChangeAt Go.RowKit
set_option linter.unusedVariables false

theorem upon_bytes {w : World} {o : Oper} {a : Act} {K : Act → World → Prop} {Q : Exit → Act → World → Prop} (l : List UInt8) (hl : l.length ≤ 1048576)
    (h : ∀ w' A c, Rd w' w'.heap.size A l → l.length ≤ c → c ≤ maxLen → Below w.heap.size w w' → K (a.put o.dst (.slice A l.length c)) w') :
    Oper.upon Try.prog o a K Q ((Sem.run Try.prog (convert 9 30 (.string ⟨l.toArray⟩)) w).andThen fun a w' => Result.ok (Next.value a) w') := by
  have hrun := run_bytes w ⟨l.toArray⟩
  have hsz : (⟨l.toArray⟩ : ByteArray).size = l.length := by show l.toArray.size = _; simp
  rw [hsz] at hrun
  rw [hrun]
  exact h _ _ _ (Rd.bytes w l) (grownCap_ge w _ 0 _) (grownCap_le_maxLen w _ 0 _ (by simp only [maxLen]; omega)) (below_bytes w _ _)

/-- behind the three writers: each slot holds a slice that reads as its list, and what was there is as it was -/
def ThreeRel (w : World) (L1 L2 L3 : List UInt8) (s1 s2 s3 : Value) (wx : World) : Prop :=
  ∃ A1 c1 A2 c2 A3 c3, s1 = .slice A1 L1.length c1 ∧ s2 = .slice A2 L2.length c2 ∧ s3 = .slice A3 L3.length c3 ∧ Rd wx wx.heap.size A1 L1 ∧ Rd wx wx.heap.size A2 L2 ∧ Rd wx wx.heap.size A3 L3 ∧ Below w.heap.size w wx
theorem ThreeRel.mk {w wx : World} {L1 L2 L3 M1 M2 M3 : List UInt8} {b1 b2 b3 : Nat} {s1 s2 s3 : Value} (e1 : M1 = L1) (e2 : M2 = L2) (e3 : M3 = L3) (h1 : Own wx b1 s1 M1) (h2 : Own wx b2 s2 M2) (h3 : Own wx b3 s3 M3) (h : Below w.heap.size w wx) : ThreeRel w L1 L2 L3 s1 s2 s3 wx := by
  subst e1 e2 e3
  obtain ⟨A1, c1, rfl, _, _, r1⟩ := h1.form
  obtain ⟨A2, c2, rfl, _, _, r2⟩ := h2.form
  obtain ⟨A3, c3, rfl, _, _, r3⟩ := h3.form
  exact ⟨A1, c1, A2, c2, A3, c3, rfl, rfl, rfl, r1, r2, r3, h⟩

def ShortRel (ls : List (List UInt8)) (i : Value) : Prop := ∃ k : Nat, k ≤ ls.length ∧ i = .int .i64 k ∧ ∀ m ∈ ls.take k, m.length ≤ 100

set_option maxRecDepth 100000 in
set_option maxHeartbeats 40000000 in
theorem tells_walk (n : Nat) (A : Option Addr) (c : Nat) (b : List UInt8) (p many most : Int) (B : Option Addr) (d : Nat) (ls : List (List UInt8)) (w : World) (hn : n < 18446744073709551616) (hb : b.length ≤ 600) (hls : ls.length ≤ 20)
    (hp1 : -9223372036854775808 ≤ p) (hp2 : p ≤ 9223372036854775807) (hn1 : -9223372036854775808 ≤ many) (hn2 : many ≤ 9223372036854775807) (hm1 : -9223372036854775808 ≤ most) (hm2 : most ≤ 9223372036854775807)
    (hc : b.length ≤ c) (hcm : c ≤ maxLen) (hA : Rd w w.heap.size A b) (hB : RdL w w.heap.size B ls) :
    Calls Try.prog 4 #[.int .u64 n, .slice A b.length c, .int .i64 p, .int .i64 many, .int .i64 most, .slice B ls.length d] w fun e w' => e = .returned (.bool true) ∧ Below w.heap.size w w' := by
  have HN := Lib.hid hn
  clear hn
  have h600 : decide ((600 : Int) < b.length) = false := decide_eq_false (by omega)
  have h20 : decide ((20 : Int) < ls.length) = false := decide_eq_false (by omega)
  have kb := run_bytes
  go_enter Try.func4, Try.ntmps4
  go_wp2_with fail
  go_loop [13, 39] (fun x i => ShortRel ls i) (fun _ i => ls.length - (intOf i).toNat)
  case atStart => exact ⟨0, Nat.zero_le _, rfl, by simp⟩
  case round =>
    obtain ⟨k, hk, rfl, h100⟩ := hrel
    by_cases hlt : k < ls.length
    · obtain ⟨ad, m, A3, c3, rfl, hadb, hget, hcell, hc31, hc32, hrd⟩ := hB.cell hlt
      unfold maxLen at hc32
      by_cases hm : 100 < m.length
      · clear hget h100
        go_wp2_with fail
        refine (awake_any _).mono ?_
        rintro e w9 ⟨rfl, hb9⟩
        go_wp2_with fail
        go_ret
        exact ⟨rfl, hb9⟩
      · have hsn := take_snoc hget
        have H100 := Lib.hid (show ∀ x ∈ ls.take (k + 1), x.length ≤ 100 from by
          intro x hx
          rw [hsn] at hx
          rcases List.mem_append.1 hx with hx | hx
          · exact h100 x hx
          · obtain rfl : x = m := by simpa using hx
            omega)
        clear hget hsn h100
        go_wp2_with fail
        go_round
        case rel => exact ⟨k + 1, by omega, by go_num, H100.out⟩
        case measure => simp [intOf]; omega
    · obtain rfl : k = ls.length := by omega
      rw [List.take_length] at h100
      have H100 := Lib.hid h100
      have st0 := run_str hA c
      have hge := grownCap_ge w b.length 0 5
      have hle := grownCap_le_maxLen w b.length 0 5 (by simp only [maxLen]; omega)
      have hI := Rd.bytes w b
      have hw0 := below_bytes w 5 ⟨b.toArray⟩
      clear h100 hlt hk
      go_wp2_with fail
      refine (GetUint_any _ _ b p _ (by omega) hI).mono ?_
      rintro e w1 ⟨rfl, hv1⟩
      have hb1 : Below w.heap.size w w1 := by rw [← hv1]; exact hw0
      have hA1 := hA.on hb1
      have hB1 := hB.on hb1
      have hI1 : Rd w1 w1.heap.size (some ⟨w.heap.size, 0, none⟩) b := by rw [← hv1]; exact hI
      generalize hcap : grownCap w b.length 0 5 = cI at *
      clear hv1 hI hw0 st0 hcap hA hB
      go_wp2_with fail
      refine (refGetUint_any A c b p w1 (by omega) hA1).mono ?_
      rintro e w2 ⟨rfl, hb2⟩
      have hw2 := hb1.trans (hb2.mono hb1.size)
      have hA2 := hA1.on hb2
      have hB2 := hB1.on hb2
      have hI2 := hI1.on hb2
      clear hb1 hb2 hA1 hB1 hI1
      go_wp2_with fail
      refine (GetBlob_one _ cI b p most w2 (by omega) hge hle hI2 hm1 hm2).mono ?_
      rintro e w3 ⟨v3, rfl, ho3, hb3⟩
      have hw3 := hw2.trans (hb3.mono hw2.size)
      have hA3 := hA2.on hb3
      have hB3 := hB2.on hb3
      have hI3 := hI2.on hb3
      clear hw2 hA2 hB2 hI2 hb3
      go_wp2_with fail
      refine (refGetBlob_one A c b p most w3 (by omega) hc hcm hA3 hm1 hm2).mono ?_
      rintro e w4 ⟨v4, rfl, ho4, hb4⟩
      have hw4 := hw3.trans (hb4.mono hw3.size)
      have hA4 := hA3.on hb4
      have hB4 := hB3.on hb4
      have hI4 := hI3.on hb4
      obtain ⟨A3, c3, rfl, _, _, hr3⟩ := ho3.form
      obtain ⟨A4, c4, rfl, _, _, hr4⟩ := ho4.form
      have st3 := run_str (hr3.on hb4) c3
      have st4 := run_str hr4 c4
      clear hw3 hA3 hB3 hI3 hb4 ho3 ho4 hr3 hr4
      go_wp2_with fail
      refine (GetBlobs_any _ cI b p many most w4 (by omega) hge hle hI4 hn1 hn2 hm1 hm2).mono ?_
      rintro e w5 ⟨v5, rfl, ho5, hb5⟩
      have hw5 := hw4.trans (hb5.mono hw4.size)
      have hA5 := hA4.on hb5
      have hB5 := hB4.on hb5
      have hI5 := hI4.on hb5
      clear hw4 hA4 hB4 hI4 hb5 st3 st4
      go_wp2_with fail
      refine (refGetBlobs_any A c b p many most w5 (by omega) hc hcm hA5 hn1 hn2 hm1 hm2).mono ?_
      rintro e w6 ⟨v6, rfl, ho6, hb6⟩
      have hw6 := hw5.trans (hb6.mono hw5.size)
      have hA6 := hA5.on hb6
      have hB6 := hB5.on hb6
      have hI6 := hI5.on hb6
      have ho5' := ho5.below hb6
      obtain ⟨A5, c5, rfl, _, _, hr5⟩ := ho5'.form
      obtain ⟨A6, c6, rfl, _, _, hr6⟩ := ho6.form
      clear hw5 hA5 hB5 hI5 hb6 ho5 ho5' ho6
      have L5 := blobsAt_len b p many most
      go_wp2_with fail
      refine (same_any A5 c5 _ A6 c6 _ w6 (by omega) (by omega) hr5 hr6).mono ?_
      rintro e w7 ⟨rfl, hb7⟩
      have hw7 := hw6.trans (hb7.mono hw6.size)
      have hA7 := hA6.on hb7
      have hB7 := hB6.on hb7
      have hI7 := hI6.on hb7
      have st7 := run_str hA7 c
      have st8 := run_str hI7 cI
      clear hw6 hA6 hB6 hI6 hb7 hr5 hr6
      clear L5
      generalize hL1 : b ++ Lib.uvarint n = L1
      generalize hL2 : b ++ blobE b = L2
      generalize hL3 : b ++ (Lib.uvarint ls.length ++ blobsE ls) = L3
      have HL1 := Lib.hid hL1
      have HL2 := Lib.hid hL2
      have HL3 := Lib.hid hL3
      have hE : (blobsE ls).length ≤ 4000 := by
        have := blobsE_bound 100 ls H100.out (by omega)
        have h2 : ls.length * (100 + 10) ≤ 20 * 110 := Nat.mul_le_mul_right _ hls
        omega
      clear hL1 hL2 hL3 H100
      go_upto_region 22 with fail
      clear st7 st8
      go_cut [25, 26, 27] (fun s1 s2 s3 wx => ThreeRel w7 L1 L2 L3 s1 s2 s3 wx)
      case first =>
        have gS := fun (W : World) (h : Below w7.heap.size w7 W) => run_str (hA7.on h) c
        clear kb
        go_region_held (fun W => Sem.run Try.prog (convert 30 9 (.slice A b.length c)) W = .ok (.string ⟨b.toArray⟩) W)
          (first | exact gS _ hcur.out | exact gS _ (Below.refl _ _).drew)
          (first
            | (refine upon_bytes b (by omega) ?_; intro wa Aa ca ra _ _ ba; (try replace o1 := o1.below ba); (try replace o2 := o2.below ba); (first | (replace r1 := r1.on ba; (first | (replace r2 := r2.on ba; have r3 := ra) | (have r2 := ra))) | (have r1 := ra)); (first | (have hcur := Lib.hid (hcur.out.trans (ba.mono hcur.out.size))) | (have hcur := Lib.hid ((Below.refl w7.heap.size w7).drew.trans ba))); clear ba ra)
            | (go_at_call 20; refine (Uint_any _ _ b n _ (by omega) HN.out (by first | exact r1 | exact r2 | exact r3)).mono ?_; rintro e wa ⟨v1, rfl, o1, ba⟩; (try replace r1 := r1.on ba); (try replace r2 := r2.on ba); (try replace r3 := r3.on ba); have hcur := Lib.hid (hcur.out.trans (ba.mono hcur.out.size)); clear ba)
            | (go_at_call 21; refine (Blob_any _ _ b _ _ b _ (by omega) (by omega) (by first | exact r1 | exact r2 | exact r3) (hI7.on hcur.out)).mono ?_; rintro e wa ⟨v2, rfl, o2, ba⟩; (try replace r1 := r1.on ba); (try replace r2 := r2.on ba); (try replace r3 := r3.on ba); (try replace o1 := o1.below ba); have hcur := Lib.hid (hcur.out.trans (ba.mono hcur.out.size)); clear ba)
            | (go_at_call 22; refine (Blobs_any _ _ b _ _ ls _ (by omega) (by omega) (by omega) (by first | exact r1 | exact r2 | exact r3) (hB7.on hcur.out)).mono ?_; rintro e wa ⟨v3, rfl, o3, ba⟩; (try replace r1 := r1.on ba); (try replace r2 := r2.on ba); (try replace r3 := r3.on ba); (try replace o1 := o1.below ba); (try replace o2 := o2.below ba); have hcur := Lib.hid (hcur.out.trans (ba.mono hcur.out.size)); clear ba))
        all_goals (go_wp2_with fail; go_meet; exact ThreeRel.mk HL1.out HL2.out HL3.out o1 o2 o3 hcur.out)
      case rest =>
        obtain ⟨A1, c1, A2, c2, A3, c3, rfl, rfl, rfl, r1, r2, r3, hcb⟩ := hcut
        have q1 := hA7.on hcb
        have q2 := hI7.on hcb
        have q3 := hB7.on hcb
        have hwc := hw7.trans (hcb.mono hw7.size)
        clear hA7 hI7 hB7 hcb hw7 kb
        generalize hAI : (some ⟨w.heap.size, 0, none⟩ : Option Addr) = AI at *
        clear hAI
        have gS := fun (W : World) (h : Below wc.heap.size wc W) => And.intro (run_str (q1.on h) c) (And.intro (run_str (q2.on h) cI) (And.intro (run_str (r1.on h) c1) (And.intro (run_str (r2.on h) c2) (run_str (r3.on h) c3))))
        go_wp2_with fail
        go_region_held (fun W => Sem.run Try.prog (convert 30 9 (.slice A b.length c)) W = .ok (.string ⟨b.toArray⟩) W ∧ Sem.run Try.prog (convert 30 9 (.slice AI b.length cI)) W = .ok (.string ⟨b.toArray⟩) W ∧ Sem.run Try.prog (convert 30 9 (.slice A1 L1.length c1)) W = .ok (.string ⟨L1.toArray⟩) W ∧ Sem.run Try.prog (convert 30 9 (.slice A2 L2.length c2)) W = .ok (.string ⟨L2.toArray⟩) W ∧ Sem.run Try.prog (convert 30 9 (.slice A3 L3.length c3)) W = .ok (.string ⟨L3.toArray⟩) W)
          (first | go_keep | exact gS _ (Below.refl _ _).drew | exact gS _ hcur.out)
          (first
            | (go_at_call 23; refine (refUint_any _ _ b n _ (by omega) HN.out (q1.on (Below.refl _ _).drew)).mono ?_; rintro e wa ⟨v1, rfl, o1, ba⟩; rw [HL1.out] at o1; obtain ⟨A5, c5, rfl, _, _, o5⟩ := o1.form; have t5 := run_str o5 c5; have hcur := Lib.hid ((Below.refl wc.heap.size wc).drew.trans ba); clear o1)
            | (go_at_call 24; refine (refBlob_any _ _ b _ _ b _ (by omega) (by omega) (q1.on hcur.out) (q1.on hcur.out)).mono ?_; rintro e wa ⟨v1, rfl, o1, ba⟩; rw [HL2.out] at o1; obtain ⟨A6, c6, rfl, _, _, o6⟩ := o1.form; have t6 := run_str o6 c6; have hcur := Lib.hid (hcur.out.trans (ba.mono hcur.out.size)); clear o1)
            | (go_at_call 25; refine (refBlobs_any _ _ b _ _ ls _ (by omega) (by omega) (by omega) (q1.on hcur.out) (q3.on hcur.out)).mono ?_; rintro e wa ⟨v1, rfl, o1, ba⟩; rw [HL3.out] at o1; obtain ⟨A7, c7, rfl, _, _, o7⟩ := o1.form; have t7 := run_str o7 c7; have hcur := Lib.hid (hcur.out.trans (ba.mono hcur.out.size)); clear o1)
            | (go_at_call 14; refine (awake_any _).mono ?_; rintro e wa ⟨rfl, ba⟩; have hcur := Lib.hid (hcur.out.trans (ba.mono hcur.out.size))))
        go_wp2_with fail
        all_goals go_ret
        all_goals exact ⟨rfl, hwc.trans (hcur.out.mono hwc.size)⟩
end Go.Proofs.Ytlobfmdkaghfmaa
