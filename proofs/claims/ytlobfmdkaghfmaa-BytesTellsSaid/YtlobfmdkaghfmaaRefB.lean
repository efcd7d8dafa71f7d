/-
  Contracts of the document's own GetUint at any place, GetBlob and GetBlobs. Conditions: sizes as stated.
-/
import Derived.Test.YtlobfmdkaghfmaaRefG
namespace Go.Proofs.Ytlobfmdkaghfmaa
open Go.ChangeShapes Go.WideShapes Go.ChangeAt Go.RowKit
set_option linter.unusedVariables false

theorem refGetUint_any (A : Option Addr) (c : Nat) (l : List UInt8) (p : Int) (w : World) (hl : l.length ≤ 1099511627776) (hA : Rd w w.heap.size A l) :
    Calls Try.prog 16 #[.slice A l.length c, .int .i64 p] w fun e w' => e = .returned (.tuple #[.int .u64 ((uintAt l p).1 : Nat), .int .i64 ((uintAt l p).2.1 : Nat), .int .i64 ((uintAt l p).2.2 : Nat)]) ∧ Below w.heap.size w w' := by
  by_cases hp : p < 0 ∨ (l.length : Int) < p
  · refine (refGet_arg A c l.length p w hl hp).mono ?_
    rintro e w' ⟨rfl, rfl⟩
    unfold uintAt
    rw [if_pos hp]
    exact ⟨rfl, Below.refl _ _⟩
  · obtain ⟨q, rfl⟩ := Int.eq_ofNat_of_zero_le (show 0 ≤ p by omega)
    refine (refGet_in A c l q w hl (by omega) hA).mono ?_
    rintro e w' ⟨rfl, hb⟩
    refine ⟨?_, hb⟩
    unfold uintAt
    rw [if_neg hp]
    have e0 : ((q : Int)).toNat = q := by omega
    simp only [e0]
    have he := decU_err 10 0 0 (l.drop q)
    generalize decU 10 0 0 (l.drop q) = r at *
    obtain ⟨n, k, e⟩ := r
    by_cases h0 : e = 0
    · subst h0
      rw [getR_ok]
      rfl
    · obtain ⟨h1, h2, _⟩ := he h0
      simp only at h1 h2
      subst h1 h2
      rw [getR_err _ _ _ _ h0]
      simp only [if_neg h0]
      rfl

theorem refGetBlob_err (A : Option Addr) (c : Nat) (l : List UInt8) (p most : Int) (m : List UInt8) (q e : Nat) (w : World) (hl : l.length ≤ 1099511627776) (hc : l.length ≤ c) (hA : Rd w w.heap.size A l)
    (hm1 : -9223372036854775808 ≤ most) (hm2 : most ≤ 9223372036854775807) (hb : blobAt l p most = (m, q, e)) (he : e ≠ 0) :
    Calls Try.prog 17 #[.slice A l.length c, .int .i64 p, .int .i64 most] w fun e' w' => e' = .returned (.tuple #[.slice none 0 0, .int .i64 0, .int .i64 (e : Nat)]) ∧ Below w.heap.size w w' := by
  obtain ⟨hu1, hu2, hu3⟩ := uintAt_lt l p
  have HU := Lib.hid (refGetUint_any A c l p w hl hA)
  unfold blobAt at hb
  generalize uintAt l p = r at *
  obtain ⟨n, k, e0⟩ := r
  simp only at hu1 hu2 hu3 hb
  obtain ⟨z, hz⟩ : ∃ z : Int, z = n := ⟨_, rfl⟩
  have hz0 : 0 ≤ z := by omega
  have hz1 : z ≤ 18446744073709551615 := by omega
  rw [← hz] at HU
  have HZ := Lib.hid hz
  by_cases h0 : e0 = 0
  · subst h0
    rw [if_neg (by simp)] at hb
    by_cases h1 : above n most = true
    · rw [if_pos h1] at hb
      obtain rfl : 3 = e := by simpa using congrArg (fun x => x.2.2) hb
      simp only [above, Bool.or_eq_true, decide_eq_true_eq] at h1
      rw [← hz] at h1
      clear hb hz hu1
      by_cases hneg : most < 0
      · go_enter Try.func17, Try.ntmps17
        go_wp2_with fail
        refine HU.out.mono ?_
        rintro e w1 ⟨rfl, hb1⟩
        go_wp2_with fail
        go_ret3
        exact ⟨rfl, hb1⟩
      · have hneg' : decide (most < 0) = false := decide_eq_false hneg
        have hgt : most < z := by omega
        clear h1
        go_enter Try.func17, Try.ntmps17
        go_wp2_with fail
        refine HU.out.mono ?_
        rintro e w1 ⟨rfl, hb1⟩
        go_wp2_with fail
        go_ret3
        exact ⟨rfl, hb1⟩
    · rw [if_neg h1] at hb
      have h1' : above n most = false := by simpa using h1
      have h1'' := above_false h1'
      by_cases h2 : above n ((l.length : Int) - k) = true
      · rw [if_pos h2] at hb
        obtain rfl : 11 = e := by simpa using congrArg (fun x => x.2.2) hb
        simp only [above, Bool.or_eq_true, decide_eq_true_eq] at h2
        have hneg' : decide (most < 0) = false := decide_eq_false (by omega)
        have hle : z ≤ most := by omega
        have hshort : (l.length : Int) < k + z := by omega
        clear hb hz hu1 h1 h1' h1'' h2
        by_cases hbig : (l.length : Int) < z
        · go_enter Try.func17, Try.ntmps17
          go_wp2_with fail
          refine HU.out.mono ?_
          rintro e w1 ⟨rfl, hb1⟩
          go_wp2_with fail
          go_ret3
          exact ⟨rfl, hb1⟩
        · have hbig' : decide ((l.length : Int) < z) = false := decide_eq_false hbig
          go_enter Try.func17, Try.ntmps17
          go_wp2_with fail
          refine HU.out.mono ?_
          rintro e w1 ⟨rfl, hb1⟩
          go_wp2_with fail
          go_ret3
          exact ⟨rfl, hb1⟩
      · rw [if_neg h2] at hb
        exact absurd (congrArg (fun x => x.2.2) hb).symm he
  · rw [if_pos h0] at hb
    obtain rfl : e0 = e := by simpa using congrArg (fun x => x.2.2) hb
    have hne := neqI e0 h0
    clear hb hz hu1
    go_enter Try.func17, Try.ntmps17
    go_wp2_with fail
    refine HU.out.mono ?_
    rintro e w1 ⟨rfl, hb1⟩
    go_wp2_with fail
    go_ret3
    exact ⟨rfl, hb1⟩

theorem refGetBlob_ok (A : Option Addr) (c : Nat) (l : List UInt8) (p most : Int) (m : List UInt8) (q : Nat) (w : World) (hl : l.length ≤ 274877906944) (hc : l.length ≤ c) (hcm : c ≤ maxLen) (hA : Rd w w.heap.size A l)
    (hm1 : -9223372036854775808 ≤ most) (hm2 : most ≤ 9223372036854775807) (hb : blobAt l p most = (m, q, 0)) :
    Calls Try.prog 17 #[.slice A l.length c, .int .i64 p, .int .i64 most] w fun e' w' => ∃ v, e' = .returned (.tuple #[v, .int .i64 (q : Nat), .int .i64 0]) ∧ Own w' w.heap.size v m ∧ Below w.heap.size w w' := by
  obtain ⟨hu1, hu2, hu3⟩ := uintAt_lt l p
  have HU := Lib.hid (refGetUint_any A c l p w (by omega) hA)
  unfold blobAt at hb
  generalize uintAt l p = r at *
  obtain ⟨n, k, e0⟩ := r
  simp only at hu1 hu2 hu3 hb
  by_cases h0 : e0 = 0
  · subst h0
    rw [if_neg (by simp)] at hb
    by_cases h1 : above n most = true
    · rw [if_pos h1] at hb
      exact absurd (congrArg (fun x => x.2.2) hb) (by simp)
    · rw [if_neg h1] at hb
      have h1' : above n most = false := by simpa using h1
      have h1'' := above_false h1'
      by_cases h2 : above n ((l.length : Int) - k) = true
      · rw [if_pos h2] at hb
        exact absurd (congrArg (fun x => x.2.2) hb) (by simp)
      · rw [if_neg h2] at hb
        simp only [Prod.mk.injEq, and_true] at hb
        have h2' : above n ((l.length : Int) - k) = false := by simpa using h2
        have h2'' := above_false h2'
        have hn : k + n ≤ l.length := by omega
        have hml : n = m.length := by rw [← hb.1, List.length_take, List.length_drop]; omega
        subst hml
        have HRc := fun (W : World) (g : Rd W W.heap.size A l) => g.cut k m.length c hc
        rw [hb.1] at HRc
        have HB := Lib.hid hb.2
        have hneg' : decide (most < 0) = false := decide_eq_false (by omega)
        have hle : (m.length : Int) ≤ most := by omega
        have hbig' : decide ((l.length : Int) < (m.length : Int)) = false := decide_eq_false (by omega)
        have hbig2 : decide (l.length < m.length) = false := decide_eq_false (by omega)
        clear hb h1 h2 h1' h1'' h2' h2''
        unfold maxLen at hcm
        by_cases hck : c = k
        · have HR := Lib.hid HRc
          rw [if_pos hck] at HR
          subst hck
          clear HRc
          go_enter Try.func17, Try.ntmps17
          go_wp2_with fail
          refine HU.out.mono ?_
          rintro e w1 ⟨rfl, hb1⟩
          go_wp2_with fail
          refine (behind_any none 0 [] _ _ m w1 (by simp) (by omega) Rd.nil (HR.out w1 (hA.on hb1))).mono ?_
          rintro e w2 ⟨v2, rfl, ho2, hb2⟩
          rw [List.nil_append] at ho2
          go_wp2_with fail
          go_ret3
          exact ⟨v2, by rw [← HB.out]; rfl, ho2.mono hb1.size, hb1.trans (hb2.mono hb1.size)⟩
        · have HR := Lib.hid HRc
          rw [if_neg hck] at HR
          clear HRc
          go_enter Try.func17, Try.ntmps17
          go_wp2_with fail
          refine HU.out.mono ?_
          rintro e w1 ⟨rfl, hb1⟩
          go_wp2_with fail
          refine (behind_any none 0 [] _ _ m w1 (by simp) (by omega) Rd.nil (HR.out w1 (hA.on hb1))).mono ?_
          rintro e w2 ⟨v2, rfl, ho2, hb2⟩
          rw [List.nil_append] at ho2
          go_wp2_with fail
          go_ret3
          exact ⟨v2, by rw [← HB.out]; rfl, ho2.mono hb1.size, hb1.trans (hb2.mono hb1.size)⟩
  · rw [if_pos h0] at hb
    exact absurd (congrArg (fun x => x.2.2) hb) h0
end Go.Proofs.Ytlobfmdkaghfmaa
