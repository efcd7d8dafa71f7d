/-
  Contracts of GetUint at any place, and of GetBlob. Conditions: sizes as stated.
-/
import Derived.Test.YtcpmfagnnidodaaGet
namespace Go.Proofs.Ytcpmfagnnidodaa
open Go.ChangeShapes Go.WideShapes Go.ChangeAt Go.RowKit
set_option linter.unusedVariables false

theorem GetUint_any (A : Option Addr) (c : Nat) (l : List UInt8) (p : Int) (w : World) (hl : l.length ≤ 1099511627776) (hA : Rd w w.heap.size A l) :
    Calls Try.prog 16 #[.slice A l.length c, .int .i64 p] w fun e w' => e = .returned (.tuple #[.int .u64 ((uintAt l p).1 : Nat), .int .i64 ((uintAt l p).2.1 : Nat), .int .i64 ((uintAt l p).2.2 : Nat)]) ∧ w = w' := by
  by_cases hp : p < 0 ∨ (l.length : Int) < p
  · refine (GetUint_arg A c l.length p w hl hp).mono ?_
    rintro e w' ⟨rfl, rfl⟩
    unfold uintAt
    rw [if_pos hp]
    exact ⟨rfl, rfl⟩
  · obtain ⟨q, rfl⟩ := Int.eq_ofNat_of_zero_le (show 0 ≤ p by omega)
    refine (GetUint_in A c l q w hl (by omega) hA).mono ?_
    rintro e w' ⟨rfl, rfl⟩
    refine ⟨?_, rfl⟩
    unfold uintAt
    rw [if_neg hp]
    have e0 : ((q : Int)).toNat = q := by omega
    simp only [e0]
    have he := decU_err 10 0 0 (l.drop q)
    generalize decU 10 0 0 (l.drop q) = r at *
    obtain ⟨n, k, e⟩ := r
    by_cases h0 : e = 0
    · subst h0
      rw [getR_ok]
      rfl
    · obtain ⟨h1, h2, _⟩ := he h0
      simp only at h1 h2
      subst h1 h2
      rw [getR_err _ _ _ _ h0]
      simp only [if_neg h0]
      rfl

/-- a cut of what is read -/
theorem Rd.cut {w : World} {B : Nat} {A : Option Addr} {l : List UInt8} (h : Rd w B A l) (k n c : Nat) (hc : l.length ≤ c) :
    Rd w B (if c = k then A else A.map (·.add k)) ((l.drop k).take n) := by
  intro hp
  rw [List.length_take, List.length_drop] at hp
  obtain ⟨ad, rfl, hb, hcell⟩ := h (by omega)
  rw [if_neg (by omega)]
  refine ⟨ad.add k, rfl, by rw [blockAdd]; exact hb, fun j u hu => ?_⟩
  rw [addAdd]
  rw [List.getElem?_take] at hu
  split at hu
  · rw [List.getElem?_drop] at hu
    exact hcell _ u hu
  · cases hu

theorem Rd.take {w : World} {B : Nat} {A : Option Addr} {l : List UInt8} (h : Rd w B A l) (n : Nat) : Rd w B A (l.take n) := by
  intro hp
  rw [List.length_take] at hp
  obtain ⟨ad, rfl, hb, hcell⟩ := h (by omega)
  refine ⟨ad, rfl, hb, fun j u hu => ?_⟩
  rw [List.getElem?_take] at hu
  split at hu
  · exact hcell _ u hu
  · cases hu

theorem uintAt_lt (l : List UInt8) (p : Int) : (uintAt l p).1 < 18446744073709551616 ∧ (uintAt l p).2.1 ≤ l.length ∧ (uintAt l p).2.2 ≤ 11 := by
  by_cases h0 : (uintAt l p).2.2 = 0
  · have h := uintAt_back l p (uintAt l p).1 (uintAt l p).2.1 (Prod.ext rfl (Prod.ext rfl h0))
    exact ⟨h.1, h.2.2.2.1, by omega⟩
  · unfold uintAt at h0 ⊢
    by_cases hp : p < 0 ∨ (l.length : Int) < p
    · rw [if_pos hp]
      exact ⟨by decide, Nat.zero_le _, by decide⟩
    · rw [if_neg hp] at h0 ⊢
      have he := decU_err 10 0 0 (l.drop p.toNat) h0
      simp only at h0 ⊢
      rw [if_neg h0]
      exact ⟨by omega, by omega, by omega⟩

theorem neqI (e : Nat) (h : e ≠ 0) : ((e : Int) != 0) = true := by
  rw [bne_iff_ne]; omega

theorem GetBlob_err (A : Option Addr) (c : Nat) (l : List UInt8) (p most : Int) (m : List UInt8) (q e : Nat) (w : World) (hl : l.length ≤ 1099511627776) (hc : l.length ≤ c) (hA : Rd w w.heap.size A l)
    (hm1 : -9223372036854775808 ≤ most) (hm2 : most ≤ 9223372036854775807) (hb : blobAt l p most = (m, q, e)) (he : e ≠ 0) :
    Calls Try.prog 53 #[.slice A l.length c, .int .i64 p, .int .i64 most] w fun e' w' => e' = .returned (.tuple #[.slice none 0 0, .int .i64 0, .int .i64 (e : Nat)]) ∧ w = w' := by
  obtain ⟨hu1, hu2, hu3⟩ := uintAt_lt l p
  have HU := Lib.hid (GetUint_any A c l p w hl hA)
  unfold blobAt at hb
  generalize uintAt l p = r at *
  obtain ⟨n, k, e0⟩ := r
  simp only at hu1 hu2 hu3 hb
  by_cases h0 : e0 = 0
  · subst h0
    rw [if_neg (by simp)] at hb
    by_cases h1 : above n most = true
    · rw [if_pos h1] at hb
      obtain rfl : 3 = e := by simpa using congrArg (fun x => x.2.2) hb
      clear hb
      go_enter Try.func53, Try.ntmps53
      go_wp2_with fail
      refine HU.out.mono ?_
      rintro e w' ⟨rfl, rfl⟩
      go_wp2_with fail
      refine (isAbove_any n most _ (by omega) (by omega) hm1 hm2).mono ?_
      rintro e w' ⟨rfl, rfl⟩
      rw [h1]
      go_wp2_with fail
      go_ret3
      exact ⟨rfl, rfl⟩
    · rw [if_neg h1] at hb
      have h1' : above n most = false := by simpa using h1
      by_cases h2 : above n ((l.length : Int) - k) = true
      · rw [if_pos h2] at hb
        obtain rfl : 11 = e := by simpa using congrArg (fun x => x.2.2) hb
        clear hb h1
        go_enter Try.func53, Try.ntmps53
        go_wp2_with fail
        refine HU.out.mono ?_
        rintro e w' ⟨rfl, rfl⟩
        go_wp2_with fail
        refine (isAbove_any n most _ (by omega) (by omega) hm1 hm2).mono ?_
        rintro e w' ⟨rfl, rfl⟩
        rw [h1']
        go_wp2_with fail
        refine (isAbove_any n ((l.length : Int) - k) _ (by omega) (by omega) (by omega) (by omega)).mono ?_
        rintro e w' ⟨rfl, rfl⟩
        rw [h2]
        go_wp2_with fail
        go_ret3
        exact ⟨rfl, rfl⟩
      · rw [if_neg h2] at hb
        exact absurd (congrArg (fun x => x.2.2) hb).symm he
  · rw [if_pos h0] at hb
    obtain rfl : e0 = e := by simpa using congrArg (fun x => x.2.2) hb
    have hne := neqI e0 h0
    clear hb
    go_enter Try.func53, Try.ntmps53
    go_wp2_with fail
    refine HU.out.mono ?_
    rintro e w' ⟨rfl, rfl⟩
    go_wp2_with fail
    go_ret3
    exact ⟨rfl, rfl⟩

theorem GetBlob_ok (A : Option Addr) (c : Nat) (l : List UInt8) (p most : Int) (m : List UInt8) (q : Nat) (w : World) (hl : l.length ≤ 1099511627776) (hc : l.length ≤ c) (hcm : c ≤ maxLen) (hA : Rd w w.heap.size A l)
    (hm1 : -9223372036854775808 ≤ most) (hm2 : most ≤ 9223372036854775807) (hb : blobAt l p most = (m, q, 0)) :
    Calls Try.prog 53 #[.slice A l.length c, .int .i64 p, .int .i64 most] w fun e' w' => ∃ v, e' = .returned (.tuple #[v, .int .i64 (q : Nat), .int .i64 0]) ∧ Own w' w.heap.size v m ∧ Below w.heap.size w w' := by
  obtain ⟨hu1, hu2, hu3⟩ := uintAt_lt l p
  have HU := Lib.hid (GetUint_any A c l p w hl hA)
  unfold blobAt at hb
  generalize uintAt l p = r at *
  obtain ⟨n, k, e0⟩ := r
  simp only at hu1 hu2 hu3 hb
  by_cases h0 : e0 = 0
  · subst h0
    rw [if_neg (by simp)] at hb
    by_cases h1 : above n most = true
    · rw [if_pos h1] at hb
      exact absurd (congrArg (fun x => x.2.2) hb) (by simp)
    · rw [if_neg h1] at hb
      have h1' : above n most = false := by simpa using h1
      by_cases h2 : above n ((l.length : Int) - k) = true
      · rw [if_pos h2] at hb
        exact absurd (congrArg (fun x => x.2.2) hb) (by simp)
      · rw [if_neg h2] at hb
        simp only [Prod.mk.injEq, and_true] at hb
        have h2' : above n ((l.length : Int) - k) = false := by simpa using h2
        have hn : k + n ≤ l.length := by
          simp only [above, Bool.or_eq_false_iff, decide_eq_false_iff_not] at h2'
          omega
        have hml : n = m.length := by rw [← hb.1, List.length_take, List.length_drop]; omega
        subst hml
        have HR := hA.cut k m.length c hc
        rw [hb.1] at HR
        have HB := Lib.hid hb.2
        clear hb h1 h2
        unfold maxLen at hcm
        by_cases hck : c = k
        · rw [if_pos hck] at HR
          have HCK : decide (c = k) = true := decide_eq_true hck
          subst hck
          go_enter Try.func53, Try.ntmps53
          go_wp2_with fail
          refine HU.out.mono ?_
          rintro e w' ⟨rfl, rfl⟩
          go_wp2_with fail
          refine (isAbove_any m.length most _ (by omega) (by omega) hm1 hm2).mono ?_
          rintro e w' ⟨rfl, rfl⟩
          rw [h1']
          go_wp2_with fail
          refine (isAbove_any m.length ((l.length : Int) - c) _ (by omega) (by omega) (by omega) (by omega)).mono ?_
          rintro e w' ⟨rfl, rfl⟩
          rw [h2']
          go_wp2_with fail
          refine (fresh_any _ _ m 0 _ (by omega) (by omega) HR).mono ?_
          rintro e w1 ⟨v1, rfl, ho1, hb1⟩
          go_wp2_with fail
          go_ret3
          exact ⟨v1, by rw [← HB.out]; rfl, ho1, hb1⟩
        · rw [if_neg hck] at HR
          go_enter Try.func53, Try.ntmps53
          go_wp2_with fail
          refine HU.out.mono ?_
          rintro e w' ⟨rfl, rfl⟩
          go_wp2_with fail
          refine (isAbove_any m.length most _ (by omega) (by omega) hm1 hm2).mono ?_
          rintro e w' ⟨rfl, rfl⟩
          rw [h1']
          go_wp2_with fail
          refine (isAbove_any m.length ((l.length : Int) - k) _ (by omega) (by omega) (by omega) (by omega)).mono ?_
          rintro e w' ⟨rfl, rfl⟩
          rw [h2']
          go_wp2_with fail
          refine (fresh_any _ _ m 0 _ (by omega) (by omega) HR).mono ?_
          rintro e w1 ⟨v1, rfl, ho1, hb1⟩
          go_wp2_with fail
          go_ret3
          exact ⟨v1, by rw [← HB.out]; rfl, ho1, hb1⟩
  · rw [if_pos h0] at hb
    exact absurd (congrArg (fun x => x.2.2) hb) h0
end Go.Proofs.Ytcpmfagnnidodaa
