/-
  Contracts of GetUint at any place, and of GetBlob. Conditions: sizes as stated.
-/
import Derived.Test.YtdhdfeiobjmdaaaGet
namespace Go.Proofs.Ytdhdfeiobjmdaaa
open Go.ChangeShapes Go.WideShapes Go.ChangeAt Go.RowKit
set_option linter.unusedVariables false

theorem GetUint_any (A : Option Addr) (c : Nat) (l : List UInt8) (p : Int) (w : World) (hl : l.length ≤ 1099511627776) (hA : Rd w w.heap.size A l) :
    Calls Try.prog 84 #[.slice A l.length c, .int .i64 p] w fun e w' => e = .returned (.tuple #[.int .u64 ((uintAt l p).1 : Nat), .int .i64 ((uintAt l p).2.1 : Nat), .int .i64 ((uintAt l p).2.2 : Nat)]) ∧ w = w' := by
  by_cases hp : p < 0 ∨ (l.length : Int) < p
  · refine (GetUint_arg A c l.length p w hl hp).mono ?_
    rintro e w' ⟨rfl, rfl⟩
    unfold uintAt
    rw [if_pos hp]
    exact ⟨rfl, rfl⟩
  · obtain ⟨q, rfl⟩ := Int.eq_ofNat_of_zero_le (show 0 ≤ p by omega)
    refine (GetUint_in A c l q w hl (by omega) hA).mono ?_
    rintro e w' ⟨rfl, rfl⟩
    refine ⟨?_, rfl⟩
    unfold uintAt
    rw [if_neg hp]
    have e0 : ((q : Int)).toNat = q := by omega
    simp only [e0]
    have he := decU_err 10 0 0 (l.drop q)
    generalize decU 10 0 0 (l.drop q) = r at *
    obtain ⟨n, k, e⟩ := r
    by_cases h0 : e = 0
    · subst h0
      rw [getR_ok]
      rfl
    · obtain ⟨h1, h2, _⟩ := he h0
      simp only at h1 h2
      subst h1 h2
      rw [getR_err _ _ _ _ h0]
      simp only [if_neg h0]
      rfl

/-- a cut of what is read -/
theorem Rd.cut {w : World} {B : Nat} {A : Option Addr} {l : List UInt8} (h : Rd w B A l) (k n c : Nat) (hc : l.length ≤ c) :
    Rd w B (if c = k then A else A.map (·.add k)) ((l.drop k).take n) := by
  intro hp
  rw [List.length_take, List.length_drop] at hp
  obtain ⟨ad, rfl, hb, hcell⟩ := h (by omega)
  rw [if_neg (by omega)]
  refine ⟨ad.add k, rfl, by rw [blockAdd]; exact hb, fun j u hu => ?_⟩
  rw [addAdd]
  rw [List.getElem?_take] at hu
  split at hu
  · rw [List.getElem?_drop] at hu
    exact hcell _ u hu
  · cases hu

theorem Rd.take {w : World} {B : Nat} {A : Option Addr} {l : List UInt8} (h : Rd w B A l) (n : Nat) : Rd w B A (l.take n) := by
  intro hp
  rw [List.length_take] at hp
  obtain ⟨ad, rfl, hb, hcell⟩ := h (by omega)
  refine ⟨ad, rfl, hb, fun j u hu => ?_⟩
  rw [List.getElem?_take] at hu
  split at hu
  · exact hcell _ u hu
  · cases hu

theorem uintAt_lt (l : List UInt8) (p : Int) : (uintAt l p).1 < 18446744073709551616 ∧ (uintAt l p).2.1 ≤ l.length ∧ (uintAt l p).2.2 ≤ 11 := by
  by_cases h0 : (uintAt l p).2.2 = 0
  · have h := uintAt_back l p (uintAt l p).1 (uintAt l p).2.1 (Prod.ext rfl (Prod.ext rfl h0))
    exact ⟨h.1, h.2.2.2.1, by omega⟩
  · unfold uintAt at h0 ⊢
    by_cases hp : p < 0 ∨ (l.length : Int) < p
    · rw [if_pos hp]
      exact ⟨by decide, Nat.zero_le _, by decide⟩
    · rw [if_neg hp] at h0 ⊢
      have he := decU_err 10 0 0 (l.drop p.toNat) h0
      simp only at h0 ⊢
      rw [if_neg h0]
      exact ⟨by omega, by omega, by omega⟩

theorem neqI (e : Nat) (h : e ≠ 0) : ((e : Int) != 0) = true := by
  rw [bne_iff_ne]; omega

end Go.Proofs.Ytdhdfeiobjmdaaa
