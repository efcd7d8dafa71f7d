/-
  intLen, sortOf, bodyLen (layer 3, record). Conditions: numbers of 64 bits.
-/
import Derived.Test.YtdhdfeiobjmdaaaRKey
import Derived.WalkMore
import Derived.ScopeJumps
namespace Go.Proofs.Ytdhdfeiobjmdaaa
open Go.ChangeShapes Go.WideShapes Go.ChangeAt Go.RowKit
set_option linter.unusedVariables false

/-- how many bytes a number has, in at most f steps more -/
def lenF : Nat → Int → Nat
  | 0, _ => 1
  | f + 1, m => if -128 ≤ m ∧ m ≤ 127 then 1 else lenF f (m / 256) + 1
/-- how many bytes a number of 64 bits has -/
def lenI (n : Int) : Nat := lenF 7 n
theorem lenF_range : ∀ (f : Nat) (m : Int), 1 ≤ lenF f m ∧ lenF f m ≤ f + 1
  | 0, _ => ⟨Nat.le_refl _, Nat.le_refl _⟩
  | f + 1, m => by
    have := lenF_range f (m / 256)
    unfold lenF
    split <;> omega

theorem lenF_in {f : Nat} {m : Int} (h : -128 ≤ m ∧ m ≤ 127) : lenF f m = 1 := by
  cases f with
  | zero => rfl
  | succ f => unfold lenF; rw [if_pos h]
theorem lenF_out {f : Nat} {m : Int} (h : ¬ (-128 ≤ m ∧ m ≤ 127)) (h1 : -128 * 256 ^ f ≤ m) (h2 : m ≤ 128 * 256 ^ f - 1) :
    ∃ g, f = g + 1 ∧ lenF f m = lenF g (m / 256) + 1 ∧ -128 * 256 ^ g ≤ m / 256 ∧ m / 256 ≤ 128 * 256 ^ g - 1 := by
  cases f with
  | zero => simp at h1 h2; omega
  | succ g =>
    refine ⟨g, rfl, ?_, ?_, ?_⟩
    · rw [lenF, if_neg h]
    · rw [Int.pow_succ] at h1
      generalize (256 : Int) ^ g = q at *
      omega
    · rw [Int.pow_succ] at h2
      generalize (256 : Int) ^ g = q at *
      omega
set_option maxRecDepth 100000 in
theorem intLen_any (n : Int) (w : World) (hn : In64 n) :
    Calls Try.prog 81 #[.int .i64 n] w fun e w' => e = .returned (.int .i64 (lenI n)) ∧ w' = w := by
  obtain ⟨hn1, hn2⟩ := hn
  go_enter Try.func81, Try.ntmps81
  go_wp2
  refine wp_scope_jumps 0 (fun a' w' => w' = w ∧ ∃ (m : Int) (f k : Nat) (u4 u5 u6 u7 u8 u9 u10 u11 u12 u13 : Value), f + k = 8 ∧ 1 ≤ k ∧ a' = { tmps := #[.int .i64 m, undef, .int .i64 0, .int .i64 (k : Int), u4, u5, u6, u7, u8, u9, u10, u11, u12, u13, undef], defers := [] } ∧ lenF f m + k = lenI n + 1 ∧ -128 * 256 ^ f ≤ m ∧ m ≤ 128 * 256 ^ f - 1) (fun a' _ => 20 - (intOf (a'.tmps.getD 3 undef)).toNat) rfl ?_ ?_
  · go_wp2
    go_step3
    by_cases h : -128 ≤ n ∧ n ≤ 127
    · have h1 : decide (n < -128) = false := decide_eq_false (by omega)
      have h2 : decide (127 < n) = false := decide_eq_false (by omega)
      have HL := Lib.hid (show (1 : Int) = (lenI n : Int) by rw [lenI, lenF_in h]; rfl)
      clear h
      go_wp2
      simp only [Exit.jump]
      go_ret
      exact ⟨by rw [← HL.out]; rfl, rfl⟩
    · obtain ⟨g, hg, e1, e2, e3⟩ := lenF_out (f := 7) h (by omega) (by omega)
      have hg6 : g = 6 := by omega
      subst hg6
      have HE := Lib.hid (show lenF 6 (n / 256) + 2 = lenI n + 1 by unfold lenI; omega)
      have HE2 := Lib.hid e2
      have HE3 := Lib.hid e3
      clear hg e1 e2 e3
      by_cases h0 : n < -128
      · have h1 : decide (n < -128) = true := decide_eq_true (by omega)
        clear h
        go_wp2
        go_step3
        exact ⟨rfl, rfl, n / 256, 6, 2, _, _, _, _, _, _, _, _, _, _, rfl, by decide, rfl, HE.out, HE2.out, HE3.out⟩
      · have h1 : decide (n < -128) = false := decide_eq_false (by omega)
        have h2 : decide (127 < n) = true := decide_eq_true (by omega)
        clear h
        go_wp2
        go_step3
        exact ⟨rfl, rfl, n / 256, 6, 2, _, _, _, _, _, _, _, _, _, _, rfl, by decide, rfl, HE.out, HE2.out, HE3.out⟩
  · rintro a' w' ⟨rfl, m, f, k, u4, u5, u6, u7, u8, u9, u10, u11, u12, u13, hfk, hk1, rfl, hlen, hb1, hb2⟩
    have hm : -9223372036854775808 ≤ m ∧ m ≤ 9223372036854775807 := by
      have hp : (256 : Int) ^ f ≤ 256 ^ 7 := by
        exact_mod_cast Nat.pow_le_pow_right (show 0 < 256 by decide) (show f ≤ 7 by omega)
      have e7 : (256 : Int) ^ 7 = 72057594037927936 := by decide
      rw [e7] at hp
      generalize (256 : Int) ^ f = q at *
      omega
    by_cases h : -128 ≤ m ∧ m ≤ 127
    · have h1 : decide (m < -128) = false := decide_eq_false (by omega)
      have h2 : decide (127 < m) = false := decide_eq_false (by omega)
      have HL := Lib.hid (show (k : Int) = (lenI n : Int) by rw [lenF_in h] at hlen; omega)
      clear h hlen hb1 hb2
      go_wp2
      simp only [Exit.jump]
      go_ret
      exact ⟨by rw [← HL.out]; rfl, rfl⟩
    · obtain ⟨g, rfl, e1, e2, e3⟩ := lenF_out h hb1 hb2
      have HE := Lib.hid (show lenF g (m / 256) + (k + 1) = lenI n + 1 by omega)
      have HE2 := Lib.hid e2
      have HE3 := Lib.hid e3
      clear e1 e2 e3 hlen hb1 hb2
      by_cases h0 : m < -128
      · have h1 : decide (m < -128) = true := decide_eq_true (by omega)
        clear h
        go_wp2
        go_step3
        exact ⟨rfl, ⟨rfl, m / 256, g, k + 1, _, _, _, _, _, _, _, _, _, _, by omega, by omega, by go_num, HE.out, HE2.out, HE3.out⟩, by simp [intOf]; omega⟩
      · have h1 : decide (m < -128) = false := decide_eq_false (by omega)
        have h2 : decide (127 < m) = true := decide_eq_true (by omega)
        clear h
        go_wp2
        go_step3
        exact ⟨rfl, ⟨rfl, m / 256, g, k + 1, _, _, _, _, _, _, _, _, _, _, by omega, by omega, by go_num, HE.out, HE2.out, HE3.out⟩, by simp [intOf]; omega⟩
end Go.Proofs.Ytdhdfeiobjmdaaa
