/-
  Numbers of layer 2 (value): what add, subtract, multiply, quotient, rest and their like answer. Conditions: numbers of 64 bits.
-/
import Derived.Test.YteijijoiifbjlaaGreatDoorVBase
namespace Go.Proofs.YteijijoiifbjlaaGreatDoor
open Go.ChangeShapes Go.WideShapes Go.ChangeAt Go.RowKit
set_option linter.unusedVariables false

/-- a number of 64 bits -/
def In64 (a : Int) : Prop := -9223372036854775808 ≤ a ∧ a ≤ 9223372036854775807
instance (a : Int) : Decidable (In64 a) := by unfold In64; infer_instance

theorem wrap_in {a : Int} (h : In64 a) : wrap64 a = a := IntWalk.wrap64_in a h
theorem wrap_val (a : Int) : wrap64 a = (a + 9223372036854775808) % 18446744073709551616 - 9223372036854775808 := by
  unfold wrap64
  rfl
theorem wrap_64 (a : Int) : In64 (wrap64 a) := by
  rw [wrap_val]
  unfold In64
  omega
theorem ret_i {k : IntKind} {a b : Int} (h : a = b) : Ending.returned (.int k a) = .returned (.int k b) := by rw [h]
theorem ret_b {a b : Bool} (h : a = b) : Ending.returned (.bool a) = .returned (.bool b) := by rw [h]
theorem ret_ib {k : IntKind} {a b : Int} {c d : Bool} (h : a = b) (h2 : c = d) : Ending.returned (.tuple #[.int k a, .bool c]) = .returned (.tuple #[.int k b, .bool d]) := by rw [h, h2]

theorem add_b (a b : Int) (ha : In64 a) (hb : In64 b) : (decide (a < wrap64 (a + b)) == decide (0 < b)) = decide (In64 (a + b)) := by
  by_cases h : In64 (a + b)
  · rw [wrap_in h, decide_eq_true h, beq_iff_eq, decide_eq_decide]
    omega
  · rw [decide_eq_false h, wrap_val, beq_eq_false_iff_ne, Ne, decide_eq_decide]
    unfold In64 at *
    omega
theorem sub_b (a b : Int) (ha : In64 a) (hb : In64 b) : (decide (wrap64 (a - b) < a) == decide (0 < b)) = decide (In64 (a - b)) := by
  by_cases h : In64 (a - b)
  · rw [wrap_in h, decide_eq_true h, beq_iff_eq, decide_eq_decide]
    omega
  · rw [decide_eq_false h, wrap_val, beq_eq_false_iff_ne, Ne, decide_eq_decide]
    unfold In64 at *
    omega

theorem add_any (a b : Int) (w : World) (ha : In64 a) (hb : In64 b) :
    Calls Tryz.prog 102 #[.int .i64 a, .int .i64 b] w fun e w' => e = .returned (.tuple #[.int .i64 (wrap64 (a + b)), .bool (decide (In64 (a + b)))]) ∧ w = w' := by
  have h := add_b a b ha hb
  have H := Lib.hid h
  clear h ha hb
  go_enter Tryz.func102, Tryz.ntmps102
  go_wp2
  go_ret2
  exact ⟨ret_ib rfl H.out, rfl⟩

theorem subtract_any (a b : Int) (w : World) (ha : In64 a) (hb : In64 b) :
    Calls Tryz.prog 94 #[.int .i64 a, .int .i64 b] w fun e w' => e = .returned (.tuple #[.int .i64 (wrap64 (a - b)), .bool (decide (In64 (a - b)))]) ∧ w = w' := by
  have h := sub_b a b ha hb
  have H := Lib.hid h
  clear h ha hb
  go_enter Tryz.func94, Tryz.ntmps94
  go_wp2
  go_ret2
  exact ⟨ret_ib rfl H.out, rfl⟩

theorem isTooFar_any (a b : Int) (w : World) :
    Calls Tryz.prog 126 #[.int .i64 a, .int .i64 b] w fun e w' => e = .returned (.bool (a == -9223372036854775808 && b == -1)) ∧ w = w' := by
  cases h : (a == -9223372036854775808)
  · go_enter Tryz.func126, Tryz.ntmps126
    go_wp2
    go_ret
    exact ⟨rfl, rfl⟩
  · go_enter Tryz.func126, Tryz.ntmps126
    go_wp2
    go_ret
    exact ⟨rfl, rfl⟩

theorem mul_b (a b : Int) (ha : In64 a) (hb : In64 b) (h0 : b ≠ 0) (hf : ¬ (a = -9223372036854775808 ∧ b = -1)) : (wrap64 ((wrap64 (a * b)).tdiv b) == a) = decide (In64 (a * b)) := by
  have hw := wrap_64 (a * b)
  by_cases h : In64 (a * b)
  · rw [wrap_in h, decide_eq_true h, Int.mul_tdiv_cancel _ h0, wrap_in ha]
    simp
  · rw [decide_eq_false h, beq_eq_false_iff_ne]
    intro e
    generalize hp : wrap64 (a * b) = p at *
    have hd : In64 (p.tdiv b) ∨ (p = -9223372036854775808 ∧ b = -1) := by
      by_cases hb1 : b = -1
      · subst hb1
        by_cases hpm : p = -9223372036854775808
        · exact .inr ⟨hpm, rfl⟩
        · refine .inl ?_
          rw [show (-1 : Int) = -(1 : Int) from rfl, Int.tdiv_neg, Int.tdiv_one]
          unfold In64 at *
          omega
      · refine .inl ?_
        have h1 : (p.tdiv b).natAbs ≤ p.natAbs := by rw [Int.natAbs_tdiv]; exact Nat.div_le_self _ _
        unfold In64 at *
        by_cases hq : p.tdiv b = 9223372036854775808
        · exfalso
          have h2 : p = -9223372036854775808 := by omega
          have h3 : (p.tdiv b).natAbs = p.natAbs / b.natAbs := Int.natAbs_tdiv p b
          rw [hq, h2] at h3
          have h4 : b.natAbs ≠ 1 := by
            intro h5
            have : b = 1 ∨ b = -1 := by omega
            rcases this with rfl | rfl
            · rw [Int.tdiv_one] at hq; omega
            · exact hb1 rfl
          have h5 : 2 ≤ b.natAbs := by omega
          have h6 : (-9223372036854775808 : Int).natAbs / b.natAbs ≤ (-9223372036854775808 : Int).natAbs / 2 := Nat.div_le_div_left h5 (by omega)
          omega
        · omega
    rcases hd with hd | ⟨hp1, hb1⟩
    · rw [wrap_in hd] at e
      have hm := Int.mul_tdiv_add_tmod p b
      rw [e] at hm
      have hr := Int.natAbs_tmod p b
      have hrl : (p.tmod b).natAbs < b.natAbs := by rw [hr]; exact Nat.mod_lt _ (by omega)
      have hs : p = b * a + p.tmod b := hm.symm
      have hpv := hp
      rw [wrap_val] at hpv
      rw [Int.mul_comm b a] at hs
      generalize a * b = q at *
      unfold In64 at *
      omega
    · subst hb1
      rw [hp1] at e
      have : wrap64 ((-9223372036854775808 : Int).tdiv (-1)) = -9223372036854775808 := by rw [wrap_val]; decide
      rw [this] at e
      exact hf ⟨e.symm, rfl⟩

theorem multiply_any (a b : Int) (w : World) (ha : In64 a) (hb : In64 b) :
    Calls Tryz.prog 103 #[.int .i64 a, .int .i64 b] w fun e w' => (∃ c, e = .returned (.tuple #[.int .i64 c, .bool (decide (In64 (a * b)))]) ∧ (In64 (a * b) → c = a * b)) ∧ w = w' := by
  by_cases h0 : b = 0
  · subst h0
    go_enter Tryz.func103, Tryz.ntmps103
    go_wp2
    go_ret2
    refine ⟨⟨0, ret_ib rfl ?_, fun _ => by simp⟩, rfl⟩
    rw [Int.mul_zero]
    decide
  · have hb0 : (b == 0) = false := by simpa using h0
    by_cases hf : a = -9223372036854775808 ∧ b = -1
    · obtain ⟨rfl, rfl⟩ := hf
      go_enter Tryz.func103, Tryz.ntmps103
      go_wp2_with (go_at_call 126; refine (isTooFar_any _ _ _).mono ?_; rintro e w1 ⟨rfl, rfl⟩)
      all_goals
        go_ret2
        exact ⟨⟨_, ret_ib rfl (by decide), fun h => absurd h (by decide)⟩, rfl⟩
    · have hq := mul_b a b ha hb h0 hf
      cases hd : decide (In64 (a * b))
      · rw [hd] at hq
        go_enter Tryz.func103, Tryz.ntmps103
        go_wp2_with (go_at_call 126; refine (isTooFar_any _ _ _).mono ?_; rintro e w1 ⟨rfl, rfl⟩)
        go_ret2
        exact ⟨⟨_, ret_ib rfl rfl, fun h => absurd h (of_decide_eq_false hd)⟩, rfl⟩
      · rw [hd] at hq
        have hfb : (a == -9223372036854775808 && b == -1) = false := by
          rw [Bool.eq_false_iff]
          intro hx
          simp only [Bool.and_eq_true, beq_iff_eq] at hx
          exact hf hx
        go_enter Tryz.func103, Tryz.ntmps103
        go_wp2_with (go_at_call 126; refine (isTooFar_any _ _ _).mono ?_; rintro e w1 ⟨rfl, rfl⟩; rw [hfb])
        go_ret2
        exact ⟨⟨_, ret_ib rfl rfl, fun h => wrap_in h⟩, rfl⟩

theorem quotient_zero (a : Int) (w : World) :
    Calls Tryz.prog 104 #[.int .i64 a, .int .i64 0] w fun e w' => e = .returned (.tuple #[nul, .int .i64 0]) ∧ Below w.heap.size w w' := by
  go_enter Tryz.func104, Tryz.ntmps104
  go_wp2_with fail
  exact bodyPost_ret (v := .tuple #[nul, .int .i64 0]) (by simp [results, Tryz.results104, go_sem]) rfl ⟨rfl, (Below.refl _ _).alloc (Nat.le_refl _) _⟩

theorem quotient_far (w : World) :
    Calls Tryz.prog 104 #[.int .i64 (-9223372036854775808), .int .i64 (-1)] w fun e w' => e = .returned (.tuple #[nul, .int .i64 20]) ∧ Below w.heap.size w w' := by
  go_enter Tryz.func104, Tryz.ntmps104
  go_wp2_with (go_at_call 126; refine (isTooFar_any _ _ _).mono ?_; rintro e w1 ⟨rfl, rfl⟩)
  exact bodyPost_ret (v := .tuple #[nul, .int .i64 20]) (by simp [results, Tryz.results104, go_sem]) rfl ⟨rfl, (Below.refl _ _).alloc (Nat.le_refl _) _⟩

theorem tdiv_64 {a b : Int} (ha : In64 a) (hf : ¬ (a = -9223372036854775808 ∧ b = -1)) : In64 (a.tdiv b) := by
  have h1 : (a.tdiv b).natAbs ≤ a.natAbs := by rw [Int.natAbs_tdiv]; exact Nat.div_le_self _ _
  unfold In64 at *
  by_cases hq : a.tdiv b = 9223372036854775808
  · exfalso
    have h2 : a = -9223372036854775808 := by omega
    have h3 : (a.tdiv b).natAbs = a.natAbs / b.natAbs := Int.natAbs_tdiv a b
    rw [hq, h2] at h3
    have h4 : b.natAbs ≠ 1 := by
      intro h5
      have : b = 1 ∨ b = -1 := by omega
      rcases this with rfl | rfl
      · rw [Int.tdiv_one] at hq; omega
      · exact hf ⟨h2, rfl⟩
    by_cases h0 : b.natAbs = 0
    · rw [h0, Nat.div_zero] at h3; omega
    · have h5 : 2 ≤ b.natAbs := by omega
      have h6 : (-9223372036854775808 : Int).natAbs / b.natAbs ≤ (-9223372036854775808 : Int).natAbs / 2 := Nat.div_le_div_left h5 (by omega)
      omega
  · omega
theorem tmod_64 {a b : Int} (ha : In64 a) : In64 (a.tmod b) := by
  have h1 : (a.tmod b).natAbs ≤ a.natAbs := by rw [Int.natAbs_tmod]; exact Nat.mod_le _ _
  have h2 := Int.tmod_nonneg (a := a) b
  have h3 := Int.tmod_nonneg (a := -a) b
  rw [Int.neg_tmod] at h3
  unfold In64 at *
  omega

theorem quotient_any (a b : Int) (w : World) (ha : In64 a) (h0 : b ≠ 0) (hf : ¬ (a = -9223372036854775808 ∧ b = -1)) :
    Calls Tryz.prog 104 #[.int .i64 a, .int .i64 b] w fun e w' => e = .returned (.tuple #[vv 1 (a.tdiv b) ⟨#[]⟩, .int .i64 0]) ∧ Below w.heap.size w w' := by
  have hb0 : (b == 0) = false := by simpa using h0
  have hfb : (a == -9223372036854775808 && b == -1) = false := by
    rw [Bool.eq_false_iff]
    intro hx
    simp only [Bool.and_eq_true, beq_iff_eq] at hx
    exact hf hx
  have HQ := Lib.hid (wrap_in (tdiv_64 ha hf))
  clear ha
  go_enter Tryz.func104, Tryz.ntmps104
  go_wp2_with (first
    | (go_at_call 126; refine (isTooFar_any _ _ _).mono ?_; rintro e w1 ⟨rfl, rfl⟩; rw [hfb])
    | (go_at_call 81; refine (intValue_any _ _).mono ?_; rintro e w1 ⟨rfl, hb⟩; rw [HQ.out]; obtain ⟨hc, hf⟩ := bcell hb; have hz : w.heap.size < w1.heap.size := by have := hb.size; simp at this; omega))
  exact bodyPost_ret (v := .tuple #[vv 1 (a.tdiv b) ⟨#[]⟩, .int .i64 0]) (by simp [results, Tryz.results104, go_sem, hc]) rfl ⟨rfl, ((((Below.refl _ _).alloc (Nat.le_refl _) _).trans (hb.mono (by simp))).setCell (by simp) _ |>.setCell (by simp) _ |>.setCell (by simp) _)⟩

theorem rest_zero (a : Int) (w : World) :
    Calls Tryz.prog 105 #[.int .i64 a, .int .i64 0] w fun e w' => e = .returned nul ∧ Below w.heap.size w w' := by
  go_enter Tryz.func105, Tryz.ntmps105
  go_wp2_with fail
  exact bodyPost_ret (v := nul) (by simp [results, Tryz.results105, go_sem]) rfl ⟨rfl, (Below.refl _ _).alloc (Nat.le_refl _) _⟩

theorem rest_any (a b : Int) (w : World) (ha : In64 a) (h0 : b ≠ 0) :
    Calls Tryz.prog 105 #[.int .i64 a, .int .i64 b] w fun e w' => e = .returned (vv 1 (a.tmod b) ⟨#[]⟩) ∧ Below w.heap.size w w' := by
  have hb0 : (b == 0) = false := by simpa using h0
  have HQ := Lib.hid (wrap_in (tmod_64 (b := b) ha))
  clear ha
  go_enter Tryz.func105, Tryz.ntmps105
  go_wp2_with (go_at_call 81; refine (intValue_any _ _).mono ?_; rintro e w1 ⟨rfl, hb⟩; (try rw [HQ.out]); obtain ⟨hc, hf⟩ := bcell hb; have hz : w.heap.size < w1.heap.size := by have := hb.size; simp at this; omega)
  exact bodyPost_ret (v := vv 1 (a.tmod b) ⟨#[]⟩) (by simp [results, Tryz.results105, go_sem, hc]) rfl ⟨rfl, ((((Below.refl _ _).alloc (Nat.le_refl _) _).trans (hb.mono (by simp))).setCell (by simp) _ |>.setCell (by simp) _ |>.setCell (by simp) _)⟩

/-- one of three -/
def cmp3 (a b : Int) : Int := if a < b then -1 else if b < a then 1 else 0

theorem cmpKind_any (a b : Int) (w : World) :
    Calls Tryz.prog 128 #[.int .u8 a, .int .u8 b] w fun e w' => e = .returned (.int .i64 (cmp3 a b)) ∧ w = w' := by
  go_enter Tryz.func128, Tryz.ntmps128
  go_wp2
  all_goals (go_ret; exact ⟨ret_i (by unfold cmp3; (repeat' split) <;> omega), rfl⟩)

theorem cmpInt_any (a b : Int) (w : World) :
    Calls Tryz.prog 129 #[.int .i64 a, .int .i64 b] w fun e w' => e = .returned (.int .i64 (cmp3 a b)) ∧ w = w' := by
  go_enter Tryz.func129, Tryz.ntmps129
  go_wp2
  all_goals (go_ret; exact ⟨ret_i (by unfold cmp3; (repeat' split) <;> omega), rfl⟩)
end Go.Proofs.YteijijoiifbjlaaGreatDoor
