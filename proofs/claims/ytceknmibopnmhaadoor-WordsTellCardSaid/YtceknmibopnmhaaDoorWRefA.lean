/-
  Layer 9: the document's own answer: digit, letter, half, what is passed over. Conditions: sizes.
-/
import Derived.Test.YtceknmibopnmhaaDoorWPass
import Derived.Test.YtceknmibopnmhaaDoorWRefM
namespace Go.Proofs.YtceknmibopnmhaaDoor
open Go.ChangeShapes Go.WideShapes Go.ChangeAt Go.RowKit
set_option linter.unusedVariables false

theorem rdigit_any (c : UInt8) (w : World) : Calls Tryd.prog 34 #[.int .u8 (c.toNat : Int)] w fun e w' => e = .returned (.bool (M.dg c)) ∧ w = w' := by
  have hc := c.toNat_lt
  have HS := Lib.hid (show M.dg c = decide (48 ≤ c.toNat ∧ c.toNat ≤ 57) from rfl)
  generalize M.dg c = d at HS ⊢
  generalize c.toNat = n at hc HS ⊢
  by_cases h1 : 48 ≤ n
  · have HD := Lib.hid (show decide ((n : Int) ≤ 57) = d by rw [HS.out, decide_eq_decide]; omega)
    go_enter Tryd.func34, Tryd.ntmps34
    go_wp2
    go_ret
    exact ⟨ret_b HD.out, rfl⟩
  · have HD := Lib.hid (show false = d by rw [HS.out, decide_eq_false (by omega)])
    go_enter Tryd.func34, Tryd.ntmps34
    go_wp2
    go_ret
    exact ⟨ret_b HD.out, rfl⟩
theorem nm_n (c : UInt8) : M.nm c = decide ((97 ≤ c.toNat ∧ c.toNat ≤ 122) ∨ (65 ≤ c.toNat ∧ c.toNat ≤ 90) ∨ c.toNat = 95) := by
  have hE : (c == 95) = decide (c.toNat = 95) := by rw [Bool.eq_iff_iff]; simp [← UInt8.toNat_inj]
  have hc := c.toNat_lt
  unfold M.nm
  rw [hE, M.sm_n, Bool.eq_iff_iff]
  simp only [Bool.or_eq_true, decide_eq_true_eq]
  split <;> omega
theorem rletter_any (c : UInt8) (w : World) : Calls Tryd.prog 35 #[.int .u8 (c.toNat : Int)] w fun e w' => e = .returned (.bool (M.nm c)) ∧ w = w' := by
  have hc := c.toNat_lt
  have HS := Lib.hid (nm_n c)
  generalize M.nm c = d at HS ⊢
  generalize c.toNat = n at hc HS ⊢
  by_cases h1 : 97 ≤ n
  · by_cases h2 : n ≤ 122
    · have HD := Lib.hid (show true = d by rw [HS.out]; symm; exact decide_eq_true (by omega))
      go_enter Tryd.func35, Tryd.ntmps35
      go_wp2
      go_ret
      exact ⟨ret_b HD.out, rfl⟩
    · have HD := Lib.hid (show false = d by rw [HS.out]; symm; exact decide_eq_false (by omega))
      have h3 : ¬ n ≤ 90 := by omega
      have h4 : 65 ≤ n := by omega
      have h5 : ((n : Int) == 95) = false := beq_eq_false_iff_ne.2 (by omega)
      go_enter Tryd.func35, Tryd.ntmps35
      go_wp2
      go_ret
      exact ⟨ret_b (by rw [← HD.out, decide_eq_false (by omega), decide_eq_false (by omega)]; rfl), rfl⟩
  · by_cases h2 : 65 ≤ n
    · by_cases h3 : n ≤ 90
      · have HD := Lib.hid (show true = d by rw [HS.out]; symm; exact decide_eq_true (by omega))
        go_enter Tryd.func35, Tryd.ntmps35
        go_wp2
        go_ret
        exact ⟨ret_b HD.out, rfl⟩
      · have HD := Lib.hid (show decide (n = 95) = d by rw [HS.out, decide_eq_decide]; omega)
        by_cases h4 : n = 95
        · have h5 : ((n : Int) == 95) = true := by simp [h4]
          have HD := Lib.hid (show true = d by rw [← HD.out, decide_eq_true h4])
          clear h4
          go_enter Tryd.func35, Tryd.ntmps35
          go_wp2
          go_ret
          exact ⟨ret_b HD.out, rfl⟩
        · have h5 : ((n : Int) == 95) = false := beq_eq_false_iff_ne.2 (by omega)
          have HD := Lib.hid (show false = d by rw [← HD.out, decide_eq_false h4])
          go_enter Tryd.func35, Tryd.ntmps35
          go_wp2
          go_ret
          exact ⟨ret_b (by rw [← HD.out, decide_eq_false (by omega)]), rfl⟩
    · have HD := Lib.hid (show false = d by rw [HS.out]; symm; exact decide_eq_false (by omega))
      have h5 : ((n : Int) == 95) = false := beq_eq_false_iff_ne.2 (by omega)
      go_enter Tryd.func35, Tryd.ntmps35
      go_wp2
      go_ret
      exact ⟨ret_b HD.out, rfl⟩
theorem rhalf_any (c : UInt8) (w : World) : Calls Tryd.prog 53 #[.int .u8 (c.toNat : Int)] w fun e w' => e = .returned (.int .i64 (M.hxN c.toNat)) ∧ w = w' := by
  have hc := c.toNat_lt
  have HC := Lib.hid (rdigit_any c)
  have HG := Lib.hid (show M.dg c = decide (48 ≤ c.toNat ∧ c.toNat ≤ 57) from rfl)
  generalize M.dg c = d at HC HG
  generalize c.toNat = n at hc HC HG ⊢
  obtain ⟨r, HX⟩ : ∃ r, Hid (M.hxN n = r) := ⟨_, Lib.hid rfl⟩
  rw [HX.out]
  have HY := Lib.hid (HX.out)
  unfold M.hxN at HY
  cases d
  · have hd : ¬ (48 ≤ n ∧ n ≤ 57) := of_decide_eq_false HG.out.symm
    by_cases h1 : 97 ≤ n ∧ n ≤ 102
    · have HR := Lib.hid (show (n : Int) - 97 + 10 = r by have := HY.out; rw [if_neg hd, if_pos h1] at this; omega)
      obtain ⟨h1, h2⟩ := h1
      clear hd
      go_enter Tryd.func53, Tryd.ntmps53
      go_wp2_with (go_at_call 34; refine (HC.out _).mono ?_; rintro e w' ⟨rfl, rfl⟩)
      go_ret
      exact ⟨ret_i (by have := HR.out; omega), rfl⟩
    · by_cases h2 : 65 ≤ n ∧ n ≤ 70
      · have HR := Lib.hid (show (n : Int) - 65 + 10 = r by have := HY.out; rw [if_neg hd, if_neg h1, if_pos h2] at this; omega)
        obtain ⟨h2, h3⟩ := h2
        have h4 : ¬ 97 ≤ n := by omega
        clear hd h1
        go_enter Tryd.func53, Tryd.ntmps53
        go_wp2_with (go_at_call 34; refine (HC.out _).mono ?_; rintro e w' ⟨rfl, rfl⟩)
        go_ret
        exact ⟨ret_i (by have := HR.out; omega), rfl⟩
      · have HR := Lib.hid (show -1 = r by have := HY.out; rw [if_neg hd, if_neg h1, if_neg h2] at this; omega)
        clear hd
        by_cases h3 : 97 ≤ n
        · have h4 : ¬ n ≤ 102 := by omega
          have h5 : 65 ≤ n := by omega
          have h6 : ¬ n ≤ 70 := by omega
          clear h1 h2
          go_enter Tryd.func53, Tryd.ntmps53
          go_wp2_with (go_at_call 34; refine (HC.out _).mono ?_; rintro e w' ⟨rfl, rfl⟩)
          go_ret
          exact ⟨ret_i HR.out, rfl⟩
        · by_cases h5 : 65 ≤ n
          · have h6 : ¬ n ≤ 70 := by omega
            clear h1 h2
            go_enter Tryd.func53, Tryd.ntmps53
            go_wp2_with (go_at_call 34; refine (HC.out _).mono ?_; rintro e w' ⟨rfl, rfl⟩)
            go_ret
            exact ⟨ret_i HR.out, rfl⟩
          · clear h1 h2
            go_enter Tryd.func53, Tryd.ntmps53
            go_wp2_with (go_at_call 34; refine (HC.out _).mono ?_; rintro e w' ⟨rfl, rfl⟩)
            go_ret
            exact ⟨ret_i HR.out, rfl⟩
  · have hd : 48 ≤ n ∧ n ≤ 57 := of_decide_eq_true HG.out.symm
    have HR := Lib.hid (show (n : Int) - 48 = r by have := HY.out; rw [if_pos hd] at this; omega)
    obtain ⟨h1, h2⟩ := hd
    go_enter Tryd.func53, Tryd.ntmps53
    go_wp2_with (go_at_call 34; refine (HC.out _).mono ?_; rintro e w' ⟨rfl, rfl⟩)
    go_ret
    exact ⟨ret_i (by have := HR.out; omega), rfl⟩
theorem drop_at (s : ByteArray) (k : Nat) (h : k < s.size) : s.data.toList.drop k = s[k] :: s.data.toList.drop (k + 1) := by
  have h2 : k < s.data.toList.length := by simpa using h
  rw [List.drop_eq_getElem_cons h2]
  rfl
end Go.Proofs.YtceknmibopnmhaaDoor
