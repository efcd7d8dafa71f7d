/-
  Layer 9: the document's own answer: what is passed over. Conditions: sizes.
-/
import Derived.Test.YtceknmibopnmhaaDoorWRefA
namespace Go.Proofs.YtceknmibopnmhaaDoor
open Go.ChangeShapes Go.WideShapes Go.ChangeAt Go.RowKit
set_option linter.unusedVariables false

theorem u8eq {c : UInt8} {n : Nat} (h : c.toNat = n) (hn : n < 256) : c = n.toUInt8 := by
  rw [← UInt8.toNat_inj, h]
  simp only [Nat.toUInt8, UInt8.toNat_ofNat']
  omega
theorem u8ne {c : UInt8} {n : Nat} (h : c.toNat ≠ n) : c ≠ n.toUInt8 ∨ 256 ≤ n := by
  by_cases hn : n < 256
  · exact .inl fun e => h (by rw [e]; simp only [Nat.toUInt8, UInt8.toNat_ofNat']; omega)
  · exact .inr (by omega)
theorem blk_n (c : UInt8) : M.blk c = decide (c.toNat = 9 ∨ c.toNat = 10 ∨ c.toNat = 13 ∨ c.toNat = 32) := by
  unfold M.blk
  rw [Bool.eq_iff_iff]
  simp [← UInt8.toNat_inj, or_assoc]
set_option maxRecDepth 100000 in
set_option maxHeartbeats 1000000 in
theorem rpassed_any (s : ByteArray) (a : Nat) (w : World) (hs : s.size ≤ 65536) (ha : a ≤ s.size) (T : Nat) (hT : a + M.pass (s.data.toList.drop a) false = T) :
    Calls Tryd.prog 13 #[.string s, .int .i64 (a : Int)] w fun e w' => e = .returned (.int .i64 (T : Int)) ∧ w = w' := by
  go_enter Tryd.func13, Tryd.ntmps13
  go_wp2_with fail
  go_loop [1] (fun n => ∃ k : Nat, k ≤ s.size ∧ n = .int .i64 (k : Int) ∧ k + M.pass (s.data.toList.drop k) false = T) (fun n => s.size - (intOf n).toNat)
  case atStart => exact ⟨a, ha, rfl, hT⟩
  case round =>
    obtain ⟨k, hk, rfl, hp⟩ := hrel
    clear hT ha
    by_cases hlt : k < s.size
    · rw [drop_at s k hlt] at hp
      have hc := (s[k]).toNat_lt
      obtain ⟨n, hn⟩ : ∃ n, (s[k]).toNat = n := ⟨_, rfl⟩
      rw [hn] at hc
      have HN := Lib.hid hn
      have hsk : (s[k].toNat : Int) = (n : Int) := by omega
      clear hn
      by_cases hrm : n = 45 ∧ ∃ h2 : k + 1 < s.size, s[k + 1].toNat = 45
      · obtain ⟨h45, h2, h3⟩ := hrm
        have hn1 : ((n : Int) == 45) = true := by simp [h45]
        have hsk2 : (s[k + 1].toNat : Int) = 45 := by omega
        have HP := Lib.hid (show k + M.pass (s.data.toList.drop k) true = T by
          rw [← hp, drop_at s k hlt, drop_at s (k + 1) h2]
          have e1 : s[k] = 45 := u8eq (n := 45) (by rw [HN.out]; exact h45) (by omega)
          have e2 : s[k + 1] = 45 := u8eq (n := 45) h3 (by omega)
          rw [e1, e2, M.pass_open])
        have HK := Lib.hid (show s[k].toNat ≠ 10 by rw [HN.out]; omega)
        clear hp h45 h3
        go_wp2_with fail
        go_loop [1] (fun v => ∃ m : Nat, k ≤ m ∧ m ≤ s.size ∧ v = .int .i64 (m : Int) ∧ m + M.pass (s.data.toList.drop m) true = T) (fun v => s.size - (intOf v).toNat)
        case atStart => exact ⟨k, Nat.le_refl _, hk, rfl, HP.out⟩
        case round =>
          obtain ⟨m, hkm, hms, rfl, hpm⟩ := hrel
          by_cases hml : m < s.size
          · rw [drop_at s m hml] at hpm
            by_cases h10 : s[m].toNat = 10
            · have hz : (s[m].toNat : Int) = 10 := by omega
              have HF := Lib.hid (show k < m ∧ m + M.pass (s.data.toList.drop m) false = T by
                refine ⟨Nat.lt_of_le_of_ne hkm (fun e => HK.out (by subst e; exact h10)), ?_⟩
                rw [← hpm, drop_at s m hml, show s[m] = 10 from u8eq (n := 10) h10 (by omega), M.pass_out])
              clear hpm h10
              go_wp2_with fail
              go_round
              case rel => exact ⟨m, hms, rfl, HF.out.2⟩
              case measure => have := HF.out.1; simp [intOf]; omega
            · have hz : ((s[m].toNat : Int) == 10) = false := beq_eq_false_iff_ne.2 (by omega)
              have hz2 : ¬ (s[m].toNat : Int) = 10 := by omega
              have HF := Lib.hid (show m + 1 + M.pass (s.data.toList.drop (m + 1)) true = T by
                rw [← hpm, M.pass_in _ (fun e => h10 (by rw [e]; rfl))]
                omega)
              clear hpm h10
              go_wp2_with fail
              go_round
              case rel => exact ⟨m + 1, by omega, hml, by go_num, HF.out⟩
              case measure => simp [intOf]; omega
          · obtain rfl : m = s.size := by omega
            have HF := Lib.hid (show s.size + M.pass (s.data.toList.drop s.size) false = T by
              rw [← hpm, List.drop_of_length_le (by simp)]
              rfl)
            clear hpm
            go_wp2_with fail
            go_round
            case rel => exact ⟨s.size, Nat.le_refl _, rfl, HF.out⟩
            case measure => simp [intOf]; omega
      · by_cases hbk : n = 9 ∨ n = 10 ∨ n = 13 ∨ n = 32
        · have HF := Lib.hid (show k + 1 + M.pass (s.data.toList.drop (k + 1)) false = T by
            rw [← hp, M.pass_blank _ (by rw [blk_n, HN.out]; exact decide_eq_true hbk)]
            omega)
          have h45 : ((n : Int) == 45) = false := beq_eq_false_iff_ne.2 (by omega)
          clear hp hrm
          rcases hbk with h | h | h | h
          · have e1 : ((n : Int) == 9) = true := by simp [h]
            clear h
            go_wp2_with fail
            go_round
            case rel => exact ⟨k + 1, hlt, by go_num, HF.out⟩
            case measure => simp [intOf]; omega
          · have e1 : ((n : Int) == 9) = false := by simp [h]
            have e2 : ((n : Int) == 10) = true := by simp [h]
            clear h
            go_wp2_with fail
            go_round
            case rel => exact ⟨k + 1, hlt, by go_num, HF.out⟩
            case measure => simp [intOf]; omega
          · have e1 : ((n : Int) == 9) = false := by simp [h]
            have e2 : ((n : Int) == 10) = false := by simp [h]
            have e3 : ((n : Int) == 13) = true := by simp [h]
            clear h
            go_wp2_with fail
            go_round
            case rel => exact ⟨k + 1, hlt, by go_num, HF.out⟩
            case measure => simp [intOf]; omega
          · have e1 : ((n : Int) == 9) = false := by simp [h]
            have e2 : ((n : Int) == 10) = false := by simp [h]
            have e3 : ((n : Int) == 13) = false := by simp [h]
            have e4 : ((n : Int) == 32) = true := by simp [h]
            clear h
            go_wp2_with fail
            go_round
            case rel => exact ⟨k + 1, hlt, by go_num, HF.out⟩
            case measure => simp [intOf]; omega
        · have e1 : ((n : Int) == 9) = false := beq_eq_false_iff_ne.2 (by omega)
          have e2 : ((n : Int) == 10) = false := beq_eq_false_iff_ne.2 (by omega)
          have e3 : ((n : Int) == 13) = false := beq_eq_false_iff_ne.2 (by omega)
          have e4 : ((n : Int) == 32) = false := beq_eq_false_iff_ne.2 (by omega)
          have HF := Lib.hid (show k = T by
            rw [M.pass_stop _ (by rw [blk_n, HN.out]; exact decide_eq_false hbk) (by
              rintro ⟨h1, h2⟩
              refine hrm ⟨by rw [← HN.out, h1]; rfl, ?_⟩
              by_cases h3 : k + 1 < s.size
              · refine ⟨h3, ?_⟩
                rw [drop_at s (k + 1) h3] at h2
                have h4 : s[k + 1] = 45 := by simpa using h2
                rw [h4]; rfl
              · rw [List.drop_of_length_le (by simp; omega)] at h2
                cases h2)] at hp
            exact hp)
          clear hp hbk
          by_cases h45 : n = 45
          · have e5 : ((n : Int) == 45) = true := by simp [h45]
            by_cases h2 : k + 1 < s.size
            · have hz : ((s[k + 1].toNat : Int) == 45) = false := beq_eq_false_iff_ne.2 fun e => hrm ⟨h45, h2, by omega⟩
              have hz2 : ¬ (s[k + 1].toNat : Int) = 45 := beq_eq_false_iff_ne.1 hz
              clear hrm h45
              go_wp2_with fail
              go_ret
              exact ⟨ret_i (by rw [HF.out]), rfl⟩
            · clear hrm h45
              go_wp2_with fail
              go_ret
              exact ⟨ret_i (by rw [HF.out]), rfl⟩
          · have e5 : ((n : Int) == 45) = false := beq_eq_false_iff_ne.2 (by omega)
            clear hrm h45
            go_wp2_with fail
            go_ret
            exact ⟨ret_i (by rw [HF.out]), rfl⟩
    · obtain rfl : k = s.size := by omega
      have HF := Lib.hid (show s.size = T by
        have h := hp
        rw [List.drop_of_length_le (by simp)] at h
        exact h)
      clear hp
      go_wp2_with fail
      go_ret
      exact ⟨ret_i (by rw [HF.out]), rfl⟩
end Go.Proofs.YtceknmibopnmhaaDoor
