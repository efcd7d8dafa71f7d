/-
  The number at the begin of a text (layer 2, value): what isBlank, leadingDigits and leadingInt answer. Conditions: texts of less than 2^62 bytes.
-/
import Derived.Test.YteijijoiifbjlaaGreatDoorVNum
import Derived.Lib.Strings
import Derived.Lib.IndexBytes
namespace Go.Proofs.YteijijoiifbjlaaGreatDoor
open Go.ChangeShapes Go.WideShapes Go.ChangeAt Go.RowKit
set_option linter.unusedVariables false

/-- may the byte stand ahead of a number? -/
def blankB (c : Nat) : Bool := c == 32 || (decide (9 ≤ c) && decide (c ≤ 13))
theorem isBlank_any (c : Nat) (w : World) :
    Calls Tryz.prog 84 #[.int .u8 c] w fun e w' => e = .returned (.bool (blankB c)) ∧ w = w' := by
  by_cases h1 : c = 32
  · subst h1
    go_enter Tryz.func84, Tryz.ntmps84
    go_wp2
    go_ret
    exact ⟨rfl, rfl⟩
  · have e1 : ((c : Int) == 32) = false := by simp; omega
    have h4 : (c == 32) = false := by simpa using h1
    by_cases h2 : 9 ≤ c
    · by_cases h3 : c ≤ 13
      · have e3 : decide ((c : Int) ≤ 13) = true := decide_eq_true (by omega)
        have HB := Lib.hid (show true = blankB c by simp [blankB, h2, h3])
        go_enter Tryz.func84, Tryz.ntmps84
        go_wp2
        go_ret
        exact ⟨ret_b HB.out, rfl⟩
      · have e3 : decide ((c : Int) ≤ 13) = false := decide_eq_false (by omega)
        have HB := Lib.hid (show false = blankB c by simp [blankB, h4, h3])
        go_enter Tryz.func84, Tryz.ntmps84
        go_wp2
        go_ret
        exact ⟨ret_b HB.out, rfl⟩
    · have HB := Lib.hid (show false = blankB c by simp [blankB, h4, h2])
      go_enter Tryz.func84, Tryz.ntmps84
      go_wp2
      go_ret
      exact ⟨ret_b HB.out, rfl⟩

/-- the number that digits tell, or 2^63 -/
def digsGo : Nat → List UInt8 → Nat
  | acc, [] => acc
  | acc, c :: r => if c.toNat < 48 ∨ 57 < c.toNat then acc else if 922337203685477580 < acc then 9223372036854775808 else digsGo (min (acc * 10 + (c.toNat - 48)) 9223372036854775808) r
theorem digsGo_le : ∀ (l : List UInt8) (acc : Nat), acc ≤ 9223372036854775808 → digsGo acc l ≤ 9223372036854775808
  | [], acc, h => h
  | c :: r, acc, h => by
    unfold digsGo
    split
    · exact h
    · split
      · exact Nat.le_refl _
      · exact digsGo_le r _ (Nat.min_le_right _ _)

def DigRel (s : ByteArray) (n i : Value) : Prop :=
  ∃ (k : Nat) (z : Int), k ≤ s.size ∧ i = .int .i64 k ∧ n = .int .u64 z ∧ 0 ≤ z ∧ z ≤ 9223372036854775808 ∧ digsGo 0 s.data.toList = digsGo z.toNat (s.data.toList.drop k)

theorem get_drop (s : ByteArray) (k : Nat) (h : k < s.size) : s.data.toList.drop k = s[k] :: s.data.toList.drop (k + 1) := by
  rw [List.drop_eq_getElem_cons (by simpa using h)]
  rfl

set_option maxHeartbeats 400000 in
theorem leadingDigits_any (s : ByteArray) (w : World) (hs : s.size ≤ 4611686018427387904) :
    Calls Tryz.prog 85 #[.string s] w fun e w' => e = .returned (.int .u64 (digsGo 0 s.data.toList : Nat)) ∧ w = w' := by
  go_enter Tryz.func85, Tryz.ntmps85
  go_wp2
  go_loop [3, 7] (fun n i => DigRel s n i) (fun _ i => s.size - (intOf i).toNat)
  case atStart => exact ⟨0, 0, Nat.zero_le _, rfl, rfl, by omega, by omega, rfl⟩
  case round =>
    obtain ⟨k, z, hk, rfl, rfl, hz0, hz1, he⟩ := hrel
    by_cases hlt : k < s.size
    · have hd := get_drop s k hlt
      rw [hd] at he
      have HE := Lib.hid he
      clear he hd
      go_wp2
      · go_ret
        refine ⟨ret_i ?_, rfl⟩
        rw [HE.out, digsGo, if_pos (by omega)]
        omega
      · go_ret
        refine ⟨ret_i ?_, rfl⟩
        rw [HE.out, digsGo, if_neg (by omega), if_pos (by omega)]
        rfl
      · refine ⟨⟨k + 1, _, by omega, by go_num, rfl, ?_, ?_, ?_⟩, by simp [intOf]; omega⟩
        · split <;> omega
        · split <;> omega
        · rw [HE.out, digsGo, if_neg (by omega), if_neg (by omega)]
          congr 1
          split <;> omega
      · go_ret
        refine ⟨ret_i ?_, rfl⟩
        rw [HE.out, digsGo, if_pos (by omega)]
        omega
    · obtain rfl : k = s.size := by omega
      have HE := Lib.hid he
      clear he
      go_wp2
      go_ret
      refine ⟨ret_i ?_, rfl⟩
      rw [HE.out, List.drop_of_length_le (by simp), digsGo]
      omega

/-- the number at the begin of a text, behind blanks -/
def leadInt (l : List UInt8) : Int :=
  match l.dropWhile (fun c => blankB c.toNat) with
  | [] => 0
  | c :: r => if c.toNat = 45 then -(digsGo 0 r : Nat) else if c.toNat = 43 then min (digsGo 0 r : Nat) 9223372036854775807 else min (digsGo 0 (c :: r) : Nat) 9223372036854775807

def strOf : Value → ByteArray
  | .string s => s
  | _ => ⟨#[]⟩
def BlankRel (s : ByteArray) (v : Value) : Prop :=
  ∃ t : ByteArray, v = .string t ∧ t.size ≤ s.size ∧ s.data.toList.dropWhile (fun c => blankB c.toNat) = t.data.toList.dropWhile (fun c => blankB c.toNat)

theorem tail_list (s : ByteArray) (h : 0 < s.size) : s.data.toList = s[0] :: (s.extract 1 s.size).data.toList := by
  have h1 := get_drop s 0 h
  rw [List.drop_zero] at h1
  rw [Lib.extract_to_end]
  exact h1
theorem nil_list (s : ByteArray) (h : s.size = 0) : s.data.toList = [] := by
  rcases s with ⟨⟨l⟩⟩
  exact List.eq_nil_of_length_eq_zero h
theorem nil_bytes (s : ByteArray) (h : s.size = 0) : s = ⟨#[]⟩ := by
  rcases s with ⟨⟨l⟩⟩
  have : l = [] := List.eq_nil_of_length_eq_zero h
  rw [this]

theorem neg_far (z : Int) (h0 : 0 ≤ z) (h1 : z ≤ 9223372036854775808) : wrap64 (-wrap64 z) = -z := by
  rw [wrap_val, wrap_val]
  omega

theorem leadInt_nil {l t : List UInt8} (h : l.dropWhile (fun c => blankB c.toNat) = t.dropWhile (fun c => blankB c.toNat)) (ht : t = []) : leadInt l = 0 := by
  unfold leadInt
  rw [h, ht]
  rfl
theorem leadInt_cons {l t r : List UInt8} {c : UInt8} (h : l.dropWhile (fun c => blankB c.toNat) = t.dropWhile (fun c => blankB c.toNat)) (ht : t = c :: r) (hb : blankB c.toNat = false) :
    leadInt l = if c.toNat = 45 then -((digsGo 0 r : Nat) : Int) else if c.toNat = 43 then min ((digsGo 0 r : Nat) : Int) 9223372036854775807 else min ((digsGo 0 (c :: r) : Nat) : Int) 9223372036854775807 := by
  unfold leadInt
  rw [h, ht, List.dropWhile_cons_of_neg (by simp [hb])]

set_option maxHeartbeats 400000 in
theorem leadingInt_any (s : ByteArray) (w : World) (hs : s.size ≤ 4611686018427387904) :
    Calls Tryz.prog 62 #[.string s] w fun e w' => e = .returned (.int .i64 (leadInt s.data.toList)) ∧ w = w' := by
  go_enter Tryz.func62, Tryz.ntmps62
  go_wp2_with fail
  go_loop [0] (fun v => BlankRel s v) (fun v => (strOf v).size)
  case atStart => exact ⟨s, rfl, Nat.le_refl _, rfl⟩
  case round =>
    obtain ⟨t, rfl, ht, he⟩ := hrel
    have HE := Lib.hid he
    clear he
    by_cases h0 : t.size = 0
    · obtain rfl := nil_bytes t h0
      have HN := Lib.hid (leadInt_nil HE.out rfl)
      clear h0
      go_wp2_with (go_at_call 85; refine (leadingDigits_any _ _ (by omega)).mono ?_; rintro e w' ⟨rfl, rfl⟩)
      go_ret
      exact ⟨ret_i HN.out.symm, rfl⟩
    · have hlt : 0 < t.size := by omega
      have hne : t.toList.isEmpty = false := by rw [isEmpty_iff]; simpa using h0
      have HT := Lib.hid (tail_list t hlt)
      have hts : (t.extract 1 t.size).size ≤ 4611686018427387904 := by rw [ByteArray.size_extract]; omega
      cases hb : blankB t[0].toNat
      · have HL := Lib.hid (leadInt_cons HE.out HT.out hb)
        by_cases h45 : t[0].toNat = 45
        · have e45 : ((t[0].toNat : Int) == 45) = true := by rw [h45]; rfl
          rw [if_pos h45] at HL
          clear h45
          go_wp2_with (first
            | (go_at_call 84; refine (isBlank_any _ _).mono ?_; rintro e w' ⟨rfl, rfl⟩; rw [hb])
            | (go_at_call 85; refine (leadingDigits_any _ _ hts).mono ?_; rintro e w' ⟨rfl, rfl⟩; have hz1 := digsGo_le (t.extract 1 t.size).data.toList 0 (by omega); generalize hz : ((digsGo 0 (t.extract 1 t.size).data.toList : Nat) : Int) = z at *; have HZ0 := Lib.hid (show 0 ≤ z ∧ z ≤ 9223372036854775808 by omega); clear hz1 hz))
          go_ret
          exact ⟨ret_i (by rw [HL.out]; exact neg_far z HZ0.out.1 HZ0.out.2), rfl⟩
        · have e45 : ((t[0].toNat : Int) == 45) = false := by simp; omega
          rw [if_neg h45] at HL
          by_cases h43 : t[0].toNat = 43
          · have e43 : ((t[0].toNat : Int) == 43) = true := by rw [h43]; rfl
            rw [if_pos h43] at HL
            clear h43 h45
            go_wp2_with (first
              | (go_at_call 84; refine (isBlank_any _ _).mono ?_; rintro e w' ⟨rfl, rfl⟩; rw [hb])
              | (go_at_call 85; (refine (leadingDigits_any _ _ hts).mono ?_; rintro e w' ⟨rfl, rfl⟩; have hz1 := digsGo_le (t.extract 1 t.size).data.toList 0 (by omega); generalize hz : ((digsGo 0 (t.extract 1 t.size).data.toList : Nat) : Int) = z at *; have hz0 : 0 ≤ z := (by omega); have hz2 : z ≤ 9223372036854775808 := (by omega); clear hz1 hz)))
            all_goals (go_ret; exact ⟨ret_i (by rw [HL.out]; omega), rfl⟩)
          · have e43 : ((t[0].toNat : Int) == 43) = false := by simp; omega
            rw [if_neg h43] at HL
            rw [← HT.out] at HL
            clear h43 h45
            go_wp2_with (first
              | (go_at_call 84; refine (isBlank_any _ _).mono ?_; rintro e w' ⟨rfl, rfl⟩; rw [hb])
              | (go_at_call 85; refine (leadingDigits_any _ _ (by omega)).mono ?_; rintro e w' ⟨rfl, rfl⟩; have hz1 := digsGo_le t.data.toList 0 (by omega); generalize hz : ((digsGo 0 t.data.toList : Nat) : Int) = z at *; have hz0 : 0 ≤ z := (by omega); have hz2 : z ≤ 9223372036854775808 := (by omega); clear hz1 hz))
            all_goals (go_ret; exact ⟨ret_i (by rw [HL.out]; omega), rfl⟩)
      · have HD : Hid (s.data.toList.dropWhile (fun c => blankB c.toNat) = (t.extract 1 t.size).data.toList.dropWhile (fun c => blankB c.toNat)) := by
          refine Lib.hid ?_
          rw [HE.out, HT.out, List.dropWhile_cons_of_pos (by simp [hb])]
        go_wp2_with (go_at_call 84; refine (isBlank_any _ _).mono ?_; rintro e w' ⟨rfl, rfl⟩; rw [hb])
        refine ⟨⟨_, rfl, ?_, HD.out⟩, ?_⟩
        · rw [ByteArray.size_extract]; omega
        · show (t.extract 1 t.size).size < t.size
          rw [ByteArray.size_extract]; omega
end Go.Proofs.YteijijoiifbjlaaGreatDoor
