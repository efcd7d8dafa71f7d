/-
  Layer 9: bytes as letters, digits; runs of bytes, told by closures. Conditions: sizes.
-/
import Derived.Test.YtceknmibopnmhaaDoorRows
import Derived.WalkKit
import Derived.ProofKit
import Derived.OpenShut
import Derived.Below
import Derived.Carry
import Derived.LoopTactic
import Derived.Outline
import Derived.OwnWalk
import Derived.Lib.Hide
import Derived.WalkLawsBesides
import Derived.WalkSpells
import Derived.Deep.Draws
import Derived.Deep.QuietTactic
import Derived.BigQuiet
import Derived.Deep.RegionHeld
import Derived.Test.YtceknmibopnmhaaDoorWMath
import Derived.Test.YtceknmibopnmhaaDoorWShelf
namespace Go.Proofs.YtceknmibopnmhaaDoor
open Go.ChangeShapes Go.WideShapes Go.ChangeAt Go.RowKit
set_option linter.unusedVariables false

theorem ret_u {a b : Int} (h : a = b) : Ending.returned (.int .u8 a) = .returned (.int .u8 b) := by rw [h]
theorem ret_i {a b : Int} (h : a = b) : Ending.returned (.int .i64 a) = .returned (.int .i64 b) := by rw [h]
theorem ret_b {a b : Bool} (h : a = b) : Ending.returned (.bool a) = .returned (.bool b) := by rw [h]

theorem small_any (c : UInt8) (w : World) : Calls Tryd.prog 45 #[.int .u8 (c.toNat : Int)] w fun e w' => e = .returned (.int .u8 ((M.sm c).toNat : Int)) ∧ w = w' := by
  have hc := c.toNat_lt
  have HS := Lib.hid (M.sm_n c)
  generalize M.sm c = d at HS ⊢
  generalize c.toNat = n at hc HS ⊢
  by_cases h1 : 65 ≤ n
  · by_cases h2 : n ≤ 90
    · have HD := Lib.hid (show d.toNat = n + 32 by rw [HS.out, if_pos ⟨h1, h2⟩])
      go_enter Tryd.func45, Tryd.ntmps45
      go_wp2
      go_ret
      exact ⟨ret_u (by rw [HD.out]; omega), rfl⟩
    · have HD := Lib.hid (show d.toNat = n by rw [HS.out, if_neg (by omega)])
      go_enter Tryd.func45, Tryd.ntmps45
      go_wp2
      go_ret
      exact ⟨ret_u (by rw [HD.out]), rfl⟩
  · have HD := Lib.hid (show d.toNat = n by rw [HS.out, if_neg (by omega)])
    go_enter Tryd.func45, Tryd.ntmps45
    go_wp2
    go_ret
    exact ⟨ret_u (by rw [HD.out]), rfl⟩
theorem isDigit_any (c : UInt8) (w : World) : Calls Tryd.prog 26 #[.int .u8 (c.toNat : Int)] w fun e w' => e = .returned (.bool (M.dg c)) ∧ w = w' := by
  have hc := c.toNat_lt
  have HS := Lib.hid (show M.dg c = decide (48 ≤ c.toNat ∧ c.toNat ≤ 57) from rfl)
  generalize M.dg c = d at HS ⊢
  generalize c.toNat = n at hc HS ⊢
  by_cases h1 : 48 ≤ n
  · by_cases h2 : n ≤ 57
    · have HD := Lib.hid (show decide ((n : Int) ≤ 57) = d by rw [HS.out, decide_eq_decide]; omega)
      go_enter Tryd.func26, Tryd.ntmps26
      go_wp2
      go_ret
      exact ⟨ret_b HD.out, rfl⟩
    · have HD := Lib.hid (show decide ((n : Int) ≤ 57) = d by rw [HS.out, decide_eq_decide]; omega)
      go_enter Tryd.func26, Tryd.ntmps26
      go_wp2
      go_ret
      exact ⟨ret_b HD.out, rfl⟩
  · have HD := Lib.hid (show false = d by rw [HS.out, decide_eq_false (by omega)])
    go_enter Tryd.func26, Tryd.ntmps26
    go_wp2
    go_ret
    exact ⟨ret_b HD.out, rfl⟩
theorem hexDigit_any (c : UInt8) (w : World) : Calls Tryd.prog 47 #[.int .u8 (c.toNat : Int)] w fun e w' => e = .returned (.int .i64 (M.hxN c.toNat)) ∧ w = w' := by
  have HX := Lib.hid (M.hex_index c)
  have HT := Lib.hid (show ((M.sm c).toNat : Int).toNat.toUInt8 = M.sm c by simp)
  go_enter Tryd.func47, Tryd.ntmps47
  go_wp2_with fail
  refine (small_any c w).mono ?_
  rintro e w1 ⟨rfl, rfl⟩
  go_wp2_with fail
  refine (Tryd.strings_IndexByte _ _ _).mono ?_
  rintro e w1 ⟨rfl, hw⟩
  subst hw
  rw [HT.out]
  go_wp2_with fail
  go_ret
  exact ⟨ret_i HX.out, rfl⟩
theorem beginsName_any (c : UInt8) (w : World) : Calls Tryd.prog 28 #[.int .u8 (c.toNat : Int)] w fun e w' => e = .returned (.bool (M.nm c)) ∧ w = w' := by
  have hc := c.toNat_lt
  have hd := (M.sm c).toNat_lt
  have HE := Lib.hid (show (c == 95) = decide (c.toNat = 95) by rw [Bool.eq_iff_iff]; simp [← UInt8.toNat_inj])
  have HS := Lib.hid (show M.nm c = (decide (c.toNat = 95) || decide (97 ≤ (M.sm c).toNat ∧ (M.sm c).toNat ≤ 122)) by rw [← HE.out]; rfl)
  have HC := Lib.hid (small_any c)
  generalize M.nm c = r at HS ⊢
  generalize (M.sm c).toNat = m at hd HS HC
  generalize c.toNat = n at hc HS HC ⊢
  clear HE
  by_cases h0 : n = 95
  · have HD := Lib.hid (show true = r by rw [HS.out, decide_eq_true h0]; rfl)
    have h0' : ((n : Int) == 95) = true := by simp [h0]
    clear h0
    go_enter Tryd.func28, Tryd.ntmps28
    go_wp2_with fail
    go_ret
    exact ⟨ret_b HD.out, rfl⟩
  · have h0' : ((n : Int) == 95) = false := beq_eq_false_iff_ne.2 (by omega)
    by_cases h1 : 97 ≤ m
    · by_cases h2 : m ≤ 122
      · have HD := Lib.hid (show decide ((m : Int) ≤ 122) = r by rw [HS.out, decide_eq_false h0, Bool.false_or, decide_eq_decide]; omega)
        go_enter Tryd.func28, Tryd.ntmps28
        go_wp2_with (go_at_call 45; refine (HC.out _).mono ?_; rintro e w' ⟨rfl, rfl⟩)
        go_ret
        exact ⟨ret_b HD.out, rfl⟩
      · have HD := Lib.hid (show decide ((m : Int) ≤ 122) = r by rw [HS.out, decide_eq_false h0, Bool.false_or, decide_eq_decide]; omega)
        go_enter Tryd.func28, Tryd.ntmps28
        go_wp2_with (go_at_call 45; refine (HC.out _).mono ?_; rintro e w' ⟨rfl, rfl⟩)
        go_ret
        exact ⟨ret_b HD.out, rfl⟩
    · have HD := Lib.hid (show false = r by rw [HS.out, decide_eq_false h0, decide_eq_false (by omega)]; rfl)
      go_enter Tryd.func28, Tryd.ntmps28
      go_wp2_with (go_at_call 45; refine (HC.out _).mono ?_; rintro e w' ⟨rfl, rfl⟩)
      go_ret
      exact ⟨ret_b HD.out, rfl⟩
theorem nameOne_any (c : UInt8) (w : World) : Calls Tryd.prog 49 #[.int .u8 (c.toNat : Int)] w fun e w' => e = .returned (.bool (M.nmd c)) ∧ w = w' := by
  have HS := Lib.hid (show M.nmd c = (M.nm c || M.dg c) from rfl)
  have HB := Lib.hid (beginsName_any c)
  have HG := Lib.hid (isDigit_any c)
  generalize M.nmd c = r at HS ⊢
  generalize M.nm c = a at HS HB
  generalize M.dg c = b at HS HG
  cases a
  · have HD := Lib.hid (show b = r by rw [HS.out]; rfl)
    go_enter Tryd.func49, Tryd.ntmps49
    go_wp2_with fail
    refine (HB.out _).mono ?_
    rintro e w' ⟨rfl, rfl⟩
    go_wp2_with fail
    refine (HG.out _).mono ?_
    rintro e w' ⟨rfl, rfl⟩
    go_wp2_with fail
    go_ret
    exact ⟨ret_b HD.out, rfl⟩
  · have HD := Lib.hid (show true = r by rw [HS.out]; rfl)
    go_enter Tryd.func49, Tryd.ntmps49
    go_wp2_with fail
    refine (HB.out _).mono ?_
    rintro e w' ⟨rfl, rfl⟩
    go_wp2_with fail
    go_ret
    exact ⟨ret_b HD.out, rfl⟩
theorem blobOne_any (c : UInt8) (w : World) : Calls Tryd.prog 46 #[.int .u8 (c.toNat : Int)] w fun e w' => e = .returned (.bool (M.hxd c)) ∧ w = w' := by
  have HS := Lib.hid (show decide (0 ≤ M.hxN c.toNat) = M.hxd c from rfl)
  have HB := Lib.hid (hexDigit_any c)
  generalize M.hxd c = r at HS ⊢
  generalize M.hxN c.toNat = a at HS HB
  go_enter Tryd.func46, Tryd.ntmps46
  go_wp2_with fail
  refine (HB.out _).mono ?_
  rintro e w' ⟨rfl, rfl⟩
  go_wp2_with fail
  go_ret
  exact ⟨ret_b HS.out, rfl⟩
/-- what among(set) tells -/
theorem amongOne_any (l : List UInt8) (p : UInt8 → Bool) (hp : ∀ c, decide (0 ≤ Lib.indexByte l c) = p c) (b : Nat) (w : World) (hc : w.cell? ⟨b, 0, none⟩ = some (.string ⟨l.toArray⟩)) (c : UInt8) :
    Calls Tryd.prog 41 #[.int .u8 (c.toNat : Int), .pointer (some ⟨b, 0, none⟩)] w fun e w' => e = .returned (.bool (p c)) ∧ w = w' := by
  have HP := Lib.hid (hp c)
  have HT := Lib.hid (show (c.toNat : Int).toNat.toUInt8 = c by simp)
  clear hp
  go_enter Tryd.func41, Tryd.ntmps41
  go_wp2_with fail
  refine (Tryd.strings_IndexByte _ _ _).mono ?_
  rintro e w1 ⟨rfl, hw⟩
  subst hw
  rw [HT.out]
  dsimp only
  generalize Lib.indexByte l c = k at HP ⊢
  go_wp2_with fail
  go_ret
  exact ⟨ret_b HP.out, rfl⟩
theorem butOne_any (k : UInt8) (b : Nat) (w : World) (hc : w.cell? ⟨b, 0, none⟩ = some (.string ⟨#[k]⟩)) (c : UInt8) :
    Calls Tryd.prog 44 #[.int .u8 (c.toNat : Int), .pointer (some ⟨b, 0, none⟩)] w fun e w' => e = .returned (.bool (c != k)) ∧ w = w' := by
  have HP := Lib.hid (M.one_index k c)
  have HT := Lib.hid (show (c.toNat : Int).toNat.toUInt8 = c by simp)
  go_enter Tryd.func44, Tryd.ntmps44
  go_wp2_with fail
  refine (Tryd.strings_IndexByte _ _ _).mono ?_
  rintro e w1 ⟨rfl, hw⟩
  subst hw
  rw [HT.out]
  dsimp only
  generalize Lib.indexByte [k] c = j at HP ⊢
  go_wp2_with fail
  go_ret
  exact ⟨ret_b HP.out, rfl⟩

theorem tw_all_take {p : UInt8 → Bool} {l : List UInt8} {k : Nat} (h : (l.take k).all p = true) (hk : k ≤ l.length) (hn : ∀ c, l[k]? = some c → p c = false) : (l.takeWhile p).length = k := by
  have e : l.takeWhile p = l.take k := by
    conv => lhs; arg 2; rw [← List.take_append_drop k l]
    refine M.tw_append _ _ (fun c hc => List.all_eq_true.1 h c hc) (fun c hc => hn c ?_)
    rwa [List.head?_drop] at hc
  rw [e, List.length_take]
  omega
theorem get_at (s : ByteArray) (k : Nat) (h : k < s.size) : s.data.toList[k]? = some s[k] := by
  have : k < s.data.toList.length := by simpa using h
  rw [List.getElem?_eq_getElem this]
  rfl
set_option maxHeartbeats 400000 in
/-- how many bytes there are at the begin that belong -/
theorem run_any (p : UInt8 → Bool) (s : ByteArray) (g : Nat) (cap : Array Value) (w : World) (hs : s.size ≤ 281474976710656) (eg : ∀ args w, (callFunc g args).run Tryd.prog w = .ok (.enter g args) w)
    (hg : ∀ c : UInt8, Calls Tryd.prog g (#[.int .u8 (c.toNat : Int)] ++ cap) w fun e w' => e = .returned (.bool (p c)) ∧ w = w') :
    Calls Tryd.prog 20 #[.string s, .func (.func g) #[] cap] w fun e w' => e = .returned (.int .i64 ((s.data.toList.takeWhile p).length : Int)) ∧ w = w' := by
  have HG := Lib.hid hg
  clear hg
  go_enter Tryd.func20, Tryd.ntmps20
  go_wp2_with fail
  go_loop [5] (fun n => ∃ k : Nat, k ≤ s.size ∧ n = .int .i64 (k : Int) ∧ (s.data.toList.take k).all p = true) (fun n => s.size - (intOf n).toNat)
  case atStart => exact ⟨0, Nat.zero_le _, rfl, by simp⟩
  case round =>
    obtain ⟨k, hk, rfl, ha⟩ := hrel
    by_cases hlt : k < s.size
    · have HC := Lib.hid (HG.out s[k])
      have HA := Lib.hid (show p s[k] = true → (s.data.toList.take (k + 1)).all p = true from fun h => by
        rw [List.take_add_one, get_at s k hlt]
        simp [ha, h])
      have HN := Lib.hid (show p s[k] = false → (s.data.toList.takeWhile p).length = k from fun h => tw_all_take ha (by simpa using hk) (fun c hc => by rw [get_at s k hlt] at hc; obtain rfl := Option.some.inj hc; exact h))
      clear ha
      generalize hpc : p s[k] = q at HC HA HN
      clear hpc
      cases q
      · have HE := Lib.hid (HN.out rfl)
        go_wp2_with fail
        refine HC.out.mono ?_
        rintro e w' ⟨rfl, rfl⟩
        go_wp2_with fail
        go_ret
        exact ⟨ret_i (by rw [HE.out]), rfl⟩
      · have HE := Lib.hid (HA.out rfl)
        go_wp2_with fail
        refine HC.out.mono ?_
        rintro e w' ⟨rfl, rfl⟩
        go_wp2_with fail
        go_round
        case rel => exact ⟨k + 1, by omega, by go_num, HE.out⟩
        case measure => simp [intOf]; omega
    · have HE := Lib.hid (show (s.data.toList.takeWhile p).length = k from tw_all_take ha (by simpa using hk) (fun c hc => by
        rw [List.getElem?_eq_none (by simp; omega)] at hc; cases hc))
      clear ha
      go_wp2_with fail
      go_ret
      exact ⟨ret_i (by rw [HE.out]), rfl⟩
end Go.Proofs.YtceknmibopnmhaaDoor
