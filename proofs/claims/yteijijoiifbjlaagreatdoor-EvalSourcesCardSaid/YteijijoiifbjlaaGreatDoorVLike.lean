/-
  Like (layer 2, value): patterns. Conditions: texts and patterns of less than 2^60 bytes.
-/
import Derived.Test.YteijijoiifbjlaaGreatDoorVInt
import Derived.Deep.LoopGhost
import Derived.Deep.QuietTactic
import Derived.BigQuiet
namespace Go.Proofs.YteijijoiifbjlaaGreatDoor
open Go.ChangeShapes Go.WideShapes Go.ChangeAt Go.RowKit
set_option linter.unusedVariables false

/-- a letter from A to Z as the small one -/
def smallN (c : Nat) : Nat := if 65 ≤ c ∧ c ≤ 90 then c + 32 else c
/-- a letter from a to z as the great one -/
def largeN (c : Nat) : Nat := if 97 ≤ c ∧ c ≤ 122 then c - 32 else c
theorem small_any (c : Nat) (w : World) (hc : c < 256) :
    Calls Tryz.prog 113 #[.int .u8 c] w fun e w' => e = .returned (.int .u8 (smallN c : Nat)) ∧ w = w' := by
  by_cases h : 65 ≤ c
  · by_cases h2 : c ≤ 90
    · go_enter Tryz.func113, Tryz.ntmps113
      go_wp2
      go_ret
      exact ⟨ret_i (by unfold smallN; rw [if_pos ⟨h, h2⟩]; omega), rfl⟩
    · go_enter Tryz.func113, Tryz.ntmps113
      go_wp2
      go_ret
      exact ⟨ret_i (by unfold smallN; rw [if_neg (by omega)]), rfl⟩
  · go_enter Tryz.func113, Tryz.ntmps113
    go_wp2
    go_ret
    exact ⟨ret_i (by unfold smallN; rw [if_neg (by omega)]), rfl⟩
theorem large_any (c : Nat) (w : World) (hc : c < 256) :
    Calls Tryz.prog 112 #[.int .u8 c] w fun e w' => e = .returned (.int .u8 (largeN c : Nat)) ∧ w = w' := by
  by_cases h : 97 ≤ c
  · by_cases h2 : c ≤ 122
    · go_enter Tryz.func112, Tryz.ntmps112
      go_wp2
      go_ret
      exact ⟨ret_i (by unfold largeN; rw [if_pos ⟨h, h2⟩]; omega), rfl⟩
    · go_enter Tryz.func112, Tryz.ntmps112
      go_wp2
      go_ret
      exact ⟨ret_i (by unfold largeN; rw [if_neg (by omega)]), rfl⟩
  · go_enter Tryz.func112, Tryz.ntmps112
    go_wp2
    go_ret
    exact ⟨ret_i (by unfold largeN; rw [if_neg (by omega)]), rfl⟩

/-- does a byte of a pattern, other than %, stand for a byte? -/
def stands (p c : Nat) : Bool := p == 95 || smallN p == smallN c
theorem standsFor_any (p c : Nat) (w : World) (hp : p < 256) (hc : c < 256) :
    Calls Tryz.prog 140 #[.int .u8 p, .int .u8 c] w fun e w' => e = .returned (.bool (stands p c)) ∧ w = w' := by
  by_cases h : p = 95
  · subst h
    go_enter Tryz.func140, Tryz.ntmps140
    go_wp2_with (go_at_call 113; refine (small_any _ _ (by assumption)).mono ?_; rintro e w' ⟨rfl, rfl⟩)
    go_ret
    exact ⟨rfl, rfl⟩
  · have e1 : ((p : Int) == 95) = false := by simp; omega
    have HB := Lib.hid (show (((smallN p : Nat) : Int) == ((smallN c : Nat) : Int)) = stands p c from by
      have h2 : (p == 95) = false := by simpa using h
      unfold stands
      rw [h2, Bool.eq_iff_iff]
      simp
      omega)
    go_enter Tryz.func140, Tryz.ntmps140
    go_wp2_with (go_at_call 113; refine (small_any _ _ (by assumption)).mono ?_; rintro e w' ⟨rfl, rfl⟩)
    go_ret
    exact ⟨ret_b HB.out, rfl⟩

theorem quietV {f : FuncId} {args : Array Value} {w : World} {n : Nat} {v : Value}
    (h : Calls Tryz.prog f args (w.drewN n) fun e w' => e = .returned v ∧ w.drewN n = w') : Calls Tryz.prog f args (w.drewN n) fun e w'' => e = .returned v ∧ ∃ m, w'' = w.drewN m :=
  h.mono fun _ _ ⟨he, hm⟩ => ⟨he, n, hm.symm⟩
theorem below_drewN {B : Nat} {a w : World} (h : Below B a w) (n : Nat) : Below B a (w.drewN n) := ⟨h.os, h.tape, h.output, h.size, h.block⟩

def restAll (p : ByteArray) (i : Nat) : Bool := (p.data.toList.drop i).all (fun c => c.toNat == 37)
/-- the steps of Like, one by one -/
def likeL (s p : ByteArray) : Nat → Nat → Nat → Nat → Nat → Option Bool
  | 0, _, _, _, _ => none
  | f + 1, a, i, g, b =>
    if h : a < s.size then
      if h2 : i < p.size then
        if p[i].toNat = 37 then likeL s p f a (i + 1) a (i + 1)
        else if stands p[i].toNat s[a].toNat = true then likeL s p f (a + 1) (i + 1) g b
        else if 0 < b then likeL s p f (g + 1) b (g + 1) b else some false
      else if 0 < b then likeL s p f (g + 1) b (g + 1) b else some false
    else some (restAll p i)

def LikeRel (s p : ByteArray) (R : Bool) (f : Nat) (va vi vg vb : Value) : Prop :=
  ∃ a i g b : Nat, va = .int .i64 a ∧ vi = .int .i64 i ∧ vg = .int .i64 g ∧ vb = .int .i64 b ∧ a ≤ s.size ∧ i ≤ p.size ∧ g ≤ a ∧ b ≤ i ∧ likeL s p f a i g b = some R
def RestRel (p : ByteArray) (R : Bool) (vi : Value) : Prop := ∃ i : Nat, vi = .int .i64 i ∧ i ≤ p.size ∧ R = restAll p i
theorem restAll_step (p : ByteArray) (i : Nat) (h : i < p.size) : restAll p i = (p[i].toNat == 37 && restAll p (i + 1)) := by
  unfold restAll
  rw [get_drop p i h]
  rfl
theorem restAll_end (p : ByteArray) (i : Nat) (h : p.size ≤ i) : restAll p i = true := by
  unfold restAll
  rw [List.drop_of_length_le (by simpa using h)]
  rfl

set_option maxRecDepth 100000 in
set_option maxHeartbeats 800000 in
theorem Like_any (s p : ByteArray) (R : Bool) (n0 : Nat) (w : World) (hs : s.size ≤ 1152921504606846976) (hp : p.size ≤ 1152921504606846976) (hL : likeL s p n0 0 0 0 0 = some R) :
    Calls Tryz.prog 127 #[.string s, .string p] w fun e w' => e = .returned (.bool R) ∧ Below w.heap.size w w' := by
  have HL := Lib.hid hL
  clear hL
  go_enter Tryz.func127, Tryz.ntmps127
  go_wp2_with fail
  go_loopg [5, 6, 7, 8] n0 (fun f va vi vg vb wr => LikeRel s p R f va vi vg vb ∧ Below w.heap.size w wr)
  case atStart => exact ⟨⟨0, 0, 0, 0, rfl, rfl, rfl, rfl, Nat.zero_le _, Nat.zero_le _, Nat.le_refl _, Nat.le_refl _, HL.out⟩, Below.refl _ _⟩
  case round =>
    obtain ⟨⟨a, i, g, b, rfl, rfl, rfl, rfl, ha, hi, hg, hb, hl⟩, hbw⟩ := hrel
    cases gk with
    | zero => simp [likeL] at hl
    | succ f =>
      have HB := Lib.hid hbw
      clear hbw
      by_cases hlt : a < s.size
      · by_cases hip : i < p.size
        · by_cases h37 : p[i].toNat = 37
          · have e37 : ((p[i].toNat : Int) == 37) = true := by rw [h37]; rfl
            have HN := Lib.hid (show likeL s p f a (i + 1) a (i + 1) = some R by rw [likeL, dif_pos hlt, dif_pos hip, if_pos h37] at hl; exact hl)
            clear hl h37
            go_wp2_with fail
            go_roundg f
            case rel => exact ⟨⟨a, i + 1, a, i + 1, rfl, by go_num, rfl, by go_num, ha, by omega, Nat.le_refl _, Nat.le_refl _, HN.out⟩, HB.out⟩
            case measure => omega
          · have e37 : ((p[i].toNat : Int) == 37) = false := by simp; omega
            have hpi := p[i].toNat_lt
            have hsa := s[a].toNat_lt
            rw [likeL, dif_pos hlt, dif_pos hip, if_neg h37] at hl
            cases hst : stands p[i].toNat s[a].toNat
            · rw [hst, if_neg (by simp)] at hl
              by_cases hb0 : 0 < b
              · rw [if_pos hb0] at hl
                have HN := Lib.hid hl
                clear hl h37
                go_wp2_with fail
                go_quiet ((go_at_call 140; exact quietV (standsFor_any _ _ _ hpi hsa)))
                go_wp2_with fail
                go_roundg f
                case rel => exact ⟨⟨g + 1, b, g + 1, b, by go_num, rfl, by go_num, rfl, by omega, by omega, Nat.le_refl _, Nat.le_refl _, HN.out⟩, below_drewN HB.out _⟩
                case measure => omega
              · rw [if_neg hb0] at hl
                obtain rfl : false = R := by simpa using hl
                clear hl h37
                go_wp2_with fail
                go_quiet ((go_at_call 140; exact quietV (standsFor_any _ _ _ hpi hsa)))
                go_wp2_with fail
                go_ret
                exact ⟨rfl, below_drewN HB.out _⟩
            · rw [hst, if_pos rfl] at hl
              have HN := Lib.hid hl
              clear hl h37
              go_wp2_with fail
              go_quiet ((go_at_call 140; exact quietV (standsFor_any _ _ _ hpi hsa)))
              go_wp2_with fail
              go_roundg f
              case rel => exact ⟨⟨a + 1, i + 1, g, b, by go_num, by go_num, rfl, rfl, by omega, by omega, by omega, by omega, HN.out⟩, below_drewN HB.out _⟩
              case measure => omega
        · rw [likeL, dif_pos hlt, dif_neg hip] at hl
          have hi' : i = p.size := by omega
          have hd : decide ((i : Int) < p.size) = false := decide_eq_false (by omega)
          by_cases hb0 : 0 < b
          · rw [if_pos hb0] at hl
            have HN := Lib.hid hl
            clear hl hi'
            go_wp2_with fail
            go_quiet (fail)
            go_wp2_with fail
            go_roundg f
            case rel => exact ⟨⟨g + 1, b, g + 1, b, by go_num, rfl, by go_num, rfl, by omega, by omega, Nat.le_refl _, Nat.le_refl _, HN.out⟩, below_drewN HB.out _⟩
            case measure => omega
          · rw [if_neg hb0] at hl
            obtain rfl : false = R := by simpa using hl
            clear hl hi'
            go_wp2_with fail
            go_quiet (fail)
            go_wp2_with fail
            go_ret
            exact ⟨rfl, below_drewN HB.out _⟩
      · rw [likeL, dif_neg hlt] at hl
        have HR := Lib.hid (show R = restAll p i by simpa using hl.symm)
        clear hl
        go_wp2_with fail
        go_loop [6] (fun vi => RestRel p R vi) (fun vi => p.size - (intOf vi).toNat)
        case atStart => exact ⟨i, rfl, hi, HR.out⟩
        case round =>
          clear HR hi
          obtain ⟨j, rfl, hj, hr⟩ := hrel
          have HR := Lib.hid hr
          clear hr
          by_cases hjp : j < p.size
          · by_cases h37 : p[j].toNat = 37
            · have e37 : ((p[j].toNat : Int) == 37) = true := by rw [h37]; rfl
              have HQ := Lib.hid (show R = restAll p (j + 1) by rw [HR.out, restAll_step p j hjp, h37]; rfl)
              clear h37
              go_wp2_with fail
              go_round
              case rel => exact ⟨j + 1, by go_num, by omega, HQ.out⟩
              case measure => simp [intOf]; omega
            · have e37 : ((p[j].toNat : Int) == 37) = false := by simp; omega
              have HQ := Lib.hid (show false = R by rw [HR.out, restAll_step p j hjp]; simp [h37])
              have hne : ((j : Int) == p.size) = false := by simp; omega
              clear h37
              go_wp2_with fail
              go_ret
              exact ⟨ret_b HQ.out, HB.out⟩
          · have HQ := Lib.hid (show true = R by rw [HR.out, restAll_end p j (by omega)])
            obtain rfl : j = p.size := by omega
            go_wp2_with fail
            go_ret
            exact ⟨ret_b HQ.out, HB.out⟩
end Go.Proofs.YteijijoiifbjlaaGreatDoor
