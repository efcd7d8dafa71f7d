/-
  putNumber with either closure (layer 3, record). Conditions: at most eight bytes; less than 2^40 bytes ahead.
-/
import Derived.Test.YtdhdfeiobjmdaaaRClo
namespace Go.Proofs.Ytdhdfeiobjmdaaa
open Go.ChangeShapes Go.WideShapes Go.ChangeAt Go.RowKit
set_option linter.unusedVariables false

/-- the lowest k bytes of n, the highest first -/
def beN (n : Nat) : Nat → List UInt8
  | 0 => []
  | k + 1 => (n / 256 ^ k).toUInt8 :: beN n k
theorem beN_length (n k : Nat) : (beN n k).length = k := by
  induction k with
  | zero => rfl
  | succ k ih => simp [beN, ih]
theorem beN_step (n size k : Nat) (ys : List UInt8) (h : k < size) (hy : ys ++ beN n (size - k) = beN n size) : (ys ++ [(n / 256 ^ (size - 1 - k)).toUInt8]) ++ beN n (size - (k + 1)) = beN n size := by
  rw [← hy, show size - k = (size - 1 - k) + 1 by omega, beN, show size - (k + 1) = size - 1 - k by omega, List.append_assoc]
  rfl
theorem be_byte (n m : Nat) : (n : Int) / 2 ^ (8 * m) % 256 = ((n / 256 ^ m).toUInt8.toNat : Int) := by
  have e : (2 : Int) ^ (8 * m) = ((256 ^ m : Nat) : Int) := by
    rw [Int.pow_mul]
    simp
  rw [e]
  simp only [Nat.toUInt8, UInt8.toNat_ofNat']
  generalize 256 ^ m = q
  omega
/-- bytes, each turned -/
def turnL (turn : UInt8) (l : List UInt8) : List UInt8 := l.map (· ^^^ turn)
theorem turnL_append (t : UInt8) (l m : List UInt8) : turnL t (l ++ m) = turnL t l ++ turnL t m := by simp [turnL]
theorem turnL_length (t : UInt8) (l : List UInt8) : (turnL t l).length = l.length := by simp [turnL]
theorem turnL_one (t c : UInt8) (xs ys : List UInt8) : (xs ++ turnL t ys) ++ [c ^^^ t] = xs ++ turnL t (ys ++ [c]) := by simp [turnL]

abbrev KeyF (p t : Nat) : Value := .func (.func 52) #[] #[Ptr p, Ptr t]
abbrev PutF (p : Nat) : Value := .func (.func 57) #[] #[Ptr p]

def NumK (base p : Nat) (D : List Nat) (w : World) (xs : List UInt8) (turn : UInt8) (n size : Nat) (i : Value) (wr : World) : Prop :=
  ∃ (k : Nat) (ys : List UInt8), k ≤ size ∧ i = .int .i64 k ∧ ys ++ beN n (size - k) = beN n size ∧ Acc base p D wr (xs ++ turnL turn ys) ∧ Kept base D w wr

set_option maxRecDepth 100000 in
theorem putNumberK (base p  t : Nat) (D : List Nat) (xs : List UInt8) (n size : Nat) (turn : UInt8) (w : World) (hA : Acc base p D w xs) (ht : t ∈ D) (hT : w.cell? ⟨t, 0, none⟩ = some (b8 turn)) (hn : n < 18446744073709551616) (hs : size ≤ 8) (hl : xs.length ≤ 1099511627700) :
    Calls Try.prog 78 #[.int .u64 n, .int .i64 size, KeyF p t] w fun e w' => e = .returned (.tuple #[]) ∧ Acc base p D w' (xs ++ turnL turn (beN n size)) ∧ Kept base D w w' := by
  go_enter Try.func78, Try.ntmps78
  go_wp2_with fail
  go_loopw [6, 8] (fun x i wr => NumK base p D w xs turn n size i wr) (fun _ i _ => size - (intOf i).toNat)
  case atStart => exact ⟨0, [], Nat.zero_le _, rfl, rfl, by simpa [turnL] using hA, Kept.refl _ _ _⟩
  case round =>
    obtain ⟨k, ys, hk, rfl, hy, ha, hK⟩ := hrel
    by_cases hlt : k < size
    · have HY := Lib.hid (beN_step n size k ys hlt hy)
      have hly : ys.length ≤ 8 := by
        have e := congrArg List.length hy
        rw [List.length_append, beN_length, beN_length] at e
        omega
      have HA := Lib.hid ha
      have HK := Lib.hid hK
      have HL := Lib.hid (show (xs ++ turnL turn ys).length ≤ 1099511627776 by rw [List.length_append , turnL_length]; omega)
      clear hy ha hK hA
      go_wp2_with fail
      rw [be_byte n (size - 1 - k)]
      refine (key1_any base p t D _ (n / 256 ^ (size - 1 - k)).toUInt8 turn wr HA.out ht ((HK.out.cell ht 0).trans hT) HL.out).mono ?_
      rintro e w1 ⟨rfl, hA1, hK1⟩
      have HA := Lib.hid hA1
      have HK := Lib.hid (HK.out.trans hK1)
      clear hA1 hK1
      go_wp2_with fail
      go_roundw
      case rel => exact ⟨k + 1, _, by omega, by go_num, HY.out, by rw [← turnL_one]; exact HA.out, HK.out⟩
      case measure => simp [intOf]; omega
    · go_wp2_with fail
      go_end0
      have e : k = size := by omega
      subst e
      rw [Nat.sub_self] at hy
      rw [← hy, beN, List.append_nil]
      exact ⟨rfl, ha, hK⟩

def NumP (base p : Nat) (D : List Nat) (w : World) (xs : List UInt8) (n size : Nat) (i : Value) (wr : World) : Prop :=
  ∃ (k : Nat) (ys : List UInt8), k ≤ size ∧ i = .int .i64 k ∧ ys ++ beN n (size - k) = beN n size ∧ Acc base p D wr (xs ++ ys) ∧ Kept base D w wr

set_option maxRecDepth 100000 in
theorem putNumberP (base p  : Nat) (D : List Nat) (xs : List UInt8) (n size : Nat) (w : World) (hA : Acc base p D w xs) (hn : n < 18446744073709551616) (hs : size ≤ 8) (hl : xs.length ≤ 1099511627700) :
    Calls Try.prog 78 #[.int .u64 n, .int .i64 size, PutF p] w fun e w' => e = .returned (.tuple #[]) ∧ Acc base p D w' (xs ++ beN n size) ∧ Kept base D w w' := by
  go_enter Try.func78, Try.ntmps78
  go_wp2_with fail
  go_loopw [6, 8] (fun x i wr => NumP base p D w xs  n size i wr) (fun _ i _ => size - (intOf i).toNat)
  case atStart => exact ⟨0, [], Nat.zero_le _, rfl, rfl, by simpa  using hA, Kept.refl _ _ _⟩
  case round =>
    obtain ⟨k, ys, hk, rfl, hy, ha, hK⟩ := hrel
    by_cases hlt : k < size
    · have HY := Lib.hid (beN_step n size k ys hlt hy)
      have hly : ys.length ≤ 8 := by
        have e := congrArg List.length hy
        rw [List.length_append, beN_length, beN_length] at e
        omega
      have HA := Lib.hid ha
      have HK := Lib.hid hK
      have HL := Lib.hid (show (xs ++ ys).length ≤ 1099511627776 by rw [List.length_append ]; omega)
      clear hy ha hK hA
      go_wp2_with fail
      rw [be_byte n (size - 1 - k)]
      refine (put1_any base p D _ (n / 256 ^ (size - 1 - k)).toUInt8 wr HA.out HL.out).mono ?_
      rintro e w1 ⟨rfl, hA1, hK1⟩
      have HA := Lib.hid hA1
      have HK := Lib.hid (HK.out.trans hK1)
      clear hA1 hK1
      go_wp2_with fail
      go_roundw
      case rel => exact ⟨k + 1, _, by omega, by go_num, HY.out, by rw [← List.append_assoc]; exact HA.out, HK.out⟩
      case measure => simp [intOf]; omega
    · go_wp2_with fail
      go_end0
      have e : k = size := by omega
      subst e
      rw [Nat.sub_self] at hy
      rw [← hy, beN, List.append_nil]
      exact ⟨rfl, ha, hK⟩
end Go.Proofs.Ytdhdfeiobjmdaaa
