/-
  putPart with Key's closure, partLen, turnOf, allRight (layer 3, record). Conditions: right values; less than 2^40 bytes ahead.
-/
import Derived.Test.YtdhdfeiobjmdaaaRStr
import Derived.BigQuiet
namespace Go.Proofs.Ytdhdfeiobjmdaaa
open Go.ChangeShapes Go.WideShapes Go.ChangeAt Go.RowKit
set_option linter.unusedVariables false

abbrev In64 (n : Int) : Prop := -9223372036854775808 ≤ n ∧ n ≤ 9223372036854775807
/-- an int's eight bytes in a key -/
def intN (n : Int) : Nat := (n + 9223372036854775808).toNat
/-- the part of a value in a key -/
def partL (k n : Int) (s : ByteArray) : List UInt8 :=
  if k = 1 then 2 :: beN (intN n) 8 else if k = 2 then 3 :: strN s.data.toList else if k = 3 then 4 :: strN s.data.toList else [1]
abbrev box (k n : Int) (s : ByteArray) : Obj := .cells #[.int .u8 k, .int .i64 n, .string s] 29
theorem box_new (w : World) (k n : Int) (s : ByteArray) (D : List Nat) (base : Nat) (W : World) (h : Kept base (w.heap.size :: D) (w.alloc (box k n s)) W) :
    W.cell? ⟨w.heap.size, 0, none⟩ = some (.int .u8 k) ∧ W.cell? ⟨w.heap.size, 1, none⟩ = some (.int .i64 n) ∧ W.cell? ⟨w.heap.size, 2, none⟩ = some (.string s) := by
  have hm : w.heap.size ∈ w.heap.size :: D := List.mem_cons_self
  refine ⟨(h.cell hm 0).trans ?_, (h.cell hm 1).trans ?_, (h.cell hm 2).trans ?_⟩ <;> simp [go_sem]
theorem kept_alloc {base : Nat} {D : List Nat} {w : World} (o : Obj) (hb : base ≤ w.heap.size) (hD : ∀ d, d ∈ D → d < w.heap.size) : Kept base D w (w.alloc o) :=
  ⟨(Below.refl _ _).alloc hb o, fun d hd => Below.heap_alloc w o d (hD d hd)⟩

theorem turn_cons (turn c : UInt8) (xs l : List UInt8) : (xs ++ [c ^^^ turn]) ++ turnL turn l = xs ++ turnL turn (c :: l) := by simp [turnL]

theorem xor63 (m : Nat) (h : m < 9223372036854775808) : m ^^^ 9223372036854775808 = 9223372036854775808 + m := by
  have e : (9223372036854775808 : Nat) = 2 ^ 63 := by decide
  rw [e] at *
  apply Nat.eq_of_testBit_eq
  intro j
  rw [Nat.testBit_xor]
  rcases Nat.lt_trichotomy j 63 with hj | hj | hj
  · rw [Nat.testBit_two_pow_add_gt hj, Nat.testBit_two_pow]
    have : ¬ (63 = j) := by omega
    simp [this]
  · subst hj
    rw [Nat.testBit_two_pow_add_eq, Nat.testBit_two_pow]
    simp
  · have p : (2 : Nat) ^ 64 ≤ 2 ^ j := Nat.pow_le_pow_right (by omega) hj
    have q : (2 : Nat) ^ 64 = 18446744073709551616 := by decide
    have q2 : (2 : Nat) ^ 63 = 9223372036854775808 := by decide
    have a1 : (2 ^ 63 + m).testBit j = false := Nat.testBit_lt_two_pow (by omega)
    have a2 : m.testBit j = false := Nat.testBit_lt_two_pow (by omega)
    rw [a1, a2, Nat.testBit_two_pow]
    have : ¬ (63 = j) := by omega
    simp [this]
theorem xor63b (r : Nat) (h : r < 9223372036854775808) : (9223372036854775808 + r) ^^^ 9223372036854775808 = r := by
  rw [← xor63 r h, Nat.xor_assoc, Nat.xor_self, Nat.xor_zero]
theorem xor_top (n : Int) (h : In64 n) : bits .xor .u64 (IntKind.u64.wrap n) 9223372036854775808 = ((intN n : Nat) : Int) := by
  obtain ⟨h1, h2⟩ := h
  unfold intN
  by_cases h0 : n < 0
  · obtain ⟨r, hr⟩ : ∃ r : Nat, n + 9223372036854775808 = r := ⟨(n + 9223372036854775808).toNat, by omega⟩
    have hw : IntKind.u64.wrap n = ((9223372036854775808 + r : Nat) : Int) := by
      rw [show IntKind.u64.wrap n = n % 18446744073709551616 by simp [IntKind.wrap, IntKind.bits, IntKind.signed]]
      omega
    rw [hw, hr, Int.toNat_natCast]
    have := u64_xor_nat (9223372036854775808 + r) 9223372036854775808 (by omega) (by omega)
    rw [xor63b r (by omega)] at this
    exact this
  · obtain ⟨r, hr⟩ : ∃ r : Nat, n = r := ⟨n.toNat, by omega⟩
    have hw : IntKind.u64.wrap n = (r : Int) := by
      rw [show IntKind.u64.wrap n = n % 18446744073709551616 by simp [IntKind.wrap, IntKind.bits, IntKind.signed]]
      omega
    rw [hw]
    have := u64_xor_nat r 9223372036854775808 (by omega) (by omega)
    rw [xor63 r (by omega)] at this
    rw [hr, show ((r : Int) + 9223372036854775808).toNat = 9223372036854775808 + r by omega]
    exact this

set_option maxRecDepth 100000 in
theorem putPartK (base p t : Nat) (D : List Nat) (xs : List UInt8) (k n : Int) (s : ByteArray) (turn : UInt8) (w : World) (hA : Acc base p D w xs) (ht : t ∈ D) (hT : w.cell? ⟨t, 0, none⟩ = some (b8 turn)) (hn : In64 n) (hs : s.size ≤ 1099511627) (hl : xs.length ≤ 1080000000000) :
    Calls Try.prog 51 #[.agg #[.int .u8 k, .int .i64 n, .string s], KeyF p t] w fun e w' => e = .returned (.tuple #[]) ∧ Acc base p D w' (xs ++ turnL turn (partL k n s)) ∧ Kept base D w w' := by
  have HA := Lib.hid (hA.alloc (box k n s))
  have HB := Lib.hid (kept_alloc (base := base) (D := D) (box k n s) hA.base_le hA.lts)
  have HN := Lib.hid (box_new w k n s D base)
  have ht' : t ∈ w.heap.size :: D := List.mem_cons_of_mem _ ht
  have htl := hA.lts t ht
  have hT' : (w.alloc (box k n s)).cell? ⟨t, 0, none⟩ = some (b8 turn) := (World.cell?_alloc_lt w _ _ htl).trans hT
  clear hA hT htl
  by_cases h1 : k = 1
  · subst h1
    have HX := Lib.hid (xor_top n hn)
    have hi : intN n < 18446744073709551616 := by obtain ⟨h1, h2⟩ := hn; unfold intN; omega
    go_enter Try.func51, Try.ntmps51
    go_wp2_with fail
    refine (key1_int base p t _ _ 2 turn 2 rfl _ HA.out ht' hT' (by omega)).mono ?_
    rintro e w1 ⟨rfl, hA1, hK1⟩
    obtain ⟨c0, c1, c2⟩ := HN.out w1 hK1
    have HA1 := Lib.hid hA1
    have HK1 := Lib.hid hK1
    clear hA1 hK1
    go_wp2_with fail
    rw [HX.out]
    refine (putNumberK base p t _ _ (intN n) 8 turn w1 HA1.out ht' ((HK1.out.cell ht' 0).trans hT') hi (by omega) (by have := len1 hl (2 ^^^ turn); omega)).mono ?_
    rintro e w2 ⟨rfl, hA2, hK2⟩
    have HA2 := Lib.hid hA2.tail
    have HK2 := Lib.hid (HB.out.trans (HK1.out.trans hK2).tail)
    clear hA2 hK2
    go_wp2_with fail
    go_end0
    exact ⟨rfl, by have := HA2.out; rw [turn_cons] at this; exact this, HK2.out⟩
  · have e1 : (k == 1) = false := by simpa using h1
    by_cases h2 : k = 2
    · subst h2
      go_enter Try.func51, Try.ntmps51
      go_wp2_with fail
      refine (key1_int base p t _ _ 3 turn 3 rfl _ HA.out ht' hT' (by omega)).mono ?_
      rintro e w1 ⟨rfl, hA1, hK1⟩
      obtain ⟨c0, c1, c2⟩ := HN.out w1 hK1
      have HA1 := Lib.hid hA1
      have HK1 := Lib.hid hK1
      clear hA1 hK1
      go_wp2_with fail
      refine (putStringK base p t _ _ s turn w1 HA1.out ht' ((HK1.out.cell ht' 0).trans hT') hs (by have := len1 hl (3 ^^^ turn); omega)).mono ?_
      rintro e w2 ⟨rfl, hA2, hK2⟩
      have HA2 := Lib.hid hA2.tail
      have HK2 := Lib.hid (HB.out.trans (HK1.out.trans hK2).tail)
      clear hA2 hK2
      go_wp2_with fail
      go_end0
      exact ⟨rfl, by have := HA2.out; rw [turn_cons] at this; exact this, HK2.out⟩
    · have e2 : (k == 2) = false := by simpa using h2
      by_cases h3 : k = 3
      · subst h3
        go_enter Try.func51, Try.ntmps51
        go_wp2_with fail
        refine (key1_int base p t _ _ 4 turn 4 rfl _ HA.out ht' hT' (by omega)).mono ?_
        rintro e w1 ⟨rfl, hA1, hK1⟩
        obtain ⟨c0, c1, c2⟩ := HN.out w1 hK1
        have HA1 := Lib.hid hA1
        have HK1 := Lib.hid hK1
        clear hA1 hK1
        go_wp2_with fail
        refine (putStringK base p t _ _ s turn w1 HA1.out ht' ((HK1.out.cell ht' 0).trans hT') hs (by have := len1 hl (4 ^^^ turn); omega)).mono ?_
        rintro e w2 ⟨rfl, hA2, hK2⟩
        have HA2 := Lib.hid hA2.tail
        have HK2 := Lib.hid (HB.out.trans (HK1.out.trans hK2).tail)
        clear hA2 hK2
        go_wp2_with fail
        go_end0
        exact ⟨rfl, by have := HA2.out; rw [turn_cons] at this; exact this, HK2.out⟩
      · have e3 : (k == 3) = false := by simpa using h3
        have hp : partL k n s = [1] := by simp [partL, h1, h2, h3]
        have HP := Lib.hid hp
        clear h1 h2 h3 hp
        go_enter Try.func51, Try.ntmps51
        go_wp2_with fail
        refine (key1_int base p t _ _ 1 turn 1 rfl _ HA.out ht' hT' (by omega)).mono ?_
        rintro e w1 ⟨rfl, hA1, hK1⟩
        have HA1 := Lib.hid hA1.tail
        have HK1 := Lib.hid (HB.out.trans hK1.tail)
        clear hA1 hK1
        go_wp2_with fail
        go_end0
        exact ⟨rfl, by rw [HP.out]; exact HA1.out, HK1.out⟩

theorem turnOf_any (b : Bool) (w : World) : Calls Try.prog 50 #[.bool b] w fun e w' => e = .returned (.int .u8 (if b then 255 else 0)) ∧ w' = w := by
  cases b <;>
  · go_enter Try.func50, Try.ntmps50
    go_wp2
    go_ret
    exact ⟨rfl, rfl⟩

/-- how many bytes a value has in a key, as partLen tells -/
def partN (k : Int) (s : ByteArray) : Nat := if k = 1 then 9 else if k = 2 ∨ k = 3 then 1 + s.size + Lib.countByte s.data.toList 0 + 2 else 1
theorem quietR {P : Program} {f : FuncId} {args : Array Value} {w : World} {n : Nat} {v : Value} (h : Calls P f args (w.drewN n) fun e w' => e = .returned v ∧ w' = w.drewN n) :
    Calls P f args (w.drewN n) fun e w'' => e = .returned v ∧ ∃ m, w'' = w.drewN m :=
  h.mono fun _ _ ⟨he, hm⟩ => ⟨he, n, hm⟩
theorem belowN {B : Nat} {a w : World} (h : Below B a w) (n : Nat) : Below B a (w.drewN n) := ⟨h.os, h.tape, h.output, h.size, h.block⟩
theorem count_le (s : ByteArray) (c : UInt8) : Lib.countByte s.data.toList c ≤ s.size := by
  have h : s.data.toList.length = s.size := by rcases s with ⟨⟨l⟩⟩; rfl
  have h2 : s.data.toList.count c ≤ s.data.toList.length := List.count_le_length
  unfold Lib.countByte
  omega
set_option maxRecDepth 100000 in
theorem partLen_any (k n : Int) (s : ByteArray) (w : World) (hs : s.size ≤ 1099511627) :
    Calls Try.prog 49 #[.agg #[.int .u8 k, .int .i64 n, .string s]] w fun e w' => e = .returned (.int .i64 (partN k s)) ∧ Below w.heap.size w w' := by
  have hc := count_le s 0
  by_cases h1 : k = 1
  · subst h1
    go_enter Try.func49, Try.ntmps49
    go_wp2_with fail
    go_ret
    exact ⟨rfl, (Below.refl _ _).alloc (Nat.le_refl _) _⟩
  · have e1 : (k == 1) = false := by simpa using h1
    by_cases h2 : k = 2
    · subst h2
      have HP := Lib.hid (show ((1 + s.size + Lib.countByte s.data.toList 0 + 2 : Nat) : Int) = (partN 2 s : Int) by simp [partN])
      go_enter Try.func49, Try.ntmps49
      go_wp2_with fail
      go_quiet ((go_at_call 77; exact quietR (Try.strings_Count_one _ _ _)))
      go_wp2_with fail
      go_ret
      exact ⟨by rw [← HP.out]; push_cast; rfl, belowN ((Below.refl _ _).alloc (Nat.le_refl _) _) _⟩
    · have e2 : (k == 2) = false := by simpa using h2
      by_cases h3 : k = 3
      · subst h3
        have HP := Lib.hid (show ((1 + s.size + Lib.countByte s.data.toList 0 + 2 : Nat) : Int) = (partN 3 s : Int) by simp [partN])
        go_enter Try.func49, Try.ntmps49
        go_wp2_with fail
        go_quiet ((go_at_call 77; exact quietR (Try.strings_Count_one _ _ _)))
        go_wp2_with fail
        go_ret
        exact ⟨by rw [← HP.out]; push_cast; rfl, belowN ((Below.refl _ _).alloc (Nat.le_refl _) _) _⟩
      · have e3 : (k == 3) = false := by simpa using h3
        have HP := Lib.hid (show (1 : Int) = (partN k s : Int) by simp [partN, h1, h2, h3])
        clear h1 h2 h3
        go_enter Try.func49, Try.ntmps49
        go_wp2_with fail
        go_ret
        exact ⟨by rw [← HP.out]; rfl, (Below.refl _ _).alloc (Nat.le_refl _) _⟩
end Go.Proofs.Ytdhdfeiobjmdaaa
