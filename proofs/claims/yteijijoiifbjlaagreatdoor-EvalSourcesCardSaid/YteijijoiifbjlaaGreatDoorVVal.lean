/-
  The calls on one value (layer 2, value): Int, Text, Truth, and Compare of two. Conditions: texts of less than 2^62 bytes; strconv's table of powers is as its text lays it.
-/
import Derived.Test.YteijijoiifbjlaaGreatDoorVInt
import Derived.Test.YteijijoiifbjlaaGreatDoorVShelf
import Derived.Lib.SmallJoins
import Derived.Lib.AppendIntMem
namespace Go.Proofs.YteijijoiifbjlaaGreatDoor
open Go.ChangeShapes Go.WideShapes Go.ChangeAt Go.RowKit
set_option linter.unusedVariables false

/-- what the library's own variables hold -/
def Wd (w : World) : Prop :=
  Lib.TabIs Tryz.prog w "internal/strconv.uint64pow10" .u64 Lib.pow10Tab ∧ (∃ m, w.cell? ⟨0, 0, none⟩ = some (.int .i64 m))
theorem Wd.on {w w' : World} (h : Wd w) (hb : Below w.heap.size w w') : Wd w' := by
  obtain ⟨h1, m, h2⟩ := h
  exact ⟨Lib.tabBelow_of_tabIs h1 w' hb, m, (hb.cell (block_lt_of_cell h2)).trans h2⟩
theorem below_grow (w : World) (k : Nat) (os : Array Obj) : Below w.heap.size w (Go.Sort.grow (w.drewN k) os) :=
  ⟨rfl, rfl, rfl, by simp [Go.Sort.grow], fun k hk => by simp [Go.Sort.grow, Array.getElem?_append, hk]⟩

/-- the Int of a value -/
def intV (k n : Int) (s : ByteArray) : Int := if k = 1 then n else if k = 2 ∨ k = 3 then leadInt s.data.toList else 0
/-- the Text of a value -/
def textV (k n : Int) (s : ByteArray) : ByteArray := if k = 1 then ⟨(Lib.itoa n).toArray⟩ else if k = 2 ∨ k = 3 then s else ⟨#[]⟩

theorem Int_any (k n : Int) (s : ByteArray) (w : World) (hs : s.size ≤ 4611686018427387904) :
    Calls Tryz.prog 35 #[vv k n s] w fun e w' => e = .returned (.int .i64 (intV k n s)) ∧ Below w.heap.size w w' := by
  by_cases h1 : k = 1
  · subst h1
    go_enter Tryz.func35, Tryz.ntmps35
    go_wp2
    go_ret
    exact ⟨rfl, (Below.refl _ _).alloc (Nat.le_refl _) _⟩
  · have e1 : (k == 1) = false := by simpa using h1
    by_cases h2 : k = 2
    · subst h2
      go_enter Tryz.func35, Tryz.ntmps35
      go_wp2_with (go_at_call 62; refine (leadingInt_any _ _ hs).mono ?_; rintro e w' ⟨rfl, rfl⟩)
      go_ret
      exact ⟨ret_i (by simp [intV]), (Below.refl _ _).alloc (Nat.le_refl _) _⟩
    · have e2 : (k == 2) = false := by simpa using h2
      by_cases h3 : k = 3
      · subst h3
        go_enter Tryz.func35, Tryz.ntmps35
        go_wp2_with (go_at_call 62; refine (leadingInt_any _ _ hs).mono ?_; rintro e w' ⟨rfl, rfl⟩)
        go_ret
        exact ⟨ret_i (by simp [intV]), (Below.refl _ _).alloc (Nat.le_refl _) _⟩
      · have e3 : (k == 3) = false := by simpa using h3
        have HI := Lib.hid (show 0 = intV k n s by simp [intV, h1, h2, h3])
        go_enter Tryz.func35, Tryz.ntmps35
        go_wp2
        go_ret
        exact ⟨ret_i HI.out, (Below.refl _ _).alloc (Nat.le_refl _) _⟩

theorem Text_any (k n : Int) (s : ByteArray) (w : World) (hn : In64 n) (hW : Wd w) :
    Calls Tryz.prog 83 #[vv k n s] w fun e w' => e = .returned (.string (textV k n s)) ∧ Below w.heap.size w w' := by
  by_cases h1 : k = 1
  · subst h1
    have HT := Lib.hid (hW.on ((Below.refl _ _).alloc (Nat.le_refl _) (.cells #[.int .u8 1, .int .i64 n, .string s] 38))).1
    have HN := Lib.hid hn
    clear hn hW
    go_enter Tryz.func83, Tryz.ntmps83
    go_wp2_with (go_at_call 100; refine (Tryz.strconv_FormatInt_10 n HN.out.1 HN.out.2 _ HT.out).mono ?_; rintro e w1 ⟨rfl, q, os, hq⟩; have hb : Below (w.alloc (.cells #[.int .u8 1, .int .i64 n, .string s] 38)).heap.size (w.alloc (.cells #[.int .u8 1, .int .i64 n, .string s] 38)) w1 := (by rw [hq]; exact below_grow _ _ _); clear hq)
    go_ret
    exact ⟨rfl, ((Below.refl _ _).alloc (Nat.le_refl _) _).trans (hb.mono (by simp))⟩
  · have e1 : (k == 1) = false := by simpa using h1
    by_cases h2 : k = 2
    · subst h2
      go_enter Tryz.func83, Tryz.ntmps83
      go_wp2
      go_ret
      exact ⟨rfl, (Below.refl _ _).alloc (Nat.le_refl _) _⟩
    · have e2 : (k == 2) = false := by simpa using h2
      by_cases h3 : k = 3
      · subst h3
        go_enter Tryz.func83, Tryz.ntmps83
        go_wp2
        go_ret
        exact ⟨rfl, (Below.refl _ _).alloc (Nat.le_refl _) _⟩
      · have e3 : (k == 3) = false := by simpa using h3
        have HI := Lib.hid (show (⟨#[]⟩ : ByteArray) = textV k n s by simp [textV, h1, h2, h3])
        go_enter Tryz.func83, Tryz.ntmps83
        go_wp2
        go_ret
        exact ⟨congrArg (fun x => Ending.returned (.string x)) HI.out, (Below.refl _ _).alloc (Nat.le_refl _) _⟩

theorem ret_bb {a b c d : Bool} (h : a = b) (h2 : c = d) : Ending.returned (.tuple #[.bool a, .bool c]) = .returned (.tuple #[.bool b, .bool d]) := by rw [h, h2]
theorem Truth_any (k n : Int) (s : ByteArray) (w : World) (hs : s.size ≤ 4611686018427387904) :
    Calls Tryz.prog 23 #[vv k n s] w fun e w' => e = .returned (.tuple #[.bool (k != 0 && intV k n s != 0), .bool (k != 0)]) ∧ Below w.heap.size w w' := by
  by_cases h0 : k = 0
  · subst h0
    go_enter Tryz.func23, Tryz.ntmps23
    go_wp2_with (go_at_call 34; refine (isNull_any _ _ _ _).mono ?_; rintro e w1 ⟨rfl, hb⟩)
    go_ret2
    exact ⟨rfl, ((Below.refl _ _).alloc (Nat.le_refl _) _).trans (hb.mono (by simp))⟩
  · have e0 : (k == 0) = false := by simpa using h0
    have e0' : (k != 0) = true := by simpa using h0
    clear h0
    go_enter Tryz.func23, Tryz.ntmps23
    go_wp2_with (first
      | (go_at_call 34; refine (isNull_any _ _ _ _).mono ?_; rintro e w1 ⟨rfl, hb⟩; obtain ⟨hc, hf⟩ := bcell hb)
      | (go_at_call 35; refine (Int_any _ _ _ _ hs).mono ?_; rintro e w2 ⟨rfl, hb2⟩))
    go_ret2
    exact ⟨ret_bb (by simp [e0']) e0'.symm, (((Below.refl _ _).alloc (Nat.le_refl _) _).trans (hb.mono (by simp))).trans (hb2.mono (by have := hb.size; simp at this; omega))⟩

/-- how two values compare -/
def cmpV (k n : Int) (s : ByteArray) (k' n' : Int) (s' : ByteArray) : Int :=
  if k ≠ k' then cmp3 k k' else if k = 1 then cmp3 n n' else if k = 2 ∨ k = 3 then Lib.compareBytes s.data.toList s'.data.toList else 0

theorem Compare_any (k n : Int) (s : ByteArray) (k' n' : Int) (s' : ByteArray) (w : World) :
    Calls Tryz.prog 109 #[vv k n s, vv k' n' s'] w fun e w' => e = .returned (.int .i64 (cmpV k n s k' n' s')) ∧ Below w.heap.size w w' := by
  by_cases hk : k = k'
  · subst hk
    by_cases h1 : k = 1
    · subst h1
      go_enter Tryz.func109, Tryz.ntmps109
      go_wp2_with (go_at_call 129; refine (cmpInt_any _ _ _).mono ?_; rintro e w1 ⟨rfl, rfl⟩)
      go_ret
      exact ⟨ret_i (by simp [cmpV]), ((Below.refl _ _).alloc (Nat.le_refl _) _).alloc (by simp) _⟩
    · have e1 : (k == 1) = false := by simpa using h1
      by_cases h2 : k = 2
      · subst h2
        go_enter Tryz.func109, Tryz.ntmps109
        go_wp2_with (go_at_call 130; refine (Tryz.strings_Compare _ _ _).mono ?_; rintro e w1 ⟨rfl, rfl⟩)
        go_ret
        exact ⟨ret_i (by simp [cmpV]), ((Below.refl _ _).alloc (Nat.le_refl _) _).alloc (by simp) _⟩
      · have e2 : (k == 2) = false := by simpa using h2
        by_cases h3 : k = 3
        · subst h3
          go_enter Tryz.func109, Tryz.ntmps109
          go_wp2_with (go_at_call 130; refine (Tryz.strings_Compare _ _ _).mono ?_; rintro e w1 ⟨rfl, rfl⟩)
          go_ret
          exact ⟨ret_i (by simp [cmpV]), ((Below.refl _ _).alloc (Nat.le_refl _) _).alloc (by simp) _⟩
        · have e3 : (k == 3) = false := by simpa using h3
          have HC := Lib.hid (show 0 = cmpV k n s k n' s' by simp [cmpV, h1, h2, h3])
          clear h1 h2 h3
          go_enter Tryz.func109, Tryz.ntmps109
          go_wp2
          go_ret
          exact ⟨ret_i HC.out, ((Below.refl _ _).alloc (Nat.le_refl _) _).alloc (by simp) _⟩
  · have e0 : (k != k') = true := by simpa using hk
    have HC := Lib.hid (show cmp3 k k' = cmpV k n s k' n' s' by simp [cmpV, hk])
    clear hk
    go_enter Tryz.func109, Tryz.ntmps109
    go_wp2_with (go_at_call 128; refine (cmpKind_any _ _ _).mono ?_; rintro e w1 ⟨rfl, rfl⟩)
    go_ret
    exact ⟨ret_i HC.out, ((Below.refl _ _).alloc (Nat.le_refl _) _).alloc (by simp) _⟩
end Go.Proofs.YteijijoiifbjlaaGreatDoor
