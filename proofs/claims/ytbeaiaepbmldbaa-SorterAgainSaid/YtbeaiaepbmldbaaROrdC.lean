/-
  The statements' helper rows, and value.Compare (layer 3). Conditions: sizes.
-/
import Derived.Test.YtbeaiaepbmldbaaROrdM
import Derived.Test.YtbeaiaepbmldbaaRShelf
import Derived.Deep.RegionHeld3
import Derived.Deep.DeepCutAuto
namespace Go.Proofs.Ytbeaiaepbmldbaa
open Go.ChangeShapes Go.WideShapes Go.ChangeAt Go.RowKit
set_option linter.unusedVariables false

theorem ret_i {k : IntKind} {a b : Int} (h : a = b) : Ending.returned (.int k a) = .returned (.int k b) := by rw [h]
theorem cmpKind_any (a b : Int) (w : World) :
    Calls Try.prog 82 #[.int .u8 a, .int .u8 b] w fun e w' => e = .returned (.int .i64 (cmp3 a b)) ∧ w = w' := by
  go_enter Try.func82, Try.ntmps82
  go_wp2
  all_goals (go_ret; exact ⟨ret_i (by unfold cmp3; (repeat' split) <;> omega), rfl⟩)
theorem cmpInt_any (a b : Int) (w : World) :
    Calls Try.prog 83 #[.int .i64 a, .int .i64 b] w fun e w' => e = .returned (.int .i64 (cmp3 a b)) ∧ w = w' := by
  go_enter Try.func83, Try.ntmps83
  go_wp2
  all_goals (go_ret; exact ⟨ret_i (by unfold cmp3; (repeat' split) <;> omega), rfl⟩)
theorem Compare_any (k n : Int) (s : ByteArray) (k' n' : Int) (s' : ByteArray) (w : World) :
    Calls Try.prog 55 #[vv k n s, vv k' n' s'] w fun e w' => e = .returned (.int .i64 (cmpV k n s k' n' s')) ∧ Below w.heap.size w w' := by
  by_cases hk : k = k'
  · subst hk
    by_cases h1 : k = 1
    · subst h1
      go_enter Try.func55, Try.ntmps55
      go_wp2_with (go_at_call 83; refine (cmpInt_any _ _ _).mono ?_; rintro e w1 ⟨rfl, rfl⟩)
      go_ret
      exact ⟨ret_i (by simp [cmpV]), ((Below.refl _ _).alloc (Nat.le_refl _) _).alloc (by simp) _⟩
    · have e1 : (k == 1) = false := by simpa using h1
      by_cases h2 : k = 2
      · subst h2
        go_enter Try.func55, Try.ntmps55
        go_wp2_with (go_at_call 84; refine (Try.strings_Compare _ _ _).mono ?_; rintro e w1 ⟨rfl, rfl⟩)
        go_ret
        exact ⟨ret_i (by simp [cmpV]), ((Below.refl _ _).alloc (Nat.le_refl _) _).alloc (by simp) _⟩
      · have e2 : (k == 2) = false := by simpa using h2
        by_cases h3 : k = 3
        · subst h3
          go_enter Try.func55, Try.ntmps55
          go_wp2_with (go_at_call 84; refine (Try.strings_Compare _ _ _).mono ?_; rintro e w1 ⟨rfl, rfl⟩)
          go_ret
          exact ⟨ret_i (by simp [cmpV]), ((Below.refl _ _).alloc (Nat.le_refl _) _).alloc (by simp) _⟩
        · have e3 : (k == 3) = false := by simpa using h3
          have HC := Lib.hid (show 0 = cmpV k n s k n' s' by simp [cmpV, h1, h2, h3])
          clear h1 h2 h3
          go_enter Try.func55, Try.ntmps55
          go_wp2
          go_ret
          exact ⟨ret_i HC.out, ((Below.refl _ _).alloc (Nat.le_refl _) _).alloc (by simp) _⟩
  · have e0 : (k != k') = true := by simpa using hk
    have HC := Lib.hid (show cmp3 k k' = cmpV k n s k' n' s' by simp [cmpV, hk])
    clear hk
    go_enter Try.func55, Try.ntmps55
    go_wp2_with (go_at_call 82; refine (cmpKind_any _ _ _).mono ?_; rintro e w1 ⟨rfl, rfl⟩)
    go_ret
    exact ⟨ret_i HC.out, ((Below.refl _ _).alloc (Nat.le_refl _) _).alloc (by simp) _⟩

theorem cmpV_range (k n : Int) (s : ByteArray) (k' n' : Int) (s' : ByteArray) : -1 ≤ cmpV k n s k' n' s' ∧ cmpV k n s k' n' s' ≤ 1 := by
  have h3 : ∀ a b, -1 ≤ cmp3 a b ∧ cmp3 a b ≤ 1 := fun a b => by unfold cmp3; (repeat' split) <;> omega
  have hb : ∀ l m : List UInt8, -1 ≤ Lib.compareBytes l m ∧ Lib.compareBytes l m ≤ 1 := by
    intro l
    induction l with
    | nil => intro m; cases m <;> (unfold Lib.compareBytes; omega)
    | cons a l ih =>
      intro m
      cases m with
      | nil => unfold Lib.compareBytes; omega
      | cons b m =>
        have := ih m
        show -1 ≤ (if a < b then (-1 : Int) else if b < a then 1 else Lib.compareBytes l m) ∧ (if a < b then (-1 : Int) else if b < a then 1 else Lib.compareBytes l m) ≤ 1
        (repeat' split) <;> omega
  unfold cmpV
  split
  · exact h3 _ _
  · split
    · exact h3 _ _
    · split
      · exact hb _ _
      · omega
theorem rowsC_step {a b : List Trip} {ds : List Bool} {j : Nat} {k n : Int} {s : ByteArray} {k' n' : Int} {s' : ByteArray} {d : Bool} (h1 : a[j]? = some (k, n, s)) (h2 : b[j]? = some (k', n', s')) (h3 : ds[j]? = some d) :
    rowsC (a.drop j) (b.drop j) (ds.drop j) = if cmpV k n s k' n' s' = 0 then rowsC (a.drop (j + 1)) (b.drop (j + 1)) (ds.drop (j + 1)) else if d then -cmpV k n s k' n' s' else cmpV k n s k' n' s' := by
  have drop_at : ∀ {α : Type} {l : List α} {i : Nat} {x : α}, l[i]? = some x → l.drop i = x :: l.drop (i + 1) := by
    intro α l i x h
    obtain ⟨hi, rfl⟩ := List.getElem?_eq_some_iff.1 h
    exact List.drop_eq_getElem_cons hi
  rw [drop_at h1, drop_at h2, drop_at h3]
  rfl
def RowsRel (w : World) (a b : List Trip) (ds : List Bool) (i : Value) (wr : World) : Prop :=
  ∃ k : Nat, k ≤ a.length ∧ i = .int .i64 k ∧ rowsC (a.drop k) (b.drop k) (ds.drop k) = rowsC a b ds ∧ Below w.heap.size w wr
end Go.Proofs.Ytbeaiaepbmldbaa
