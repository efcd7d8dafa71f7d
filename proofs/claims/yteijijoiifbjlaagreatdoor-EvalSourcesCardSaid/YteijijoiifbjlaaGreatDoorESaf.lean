/-
  Layer 13, eval: the statements' makers of expressions; Safe of the chapter's examples. No conditions.
  Layer 13, eval: what signs tell, as mathematics; the chapter's examples. No conditions.
-/
import Derived.Test.YteijijoiifbjlaaGreatDoorEEva
import Derived.Test.YteijijoiifbjlaaGreatDoorEOp
namespace Go.Proofs.YteijijoiifbjlaaGreatDoor
open Go.ChangeShapes Go.WideShapes Go.ChangeAt Go.RowKit
set_option linter.unusedVariables false
set_option linter.unusedSimpArgs false
set_option maxRecDepth 100000

/-- an expression without kids -/
abbrev lf (k n : Int) : Ee := .mk k ⟨#[]⟩ ⟨#[]⟩ n 0 []
abbrev lfV (k n : Int) : Value := exprV k ⟨#[]⟩ ⟨#[]⟩ n 0 none 0 0
theorem lf_is (w : World) (k n : Int) : ExV w (lf k n) (lfV k n) := by
  simp only [ExV]
  exact ⟨none, 0, rfl, Nat.le_refl _, by simp only [ExK]⟩
theorem num_any (n : Int) (w : World) : Calls Tryz.prog 16 #[.int .i64 n] w fun e w' => e = .returned (lfV 2 n) ∧ Below w.heap.size w w' := by
  go_enter Tryz.func16, Tryz.ntmps16
  go_wp2_with fail
  exact bodyPost_ret (v := lfV 2 n) (by simp [results, Tryz.results16, go_sem]) rfl ⟨rfl, (Below.refl _ _).alloc (Nat.le_refl _) _⟩
def ExRet (x : Ee) (w : World) (e : Ending) (w' : World) : Prop := ∃ v, e = .returned v ∧ ExV w' x v ∧ Below w.heap.size w w'
theorem in_val (n : Int) (A : Option Addr) (len c : Nat) (w : World) : Calls Tryz.prog 15 #[.int .i64 n, .slice A len c] w fun e w' => e = .returned (exprV 9 ⟨#[]⟩ ⟨#[]⟩ n 0 A len c) ∧ Below w.heap.size w w' := by
  go_enter Tryz.func15, Tryz.ntmps15
  go_wp2_with fail
  exact bodyPost_ret (v := exprV 9 ⟨#[]⟩ ⟨#[]⟩ n 0 A len c) (by simp [results, Tryz.results15, go_sem]) rfl ⟨rfl, (Below.refl _ _).alloc (Nat.le_refl _) _⟩
theorem inE_is (n : Int) (l : List Ee) (v : Value) (w : World) (hv : IsK l v w) : Calls Tryz.prog 15 #[.int .i64 n, v] w (ExRet (.mk 9 ⟨#[]⟩ ⟨#[]⟩ n 0 l) w) := by
  obtain ⟨A, c, rfl, hlc, hK⟩ := hv
  refine (in_val _ A l.length c w).mono ?_
  rintro e w' ⟨rfl, hb⟩
  exact ⟨_, rfl, by simp only [ExV]; exact ⟨A, c, rfl, hlc, hK.on hb⟩, hb⟩
theorem op_val (s : ByteArray) (A : Option Addr) (len c : Nat) (w : World) : Calls Tryz.prog 11 #[.string s, .slice A len c] w fun e w' => e = .returned (exprV 7 s ⟨#[]⟩ 0 0 A len c) ∧ Below w.heap.size w w' := by
  go_enter Tryz.func11, Tryz.ntmps11
  go_wp2_with fail
  exact bodyPost_ret (v := exprV 7 s ⟨#[]⟩ 0 0 A len c) (by simp [results, Tryz.results11, go_sem]) rfl ⟨rfl, (Below.refl _ _).alloc (Nat.le_refl _) _⟩
theorem opE_is (s : ByteArray) (l : List Ee) (v : Value) (w : World) (hv : IsK l v w) : Calls Tryz.prog 11 #[.string s, v] w (ExRet (.mk 7 s ⟨#[]⟩ 0 0 l) w) := by
  obtain ⟨A, c, rfl, hlc, hK⟩ := hv
  refine (op_val _ A l.length c w).mono ?_
  rintro e w' ⟨rfl, hb⟩
  exact ⟨_, rfl, by simp only [ExV]; exact ⟨A, c, rfl, hlc, hK.on hb⟩, hb⟩
theorem isSafeSign_eq (w : World) : Calls Tryz.prog 37 #[.string ⟨#[61]⟩, .int .i64 2] w fun e w' => e = .returned (.bool true) ∧ w = w' := by
  go_enter Tryz.func37, Tryz.ntmps37
  go_wp2_with fail
  go_ret
  exact ⟨rfl, rfl⟩
theorem isSafeSign_add (w : World) : Calls Tryz.prog 37 #[.string ⟨#[43]⟩, .int .i64 2] w fun e w' => e = .returned (.bool false) ∧ w = w' := by
  go_enter Tryz.func37, Tryz.ntmps37
  go_wp2_with fail
  go_ret
  exact ⟨rfl, rfl⟩
theorem isSafe_leaf (w : World) : Calls Tryz.prog 25 #[lfV 13 0] w fun e w' => e = .returned (.bool true) ∧ Below w.heap.size w w' := by
  go_enter Tryz.func25, Tryz.ntmps25
  go_wp2_with fail
  go_ret
  exact ⟨rfl, (Below.refl _ _).alloc (Nat.le_refl _) _⟩
theorem isSafe_eq (A : Option Addr) (c : Nat) (w : World) : Calls Tryz.prog 25 #[exprV 7 ⟨#[61]⟩ ⟨#[]⟩ 0 0 A 2 c] w fun e w' => e = .returned (.bool true) ∧ Below w.heap.size w w' := by
  go_enter Tryz.func25, Tryz.ntmps25
  go_wp2_with (go_at_call 37; refine (isSafeSign_eq _).mono ?_; rintro e w1 ⟨rfl, rfl⟩)
  go_ret
  exact ⟨rfl, (Below.refl _ _).alloc (Nat.le_refl _) _⟩
theorem isSafe_add (A : Option Addr) (c : Nat) (w : World) : Calls Tryz.prog 25 #[exprV 7 ⟨#[43]⟩ ⟨#[]⟩ 0 0 A 2 c] w fun e w' => e = .returned (.bool false) ∧ Below w.heap.size w w' := by
  go_enter Tryz.func25, Tryz.ntmps25
  go_wp2_with (go_at_call 37; refine (isSafeSign_add _).mono ?_; rintro e w1 ⟨rfl, rfl⟩)
  go_ret
  exact ⟨rfl, (Below.refl _ _).alloc (Nat.le_refl _) _⟩
/-- a list of leaves -/
def Leaves (w : World) (A : Option Addr) (m : Nat) : Prop := m = 0 ∨ ∃ b o, A = some ⟨b, o, none⟩ ∧ ∀ j, j < m → ECell w b (o + j * 6) 13 ⟨#[]⟩ ⟨#[]⟩ 0 0 none 0 0
theorem Leaves.on {w w' : World} {A : Option Addr} {m : Nat} (h : Leaves w A m) (hb : Below w.heap.size w w') : Leaves w' A m := by
  rcases h with h | ⟨b, o, h1, h2⟩
  · exact .inl h
  · exact .inr ⟨b, o, h1, fun j hj => (h2 j hj).on hb⟩
def LvRel (w : World) (m : Nat) (i : Value) (wr : World) : Prop := ∃ k : Nat, k ≤ m ∧ i = .int .i64 (k : Int) ∧ Below w.heap.size w wr
/-- none of the leaves is not safe -/
theorem index_leaves (A : Option Addr) (c m : Nat) (w : World) (h : Leaves w A m) (hm : m ≤ 1000) (hS : 0 < m → ∀ W, Calls Tryz.prog 27 #[lfV 13 0] W fun e w' => e = .returned (.bool false) ∧ Below W.heap.size W w') :
    Calls Tryz.prog 39 #[.slice A m c, .func (.func 27) #[] #[]] w fun e w' => e = .returned (.int .i64 (-1)) ∧ Below w.heap.size w w' := by
  go_enter Tryz.func39, Tryz.ntmps39
  go_wp2_with fail
  go_loopw [5, 8] (fun x i wr => LvRel w m i wr) (fun _ i _ => m - (intOf i).toNat)
  case atStart => exact ⟨0, Nat.zero_le _, rfl, Below.refl _ _⟩
  case round =>
    obtain ⟨k, hk, rfl, hb⟩ := hrel
    by_cases hlt : k < m
    · rcases h with h | ⟨b, o, rfl, h2⟩
      · omega
      obtain ⟨c0, c1, c2, c3, c4, c5⟩ := (h2 k hlt).on hb
      have q1 : (k : Int) < (m : Int) := by omega
      have q2 : (0 : Int) ≤ (k : Int) := by omega
      have HI := Lib.hid hlt
      have hS2 := hS (by omega)
      clear h2 hlt
      go_wp2_with (go_at_call 27; refine (hS2 _).mono ?_; rintro e w1 ⟨rfl, h1⟩; have HB := Lib.hid (hb.trans (h1.mono hb.size)); clear h1)
      go_roundw
      case rel => exact ⟨k + 1, HI.out, by go_num, HB.out⟩
      case measure => have := HI.out; simp [intOf]; omega
    · have q1 : ¬ (k : Int) < (m : Int) := by omega
      go_wp2_with fail
      go_ret
      exact ⟨rfl, hb⟩
theorem contains_leaves (A : Option Addr) (c m : Nat) (w : World) (h : Leaves w A m) (hm : m ≤ 1000) (hS : 0 < m → ∀ W, Calls Tryz.prog 27 #[lfV 13 0] W fun e w' => e = .returned (.bool false) ∧ Below W.heap.size W w') :
    Calls Tryz.prog 26 #[.slice A m c, .func (.func 27) #[] #[]] w fun e w' => e = .returned (.bool false) ∧ Below w.heap.size w w' := by
  have HI := Lib.hid (index_leaves A c m w h hm hS)
  go_enter Tryz.func26, Tryz.ntmps26
  go_wp2_with (go_at_call 39; refine HI.out.mono ?_; rintro e w1 ⟨rfl, hb⟩)
  go_ret
  exact ⟨rfl, hb⟩
theorem safe_leaf (w : World) : Calls Tryz.prog 17 #[lfV 13 0] w fun e w' => e = .returned (.bool true) ∧ Below w.heap.size w w' := by
  obtain ⟨w1, hw1⟩ : ∃ X, w.alloc (.cells #[.int .u8 13, .string ⟨#[]⟩, .string ⟨#[]⟩, .int .i64 0, .int .i64 0, .slice none 0 0] 25) = X := ⟨_, rfl⟩
  have hal : Below w.heap.size w w1 := by rw [← hw1]; exact (Below.refl _ _).alloc (Nat.le_refl _) _
  have hc : ECell w1 w.heap.size 0 13 ⟨#[]⟩ ⟨#[]⟩ 0 0 none 0 0 := by
    rw [← hw1]
    refine ⟨?_, ?_, ?_, ?_, ?_, ?_⟩ <;> simp [go_sem]
  have HC := Lib.hid hc
  obtain ⟨c0, c1, c2, c3, c4, c5⟩ := hc
  simp only [Nat.zero_add] at c0 c1 c2 c3 c4 c5
  have HB := Lib.hid (show Below w1.heap.size w1 w1 from Below.refl _ _)
  go_enter Tryz.func17, Tryz.ntmps17
  go_wp2_with (first
    | (go_at_call 24; refine (mayBe_any 13 ⟨#[]⟩ ⟨#[]⟩ 0 0 none 0 0 _).mono ?_; rintro e wa ⟨rfl, ba⟩; have HB := Lib.hid (HB.out.trans (ba.mono HB.out.size)); clear c0 c1 c2 c3 c4 c5; obtain ⟨c0, c1, c2, c3, c4, c5⟩ := HC.out.on HB.out; simp only [Nat.zero_add] at c0 c1 c2 c3 c4 c5; rw [show mayB 13 ⟨#[]⟩ 0 0 = true by decide]; clear ba)
    | (go_at_call 25; refine (isSafe_leaf _).mono ?_; rintro e wa ⟨rfl, ba⟩; have HB := Lib.hid (HB.out.trans (ba.mono HB.out.size)); clear c0 c1 c2 c3 c4 c5; obtain ⟨c0, c1, c2, c3, c4, c5⟩ := HC.out.on HB.out; simp only [Nat.zero_add] at c0 c1 c2 c3 c4 c5; clear ba)
    | (go_at_call 26; refine (contains_leaves none 0 0 _ (.inl rfl) (by omega) (fun h => absurd h (by omega))).mono ?_; rintro e wa ⟨rfl, ba⟩; have HB := Lib.hid (HB.out.trans (ba.mono HB.out.size)); clear ba))
  go_ret
  exact ⟨rfl, hal.trans (HB.out.mono hal.size)⟩
theorem notSafe_leaf (w : World) : Calls Tryz.prog 27 #[lfV 13 0] w fun e w' => e = .returned (.bool false) ∧ Below w.heap.size w w' := by
  go_enter Tryz.func27, Tryz.ntmps27
  go_wp2_with (go_at_call 17; refine (safe_leaf _).mono ?_; rintro e w1 ⟨rfl, hb⟩)
  go_ret
  exact ⟨rfl, ((Below.refl _ _).alloc (Nat.le_refl _) _).trans (hb.mono (by simp))⟩
theorem safe_eq (A : Option Addr) (c : Nat) (w : World) (h : Leaves w A 2) : Calls Tryz.prog 17 #[exprV 7 ⟨#[61]⟩ ⟨#[]⟩ 0 0 A 2 c] w fun e w' => e = .returned (.bool true) ∧ Below w.heap.size w w' := by
  obtain ⟨w1, hw1⟩ : ∃ X, w.alloc (.cells #[.int .u8 7, .string ⟨#[61]⟩, .string ⟨#[]⟩, .int .i64 0, .int .i64 0, .slice A 2 c] 25) = X := ⟨_, rfl⟩
  have hal : Below w.heap.size w w1 := by rw [← hw1]; exact (Below.refl _ _).alloc (Nat.le_refl _) _
  have hc : ECell w1 w.heap.size 0 7 ⟨#[61]⟩ ⟨#[]⟩ 0 0 A 2 c := by
    rw [← hw1]
    refine ⟨?_, ?_, ?_, ?_, ?_, ?_⟩ <;> simp [go_sem]
  have HC := Lib.hid hc
  have HL := Lib.hid (h.on hal)
  obtain ⟨c0, c1, c2, c3, c4, c5⟩ := hc
  simp only [Nat.zero_add] at c0 c1 c2 c3 c4 c5
  have HB := Lib.hid (show Below w1.heap.size w1 w1 from Below.refl _ _)
  go_enter Tryz.func17, Tryz.ntmps17
  go_wp2_with (first
    | (go_at_call 24; refine (mayBe_any 7 ⟨#[61]⟩ ⟨#[]⟩ 0 0 A 2 c _).mono ?_; rintro e wa ⟨rfl, ba⟩; have HB := Lib.hid (HB.out.trans (ba.mono HB.out.size)); clear c0 c1 c2 c3 c4 c5; obtain ⟨c0, c1, c2, c3, c4, c5⟩ := HC.out.on HB.out; simp only [Nat.zero_add] at c0 c1 c2 c3 c4 c5; rw [show mayB 7 ⟨#[61]⟩ 0 2 = true by decide]; clear ba)
    | (go_at_call 25; refine (isSafe_eq A c _).mono ?_; rintro e wa ⟨rfl, ba⟩; have HB := Lib.hid (HB.out.trans (ba.mono HB.out.size)); clear c0 c1 c2 c3 c4 c5; obtain ⟨c0, c1, c2, c3, c4, c5⟩ := HC.out.on HB.out; simp only [Nat.zero_add] at c0 c1 c2 c3 c4 c5; clear ba)
    | (go_at_call 26; refine (contains_leaves A c 2 _ (HL.out.on HB.out) (by omega) (fun _ => notSafe_leaf)).mono ?_; rintro e wa ⟨rfl, ba⟩; have HB := Lib.hid (HB.out.trans (ba.mono HB.out.size)); clear ba))
  go_ret
  exact ⟨rfl, hal.trans (HB.out.mono hal.size)⟩
theorem safe_add (A : Option Addr) (c : Nat) (w : World) (h : Leaves w A 2) : Calls Tryz.prog 17 #[exprV 7 ⟨#[43]⟩ ⟨#[]⟩ 0 0 A 2 c] w fun e w' => e = .returned (.bool false) ∧ Below w.heap.size w w' := by
  obtain ⟨w1, hw1⟩ : ∃ X, w.alloc (.cells #[.int .u8 7, .string ⟨#[43]⟩, .string ⟨#[]⟩, .int .i64 0, .int .i64 0, .slice A 2 c] 25) = X := ⟨_, rfl⟩
  have hal : Below w.heap.size w w1 := by rw [← hw1]; exact (Below.refl _ _).alloc (Nat.le_refl _) _
  have hc : ECell w1 w.heap.size 0 7 ⟨#[43]⟩ ⟨#[]⟩ 0 0 A 2 c := by
    rw [← hw1]
    refine ⟨?_, ?_, ?_, ?_, ?_, ?_⟩ <;> simp [go_sem]
  have HC := Lib.hid hc
  have HL := Lib.hid (h.on hal)
  obtain ⟨c0, c1, c2, c3, c4, c5⟩ := hc
  simp only [Nat.zero_add] at c0 c1 c2 c3 c4 c5
  have HB := Lib.hid (show Below w1.heap.size w1 w1 from Below.refl _ _)
  go_enter Tryz.func17, Tryz.ntmps17
  go_wp2_with (first
    | (go_at_call 24; refine (mayBe_any 7 ⟨#[43]⟩ ⟨#[]⟩ 0 0 A 2 c _).mono ?_; rintro e wa ⟨rfl, ba⟩; have HB := Lib.hid (HB.out.trans (ba.mono HB.out.size)); clear c0 c1 c2 c3 c4 c5; obtain ⟨c0, c1, c2, c3, c4, c5⟩ := HC.out.on HB.out; simp only [Nat.zero_add] at c0 c1 c2 c3 c4 c5; rw [show mayB 7 ⟨#[43]⟩ 0 2 = true by decide]; clear ba)
    | (go_at_call 25; refine (isSafe_add A c _).mono ?_; rintro e wa ⟨rfl, ba⟩; have HB := Lib.hid (HB.out.trans (ba.mono HB.out.size)); clear c0 c1 c2 c3 c4 c5; obtain ⟨c0, c1, c2, c3, c4, c5⟩ := HC.out.on HB.out; simp only [Nat.zero_add] at c0 c1 c2 c3 c4 c5; clear ba)
    | (go_at_call 26; refine (contains_leaves A c 2 _ (HL.out.on HB.out) (by omega) (fun _ => notSafe_leaf)).mono ?_; rintro e wa ⟨rfl, ba⟩; have HB := Lib.hid (HB.out.trans (ba.mono HB.out.size)); clear ba))
  go_ret
  exact ⟨rfl, hal.trans (HB.out.mono hal.size)⟩
end Go.Proofs.YteijijoiifbjlaaGreatDoor

namespace Go.Proofs.YteijijoiifbjlaaGreatDoor
open Go.ChangeShapes Go.WideShapes Go.ChangeAt Go.RowKit
set_option linter.unusedVariables false
set_option linter.unusedSimpArgs false
set_option maxRecDepth 100000

section
variable {a b : Trip}
theorem opX_bad (g : ByteArray) (h : ¬ (RtT a ∧ RtT b)) : opX g a b = (nulT, 2) := by unfold opX; rw [if_pos h]
theorem opX_and (h : RtT a) (h' : RtT b) : opX sAnd a b = (andT a b, 0) := by
  unfold opX
  rw [if_neg (fun q => q ⟨h, h'⟩), if_pos rfl]
theorem opX_or (h : RtT a) (h' : RtT b) : opX sOr a b = (orT a b, 0) := by
  unfold opX
  rw [if_neg (fun q => q ⟨h, h'⟩), if_neg (show ¬ sOr = sAnd by decide), if_pos rfl]
theorem sgn_ne {g : ByteArray} (hg : g ∈ sgn) : g ≠ sAnd ∧ g ≠ sOr := by
  simp only [sgn, List.mem_cons, List.not_mem_nil, or_false] at hg
  rcases hg with rfl | rfl | rfl | rfl | rfl | rfl | rfl | rfl | rfl | rfl | rfl | rfl | rfl <;> decide
theorem opX_null {g : ByteArray} (hg : g ∈ sgn) (h : RtT a) (h' : RtT b) (h0 : a.1 = 0 ∨ b.1 = 0) : opX g a b = (nulT, 0) := by
  unfold opX
  rw [if_neg (fun q => q ⟨h, h'⟩), if_neg (sgn_ne hg).1, if_neg (sgn_ne hg).2, if_pos hg, if_pos h0]
theorem opX_two {g : ByteArray} (hg : g ∈ sgn) (h : RtT a) (h' : RtT b) (h0 : ¬ (a.1 = 0 ∨ b.1 = 0)) : opX g a b = twoX g a b := by
  unfold opX
  rw [if_neg (fun q => q ⟨h, h'⟩), if_neg (sgn_ne hg).1, if_neg (sgn_ne hg).2, if_pos hg, if_neg h0]
theorem twoX_add : twoX sAdd a b = (if In64 (intOfT a + intOfT b) then (intT (intOfT a + intOfT b), 0) else (nulT, 20)) := by
  unfold twoX
  rw [if_pos rfl]
theorem mem_add : sAdd ∈ sgn := by simp [sgn]
theorem twoX_sub : twoX sSub a b = (if In64 (intOfT a - intOfT b) then (intT (intOfT a - intOfT b), 0) else (nulT, 20)) := by
  unfold twoX
  rw [if_neg (show ¬ sSub = sAdd by decide), if_pos rfl]
theorem mem_sub : sSub ∈ sgn := by simp [sgn]
theorem twoX_mul : twoX sMul a b = (if In64 (intOfT a * intOfT b) then (intT (intOfT a * intOfT b), 0) else (nulT, 20)) := by
  unfold twoX
  rw [if_neg (show ¬ sMul = sAdd by decide), if_neg (show ¬ sMul = sSub by decide), if_pos rfl]
theorem mem_mul : sMul ∈ sgn := by simp [sgn]
theorem twoX_quo : twoX sQuo a b = (if intOfT b = 0 then (nulT, 0) else if intOfT a = -9223372036854775808 ∧ intOfT b = -1 then (nulT, 20) else (intT ((intOfT a).tdiv (intOfT b)), 0)) := by
  unfold twoX
  rw [if_neg (show ¬ sQuo = sAdd by decide), if_neg (show ¬ sQuo = sSub by decide), if_neg (show ¬ sQuo = sMul by decide), if_pos rfl]
theorem mem_quo : sQuo ∈ sgn := by simp [sgn]
theorem twoX_rem : twoX sRem a b = (if intOfT b = 0 then (nulT, 0) else (intT ((intOfT a).tmod (intOfT b)), 0)) := by
  unfold twoX
  rw [if_neg (show ¬ sRem = sAdd by decide), if_neg (show ¬ sRem = sSub by decide), if_neg (show ¬ sRem = sMul by decide), if_neg (show ¬ sRem = sQuo by decide), if_pos rfl]
theorem mem_rem : sRem ∈ sgn := by simp [sgn]
theorem twoX_cat : twoX sCat a b = (if (textT a).size + (textT b).size ≤ 65536 then ((2, 0, textT a ++ textT b), 0) else (nulT, 3)) := by
  unfold twoX
  rw [if_neg (show ¬ sCat = sAdd by decide), if_neg (show ¬ sCat = sSub by decide), if_neg (show ¬ sCat = sMul by decide), if_neg (show ¬ sCat = sQuo by decide), if_neg (show ¬ sCat = sRem by decide), if_pos rfl]
theorem mem_cat : sCat ∈ sgn := by simp [sgn]
theorem twoX_eq : twoX sEq a b = (flagT (cmpT a b == 0), 0) := by
  unfold twoX
  rw [if_neg (show ¬ sEq = sAdd by decide), if_neg (show ¬ sEq = sSub by decide), if_neg (show ¬ sEq = sMul by decide), if_neg (show ¬ sEq = sQuo by decide), if_neg (show ¬ sEq = sRem by decide), if_neg (show ¬ sEq = sCat by decide), if_pos rfl]
theorem mem_eq : sEq ∈ sgn := by simp [sgn]
theorem twoX_ne : twoX sNe a b = (flagT (cmpT a b != 0), 0) := by
  unfold twoX
  rw [if_neg (show ¬ sNe = sAdd by decide), if_neg (show ¬ sNe = sSub by decide), if_neg (show ¬ sNe = sMul by decide), if_neg (show ¬ sNe = sQuo by decide), if_neg (show ¬ sNe = sRem by decide), if_neg (show ¬ sNe = sCat by decide), if_neg (show ¬ sNe = sEq by decide), if_pos rfl]
theorem mem_ne : sNe ∈ sgn := by simp [sgn]
theorem twoX_lt : twoX sLt a b = (flagT (decide (cmpT a b < 0)), 0) := by
  unfold twoX
  rw [if_neg (show ¬ sLt = sAdd by decide), if_neg (show ¬ sLt = sSub by decide), if_neg (show ¬ sLt = sMul by decide), if_neg (show ¬ sLt = sQuo by decide), if_neg (show ¬ sLt = sRem by decide), if_neg (show ¬ sLt = sCat by decide), if_neg (show ¬ sLt = sEq by decide), if_neg (show ¬ sLt = sNe by decide), if_pos rfl]
theorem mem_lt : sLt ∈ sgn := by simp [sgn]
theorem twoX_le : twoX sLe a b = (flagT (decide (cmpT a b ≤ 0)), 0) := by
  unfold twoX
  rw [if_neg (show ¬ sLe = sAdd by decide), if_neg (show ¬ sLe = sSub by decide), if_neg (show ¬ sLe = sMul by decide), if_neg (show ¬ sLe = sQuo by decide), if_neg (show ¬ sLe = sRem by decide), if_neg (show ¬ sLe = sCat by decide), if_neg (show ¬ sLe = sEq by decide), if_neg (show ¬ sLe = sNe by decide), if_neg (show ¬ sLe = sLt by decide), if_pos rfl]
theorem mem_le : sLe ∈ sgn := by simp [sgn]
theorem twoX_gt : twoX sGt a b = (flagT (decide (0 < cmpT a b)), 0) := by
  unfold twoX
  rw [if_neg (show ¬ sGt = sAdd by decide), if_neg (show ¬ sGt = sSub by decide), if_neg (show ¬ sGt = sMul by decide), if_neg (show ¬ sGt = sQuo by decide), if_neg (show ¬ sGt = sRem by decide), if_neg (show ¬ sGt = sCat by decide), if_neg (show ¬ sGt = sEq by decide), if_neg (show ¬ sGt = sNe by decide), if_neg (show ¬ sGt = sLt by decide), if_neg (show ¬ sGt = sLe by decide), if_pos rfl]
theorem mem_gt : sGt ∈ sgn := by simp [sgn]
theorem twoX_ge : twoX sGe a b = (flagT (decide (0 ≤ cmpT a b)), 0) := by
  unfold twoX
  rw [if_neg (show ¬ sGe = sAdd by decide), if_neg (show ¬ sGe = sSub by decide), if_neg (show ¬ sGe = sMul by decide), if_neg (show ¬ sGe = sQuo by decide), if_neg (show ¬ sGe = sRem by decide), if_neg (show ¬ sGe = sCat by decide), if_neg (show ¬ sGe = sEq by decide), if_neg (show ¬ sGe = sNe by decide), if_neg (show ¬ sGe = sLt by decide), if_neg (show ¬ sGe = sLe by decide), if_neg (show ¬ sGe = sGt by decide), if_pos rfl]
theorem mem_ge : sGe ∈ sgn := by simp [sgn]
theorem twoX_like : twoX sLike a b = (if (textT b).size ≤ 1000 then (flagT (likeT (textT a) (textT b)), 0) else (nulT, 3)) := by
  unfold twoX
  rw [if_neg (show ¬ sLike = sAdd by decide), if_neg (show ¬ sLike = sSub by decide), if_neg (show ¬ sLike = sMul by decide), if_neg (show ¬ sLike = sQuo by decide), if_neg (show ¬ sLike = sRem by decide), if_neg (show ¬ sLike = sCat by decide), if_neg (show ¬ sLike = sEq by decide), if_neg (show ¬ sLike = sNe by decide), if_neg (show ¬ sLike = sLt by decide), if_neg (show ¬ sLike = sLe by decide), if_neg (show ¬ sLike = sGt by decide), if_neg (show ¬ sLike = sGe by decide)]
theorem mem_like : sLike ∈ sgn := by simp [sgn]
theorem oneX_not (h : RtT a) : oneX sNot a = (if a.1 = 0 then (nulT, 0) else (flagT (!trueT a), 0)) := by
  unfold oneX
  rw [if_neg (fun q => q h), if_pos rfl]
end
theorem RtT_int (n : Int) : RtT (intT n) := .inr (.inl ⟨rfl, rfl⟩)
theorem RtT_nul : RtT nulT := .inl ⟨rfl, rfl, rfl⟩
theorem RtT_flag (b : Bool) : RtT (flagT b) := RtT_int _
theorem eq_int (m n : Int) : opX sEq (intT m) (intT n) = (flagT (decide (m = n)), 0) := by
  rw [opX_two mem_eq (RtT_int m) (RtT_int n) (by simp), twoX_eq]
  have : (cmpT (intT m) (intT n) == 0) = decide (m = n) := by
    simp only [cmpT, cmpV]
    by_cases h : m < n
    · have h1 : ¬ m = n := by omega
      simp [cmp3, h, h1]
    · by_cases h2 : m = n
      · subst h2; simp [cmp3]
      · simp [cmp3, h, h2]; omega
  rw [this]
theorem eq_nulr (m : Int) : opX sEq (intT m) nulT = (nulT, 0) := opX_null mem_eq (RtT_int m) RtT_nul (.inr rfl)
theorem or_flag (b c : Bool) : opX sOr (flagT b) (flagT c) = (flagT (b || c), 0) := by
  rw [opX_or (RtT_flag b) (RtT_flag c)]
  cases b <;> cases c <;> decide
theorem or_nul (b : Bool) : opX sOr (flagT b) nulT = (if b then (flagT true, 0) else (nulT, 0)) := by
  rw [opX_or (RtT_flag b) RtT_nul]
  cases b <;> decide
theorem not_flag (b : Bool) : oneX sNot (flagT b) = (flagT (!b), 0) := by
  rw [oneX_not (RtT_flag b)]
  cases b <;> decide
abbrev env0 : EnvM := ⟨[], [], [], []⟩
abbrev leaf (k n : Int) : Ee := .mk k ⟨#[]⟩ ⟨#[]⟩ n 0 []
theorem ev_num (x : EnvM) (n : Int) : evX x (leaf 2 n) = (intT n, 0) := by simp [evX, evL, toldX, mayB]
theorem ev_null (x : EnvM) : evX x (leaf 1 0) = (nulT, 0) := by simp [evX, evL, toldX, mayB]
theorem evL3 (x : EnvM) {e1 e2 e3 : Ee} {t1 t2 t3 : Trip} (h1 : evX x e1 = (t1, 0)) (h2 : evX x e2 = (t2, 0)) (h3 : evX x e3 = (t3, 0)) : evL x [e1, e2, e3] = ([t1, t2, t3], 0) := by simp [evL, h1, h2, h3]
theorem evL2 (x : EnvM) {e1 e2 : Ee} {t1 t2 : Trip} (h1 : evX x e1 = (t1, 0)) (h2 : evX x e2 = (t2, 0)) : evL x [e1, e2] = ([t1, t2], 0) := by simp [evL, h1, h2]
theorem ev_in (x : EnvM) (n : Int) (l : List Ee) (ts : List Trip) (hn : n = 0 ∨ n = 1) (hl : 2 ≤ l.length) (h : evL x l = (ts, 0)) : evX x (.mk 9 ⟨#[]⟩ ⟨#[]⟩ n 0 l) = amX n ts := by
  simp only [evX]
  rw [if_pos (by simp [mayB, hl, hn]), h]
  simp [toldX]
theorem ex1 : evX env0 (.mk 9 ⟨#[]⟩ ⟨#[]⟩ 0 0 [leaf 2 2, leaf 2 1, leaf 1 0]) = (nulT, 0) := by
  rw [ev_in _ _ _ _ (.inl rfl) (by simp) (evL3 _ (ev_num _ 2) (ev_num _ 1) (ev_null _))]
  simp [amX, amL, eq_int, eq_nulr, or_flag, or_nul]
theorem ex2 : evX env0 (.mk 9 ⟨#[]⟩ ⟨#[]⟩ 0 0 [leaf 2 1, leaf 2 1, leaf 1 0]) = (intT 1, 0) := by
  rw [ev_in _ _ _ _ (.inl rfl) (by simp) (evL3 _ (ev_num _ 1) (ev_num _ 1) (ev_null _))]
  simp [amX, amL, eq_int, eq_nulr, or_flag, or_nul]
theorem ex3 : evX env0 (.mk 9 ⟨#[]⟩ ⟨#[]⟩ 1 0 [leaf 2 2, leaf 2 1, leaf 2 3]) = (intT 1, 0) := by
  rw [ev_in _ _ _ _ (.inr rfl) (by simp) (evL3 _ (ev_num _ 2) (ev_num _ 1) (ev_num _ 3))]
  simp [amX, amL, eq_int, eq_nulr, or_flag, or_nul, not_flag]
theorem ex4 : evX env0 (.mk 13 ⟨#[]⟩ ⟨#[]⟩ 0 3 []) = (nulT, 0) := by simp [evX, evL, toldX, mayB, atT, atR]
abbrev env5 : EnvM := ⟨[[intT 9223372036854775807]], [], [], []⟩
theorem ex5 : evX env5 (.mk 7 sAdd ⟨#[]⟩ 0 0 [leaf 2 1, leaf 13 0]) = (nulT, 20) := by
  have h2 : evX env5 (leaf 13 0) = (intT 9223372036854775807, 0) := by simp [evX, evL, toldX, mayB, atT, atR]
  simp only [evX]
  rw [if_pos (by simp [mayB]), evL2 _ (ev_num _ 1) h2]
  simp only [toldX]
  simp
  rw [opX_two mem_add (RtT_int _) (RtT_int _) (by simp), twoX_add, if_neg (by decide)]
end Go.Proofs.YteijijoiifbjlaaGreatDoor
