/-
  The helpers of the statements of layer 2: num, text, blob, errs, op, calls, both. Conditions: what is called returns.
-/
import Derived.Test.YtgaeljiindpcmaaGreatDoorVShow
import Derived.Test.YtgaeljiindpcmaaGreatDoorVLike
namespace Go.Proofs.YtgaeljiindpcmaaGreatDoor
open Go.ChangeShapes Go.WideShapes Go.ChangeAt Go.RowKit
set_option linter.unusedVariables false

theorem lowNum (n : Int) (w : World) :
    Calls Tryz.prog 40 #[.int .i64 n] w fun e w' => e = .returned (vv 1 n ⟨#[]⟩) ∧ Below w.heap.size w w' := by
  go_enter Tryz.func40, Tryz.ntmps40
  go_wp2
  exact bodyPost_ret (v := vv 1 n ⟨#[]⟩) (by simp [results, Tryz.results40, go_sem]) rfl ⟨rfl, (Below.refl _ _).alloc (Nat.le_refl _) _⟩
theorem num_any (n : Int) (w : World) :
    Calls Tryz.prog 9 #[.int .i64 n] w fun e w' => e = .returned (vv 1 n ⟨#[]⟩) ∧ Below w.heap.size w w' := by
  go_enter Tryz.func9, Tryz.ntmps9
  go_wp2_with (go_at_call 40; refine (lowNum _ _).mono ?_; rintro e wb ⟨rfl, bb⟩; obtain ⟨u0, u1, u2, v0, v1, v2⟩ := w1_out w _ bb; have hz : w.heap.size < wb.heap.size := (by have := bb.size; simp at this; omega))
  exact bodyPost_ret (v := vv 1 n ⟨#[]⟩) (by simp [results, Tryz.results9, go_sem, u0, u1, u2]) rfl ⟨rfl, w1_end _ _ bb _ _ _⟩

theorem lowText (s : ByteArray) (w : World) :
    Calls Tryz.prog 29 #[.string s] w fun e w' => e = .returned (vv 2 0 s) ∧ Below w.heap.size w w' := by
  go_enter Tryz.func29, Tryz.ntmps29
  go_wp2
  exact bodyPost_ret (v := vv 2 0 s) (by simp [results, Tryz.results29, go_sem]) rfl ⟨rfl, (Below.refl _ _).alloc (Nat.le_refl _) _⟩
theorem text_any (s : ByteArray) (w : World) :
    Calls Tryz.prog 6 #[.string s] w fun e w' => e = .returned (vv 2 0 s) ∧ Below w.heap.size w w' := by
  go_enter Tryz.func6, Tryz.ntmps6
  go_wp2_with (go_at_call 29; refine (lowText _ _).mono ?_; rintro e wb ⟨rfl, bb⟩; obtain ⟨u0, u1, u2, v0, v1, v2⟩ := w1_out w _ bb; have hz : w.heap.size < wb.heap.size := (by have := bb.size; simp at this; omega))
  exact bodyPost_ret (v := vv 2 0 s) (by simp [results, Tryz.results6, go_sem, u0, u1, u2]) rfl ⟨rfl, w1_end _ _ bb _ _ _⟩

theorem lowBlob (s : ByteArray) (w : World) :
    Calls Tryz.prog 53 #[.string s] w fun e w' => e = .returned (vv 3 0 s) ∧ Below w.heap.size w w' := by
  go_enter Tryz.func53, Tryz.ntmps53
  go_wp2
  exact bodyPost_ret (v := vv 3 0 s) (by simp [results, Tryz.results53, go_sem]) rfl ⟨rfl, (Below.refl _ _).alloc (Nat.le_refl _) _⟩
theorem blob_any (s : ByteArray) (w : World) :
    Calls Tryz.prog 19 #[.string s] w fun e w' => e = .returned (vv 3 0 s) ∧ Below w.heap.size w w' := by
  go_enter Tryz.func19, Tryz.ntmps19
  go_wp2_with (go_at_call 53; refine (lowBlob _ _).mono ?_; rintro e wb ⟨rfl, bb⟩; obtain ⟨u0, u1, u2, v0, v1, v2⟩ := w1_out w _ bb; have hz : w.heap.size < wb.heap.size := (by have := bb.size; simp at this; omega))
  exact bodyPost_ret (v := vv 3 0 s) (by simp [results, Tryz.results19, go_sem, u0, u1, u2]) rfl ⟨rfl, w1_end _ _ bb _ _ _⟩


theorem errs_yes (er : Int) (w : World) :
    Calls Tryz.prog 14 #[nul, .int .i64 er, .int .i64 er] w fun e w' => e = .returned (.bool true) ∧ Below w.heap.size w w' := by
  go_enter Tryz.func14, Tryz.ntmps14
  go_wp2_with fail
  go_ret
  exact ⟨rfl, (Below.refl _ _).alloc (Nat.le_refl _) _⟩

set_option maxHeartbeats 400000 in
theorem op_yes (sign : ByteArray) (k n : Int) (s : ByteArray) (k' n' : Int) (s' : ByteArray) (a b : Int) (c : ByteArray) (w : World)
    (H : ∀ W, Below w.heap.size w W → Calls Tryz.prog 8 #[.string sign, vv k n s, vv k' n' s'] W (RetV (vv a b c) 0 W)) :
    Calls Tryz.prog 52 #[.string sign, vv k n s, vv k' n' s', vv a b c] w fun e w' => e = .returned (.bool true) ∧ Below w.heap.size w w' := by
  have HH := Lib.hid H
  have HB := Lib.hid ((((Below.refl w.heap.size w).alloc (Nat.le_refl _) (box k n s)).alloc (by simp) (box k' n' s')).alloc (by simp; omega) (box a b c))
  clear H
  go_enter Tryz.func52, Tryz.ntmps52
  go_wp2_with (go_at_call 8; refine (HH.out _ HB.out).mono ?_; rintro e wa ⟨rfl, ba⟩; obtain ⟨hc, hf⟩ := bcell ba; have hz : w.heap.size + 1 + 1 < wa.heap.size := (by have := ba.size; simp at this; omega); have HB := Lib.hid (HB.out.trans (ba.mono HB.out.size)); clear ba)
  go_ret
  exact ⟨rfl, HB.out.alloc HB.out.size _⟩

set_option maxHeartbeats 400000 in
theorem calls_yes (a b : Int) (c : ByteArray) (name : ByteArray) (A : Option Addr) (m cap : Nat) (w : World)
    (H : ∀ W, Below w.heap.size w W → Calls Tryz.prog 12 #[.string name, .slice A m cap] W (RetV (vv a b c) 0 W)) :
    Calls Tryz.prog 18 #[vv a b c, .string name, .slice A m cap] w fun e w' => e = .returned (.bool true) ∧ Below w.heap.size w w' := by
  have HH := Lib.hid H
  have HB := Lib.hid ((Below.refl w.heap.size w).alloc (Nat.le_refl _) (box a b c))
  clear H
  go_enter Tryz.func18, Tryz.ntmps18
  go_wp2_with (go_at_call 12; refine (HH.out _ HB.out).mono ?_; rintro e wa ⟨rfl, ba⟩; obtain ⟨hc, hf⟩ := bcell ba; have hz : w.heap.size < wa.heap.size := (by have := ba.size; simp at this; omega); have HB := Lib.hid (HB.out.trans (ba.mono HB.out.size)); clear ba)
  go_ret
  exact ⟨rfl, HB.out.alloc HB.out.size _⟩

theorem both_any (sign : ByteArray) (k n : Int) (s : ByteArray) (k' n' : Int) (s' : ByteArray) (a b : Int) (c : ByteArray) (er : Int) (w : World)
    (H : ∀ W, Below w.heap.size w W → Calls Tryz.prog 8 #[.string sign, vv k n s, vv k' n' s'] W (RetV (vv a b c) er W)) :
    Calls Tryz.prog 27 #[.string sign, vv k n s, vv k' n' s'] w fun e w' => e = .returned (vv a b c) ∧ Below w.heap.size w w' := by
  have HH := Lib.hid H
  clear H
  go_enter Tryz.func27, Tryz.ntmps27
  go_wp2_with (go_at_call 8; refine (HH.out _ (w3_below w k n s k' n' s')).mono ?_; rintro e wa ⟨rfl, ba⟩; have HB := Lib.hid ba; obtain ⟨hc0, hc1, hc2, hf0, hf1, hf2⟩ := w3_out _ _ _ _ _ _ _ _ ba; have hz : w.heap.size + 1 + 1 < wa.heap.size := (by have := ba.size; simp at this; omega); clear ba)
  exact bodyPost_ret (v := vv a b c) (by simp [results, Tryz.results27, go_sem, hc0, hc1, hc2, hz]) rfl ⟨rfl, (w3_end _ _ _ _ _ _ _ _ HB.out _ _ _).alloc (by simp; omega) _⟩
end Go.Proofs.YtgaeljiindpcmaaGreatDoor
