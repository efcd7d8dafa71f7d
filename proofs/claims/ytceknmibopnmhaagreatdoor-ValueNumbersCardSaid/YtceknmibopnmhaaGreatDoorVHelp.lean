/-
  The helpers of the statements of layer 2: num, text, blob, errs, op, calls, both. Conditions: what is called returns.
-/
import Derived.Test.YtceknmibopnmhaaGreatDoorVShow
import Derived.Test.YtceknmibopnmhaaGreatDoorVLike
namespace Go.Proofs.YtceknmibopnmhaaGreatDoor
open Go.ChangeShapes Go.WideShapes Go.ChangeAt Go.RowKit
set_option linter.unusedVariables false

theorem lowNum (n : Int) (w : World) :
    Calls Tryz.prog 55 #[.int .i64 n] w fun e w' => e = .returned (vv 1 n ⟨#[]⟩) ∧ Below w.heap.size w w' := by
  go_enter Tryz.func55, Tryz.ntmps55
  go_wp2
  exact bodyPost_ret (v := vv 1 n ⟨#[]⟩) (by simp [results, Tryz.results55, go_sem]) rfl ⟨rfl, (Below.refl _ _).alloc (Nat.le_refl _) _⟩
theorem num_any (n : Int) (w : World) :
    Calls Tryz.prog 13 #[.int .i64 n] w fun e w' => e = .returned (vv 1 n ⟨#[]⟩) ∧ Below w.heap.size w w' := by
  go_enter Tryz.func13, Tryz.ntmps13
  go_wp2_with (go_at_call 55; refine (lowNum _ _).mono ?_; rintro e wb ⟨rfl, bb⟩; obtain ⟨u0, u1, u2, v0, v1, v2⟩ := w1_out w _ bb; have hz : w.heap.size < wb.heap.size := (by have := bb.size; simp at this; omega))
  exact bodyPost_ret (v := vv 1 n ⟨#[]⟩) (by simp [results, Tryz.results13, go_sem, u0, u1, u2]) rfl ⟨rfl, w1_end _ _ bb _ _ _⟩

theorem lowText (s : ByteArray) (w : World) :
    Calls Tryz.prog 44 #[.string s] w fun e w' => e = .returned (vv 2 0 s) ∧ Below w.heap.size w w' := by
  go_enter Tryz.func44, Tryz.ntmps44
  go_wp2
  exact bodyPost_ret (v := vv 2 0 s) (by simp [results, Tryz.results44, go_sem]) rfl ⟨rfl, (Below.refl _ _).alloc (Nat.le_refl _) _⟩
theorem text_any (s : ByteArray) (w : World) :
    Calls Tryz.prog 10 #[.string s] w fun e w' => e = .returned (vv 2 0 s) ∧ Below w.heap.size w w' := by
  go_enter Tryz.func10, Tryz.ntmps10
  go_wp2_with (go_at_call 44; refine (lowText _ _).mono ?_; rintro e wb ⟨rfl, bb⟩; obtain ⟨u0, u1, u2, v0, v1, v2⟩ := w1_out w _ bb; have hz : w.heap.size < wb.heap.size := (by have := bb.size; simp at this; omega))
  exact bodyPost_ret (v := vv 2 0 s) (by simp [results, Tryz.results10, go_sem, u0, u1, u2]) rfl ⟨rfl, w1_end _ _ bb _ _ _⟩

theorem lowBlob (s : ByteArray) (w : World) :
    Calls Tryz.prog 66 #[.string s] w fun e w' => e = .returned (vv 3 0 s) ∧ Below w.heap.size w w' := by
  go_enter Tryz.func66, Tryz.ntmps66
  go_wp2
  exact bodyPost_ret (v := vv 3 0 s) (by simp [results, Tryz.results66, go_sem]) rfl ⟨rfl, (Below.refl _ _).alloc (Nat.le_refl _) _⟩
theorem blob_any (s : ByteArray) (w : World) :
    Calls Tryz.prog 23 #[.string s] w fun e w' => e = .returned (vv 3 0 s) ∧ Below w.heap.size w w' := by
  go_enter Tryz.func23, Tryz.ntmps23
  go_wp2_with (go_at_call 66; refine (lowBlob _ _).mono ?_; rintro e wb ⟨rfl, bb⟩; obtain ⟨u0, u1, u2, v0, v1, v2⟩ := w1_out w _ bb; have hz : w.heap.size < wb.heap.size := (by have := bb.size; simp at this; omega))
  exact bodyPost_ret (v := vv 3 0 s) (by simp [results, Tryz.results23, go_sem, u0, u1, u2]) rfl ⟨rfl, w1_end _ _ bb _ _ _⟩


theorem errs_yes (er : Int) (w : World) :
    Calls Tryz.prog 18 #[nul, .int .i64 er, .int .i64 er] w fun e w' => e = .returned (.bool true) ∧ Below w.heap.size w w' := by
  go_enter Tryz.func18, Tryz.ntmps18
  go_wp2_with fail
  go_ret
  exact ⟨rfl, (Below.refl _ _).alloc (Nat.le_refl _) _⟩

set_option maxHeartbeats 400000 in
theorem op_yes (sign : ByteArray) (k n : Int) (s : ByteArray) (k' n' : Int) (s' : ByteArray) (a b : Int) (c : ByteArray) (w : World)
    (H : ∀ W, Below w.heap.size w W → Calls Tryz.prog 12 #[.string sign, vv k n s, vv k' n' s'] W (RetV (vv a b c) 0 W)) :
    Calls Tryz.prog 65 #[.string sign, vv k n s, vv k' n' s', vv a b c] w fun e w' => e = .returned (.bool true) ∧ Below w.heap.size w w' := by
  have HH := Lib.hid H
  have HB := Lib.hid ((((Below.refl w.heap.size w).alloc (Nat.le_refl _) (box k n s)).alloc (by simp) (box k' n' s')).alloc (by simp; omega) (box a b c))
  clear H
  go_enter Tryz.func65, Tryz.ntmps65
  go_wp2_with (go_at_call 12; refine (HH.out _ HB.out).mono ?_; rintro e wa ⟨rfl, ba⟩; obtain ⟨hc, hf⟩ := bcell ba; have hz : w.heap.size + 1 + 1 < wa.heap.size := (by have := ba.size; simp at this; omega); have HB := Lib.hid (HB.out.trans (ba.mono HB.out.size)); clear ba)
  go_ret
  exact ⟨rfl, HB.out.alloc HB.out.size _⟩

set_option maxHeartbeats 400000 in
theorem calls_yes (a b : Int) (c : ByteArray) (name : ByteArray) (A : Option Addr) (m cap : Nat) (w : World)
    (H : ∀ W, Below w.heap.size w W → Calls Tryz.prog 16 #[.string name, .slice A m cap] W (RetV (vv a b c) 0 W)) :
    Calls Tryz.prog 22 #[vv a b c, .string name, .slice A m cap] w fun e w' => e = .returned (.bool true) ∧ Below w.heap.size w w' := by
  have HH := Lib.hid H
  have HB := Lib.hid ((Below.refl w.heap.size w).alloc (Nat.le_refl _) (box a b c))
  clear H
  go_enter Tryz.func22, Tryz.ntmps22
  go_wp2_with (go_at_call 16; refine (HH.out _ HB.out).mono ?_; rintro e wa ⟨rfl, ba⟩; obtain ⟨hc, hf⟩ := bcell ba; have hz : w.heap.size < wa.heap.size := (by have := ba.size; simp at this; omega); have HB := Lib.hid (HB.out.trans (ba.mono HB.out.size)); clear ba)
  go_ret
  exact ⟨rfl, HB.out.alloc HB.out.size _⟩

end Go.Proofs.YtceknmibopnmhaaGreatDoor
