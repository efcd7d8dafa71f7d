/-
  The functions substr and hex as they are called (layer 2, value). Conditions: sizes, numbers of 64 bits.
-/
import Derived.Test.YtbelhgdogafedaaGreatDoorVSub
import Derived.Test.YtbelhgdogafedaaGreatDoorVHex
namespace Go.Proofs.YtbelhgdogafedaaGreatDoor
open Go.ChangeShapes Go.WideShapes Go.ChangeAt Go.RowKit
set_option linter.unusedVariables false

theorem RdV.two {w : World} {b off : Nat} {k n k' n' : Int} {s s' : ByteArray} {r : List Trip} (h : RdV w b off ((k, n, s) :: (k', n', s') :: r)) :
    w.cell? ⟨b, off, none⟩ = some (.int .u8 k) ∧ w.cell? ⟨b, off + 1, none⟩ = some (.int .i64 n) ∧ w.cell? ⟨b, off + 2, none⟩ = some (.string s) ∧
    w.cell? ⟨b, off + 3, none⟩ = some (.int .u8 k') ∧ w.cell? ⟨b, off + 3 + 1, none⟩ = some (.int .i64 n') ∧ w.cell? ⟨b, off + 3 + 2, none⟩ = some (.string s') := by
  obtain ⟨a0, a1, a2⟩ := h.2 0 k n s rfl
  obtain ⟨b0, b1, b2⟩ := h.2 1 k' n' s' rfl
  simp only [Nat.zero_mul, Nat.add_zero, Nat.one_mul] at a0 a1 a2 b0 b1 b2
  exact ⟨a0, a1, a2, b0, b1, b2⟩
theorem RdV.third {w : World} {b off : Nat} {x y z : Trip} (h : RdV w b off [x, y, z]) : RdV w b (off + 6) [z] := by
  refine ⟨h.1, fun j k n s hj => ?_⟩
  match j, hj with
  | 0, hj =>
    have hz : z = (k, n, s) := by simpa using hj
    subst hz
    have := h.2 2 k n s rfl
    simpa using this
  | j + 1, hj => simp at hj

set_option maxRecDepth 100000 in
set_option maxHeartbeats 800000 in
theorem subCall3 (b off : Nat) (k n : Int) (s : ByteArray) (k' n' : Int) (s' : ByteArray) (k2 n2 : Int) (s2 : ByteArray) (w : World) (hn : In64 n) (hW : Wd w) (hs : (textV k n s).size ≤ 1099511627776) (hk : k ≠ 3)
    (hs' : s'.size ≤ 4611686018427387904) (hi : In64 (intV k' n' s')) (hs2 : s2.size ≤ 4611686018427387904) (hi2 : In64 (intV k2 n2 s2)) (hR : RdV w b off [(k, n, s), (k', n', s'), (k2, n2, s2)]) :
    Calls Tryz.prog 129 #[.slice (some ⟨b, off, none⟩) 3 3] w (RetV (vv 2 0 (cutS (textV k n s) (min (fromP (textV k n s).size (intV k' n' s')) (addW (fromP (textV k n s).size (intV k' n' s')) (intV k2 n2 s2))) (max (fromP (textV k n s).size (intV k' n' s')) (addW (fromP (textV k n s).size (intV k' n' s')) (intV k2 n2 s2))))) 0 w) := by
  generalize hcv : cutS (textV k n s) (min (fromP (textV k n s).size (intV k' n' s')) (addW (fromP (textV k n s).size (intV k' n' s')) (intV k2 n2 s2))) (max (fromP (textV k n s).size (intV k' n' s')) (addW (fromP (textV k n s).size (intV k' n' s')) (intV k2 n2 s2))) = cut
  have HC := Lib.hid hcv
  have HN := Lib.hid hn
  have HWd := Lib.hid hW
  have HS := Lib.hid hs
  have HS2 := Lib.hid hs2
  have HI := Lib.hid hi
  have HI2 := Lib.hid hi2
  have HR := Lib.hid hR
  have F := fun (X : World) (h : Below w.heap.size w X) => (hR.on h).two
  clear hcv hn hW hs hs2 hi hi2 hR
  go_enter Tryz.func129, Tryz.ntmps129
  go_wp2_with fail
  go_region_held3 (fun X => X.cell? ⟨b, off, none⟩ = some (.int .u8 k) ∧ X.cell? ⟨b, off + 1, none⟩ = some (.int .i64 n) ∧ X.cell? ⟨b, off + 2, none⟩ = some (.string s) ∧
      X.cell? ⟨b, off + 3, none⟩ = some (.int .u8 k') ∧ X.cell? ⟨b, off + 3 + 1, none⟩ = some (.int .i64 n') ∧ X.cell? ⟨b, off + 3 + 2, none⟩ = some (.string s'))
    (first | exact F _ (w1_end _ _ hcur.out _ _ _) | exact F _ ((w1_below w).trans (hcur.out.mono (by simp))) | exact F _ (w1_below w).drew)
    (first
      | (go_at_call 41; refine (Int_any _ _ _ _ hs').mono ?_; rintro e wa ⟨rfl, ba⟩; have hcur := Lib.hid ((Below.refl (w1 w).heap.size (w1 w)).drew.trans ba))
      | (go_at_call 130; refine (substr_three k n s _ b (off + 6) _ k2 n2 s2 _ HN.out HI.out (HWd.out.on ((w1_below w).trans (hcur.out.mono (by simp)))) HS.out hk HS2.out HI2.out (HR.out.on ((w1_below w).trans (hcur.out.mono (by simp)))).third).mono ?_; rintro e wb ⟨rfl, bb⟩; rw [HC.out]; have hcur := Lib.hid (hcur.out.trans (bb.mono hcur.out.size)); obtain ⟨u0, u1, u2, v0, v1, v2⟩ := w1_out w _ hcur.out; have hz : w.heap.size < wb.heap.size := (by have := hcur.out.size; simp at this; omega)))
  go_wp2_with fail
  exact bodyPost_ret (v := .tuple #[vv 2 0 cut, .int .i64 0]) (by simp [results, Tryz.results129, go_sem, u0, u1, u2]) rfl ⟨rfl, w1_end _ _ hcur.out _ _ _⟩

theorem hex_ok (s : ByteArray) (w : World) (hs : 2 * s.size ≤ 65536) :
    Calls Tryz.prog 125 #[.string s] w (RetV (vv 2 0 ⟨(hexL s.data.toList).toArray⟩) 0 w) := by
  generalize hcv : (⟨(hexL s.data.toList).toArray⟩ : ByteArray) = cut
  have HC := Lib.hid hcv
  clear hcv
  go_enter Tryz.func125, Tryz.ntmps125
  go_wp2_with (first
    | (go_at_call 138; refine (hexDigits_any _ _ (by omega)).mono ?_; rintro e wa ⟨rfl, ba⟩; rw [HC.out]; have hcur := Lib.hid ba)
    | (go_at_call 88; refine (textValue_any _ _).mono ?_; rintro e wb ⟨rfl, bb⟩; have hcur := Lib.hid (hcur.out.trans (bb.mono hcur.out.size)); obtain ⟨u0, u1, u2, v0, v1, v2⟩ := w1_out w _ hcur.out; have hz : w.heap.size < wb.heap.size := (by have := hcur.out.size; simp at this; omega)))
  exact bodyPost_ret (v := .tuple #[vv 2 0 cut, .int .i64 0]) (by simp [results, Tryz.results125, go_sem, u0, u1, u2]) rfl ⟨rfl, w1_end _ _ hcur.out _ _ _⟩
theorem hex_long (s : ByteArray) (w : World) (hs : 65536 < 2 * s.size) (hs2 : s.size ≤ 4611686018427387903) :
    Calls Tryz.prog 125 #[.string s] w (RetV nul 3 w) := by
  go_enter Tryz.func125, Tryz.ntmps125
  go_wp2_with fail
  exact bodyPost_ret (v := .tuple #[nul, .int .i64 3]) (by simp [results, Tryz.results125, go_sem]) rfl ⟨rfl, w1_below w⟩

theorem RdV.one {w : World} {b off : Nat} {k n : Int} {s : ByteArray} {r : List Trip} (h : RdV w b off ((k, n, s) :: r)) :
    w.cell? ⟨b, off, none⟩ = some (.int .u8 k) ∧ w.cell? ⟨b, off + 1, none⟩ = some (.int .i64 n) ∧ w.cell? ⟨b, off + 2, none⟩ = some (.string s) := by
  obtain ⟨a0, a1, a2⟩ := h.2 0 k n s rfl
  simp only [Nat.zero_mul, Nat.add_zero] at a0 a1 a2
  exact ⟨a0, a1, a2⟩

set_option maxRecDepth 100000 in
theorem hexCall (b off : Nat) (k n : Int) (s : ByteArray) (w : World) (hn : In64 n) (hW : Wd w) (x y : Int) (z : ByteArray) (er : Int) (hR : RdV w b off [(k, n, s)])
    (H : ∀ W, Below w.heap.size w W → Calls Tryz.prog 125 #[.string (textV k n s)] W (RetV (vv x y z) er W)) :
    Calls Tryz.prog 124 #[.slice (some ⟨b, off, none⟩) 1 1] w (RetV (vv x y z) er w) := by
  have HN := Lib.hid hn
  have HWd := Lib.hid (hW.on (w1_below w))
  have HH := Lib.hid H
  obtain ⟨c0, c1, c2⟩ := (hR.on (w1_below w)).one
  clear hn hW H hR
  go_enter Tryz.func124, Tryz.ntmps124
  go_wp2_with (first
    | (go_at_call 89; refine (Text_any _ _ _ _ HN.out HWd.out).mono ?_; rintro e wa ⟨rfl, ba⟩; have hcur := Lib.hid ba)
    | (go_at_call 125; refine (HH.out _ ((w1_below w).trans (hcur.out.mono (by simp)))).mono ?_; rintro e wb ⟨rfl, bb⟩; have hcur := Lib.hid (hcur.out.trans (bb.mono hcur.out.size)); obtain ⟨u0, u1, u2, v0, v1, v2⟩ := w1_out w _ hcur.out; have hz : w.heap.size < wb.heap.size := (by have := hcur.out.size; simp at this; omega)))
  exact bodyPost_ret (v := .tuple #[vv x y z, .int .i64 er]) (by simp [results, Tryz.results124, go_sem, u0, u1, u2]) rfl ⟨rfl, w1_end _ _ hcur.out _ _ _⟩

theorem named_substr : Named ⟨#[115, 117, 98, 115, 116, 114]⟩ 2 3 false 129 (fun _ _ => #[]) := fun c1 c2 => ⟨9, rfl⟩
theorem named_hex : Named ⟨#[104, 101, 120]⟩ 1 1 true 124 (fun _ _ => #[]) := fun c1 c2 => ⟨5, rfl⟩
theorem enters_substr : ∀ (args : Array Value) (W : World), (callFunc 129 args).run Tryz.prog W = .ok (.enter 129 args) W := enters_of Tryz.func129 (by kernel_rfl) rfl
theorem enters_hex : ∀ (args : Array Value) (W : World), (callFunc 124 args).run Tryz.prog W = .ok (.enter 124 args) W := enters_of Tryz.func124 (by kernel_rfl) rfl
end Go.Proofs.YtbelhgdogafedaaGreatDoor
