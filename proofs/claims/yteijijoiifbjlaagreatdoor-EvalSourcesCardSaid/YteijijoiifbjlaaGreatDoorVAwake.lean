/-
  What the statements' own examples of substr and hex come to. Conditions: numbers of 64 bits; the library's variables are as its text lays them.
  The statements' helper awake of layer 2: the chapter's examples come out. Conditions: the library's variables are as its text lays them.
-/
import Derived.Test.YteijijoiifbjlaaGreatDoorVHelp
namespace Go.Proofs.YteijijoiifbjlaaGreatDoor
open Go.ChangeShapes Go.WideShapes Go.ChangeAt Go.RowKit
set_option linter.unusedVariables false

abbrev cells3 (k n : Int) (s : ByteArray) (k' n' : Int) (s' : ByteArray) (k2 n2 : Int) (s2 : ByteArray) : Obj :=
  .cells #[.int .u8 k, .int .i64 n, .string s, .int .u8 k', .int .i64 n', .string s', .int .u8 k2, .int .i64 n2, .string s2] 38
theorem rdv3 (X : World) (k n : Int) (s : ByteArray) (k' n' : Int) (s' : ByteArray) (k2 n2 : Int) (s2 : ByteArray) : RdV (X.alloc (cells3 k n s k' n' s' k2 n2 s2)) X.heap.size 0 [(k, n, s), (k', n', s'), (k2, n2, s2)] := by
  refine ⟨by simp, fun j a b c hj => ?_⟩
  match j, hj with
  | 0, hj => obtain ⟨rfl, rfl, rfl⟩ : k = a ∧ n = b ∧ s = c := by simpa using hj
             refine ⟨?_, ?_, ?_⟩ <;> simp [go_sem]
  | 1, hj => obtain ⟨rfl, rfl, rfl⟩ : k' = a ∧ n' = b ∧ s' = c := by simpa using hj
             refine ⟨?_, ?_, ?_⟩ <;> simp [go_sem]
  | 2, hj => obtain ⟨rfl, rfl, rfl⟩ : k2 = a ∧ n2 = b ∧ s2 = c := by simpa using hj
             refine ⟨?_, ?_, ?_⟩ <;> simp [go_sem]
  | j + 3, hj => simp at hj
theorem rdv1 (X : World) (k n : Int) (s : ByteArray) : RdV (X.alloc (box k n s)) X.heap.size 0 [(k, n, s)] := by
  refine ⟨by simp, fun j a b c hj => ?_⟩
  match j, hj with
  | 0, hj => obtain ⟨rfl, rfl, rfl⟩ : k = a ∧ n = b ∧ s = c := by simpa using hj
             refine ⟨?_, ?_, ?_⟩ <;> simp [go_sem]
  | j + 1, hj => simp at hj

theorem pBad_of {t : Trip} (h : Rt t.1 t.2.1 t.2.2) : pBad t = false := by simp [pBad, h]

end Go.Proofs.YteijijoiifbjlaaGreatDoor

namespace Go.Proofs.YteijijoiifbjlaaGreatDoor
open Go.ChangeShapes Go.WideShapes Go.ChangeAt Go.RowKit
set_option linter.unusedVariables false

theorem Rt_int (n : Int) : Rt 1 n ⟨#[]⟩ := .inr (.inl ⟨rfl, rfl⟩)
theorem Rt_nul : Rt 0 0 ⟨#[]⟩ := .inl ⟨rfl, rfl, rfl⟩
theorem sz0 : (⟨#[]⟩ : ByteArray).size ≤ 4611686018427387904 := by show 0 ≤ _; omega

theorem aw_add (W : World) : Calls Tryz.prog 77 #[.string ⟨#[43]⟩, vv 1 9223372036854775807 ⟨#[]⟩, vv 1 1 ⟨#[]⟩] W (RetV nul 20 W) :=
  Op_add _ _ _ _ _ _ W (Rt_int _) (Rt_int _) (by omega) (by omega) _ _ _ _ fun X _ => ofTwo_add_no _ _ _ _ _ _ X sz0 sz0 (by decide) (by decide) (by decide)
set_option maxHeartbeats 400000 in
theorem Op_and (k n : Int) (s : ByteArray) (k' n' : Int) (s' : ByteArray) (w : World) (hr : Rt k n s) (hr' : Rt k' n' s') :
    Calls Tryz.prog 77 #[.string ⟨#[97, 110, 100]⟩, vv k n s, vv k' n' s'] w (RetV (vv (andK (trueV k n s) (k != 0) (trueV k' n' s') (k' != 0)) (andN (trueV k n s) (k != 0) (trueV k' n' s') (k' != 0)) ⟨#[]⟩) 0 w) := by
  have F := w3_cells w k n s k' n' s'
  have HR := Lib.hid hr
  have HR' := Lib.hid hr'
  have hs : s.size ≤ 9223372036854775807 := by have := Rt_size hr; omega
  have hs' : s'.size ≤ 9223372036854775807 := by have := Rt_size hr'; omega
  have hs3 : s.size ≤ 4611686018427387904 := by have := Rt_size hr; omega
  have hs4 : s'.size ≤ 4611686018427387904 := by have := Rt_size hr'; omega
  generalize hx : andK (trueV k n s) (k != 0) (trueV k' n' s') (k' != 0) = x
  generalize hy : andN (trueV k n s) (k != 0) (trueV k' n' s') (k' != 0) = y
  have HX := Lib.hid hx
  have HY := Lib.hid hy
  clear hr hr' hx hy
  go_enter Tryz.func77, Tryz.ntmps77
  go_wp2_with (first
    | (go_at_call 12; refine (Right_any _ _ _ _ (by assumption)).mono ?_; rintro e wa ⟨rfl, ba⟩; (first | rw [decide_eq_true HR.out] | rw [decide_eq_true HR'.out]); (first | (have hcur := Lib.hid (hcur.out.trans (ba.mono hcur.out.size))) | (have hcur := Lib.hid ((Below.refl (w3 w k n s k' n' s').heap.size (w3 w k n s k' n' s')).trans ba))); obtain ⟨g0, g1, g2, g3, g4, g5⟩ := F _ (hcur.out.mono (by simp)))
    | (go_at_call 95; refine (and_any _ _ _ _ _ _ _ hs3 hs4).mono ?_; rintro e wa ⟨rfl, ba⟩; rw [HX.out, HY.out]; have hcur := Lib.hid (hcur.out.trans (ba.mono hcur.out.size)); obtain ⟨hc0, hc1, hc2, hf0, hf1, hf2⟩ := w3_out _ _ _ _ _ _ _ _ hcur.out; have hz : w.heap.size + 2 < wa.heap.size := (by have := hcur.out.size; simp at this; omega)))
  exact bodyPost_ret (v := .tuple #[vv x y ⟨#[]⟩, .int .i64 0]) (by simp [results, Tryz.results77, go_sem, hc0, hc1, hc2]) rfl ⟨rfl, w3_end _ _ _ _ _ _ _ _ hcur.out _ _ _⟩

set_option maxHeartbeats 400000 in
theorem Op_or (k n : Int) (s : ByteArray) (k' n' : Int) (s' : ByteArray) (w : World) (hr : Rt k n s) (hr' : Rt k' n' s') :
    Calls Tryz.prog 77 #[.string ⟨#[111, 114]⟩, vv k n s, vv k' n' s'] w (RetV (vv (orK (trueV k n s) (k != 0) (trueV k' n' s') (k' != 0)) (orN (trueV k n s) (k != 0) (trueV k' n' s') (k' != 0)) ⟨#[]⟩) 0 w) := by
  have F := w3_cells w k n s k' n' s'
  have HR := Lib.hid hr
  have HR' := Lib.hid hr'
  have hs : s.size ≤ 9223372036854775807 := by have := Rt_size hr; omega
  have hs' : s'.size ≤ 9223372036854775807 := by have := Rt_size hr'; omega
  have hs3 : s.size ≤ 4611686018427387904 := by have := Rt_size hr; omega
  have hs4 : s'.size ≤ 4611686018427387904 := by have := Rt_size hr'; omega
  generalize hx : orK (trueV k n s) (k != 0) (trueV k' n' s') (k' != 0) = x
  generalize hy : orN (trueV k n s) (k != 0) (trueV k' n' s') (k' != 0) = y
  have HX := Lib.hid hx
  have HY := Lib.hid hy
  clear hr hr' hx hy
  go_enter Tryz.func77, Tryz.ntmps77
  go_wp2_with (first
    | (go_at_call 12; refine (Right_any _ _ _ _ (by assumption)).mono ?_; rintro e wa ⟨rfl, ba⟩; (first | rw [decide_eq_true HR.out] | rw [decide_eq_true HR'.out]); (first | (have hcur := Lib.hid (hcur.out.trans (ba.mono hcur.out.size))) | (have hcur := Lib.hid ((Below.refl (w3 w k n s k' n' s').heap.size (w3 w k n s k' n' s')).trans ba))); obtain ⟨g0, g1, g2, g3, g4, g5⟩ := F _ (hcur.out.mono (by simp)))
    | (go_at_call 96; refine (or_any _ _ _ _ _ _ _ hs3 hs4).mono ?_; rintro e wa ⟨rfl, ba⟩; rw [HX.out, HY.out]; have hcur := Lib.hid (hcur.out.trans (ba.mono hcur.out.size)); obtain ⟨hc0, hc1, hc2, hf0, hf1, hf2⟩ := w3_out _ _ _ _ _ _ _ _ hcur.out; have hz : w.heap.size + 2 < wa.heap.size := (by have := hcur.out.size; simp at this; omega)))
  exact bodyPost_ret (v := .tuple #[vv x y ⟨#[]⟩, .int .i64 0]) (by simp [results, Tryz.results77, go_sem, hc0, hc1, hc2]) rfl ⟨rfl, w3_end _ _ _ _ _ _ _ _ hcur.out _ _ _⟩


theorem aw_int1 : intV 2 0 ⟨#[32, 45, 49, 50, 97, 98]⟩ = -12 := by decide +kernel
theorem aw_int2 : intV 2 0 ⟨#[57, 57, 57, 57, 57, 57, 57, 57, 57, 57, 57, 57, 57, 57, 57, 57, 57, 57, 57, 57]⟩ = 9223372036854775807 := by decide +kernel
theorem aw_like : likeL ⟨#[67, 97, 114, 100]⟩ ⟨#[99, 37, 114, 95]⟩ 20 0 0 0 0 = some true := by decide +kernel
theorem aw_cut1 : cutS ⟨#[104, 101, 108, 108, 111]⟩ (min (fromP 5 (-3)) (addW (fromP 5 (-3)) 2)) (max (fromP 5 (-3)) (addW (fromP 5 (-3)) 2)) = ⟨#[108, 108]⟩ := by decide +kernel
theorem aw_cut2 : cutS ⟨#[104, 101, 108, 108, 111]⟩ (min (fromP 5 0) (addW (fromP 5 0) 2)) (max (fromP 5 0) (addW (fromP 5 0) 2)) = ⟨#[104]⟩ := by decide +kernel
theorem aw_cut3 : cutS ⟨#[104, 101, 108, 108, 111]⟩ (min (fromP 5 3) (addW (fromP 5 3) (-2))) (max (fromP 5 3) (addW (fromP 5 3) (-2))) = ⟨#[104, 101]⟩ := by decide +kernel
theorem aw_count : Lib.countB ⟨#[105, 116, 39, 115]⟩ ⟨#[39]⟩ = 1 := by decide +kernel
theorem aw_cmp1 : cmpV 0 0 ⟨#[]⟩ 1 (-5) ⟨#[]⟩ = -1 := by decide +kernel
theorem aw_cmp2 : cmpV 2 0 ⟨#[57]⟩ 1 10 ⟨#[]⟩ = 1 := by decide +kernel
end Go.Proofs.YteijijoiifbjlaaGreatDoor
