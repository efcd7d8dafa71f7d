/-
  Layer 2: ValueNumbers' helper ends: what its calls tell. Conditions: the library's variables are as its text lays them.
-/
import Derived.Test.YtceknmibopnmhaaGreatDoorVEndR
import Derived.Test.YtceknmibopnmhaaGreatDoorVCallC
import Derived.Test.YtceknmibopnmhaaGreatDoorNShelf
namespace Go.Proofs.YtceknmibopnmhaaGreatDoor
open Go.ChangeShapes Go.WideShapes Go.ChangeAt Go.RowKit Go.ChangeMaps Go.Lib
set_option linter.unusedVariables false
theorem rep_size (c : UInt8) (n : Nat) (s : ByteArray) (h : s = ⟨(Lib.repeatL [c] n).toArray⟩) : s.size = n := by
  rw [h]
  show (Lib.repeatL [c] n).toArray.size = n
  rw [List.size_toArray, Lib.repeatL_length]
  simp
theorem itoa_one : Lib.itoa 1 = [49] := by
  unfold Lib.itoa
  rw [if_neg (by decide)]
  simp [Lib.decDigits]
theorem tv1 : textV 1 1 ⟨#[]⟩ = ⟨#[49]⟩ := by simp [textV, itoa_one]
theorem tv2 (s : ByteArray) : textV 2 0 s = s := by simp [textV]
theorem in1 : In64 1 := by decide
theorem in0 : In64 0 := by decide
theorem yes_mul (a b c : Int) (ha : In64 a) (hb : In64 b) (h : a * b = c) (hc : In64 c) (w0 : World) : OpYes w0 ⟨#[42]⟩ 1 a ⟨#[]⟩ 1 b ⟨#[]⟩ 1 c ⟨#[]⟩ := fun w _ =>
  op_yes _ 1 a ⟨#[]⟩ 1 b ⟨#[]⟩ 1 c ⟨#[]⟩ w fun W _ => Op_mul 1 a ⟨#[]⟩ 1 b ⟨#[]⟩ W (rt1 a) (rt1 b) (by decide) (by decide) 1 c ⟨#[]⟩ 0 fun V _ => by
    have := ofTwo_mul 1 a ⟨#[]⟩ 1 b ⟨#[]⟩ V szE szE (by rw [iv1]; exact ha) (by rw [iv1]; exact hb) (by rw [iv1, iv1, h]; exact hc)
    rw [iv1, iv1, h] at this
    exact this
theorem yes_sub (a b c : Int) (ha : In64 a) (hb : In64 b) (h : a - b = c) (hc : In64 c) (w0 : World) : OpYes w0 ⟨#[45]⟩ 1 a ⟨#[]⟩ 1 b ⟨#[]⟩ 1 c ⟨#[]⟩ := fun w _ =>
  op_yes _ 1 a ⟨#[]⟩ 1 b ⟨#[]⟩ 1 c ⟨#[]⟩ w fun W _ => Op_sub 1 a ⟨#[]⟩ 1 b ⟨#[]⟩ W (rt1 a) (rt1 b) (by decide) (by decide) 1 c ⟨#[]⟩ 0 fun V _ => by
    have := ofTwo_sub 1 a ⟨#[]⟩ 1 b ⟨#[]⟩ V szE szE (by rw [iv1]; exact ha) (by rw [iv1]; exact hb) (by rw [iv1, iv1, h]; exact hc)
    rw [iv1, iv1, h] at this
    exact this
theorem yes_rem (a b c : Int) (ha : In64 a) (hb : b ≠ 0) (h : a.tmod b = c) (w0 : World) : OpYes w0 ⟨#[37]⟩ 1 a ⟨#[]⟩ 1 b ⟨#[]⟩ 1 c ⟨#[]⟩ := fun w _ =>
  op_yes _ 1 a ⟨#[]⟩ 1 b ⟨#[]⟩ 1 c ⟨#[]⟩ w fun W _ => Op_rem 1 a ⟨#[]⟩ 1 b ⟨#[]⟩ W (rt1 a) (rt1 b) (by decide) (by decide) 1 c ⟨#[]⟩ 0 fun V _ => by
    have := ofTwo_rem 1 a ⟨#[]⟩ 1 b ⟨#[]⟩ V szE szE (by rw [iv1]; exact ha) (by rw [iv1]; exact hb)
    rw [iv1, iv1, h] at this
    exact this
theorem er_cat (w0 : World) (hW : Wd w0) (s : ByteArray) (hs : s.size = 65536) : OpEr w0 ⟨#[124, 124]⟩ 2 0 s 1 1 ⟨#[]⟩ 3 := fun w hb =>
  Op_cat 2 0 s 1 1 ⟨#[]⟩ w (.inr (.inr ⟨.inl rfl, rfl, by omega⟩)) (rt1 1) (by decide) (by decide) 0 0 ⟨#[]⟩ 3 fun W hb2 => ofTwo_cat_no 2 0 s 1 1 ⟨#[]⟩ W in0 in1 (hW.on (hb.trans (hb2.mono hb.size))) (by
    rw [tv1, tv2, hs]
    decide)
theorem er_like (w0 : World) (hW : Wd w0) (s : ByteArray) (hs : s.size = 1001) : OpEr w0 ⟨#[108, 105, 107, 101]⟩ 1 1 ⟨#[]⟩ 2 0 s 3 := fun w hb =>
  Op_like 1 1 ⟨#[]⟩ 2 0 s w (rt1 1) (.inr (.inr ⟨.inl rfl, rfl, by omega⟩)) (by decide) (by decide) 0 0 ⟨#[]⟩ 3 fun W hb2 => ofTwo_like_no 1 1 ⟨#[]⟩ 2 0 s W in1 in0 (hW.on (hb.trans (hb2.mono hb.size))) (by
    rw [tv2, hs]
    decide)
theorem yes_cat (w0 : World) (hW : Wd w0) (r r1 : ByteArray) (hr : r.size = 65535) (h : r ++ ⟨#[49]⟩ = r1) : OpYes w0 ⟨#[124, 124]⟩ 2 0 r 1 1 ⟨#[]⟩ 2 0 r1 := fun w hb =>
  op_yes _ 2 0 r 1 1 ⟨#[]⟩ 2 0 r1 w fun W hb2 => Op_cat 2 0 r 1 1 ⟨#[]⟩ W (.inr (.inr ⟨.inl rfl, rfl, by omega⟩)) (rt1 1) (by decide) (by decide) 2 0 r1 0 fun V hb3 =>
    ofTwo_cat 2 0 r 1 1 ⟨#[]⟩ V in0 in1 (hW.on ((hb.trans (hb2.mono hb.size)).trans (hb3.mono (hb.trans (hb2.mono hb.size)).size))) (by rw [tv2]; omega) (by rw [tv1]; decide) (by rw [tv1, tv2, hr]; decide) r1 (by rw [tv1, tv2]; exact h)
theorem hex_far (w : World) (hW : Wd w) (b : Nat) (s : ByteArray) (hs : s.size = 32769) (hR : RdV w b 0 [(2, 0, s)]) : Calls Tryz.prog 16 #[.string ⟨#[104, 101, 120]⟩, .slice (some ⟨b, 0, none⟩) 1 1] w (RetV nul 3 w) := by
  refine Call_fn _ 1 1 true _ _ named_hex b 0 1 [(2, 0, s)] w ?_ (by simp) hR (by simp) (by simp) ?_ (.inl rfl) 0 0 ⟨#[]⟩ 3 enters_hex ?_
  · intro t ht
    rw [List.mem_singleton.1 ht]
    show s.size ≤ _
    omega
  · have e1 : pBad (2, 0, s) = false := pBad_of (.inr (.inr ⟨.inl rfl, rfl, by show s.size ≤ _; omega⟩))
    simp [e1]
  · intro V c1 c2 hV _
    exact hexCall b 0 2 0 s V in0 (hW.on hV) 0 0 ⟨#[]⟩ 3 (hR.on hV) fun U _ => by
      rw [tv2]
      exact hex_long s U (by omega) (by omega)
theorem abs_far (w : World) (b : Nat) (hR : RdV w b 0 [(1, -9223372036854775808, ⟨#[]⟩)]) : Calls Tryz.prog 16 #[.string ⟨#[97, 98, 115]⟩, .slice (some ⟨b, 0, none⟩) 1 1] w (RetV nul 20 w) := by
  refine Call_fn _ 1 1 false _ _ named_abs b 0 1 [(1, -9223372036854775808, ⟨#[]⟩)] w ?_ (by simp) hR (by simp) (by simp) ?_ (.inr (by simp [pNul])) 0 0 ⟨#[]⟩ 20 (enters_of Tryz.func118 (by kernel_rfl) rfl) ?_
  · intro t ht
    rw [List.mem_singleton.1 ht]
    decide
  · have e1 : pBad (1, -9223372036854775808, ⟨#[]⟩) = false := pBad_of (rt1 _)
    simp [e1]
  · intro V c1 c2 hV _
    exact absCall_least b 0 V (hR.on hV)
theorem oneNeg_far (w : World) : Calls Tryz.prog 14 #[.string ⟨#[45]⟩, vv 1 (-9223372036854775808) ⟨#[]⟩] w (RetV nul 20 w) :=
  One_neg_no 1 (-9223372036854775808) ⟨#[]⟩ w (rt1 _) (by decide) (by rw [iv1]; decide) (by rw [iv1]; decide)
end Go.Proofs.YtceknmibopnmhaaGreatDoor
