/-
  Layer 13, eval: signs that are none. Conditions: sizes.
  Layer 13, eval: Op, One and Cast of any values: what they tell. Conditions: sizes; the library's variables are as its text lays them.
-/
import Derived.Test.YteijijoiifbjlaaGreatDoorEMath
import Derived.Test.YteijijoiifbjlaaGreatDoorVOne
import Derived.Test.YteijijoiifbjlaaGreatDoorVBad
import Derived.Test.YteijijoiifbjlaaGreatDoorVFar
import Derived.Test.YteijijoiifbjlaaGreatDoorVCallC
import Derived.Test.YteijijoiifbjlaaGreatDoorVNul
import Derived.Test.YteijijoiifbjlaaGreatDoorVAwake
namespace Go.Proofs.YteijijoiifbjlaaGreatDoor
open Go.ChangeShapes Go.WideShapes Go.ChangeAt Go.RowKit
set_option linter.unusedVariables false
set_option linter.unusedSimpArgs false
set_option maxRecDepth 100000

theorem ne_sign {g : ByteArray} {l : List UInt8} (h : g ≠ ⟨l.toArray⟩) : (g.toList == l) = false := by
  rw [Bool.eq_false_iff]
  intro e
  have e2 : g.toList = l := by simpa using e
  apply h
  rw [ByteArray.toList_eq] at e2
  rcases g with ⟨⟨l⟩⟩
  simpa using e2
set_option maxHeartbeats 1000000 in
theorem Op_unk (g : ByteArray) (k n : Int) (s : ByteArray) (k' n' : Int) (s' : ByteArray) (w : World) (hr : Rt k n s) (hr' : Rt k' n' s') (hg : ∀ x ∈ sAnd :: sOr :: sgn, g ≠ x) :
    Calls Tryz.prog 77 #[.string g, vv k n s, vv k' n' s'] w (RetV nul 2 w) := by
  have F := w3_cells w k n s k' n' s'
  have HR := Lib.hid hr
  have HR' := Lib.hid hr'
  have hs : s.size ≤ 9223372036854775807 := by have := Rt_size hr; omega
  have hs' : s'.size ≤ 9223372036854775807 := by have := Rt_size hr'; omega
  have q1 : (g.toList == [97, 110, 100]) = false := ne_sign (hg _ (by simp [sgn]))
  have q2 : (g.toList == [111, 114]) = false := ne_sign (hg _ (by simp [sgn]))
  have q3 : (g.toList == [43]) = false := ne_sign (hg _ (by simp [sgn]))
  have q4 : (g.toList == [45]) = false := ne_sign (hg _ (by simp [sgn]))
  have q5 : (g.toList == [42]) = false := ne_sign (hg _ (by simp [sgn]))
  have q6 : (g.toList == [47]) = false := ne_sign (hg _ (by simp [sgn]))
  have q7 : (g.toList == [37]) = false := ne_sign (hg _ (by simp [sgn]))
  have q8 : (g.toList == [124, 124]) = false := ne_sign (hg _ (by simp [sgn]))
  have q9 : (g.toList == [61]) = false := ne_sign (hg _ (by simp [sgn]))
  have q10 : (g.toList == [60, 62]) = false := ne_sign (hg _ (by simp [sgn]))
  have q11 : (g.toList == [60]) = false := ne_sign (hg _ (by simp [sgn]))
  have q12 : (g.toList == [60, 61]) = false := ne_sign (hg _ (by simp [sgn]))
  have q13 : (g.toList == [62]) = false := ne_sign (hg _ (by simp [sgn]))
  have q14 : (g.toList == [62, 61]) = false := ne_sign (hg _ (by simp [sgn]))
  have q15 : (g.toList == [108, 105, 107, 101]) = false := ne_sign (hg _ (by simp [sgn]))
  clear hr hr' hg
  go_enter Tryz.func77, Tryz.ntmps77
  go_wp2_with (go_at_call 12; refine (Right_any _ _ _ _ (by assumption)).mono ?_; rintro e wa ⟨rfl, ba⟩; (first | rw [decide_eq_true HR.out] | rw [decide_eq_true HR'.out]); (first | (have hcur := Lib.hid (hcur.out.trans (ba.mono hcur.out.size))) | (have hcur := Lib.hid ((Below.refl (w3 w k n s k' n' s').heap.size (w3 w k n s k' n' s')).trans ba))); obtain ⟨g0, g1, g2, g3, g4, g5⟩ := F _ (hcur.out.mono (by simp)); obtain ⟨hc0, hc1, hc2, hf0, hf1, hf2⟩ := w3_out _ _ _ _ _ _ _ _ hcur.out; have hz : w.heap.size + 2 < wa.heap.size := (by have := hcur.out.size; simp at this; omega); clear ba)
  exact bodyPost_ret (v := .tuple #[nul, .int .i64 2]) (by simp [results, Tryz.results77, go_sem, hc0, hc1, hc2]) rfl ⟨rfl, w3_end _ _ _ _ _ _ _ _ hcur.out _ _ _⟩
set_option maxHeartbeats 1000000 in
theorem One_unk (g : ByteArray) (k n : Int) (s : ByteArray) (w : World) (hr : Rt k n s) (h1 : g ≠ sSub) (h2 : g ≠ sNot) :
    Calls Tryz.prog 76 #[.string g, vv k n s] w (RetV nul 2 w) := by
  have HR := Lib.hid hr
  have hs : s.size ≤ 9223372036854775807 := by have := Rt_size hr; omega
  have q1 : (g.toList == [45]) = false := ne_sign h1
  have q2 : (g.toList == [110, 111, 116]) = false := ne_sign h2
  clear hr h1 h2
  go_enter Tryz.func76, Tryz.ntmps76
  go_wp2_with (go_at_call 12; refine (Right_any _ _ _ _ hs).mono ?_; rintro e wa ⟨rfl, ba⟩; rw [decide_eq_true HR.out]; (first | (have hcur := Lib.hid (hcur.out.trans (ba.mono hcur.out.size))) | (have hcur := Lib.hid ba)); obtain ⟨g0, g1, g2⟩ := w2_cells _ _ _ _ _ hcur.out; obtain ⟨_, u0, u1, u2, v0, v1, v2⟩ := w2_out _ _ _ _ _ hcur.out; have hz : w.heap.size + 1 < wa.heap.size := (by have := hcur.out.size; rw [w2_size] at this; omega); clear ba)
  exact bodyPost_ret (v := .tuple #[nul, .int .i64 2]) (by simp [results, Tryz.results76, go_sem, u0, u1, u2]) rfl ⟨rfl, w2_end _ _ _ _ _ hcur.out _ _ _⟩
set_option maxHeartbeats 1000000 in
theorem Cast_unk (g : ByteArray) (k n : Int) (s : ByteArray) (w : World) (hr : Rt k n s) (h1 : g ≠ sInt) (h2 : g ≠ sText) :
    Calls Tryz.prog 61 #[.string g, vv k n s] w (RetV nul 2 w) := by
  have HR := Lib.hid hr
  have hs : s.size ≤ 9223372036854775807 := by have := Rt_size hr; omega
  have q1 : (g.toList == [105, 110, 116]) = false := ne_sign h1
  have q2 : (g.toList == [116, 101, 120, 116]) = false := ne_sign h2
  clear hr h1 h2
  go_enter Tryz.func61, Tryz.ntmps61
  go_wp2_with (go_at_call 12; refine (Right_any _ _ _ _ hs).mono ?_; rintro e wa ⟨rfl, ba⟩; rw [decide_eq_true HR.out]; (first | (have hcur := Lib.hid (hcur.out.trans (ba.mono hcur.out.size))) | (have hcur := Lib.hid ba)); obtain ⟨g0, g1, g2⟩ := w2_cells _ _ _ _ _ hcur.out; obtain ⟨_, u0, u1, u2, v0, v1, v2⟩ := w2_out _ _ _ _ _ hcur.out; have hz : w.heap.size + 1 < wa.heap.size := (by have := hcur.out.size; rw [w2_size] at this; omega); clear ba)
  exact bodyPost_ret (v := .tuple #[nul, .int .i64 2]) (by simp [results, Tryz.results61, go_sem, u0, u1, u2]) rfl ⟨rfl, w2_end _ _ _ _ _ hcur.out _ _ _⟩
end Go.Proofs.YteijijoiifbjlaaGreatDoor

namespace Go.Proofs.YteijijoiifbjlaaGreatDoor
open Go.ChangeShapes Go.WideShapes Go.ChangeAt Go.RowKit
set_option linter.unusedVariables false
set_option linter.unusedSimpArgs false
set_option linter.unusedSectionVars false
set_option maxRecDepth 100000

set_option maxHeartbeats 400000 in
theorem Cast_int_null (k n : Int) (s : ByteArray) (w : World) (hr : Rt k n s) (hk : k = 0) :
    Calls Tryz.prog 61 #[.string ⟨#[105, 110, 116]⟩, vv k n s] w (RetV (nul) 0 w) := by
  have HR := Lib.hid hr
  have hs : s.size ≤ 9223372036854775807 := by have := Rt_size hr; omega
  have hs3 : s.size ≤ 4611686018427387904 := by have := Rt_size hr; omega
  subst hk
  clear hr
  go_enter Tryz.func61, Tryz.ntmps61
  go_wp2_with (first
    | (go_at_call 12; refine (Right_any _ _ _ _ hs).mono ?_; rintro e wa ⟨rfl, ba⟩; rw [decide_eq_true HR.out]; (first | (have hcur := Lib.hid (hcur.out.trans (ba.mono hcur.out.size))) | (have hcur := Lib.hid ba)); obtain ⟨g0, g1, g2⟩ := w2_cells _ _ _ _ _ hcur.out; obtain ⟨_, u0, u1, u2, v0, v1, v2⟩ := w2_out _ _ _ _ _ hcur.out; have hz : w.heap.size + 1 < wa.heap.size := (by have := hcur.out.size; rw [w2_size] at this; omega); clear ba)
    | (go_at_call 34; refine (isNull_any _ _ _ _).mono ?_; rintro e wa ⟨rfl, ba⟩; (first | (have hcur := Lib.hid (hcur.out.trans (ba.mono hcur.out.size))) | (have hcur := Lib.hid ba)); obtain ⟨g0, g1, g2⟩ := w2_cells _ _ _ _ _ hcur.out; obtain ⟨_, u0, u1, u2, v0, v1, v2⟩ := w2_out _ _ _ _ _ hcur.out; have hz : w.heap.size + 1 < wa.heap.size := (by have := hcur.out.size; rw [w2_size] at this; omega); clear ba))
  exact bodyPost_ret (v := .tuple #[nul, .int .i64 0]) (by simp [results, Tryz.results61, go_sem, u0, u1, u2]) rfl ⟨rfl, w2_end _ _ _ _ _ hcur.out _ _ _⟩

set_option maxHeartbeats 400000 in
theorem Cast_text_nul (k n : Int) (s : ByteArray) (w : World) (hr : Rt k n s) (hk : k = 0) :
    Calls Tryz.prog 61 #[.string ⟨#[116, 101, 120, 116]⟩, vv k n s] w (RetV (nul) 0 w) := by
  have HR := Lib.hid hr
  have hs : s.size ≤ 9223372036854775807 := by have := Rt_size hr; omega
  have hs3 : s.size ≤ 4611686018427387904 := by have := Rt_size hr; omega
  subst hk
  clear hr
  go_enter Tryz.func61, Tryz.ntmps61
  go_wp2_with (first
    | (go_at_call 12; refine (Right_any _ _ _ _ hs).mono ?_; rintro e wa ⟨rfl, ba⟩; rw [decide_eq_true HR.out]; (first | (have hcur := Lib.hid (hcur.out.trans (ba.mono hcur.out.size))) | (have hcur := Lib.hid ba)); obtain ⟨g0, g1, g2⟩ := w2_cells _ _ _ _ _ hcur.out; obtain ⟨_, u0, u1, u2, v0, v1, v2⟩ := w2_out _ _ _ _ _ hcur.out; have hz : w.heap.size + 1 < wa.heap.size := (by have := hcur.out.size; rw [w2_size] at this; omega); clear ba)
    | (go_at_call 34; refine (isNull_any _ _ _ _).mono ?_; rintro e wa ⟨rfl, ba⟩; (first | (have hcur := Lib.hid (hcur.out.trans (ba.mono hcur.out.size))) | (have hcur := Lib.hid ba)); obtain ⟨g0, g1, g2⟩ := w2_cells _ _ _ _ _ hcur.out; obtain ⟨_, u0, u1, u2, v0, v1, v2⟩ := w2_out _ _ _ _ _ hcur.out; have hz : w.heap.size + 1 < wa.heap.size := (by have := hcur.out.size; rw [w2_size] at this; omega); clear ba))
  exact bodyPost_ret (v := .tuple #[nul, .int .i64 0]) (by simp [results, Tryz.results61, go_sem, u0, u1, u2]) rfl ⟨rfl, w2_end _ _ _ _ _ hcur.out _ _ _⟩

set_option maxHeartbeats 400000 in
theorem Cast_int (k n : Int) (s : ByteArray) (w : World) (hr : Rt k n s) (hk : k ≠ 0) (x : Int) (hx : intV k n s = x) :
    Calls Tryz.prog 61 #[.string ⟨#[105, 110, 116]⟩, vv k n s] w (RetV (vv 1 x ⟨#[]⟩) 0 w) := by
  have HR := Lib.hid hr
  have hs : s.size ≤ 9223372036854775807 := by have := Rt_size hr; omega
  have hs3 : s.size ≤ 4611686018427387904 := by have := Rt_size hr; omega
  have e0 : (k == 0) = false := by simpa using hk
  clear hk
  have HX := Lib.hid hx
  clear hx
  clear hr
  go_enter Tryz.func61, Tryz.ntmps61
  go_wp2_with (first
    | (go_at_call 12; refine (Right_any _ _ _ _ hs).mono ?_; rintro e wa ⟨rfl, ba⟩; rw [decide_eq_true HR.out]; (first | (have hcur := Lib.hid (hcur.out.trans (ba.mono hcur.out.size))) | (have hcur := Lib.hid ba)); obtain ⟨g0, g1, g2⟩ := w2_cells _ _ _ _ _ hcur.out; obtain ⟨_, u0, u1, u2, v0, v1, v2⟩ := w2_out _ _ _ _ _ hcur.out; have hz : w.heap.size + 1 < wa.heap.size := (by have := hcur.out.size; rw [w2_size] at this; omega); clear ba)
    | (go_at_call 34; refine (isNull_any _ _ _ _).mono ?_; rintro e wa ⟨rfl, ba⟩; (first | (have hcur := Lib.hid (hcur.out.trans (ba.mono hcur.out.size))) | (have hcur := Lib.hid ba)); obtain ⟨g0, g1, g2⟩ := w2_cells _ _ _ _ _ hcur.out; obtain ⟨_, u0, u1, u2, v0, v1, v2⟩ := w2_out _ _ _ _ _ hcur.out; have hz : w.heap.size + 1 < wa.heap.size := (by have := hcur.out.size; rw [w2_size] at this; omega); clear ba)
    | (go_at_call 35; refine (Int_any _ _ _ _ hs3).mono ?_; rintro e wa ⟨rfl, ba⟩; rw [HX.out]; (first | (have hcur := Lib.hid (hcur.out.trans (ba.mono hcur.out.size))) | (have hcur := Lib.hid ba)); obtain ⟨g0, g1, g2⟩ := w2_cells _ _ _ _ _ hcur.out; obtain ⟨_, u0, u1, u2, v0, v1, v2⟩ := w2_out _ _ _ _ _ hcur.out; have hz : w.heap.size + 1 < wa.heap.size := (by have := hcur.out.size; rw [w2_size] at this; omega); clear ba)
    | (go_at_call 81; refine (intValue_any _ _).mono ?_; rintro e wa ⟨rfl, ba⟩; (first | (have hcur := Lib.hid (hcur.out.trans (ba.mono hcur.out.size))) | (have hcur := Lib.hid ba)); obtain ⟨g0, g1, g2⟩ := w2_cells _ _ _ _ _ hcur.out; obtain ⟨_, u0, u1, u2, v0, v1, v2⟩ := w2_out _ _ _ _ _ hcur.out; have hz : w.heap.size + 1 < wa.heap.size := (by have := hcur.out.size; rw [w2_size] at this; omega); clear ba))
  exact bodyPost_ret (v := .tuple #[vv 1 x ⟨#[]⟩, .int .i64 0]) (by simp [results, Tryz.results61, go_sem, u0, u1, u2]) rfl ⟨rfl, w2_end _ _ _ _ _ hcur.out _ _ _⟩

set_option maxHeartbeats 400000 in
theorem Cast_text (k n : Int) (s : ByteArray) (w : World) (hr : Rt k n s) (hk : k ≠ 0) (hn : In64 n) (hW : Wd w) (x : ByteArray) (hx : textV k n s = x) :
    Calls Tryz.prog 61 #[.string ⟨#[116, 101, 120, 116]⟩, vv k n s] w (RetV (vv 2 0 x) 0 w) := by
  have HR := Lib.hid hr
  have hs : s.size ≤ 9223372036854775807 := by have := Rt_size hr; omega
  have hs3 : s.size ≤ 4611686018427387904 := by have := Rt_size hr; omega
  have e0 : (k == 0) = false := by simpa using hk
  clear hk
  have HX := Lib.hid hx
  have HN := Lib.hid hn
  have HWd := Lib.hid (hW.on (w2_below w k n s))
  clear hx hn hW
  clear hr
  go_enter Tryz.func61, Tryz.ntmps61
  go_wp2_with (first
    | (go_at_call 12; refine (Right_any _ _ _ _ hs).mono ?_; rintro e wa ⟨rfl, ba⟩; rw [decide_eq_true HR.out]; (first | (have hcur := Lib.hid (hcur.out.trans (ba.mono hcur.out.size))) | (have hcur := Lib.hid ba)); obtain ⟨g0, g1, g2⟩ := w2_cells _ _ _ _ _ hcur.out; obtain ⟨_, u0, u1, u2, v0, v1, v2⟩ := w2_out _ _ _ _ _ hcur.out; have hz : w.heap.size + 1 < wa.heap.size := (by have := hcur.out.size; rw [w2_size] at this; omega); clear ba)
    | (go_at_call 34; refine (isNull_any _ _ _ _).mono ?_; rintro e wa ⟨rfl, ba⟩; (first | (have hcur := Lib.hid (hcur.out.trans (ba.mono hcur.out.size))) | (have hcur := Lib.hid ba)); obtain ⟨g0, g1, g2⟩ := w2_cells _ _ _ _ _ hcur.out; obtain ⟨_, u0, u1, u2, v0, v1, v2⟩ := w2_out _ _ _ _ _ hcur.out; have hz : w.heap.size + 1 < wa.heap.size := (by have := hcur.out.size; rw [w2_size] at this; omega); clear ba)
    | (go_at_call 83; refine (Text_any _ _ _ _ HN.out ((HWd.out).on hcur.out)).mono ?_; rintro e wa ⟨rfl, ba⟩; rw [HX.out]; (first | (have hcur := Lib.hid (hcur.out.trans (ba.mono hcur.out.size))) | (have hcur := Lib.hid ba)); obtain ⟨g0, g1, g2⟩ := w2_cells _ _ _ _ _ hcur.out; obtain ⟨_, u0, u1, u2, v0, v1, v2⟩ := w2_out _ _ _ _ _ hcur.out; have hz : w.heap.size + 1 < wa.heap.size := (by have := hcur.out.size; rw [w2_size] at this; omega); clear ba)
    | (go_at_call 82; refine (textValue_any _ _).mono ?_; rintro e wa ⟨rfl, ba⟩; (first | (have hcur := Lib.hid (hcur.out.trans (ba.mono hcur.out.size))) | (have hcur := Lib.hid ba)); obtain ⟨g0, g1, g2⟩ := w2_cells _ _ _ _ _ hcur.out; obtain ⟨_, u0, u1, u2, v0, v1, v2⟩ := w2_out _ _ _ _ _ hcur.out; have hz : w.heap.size + 1 < wa.heap.size := (by have := hcur.out.size; rw [w2_size] at this; omega); clear ba))
  exact bodyPost_ret (v := .tuple #[vv 2 0 x, .int .i64 0]) (by simp [results, Tryz.results61, go_sem, u0, u1, u2]) rfl ⟨rfl, w2_end _ _ _ _ _ hcur.out _ _ _⟩


theorem leadInt_in (l : List UInt8) : In64 (leadInt l) := by
  unfold leadInt In64
  split
  · omega
  · rename_i c r _
    have h1 := digsGo_le r 0 (by omega)
    have h2 := digsGo_le (c :: r) 0 (by omega)
    split
    · omega
    · split <;> omega
theorem dec_len : ∀ (k u : Nat), u < 10 ^ (k + 1) → (Lib.decDigits u).length ≤ k + 1 := by
  intro k
  induction k with
  | zero =>
    intro u hu
    rw [Lib.decDigits_one (by simpa using hu)]
    simp
  | succ k ih =>
    intro u hu
    by_cases h : u < 10
    · rw [Lib.decDigits_one h]
      simp
    · rw [Lib.decDigits, dif_neg h]
      have := ih (u / 10) (by rw [Nat.pow_succ] at hu; omega)
      simp only [List.length_append, List.length_cons, List.length_nil]
      omega
theorem itoa_len (n : Int) (h : In64 n) : (Lib.itoa n).length ≤ 20 := by
  unfold In64 at h
  unfold Lib.itoa
  split
  · have := dec_len 18 n.natAbs (by have : (10 : Nat) ^ 19 = 10000000000000000000 := by decide
                                    omega)
    simp only [List.length_cons]
    omega
  · have := dec_len 18 n.toNat (by have : (10 : Nat) ^ 19 = 10000000000000000000 := by decide
                                   omega)
    omega

theorem okT_int {n : Int} (h : In64 n) : OkT (intT n) := ⟨h, by show 0 ≤ _; omega⟩
theorem okT_flag (b : Bool) : OkT (flagT b) := ⟨by cases b <;> decide, by show 0 ≤ _; omega⟩
theorem intT_in {t : Trip} (h : OkT t) : In64 (intOfT t) := by
  unfold intOfT intV
  split
  · exact h.1
  · split
    · exact leadInt_in _
    · unfold In64; omega
theorem textT_size {t : Trip} (h : OkT t) : (textT t).size ≤ 65536 := by
  unfold textT textV
  split
  · have := itoa_len t.2.1 h.1
    show (Lib.itoa t.2.1).toArray.size ≤ _
    simp
    omega
  · split
    · exact h.2
    · show 0 ≤ _; omega

theorem alike_yes (s t : ByteArray) (w : World) (h : t.size ≤ 1000) (hs : s.size ≤ 1000000) :
    Calls Tryz.prog 107 #[.string s, .string t] w (RetV (vT (flagT (likeT s t))) 0 w) := by
  have h1 : ¬ ((1000 : Int) < (t.size : Int)) := by omega
  show Calls Tryz.prog 107 #[.string s, .string t] w (RetV (vv 1 (if likeT s t then 1 else 0) ⟨#[]⟩) 0 w)
  generalize hx : (if likeT s t = true then (1 : Int) else 0) = b
  have HX := Lib.hid hx
  have HL := Lib.hid (fun W => Like_b s t W hs (by omega))
  clear hx
  go_enter Tryz.func107, Tryz.ntmps107
  go_wp2_with (first
    | (go_at_call 127; refine (HL.out _).mono ?_; rintro e wa ⟨rfl, ba⟩; have hcur := Lib.hid ba; clear ba)
    | (go_at_call 92; refine (flagValue_any _ _).mono ?_; rintro e wb ⟨rfl, bb⟩; rw [HX.out]; have hcur := Lib.hid (hcur.out.trans (bb.mono hcur.out.size)); obtain ⟨u0, u1, u2, v0, v1, v2⟩ := w1_out w _ hcur.out; have hz : w.heap.size < wb.heap.size := (by have := hcur.out.size; rw [w1_size] at this; omega); clear bb))
  exact bodyPost_ret (v := .tuple #[vv 1 b ⟨#[]⟩, .int .i64 0]) (by simp [results, Tryz.results107, go_sem, u0, u1, u2]) rfl ⟨rfl, w1_end _ _ hcur.out _ _ _⟩
set_option maxHeartbeats 800000 in
theorem ofTwo_like (k n : Int) (s : ByteArray) (k' n' : Int) (s' : ByteArray) (w : World) (hn : In64 n) (hn' : In64 n') (hW : Wd w) (h : (textV k' n' s').size ≤ 1000) (hq : (textV k n s).size ≤ 1000000) :
    Calls Tryz.prog 97 #[.string ⟨#[108, 105, 107, 101]⟩, vv k n s, vv k' n' s'] w (RetV (vv 1 (if likeT (textV k n s) (textV k' n' s') = true then 1 else 0) ⟨#[]⟩) 0 w) := by
  generalize hx : (if likeT (textV k n s) (textV k' n' s') = true then (1 : Int) else 0) = b
  have F := w3_cells w k n s k' n' s'
  have HN := Lib.hid hn
  have HN' := Lib.hid hn'
  have HWd := Lib.hid (hW.on (w3_below w k n s k' n' s'))
  have HJ := Lib.hid (show ∀ W, Calls Tryz.prog 107 #[.string (textV k n s), .string (textV k' n' s')] W (RetV (vv 1 b ⟨#[]⟩) 0 W) from fun W => by rw [← hx]; exact alike_yes _ _ W h hq)
  clear hn hn' hW h hq hx
  go_enter Tryz.func97, Tryz.ntmps97
  go_wp2_with fail
  go_region_held3 (fun X => X.cell? ⟨w.heap.size, 0, none⟩ = some (.int .u8 k) ∧ X.cell? ⟨w.heap.size, 1, none⟩ = some (.int .i64 n) ∧ X.cell? ⟨w.heap.size, 2, none⟩ = some (.string s) ∧
      X.cell? ⟨w.heap.size + 1, 0, none⟩ = some (.int .u8 k') ∧ X.cell? ⟨w.heap.size + 1, 1, none⟩ = some (.int .i64 n') ∧ X.cell? ⟨w.heap.size + 1, 2, none⟩ = some (.string s'))
    (first | exact F _ (hcur.out.mono (by simp)) | exact F _ (Below.refl _ _).drew | exact F _ ((hcur.out.mono (by simp)).setCell (by simp) _ |>.setCell (by simp) _ |>.setCell (by simp) _))
    (first
      | (go_at_call 83; (first | (with_reducible refine (Text_any _ _ _ _ HN.out (HWd.out.on hcur.out)).mono ?_) | (with_reducible refine (Text_any _ _ _ _ HN'.out (HWd.out.on hcur.out)).mono ?_) | (with_reducible refine (Text_any _ _ _ _ HN.out (HWd.out.on (Below.refl _ _).drew)).mono ?_)); rintro e wa ⟨rfl, ba⟩; (first | (have hcur := Lib.hid (hcur.out.trans (ba.mono hcur.out.size))) | (have hcur := Lib.hid ((Below.refl (w3 w k n s k' n' s').heap.size (w3 w k n s k' n' s')).drew.trans ba))))
      | (go_at_call 107; refine (HJ.out _).mono ?_; rintro e wa ⟨rfl, ba⟩; have hcur := Lib.hid (hcur.out.trans (ba.mono hcur.out.size)); obtain ⟨hc0, hc1, hc2, hf0, hf1, hf2⟩ := w3_out _ _ _ _ _ _ _ _ hcur.out; have hz : w.heap.size + 2 < wa.heap.size := (by have := hcur.out.size; simp at this; omega)))
  go_wp2_with fail
  exact bodyPost_ret (v := .tuple #[vv 1 b ⟨#[]⟩, .int .i64 0]) (by simp [results, Tryz.results97, go_sem, hc0, hc1, hc2]) rfl ⟨rfl, w3_end _ _ _ _ _ _ _ _ hcur.out _ _ _⟩

def OpIs (g : ByteArray) (a b : Trip) (r : Rv) : Prop := ∀ w, Wd w → Calls Tryz.prog 77 #[.string g, vT a, vT b] w (RetV (vT r.1) r.2 w)
section
variable {a b : Trip} (ha : OkT a) (hb : OkT b) (hr : RtT a) (hr' : RtT b)
include ha hb hr hr'
theorem op_add : OpIs sAdd a b (if a.1 = 0 ∨ b.1 = 0 then (nulT, 0) else (if In64 (intOfT a + intOfT b) then (intT (intOfT a + intOfT b), 0) else (nulT, 20))) := by
  intro w hW
  have s1 : a.2.2.size ≤ 4611686018427387904 := by have := ha.2; omega
  have s2 : b.2.2.size ≤ 4611686018427387904 := by have := hb.2; omega
  by_cases h : a.1 = 0 ∨ b.1 = 0
  · rw [if_pos h]; exact Op_add_null _ _ _ _ _ _ w hr hr' h
  · rw [if_neg h]
    by_cases h2 : In64 (intOfT a + intOfT b)
    · rw [if_pos h2]
      exact Op_add _ _ _ _ _ _ w hr hr' (fun e => h (.inl e)) (fun e => h (.inr e)) _ _ _ _ fun X _ => ofTwo_add _ _ _ _ _ _ X s1 s2 (intT_in ha) (intT_in hb) h2
    · rw [if_neg h2]
      exact Op_add _ _ _ _ _ _ w hr hr' (fun e => h (.inl e)) (fun e => h (.inr e)) _ _ _ _ fun X _ => ofTwo_add_no _ _ _ _ _ _ X s1 s2 (intT_in ha) (intT_in hb) h2
theorem op_sub : OpIs sSub a b (if a.1 = 0 ∨ b.1 = 0 then (nulT, 0) else (if In64 (intOfT a - intOfT b) then (intT (intOfT a - intOfT b), 0) else (nulT, 20))) := by
  intro w hW
  have s1 : a.2.2.size ≤ 4611686018427387904 := by have := ha.2; omega
  have s2 : b.2.2.size ≤ 4611686018427387904 := by have := hb.2; omega
  by_cases h : a.1 = 0 ∨ b.1 = 0
  · rw [if_pos h]; exact Op_sub_null _ _ _ _ _ _ w hr hr' h
  · rw [if_neg h]
    by_cases h2 : In64 (intOfT a - intOfT b)
    · rw [if_pos h2]
      exact Op_sub _ _ _ _ _ _ w hr hr' (fun e => h (.inl e)) (fun e => h (.inr e)) _ _ _ _ fun X _ => ofTwo_sub _ _ _ _ _ _ X s1 s2 (intT_in ha) (intT_in hb) h2
    · rw [if_neg h2]
      exact Op_sub _ _ _ _ _ _ w hr hr' (fun e => h (.inl e)) (fun e => h (.inr e)) _ _ _ _ fun X _ => ofTwo_sub_no _ _ _ _ _ _ X s1 s2 (intT_in ha) (intT_in hb) h2
theorem op_mul : OpIs sMul a b (if a.1 = 0 ∨ b.1 = 0 then (nulT, 0) else (if In64 (intOfT a * intOfT b) then (intT (intOfT a * intOfT b), 0) else (nulT, 20))) := by
  intro w hW
  have s1 : a.2.2.size ≤ 4611686018427387904 := by have := ha.2; omega
  have s2 : b.2.2.size ≤ 4611686018427387904 := by have := hb.2; omega
  by_cases h : a.1 = 0 ∨ b.1 = 0
  · rw [if_pos h]; exact Op_mul_null _ _ _ _ _ _ w hr hr' h
  · rw [if_neg h]
    by_cases h2 : In64 (intOfT a * intOfT b)
    · rw [if_pos h2]
      exact Op_mul _ _ _ _ _ _ w hr hr' (fun e => h (.inl e)) (fun e => h (.inr e)) _ _ _ _ fun X _ => ofTwo_mul _ _ _ _ _ _ X s1 s2 (intT_in ha) (intT_in hb) h2
    · rw [if_neg h2]
      exact Op_mul _ _ _ _ _ _ w hr hr' (fun e => h (.inl e)) (fun e => h (.inr e)) _ _ _ _ fun X _ => ofTwo_mul_no _ _ _ _ _ _ X s1 s2 (intT_in ha) (intT_in hb) h2
theorem op_quo : OpIs sQuo a b (if a.1 = 0 ∨ b.1 = 0 then (nulT, 0) else (if intOfT b = 0 then (nulT, 0) else if intOfT a = -9223372036854775808 ∧ intOfT b = -1 then (nulT, 20) else (intT ((intOfT a).tdiv (intOfT b)), 0))) := by
  intro w hW
  have s1 : a.2.2.size ≤ 4611686018427387904 := by have := ha.2; omega
  have s2 : b.2.2.size ≤ 4611686018427387904 := by have := hb.2; omega
  by_cases h : a.1 = 0 ∨ b.1 = 0
  · rw [if_pos h]; exact Op_quo_null _ _ _ _ _ _ w hr hr' h
  · rw [if_neg h]
    by_cases h2 : intOfT b = 0
    · rw [if_pos h2]
      exact Op_quo _ _ _ _ _ _ w hr hr' (fun e => h (.inl e)) (fun e => h (.inr e)) _ _ _ _ fun X _ => ofTwo_quo_zero _ _ _ _ _ _ X s1 s2 h2
    · rw [if_neg h2]
      by_cases h3 : intOfT a = -9223372036854775808 ∧ intOfT b = -1
      · rw [if_pos h3]
        exact Op_quo _ _ _ _ _ _ w hr hr' (fun e => h (.inl e)) (fun e => h (.inr e)) _ _ _ _ fun X _ => ofTwo_quo_far _ _ _ _ _ _ X s1 s2 h3.1 h3.2
      · rw [if_neg h3]
        exact Op_quo _ _ _ _ _ _ w hr hr' (fun e => h (.inl e)) (fun e => h (.inr e)) _ _ _ _ fun X _ => ofTwo_quo _ _ _ _ _ _ X s1 s2 (intT_in ha) h2 h3
theorem op_rem : OpIs sRem a b (if a.1 = 0 ∨ b.1 = 0 then (nulT, 0) else (if intOfT b = 0 then (nulT, 0) else (intT ((intOfT a).tmod (intOfT b)), 0))) := by
  intro w hW
  have s1 : a.2.2.size ≤ 4611686018427387904 := by have := ha.2; omega
  have s2 : b.2.2.size ≤ 4611686018427387904 := by have := hb.2; omega
  by_cases h : a.1 = 0 ∨ b.1 = 0
  · rw [if_pos h]; exact Op_rem_null _ _ _ _ _ _ w hr hr' h
  · rw [if_neg h]
    by_cases h2 : intOfT b = 0
    · rw [if_pos h2]
      exact Op_rem _ _ _ _ _ _ w hr hr' (fun e => h (.inl e)) (fun e => h (.inr e)) _ _ _ _ fun X _ => ofTwo_rem_zero _ _ _ _ _ _ X s1 s2 h2
    · rw [if_neg h2]
      exact Op_rem _ _ _ _ _ _ w hr hr' (fun e => h (.inl e)) (fun e => h (.inr e)) _ _ _ _ fun X _ => ofTwo_rem _ _ _ _ _ _ X s1 s2 (intT_in ha) h2
theorem op_cat : OpIs sCat a b (if a.1 = 0 ∨ b.1 = 0 then (nulT, 0) else (if (textT a).size + (textT b).size ≤ 65536 then ((2, 0, textT a ++ textT b), 0) else (nulT, 3))) := by
  intro w hW
  have t1 := textT_size ha
  have t2 := textT_size hb
  by_cases h : a.1 = 0 ∨ b.1 = 0
  · rw [if_pos h]; exact Op_cat_null _ _ _ _ _ _ w hr hr' h
  · rw [if_neg h]
    by_cases h2 : (textT a).size + (textT b).size ≤ 65536
    · rw [if_pos h2]
      exact Op_cat _ _ _ _ _ _ w hr hr' (fun e => h (.inl e)) (fun e => h (.inr e)) _ _ _ _ fun X hX => ofTwo_cat _ _ _ _ _ _ X ha.1 hb.1 (hW.on hX) t1 t2 h2 _ rfl
    · rw [if_neg h2]
      exact Op_cat _ _ _ _ _ _ w hr hr' (fun e => h (.inl e)) (fun e => h (.inr e)) _ _ _ _ fun X hX => ofTwo_cat_no _ _ _ _ _ _ X ha.1 hb.1 (hW.on hX) ⟨by unfold textT at h2; omega, by unfold textT at t1 t2; omega⟩
theorem op_like : OpIs sLike a b (if a.1 = 0 ∨ b.1 = 0 then (nulT, 0) else (if (textT b).size ≤ 1000 then (flagT (likeT (textT a) (textT b)), 0) else (nulT, 3))) := by
  intro w hW
  have t1 := textT_size ha
  by_cases h : a.1 = 0 ∨ b.1 = 0
  · rw [if_pos h]; exact Op_like_null _ _ _ _ _ _ w hr hr' h
  · rw [if_neg h]
    by_cases h2 : (textT b).size ≤ 1000
    · rw [if_pos h2]
      exact Op_like _ _ _ _ _ _ w hr hr' (fun e => h (.inl e)) (fun e => h (.inr e)) _ _ _ _ fun X hX => ofTwo_like _ _ _ _ _ _ X ha.1 hb.1 (hW.on hX) h2 (by unfold textT at t1; omega)
    · rw [if_neg h2]
      exact Op_like _ _ _ _ _ _ w hr hr' (fun e => h (.inl e)) (fun e => h (.inr e)) _ _ _ _ fun X hX => ofTwo_like_no _ _ _ _ _ _ X ha.1 hb.1 (hW.on hX) (by unfold textT at h2; omega)
theorem op_eq : OpIs sEq a b (if a.1 = 0 ∨ b.1 = 0 then (nulT, 0) else (flagT (cmpT a b == 0), 0)) := by
  intro w hW
  by_cases h : a.1 = 0 ∨ b.1 = 0
  · rw [if_pos h]; exact Op_eq_null _ _ _ _ _ _ w hr hr' h
  · rw [if_neg h]
    exact Op_eq _ _ _ _ _ _ w hr hr' (fun e => h (.inl e)) (fun e => h (.inr e)) _ _ _ _ fun X _ => ofTwo_eq _ _ _ _ _ _ X
theorem op_ne : OpIs sNe a b (if a.1 = 0 ∨ b.1 = 0 then (nulT, 0) else (flagT (cmpT a b != 0), 0)) := by
  intro w hW
  by_cases h : a.1 = 0 ∨ b.1 = 0
  · rw [if_pos h]; exact Op_ne_null _ _ _ _ _ _ w hr hr' h
  · rw [if_neg h]
    exact Op_ne _ _ _ _ _ _ w hr hr' (fun e => h (.inl e)) (fun e => h (.inr e)) _ _ _ _ fun X _ => ofTwo_ne _ _ _ _ _ _ X
theorem op_lt : OpIs sLt a b (if a.1 = 0 ∨ b.1 = 0 then (nulT, 0) else (flagT (decide (cmpT a b < 0)), 0)) := by
  intro w hW
  by_cases h : a.1 = 0 ∨ b.1 = 0
  · rw [if_pos h]; exact Op_lt_null _ _ _ _ _ _ w hr hr' h
  · rw [if_neg h]
    exact Op_lt _ _ _ _ _ _ w hr hr' (fun e => h (.inl e)) (fun e => h (.inr e)) _ _ _ _ fun X _ => ofTwo_lt _ _ _ _ _ _ X
theorem op_le : OpIs sLe a b (if a.1 = 0 ∨ b.1 = 0 then (nulT, 0) else (flagT (decide (cmpT a b ≤ 0)), 0)) := by
  intro w hW
  by_cases h : a.1 = 0 ∨ b.1 = 0
  · rw [if_pos h]; exact Op_le_null _ _ _ _ _ _ w hr hr' h
  · rw [if_neg h]
    exact Op_le _ _ _ _ _ _ w hr hr' (fun e => h (.inl e)) (fun e => h (.inr e)) _ _ _ _ fun X _ => ofTwo_le _ _ _ _ _ _ X
theorem op_gt : OpIs sGt a b (if a.1 = 0 ∨ b.1 = 0 then (nulT, 0) else (flagT (decide (0 < cmpT a b)), 0)) := by
  intro w hW
  by_cases h : a.1 = 0 ∨ b.1 = 0
  · rw [if_pos h]; exact Op_gt_null _ _ _ _ _ _ w hr hr' h
  · rw [if_neg h]
    exact Op_gt _ _ _ _ _ _ w hr hr' (fun e => h (.inl e)) (fun e => h (.inr e)) _ _ _ _ fun X _ => ofTwo_gt _ _ _ _ _ _ X
theorem op_ge : OpIs sGe a b (if a.1 = 0 ∨ b.1 = 0 then (nulT, 0) else (flagT (decide (0 ≤ cmpT a b)), 0)) := by
  intro w hW
  by_cases h : a.1 = 0 ∨ b.1 = 0
  · rw [if_pos h]; exact Op_ge_null _ _ _ _ _ _ w hr hr' h
  · rw [if_neg h]
    exact Op_ge _ _ _ _ _ _ w hr hr' (fun e => h (.inl e)) (fun e => h (.inr e)) _ _ _ _ fun X _ => ofTwo_ge _ _ _ _ _ _ X
end
/-- Op tells what the document says, of any sign and any values -/
theorem op_is (g : ByteArray) {a b : Trip} (ha : OkT a) (hb : OkT b) : OpIs g a b (opX g a b) := by
  unfold opX
  by_cases hr : RtT a ∧ RtT b
  · rw [if_neg (fun h => h hr)]
    obtain ⟨h1, h2⟩ := hr
    by_cases e : g = sAnd
    · subst e; rw [if_pos rfl]; exact fun w _ => Op_and _ _ _ _ _ _ w h1 h2
    rw [if_neg e]
    by_cases e2 : g = sOr
    · subst e2; rw [if_pos rfl]; exact fun w _ => Op_or _ _ _ _ _ _ w h1 h2
    rw [if_neg e2]
    by_cases hm : g ∈ sgn
    · rw [if_pos hm]
      unfold twoX
      simp only [sgn, List.mem_cons, List.not_mem_nil, or_false] at hm
      rcases hm with rfl | rfl | rfl | rfl | rfl | rfl | rfl | rfl | rfl | rfl | rfl | rfl | rfl
      · rw [if_pos rfl]; exact op_add ha hb h1 h2
      · rw [if_neg (show ¬ sSub = sAdd by decide), if_pos rfl]; exact op_sub ha hb h1 h2
      · rw [if_neg (show ¬ sMul = sAdd by decide), if_neg (show ¬ sMul = sSub by decide), if_pos rfl]; exact op_mul ha hb h1 h2
      · rw [if_neg (show ¬ sQuo = sAdd by decide), if_neg (show ¬ sQuo = sSub by decide), if_neg (show ¬ sQuo = sMul by decide), if_pos rfl]; exact op_quo ha hb h1 h2
      · rw [if_neg (show ¬ sRem = sAdd by decide), if_neg (show ¬ sRem = sSub by decide), if_neg (show ¬ sRem = sMul by decide), if_neg (show ¬ sRem = sQuo by decide), if_pos rfl]; exact op_rem ha hb h1 h2
      · rw [if_neg (show ¬ sCat = sAdd by decide), if_neg (show ¬ sCat = sSub by decide), if_neg (show ¬ sCat = sMul by decide), if_neg (show ¬ sCat = sQuo by decide), if_neg (show ¬ sCat = sRem by decide), if_pos rfl]; exact op_cat ha hb h1 h2
      · rw [if_neg (show ¬ sEq = sAdd by decide), if_neg (show ¬ sEq = sSub by decide), if_neg (show ¬ sEq = sMul by decide), if_neg (show ¬ sEq = sQuo by decide), if_neg (show ¬ sEq = sRem by decide), if_neg (show ¬ sEq = sCat by decide), if_pos rfl]; exact op_eq ha hb h1 h2
      · rw [if_neg (show ¬ sNe = sAdd by decide), if_neg (show ¬ sNe = sSub by decide), if_neg (show ¬ sNe = sMul by decide), if_neg (show ¬ sNe = sQuo by decide), if_neg (show ¬ sNe = sRem by decide), if_neg (show ¬ sNe = sCat by decide), if_neg (show ¬ sNe = sEq by decide), if_pos rfl]; exact op_ne ha hb h1 h2
      · rw [if_neg (show ¬ sLt = sAdd by decide), if_neg (show ¬ sLt = sSub by decide), if_neg (show ¬ sLt = sMul by decide), if_neg (show ¬ sLt = sQuo by decide), if_neg (show ¬ sLt = sRem by decide), if_neg (show ¬ sLt = sCat by decide), if_neg (show ¬ sLt = sEq by decide), if_neg (show ¬ sLt = sNe by decide), if_pos rfl]; exact op_lt ha hb h1 h2
      · rw [if_neg (show ¬ sLe = sAdd by decide), if_neg (show ¬ sLe = sSub by decide), if_neg (show ¬ sLe = sMul by decide), if_neg (show ¬ sLe = sQuo by decide), if_neg (show ¬ sLe = sRem by decide), if_neg (show ¬ sLe = sCat by decide), if_neg (show ¬ sLe = sEq by decide), if_neg (show ¬ sLe = sNe by decide), if_neg (show ¬ sLe = sLt by decide), if_pos rfl]; exact op_le ha hb h1 h2
      · rw [if_neg (show ¬ sGt = sAdd by decide), if_neg (show ¬ sGt = sSub by decide), if_neg (show ¬ sGt = sMul by decide), if_neg (show ¬ sGt = sQuo by decide), if_neg (show ¬ sGt = sRem by decide), if_neg (show ¬ sGt = sCat by decide), if_neg (show ¬ sGt = sEq by decide), if_neg (show ¬ sGt = sNe by decide), if_neg (show ¬ sGt = sLt by decide), if_neg (show ¬ sGt = sLe by decide), if_pos rfl]; exact op_gt ha hb h1 h2
      · rw [if_neg (show ¬ sGe = sAdd by decide), if_neg (show ¬ sGe = sSub by decide), if_neg (show ¬ sGe = sMul by decide), if_neg (show ¬ sGe = sQuo by decide), if_neg (show ¬ sGe = sRem by decide), if_neg (show ¬ sGe = sCat by decide), if_neg (show ¬ sGe = sEq by decide), if_neg (show ¬ sGe = sNe by decide), if_neg (show ¬ sGe = sLt by decide), if_neg (show ¬ sGe = sLe by decide), if_neg (show ¬ sGe = sGt by decide), if_pos rfl]; exact op_ge ha hb h1 h2
      · rw [if_neg (show ¬ sLike = sAdd by decide), if_neg (show ¬ sLike = sSub by decide), if_neg (show ¬ sLike = sMul by decide), if_neg (show ¬ sLike = sQuo by decide), if_neg (show ¬ sLike = sRem by decide), if_neg (show ¬ sLike = sCat by decide), if_neg (show ¬ sLike = sEq by decide), if_neg (show ¬ sLike = sNe by decide), if_neg (show ¬ sLike = sLt by decide), if_neg (show ¬ sLike = sLe by decide), if_neg (show ¬ sLike = sGt by decide), if_neg (show ¬ sLike = sGe by decide)]; exact op_like ha hb h1 h2
    · rw [if_neg hm]
      exact fun w _ => Op_unk g _ _ _ _ _ _ w h1 h2 fun x hx => by
        rcases List.mem_cons.1 hx with rfl | hx
        · exact e
        rcases List.mem_cons.1 hx with rfl | hx
        · exact e2
        · intro e3; subst e3; exact hm hx
  · rw [if_pos hr]
    intro w _
    by_cases h1 : RtT a
    · exact Op_bad2 g _ _ _ _ _ _ w h1 (fun h2 => hr ⟨h1, h2⟩) (by have := hb.2; omega)
    · exact Op_bad1 g _ _ _ _ _ _ w h1 (by have := ha.2; omega)
theorem one_is (g : ByteArray) {a : Trip} (ha : OkT a) (w : World) : Calls Tryz.prog 76 #[.string g, vT a] w (RetV (vT (oneX g a).1) (oneX g a).2 w) := by
  unfold oneX
  by_cases hr : RtT a
  · rw [if_neg (fun h => h hr)]
    by_cases e : g = sNot
    · subst e; rw [if_pos rfl]
      by_cases h : a.1 = 0
      · rw [if_pos h]; exact One_not_null _ _ _ w hr h
      · rw [if_neg h]; exact One_not _ _ _ w hr h _ rfl
    rw [if_neg e]
    by_cases e2 : g = sSub
    · subst e2; rw [if_pos rfl]
      by_cases h : a.1 = 0
      · rw [if_pos h]; exact One_neg_null _ _ _ w hr h
      · rw [if_neg h]
        by_cases h2 : In64 (0 - intOfT a)
        · rw [if_pos h2]; exact One_neg _ _ _ w hr h (intT_in ha) h2
        · rw [if_neg h2]; exact One_neg_no _ _ _ w hr h (intT_in ha) h2
    · rw [if_neg e2]; exact One_unk g _ _ _ w hr e2 e
  · rw [if_pos hr]; exact One_bad g _ _ _ w hr (by have := ha.2; omega)
theorem cast_is (g : ByteArray) {a : Trip} (ha : OkT a) (w : World) (hW : Wd w) : Calls Tryz.prog 61 #[.string g, vT a] w (RetV (vT (castX g a).1) (castX g a).2 w) := by
  unfold castX
  by_cases hr : RtT a
  · rw [if_neg (fun h => h hr)]
    by_cases e : g = sInt
    · subst e; rw [if_pos rfl]
      by_cases h : a.1 = 0
      · rw [if_pos h]; exact Cast_int_null _ _ _ w hr h
      · rw [if_neg h]; exact Cast_int _ _ _ w hr h _ rfl
    rw [if_neg e]
    by_cases e2 : g = sText
    · subst e2; rw [if_pos rfl]
      by_cases h : a.1 = 0
      · rw [if_pos h]; exact Cast_text_nul _ _ _ w hr h
      · rw [if_neg h]; exact Cast_text _ _ _ w hr h ha.1 hW _ rfl
    · rw [if_neg e2]; exact Cast_unk g _ _ _ w hr e e2
  · rw [if_pos hr]; exact Cast_bad g _ _ _ w hr (by have := ha.2; omega)
theorem tdiv_in {x y : Int} (hx : In64 x) (h0 : ¬ y = 0) (hf : ¬ (x = -9223372036854775808 ∧ y = -1)) : In64 (x.tdiv y) := by
  unfold In64 at hx ⊢
  have h1 : (x.tdiv y).natAbs = x.natAbs / y.natAbs := Int.natAbs_tdiv x y
  have h2 : x.natAbs / y.natAbs ≤ x.natAbs := Nat.div_le_self _ _
  by_cases hy : y = -1
  · subst hy
    have h5 : x.natAbs / (-1 : Int).natAbs = x.natAbs := Nat.div_one _
    by_cases hx0 : x < 0
    · omega
    · have : x.tdiv (-1) = -x := Int.tdiv_neg x 1 ▸ (by rw [Int.tdiv_one])
      omega
  · by_cases hy1 : y = 1
    · subst hy1; rw [Int.tdiv_one]; exact hx
    · have h3 : 2 ≤ y.natAbs := by omega
      have h4 : x.natAbs / y.natAbs ≤ x.natAbs / 2 := Nat.div_le_div_left h3 (by omega)
      omega
theorem tmod_in {x y : Int} (hy : In64 y) (h0 : ¬ y = 0) : In64 (x.tmod y) := by
  unfold In64 at hy ⊢
  have h1 : (x.tmod y).natAbs = x.natAbs % y.natAbs := Int.natAbs_tmod x y
  have h2 : x.natAbs % y.natAbs < y.natAbs := Nat.mod_lt _ (by omega)
  omega
/-- what they tell has the sizes that values have -/
theorem opX_ok (g : ByteArray) {a b : Trip} (ha : OkT a) (hb : OkT b) : OkT (opX g a b).1 := by
  have hx : ∀ x y, OkT ((x, y, ⟨#[]⟩) : Trip) ↔ In64 y := fun x y => ⟨fun h => h.1, fun h => ⟨h, by show 0 ≤ _; omega⟩⟩
  have h1 := intT_in ha
  have h2 := intT_in hb
  unfold opX
  by_cases hr : RtT a ∧ RtT b
  · rw [if_neg (fun h => h hr)]
    by_cases e : g = sAnd
    · rw [if_pos e, hx]; unfold andN In64; split <;> (try split) <;> omega
    rw [if_neg e]
    by_cases e2 : g = sOr
    · rw [if_pos e2, hx]; unfold orN In64; split <;> omega
    rw [if_neg e2]
    by_cases hm : g ∈ sgn
    · rw [if_pos hm]
      by_cases h0 : a.1 = 0 ∨ b.1 = 0
      · rw [if_pos h0]; exact okT_nul
      rw [if_neg h0]
      unfold twoX
      simp only [sgn, List.mem_cons, List.not_mem_nil, or_false] at hm
      rcases hm with rfl | rfl | rfl | rfl | rfl | rfl | rfl | rfl | rfl | rfl | rfl | rfl | rfl
      · rw [if_pos rfl]
        split
        · exact okT_int (by assumption)
        · exact okT_nul
      · rw [if_neg (show ¬ sSub = sAdd by decide), if_pos rfl]
        split
        · exact okT_int (by assumption)
        · exact okT_nul
      · rw [if_neg (show ¬ sMul = sAdd by decide), if_neg (show ¬ sMul = sSub by decide), if_pos rfl]
        split
        · exact okT_int (by assumption)
        · exact okT_nul
      · rw [if_neg (show ¬ sQuo = sAdd by decide), if_neg (show ¬ sQuo = sSub by decide), if_neg (show ¬ sQuo = sMul by decide), if_pos rfl]
        split
        · exact okT_nul
        · split
          · exact okT_nul
          · rename_i h3 h4
            exact okT_int (tdiv_in h1 h3 h4)
      · rw [if_neg (show ¬ sRem = sAdd by decide), if_neg (show ¬ sRem = sSub by decide), if_neg (show ¬ sRem = sMul by decide), if_neg (show ¬ sRem = sQuo by decide), if_pos rfl]
        split
        · exact okT_nul
        · rename_i h3
          exact okT_int (tmod_in h2 h3)
      · rw [if_neg (show ¬ sCat = sAdd by decide), if_neg (show ¬ sCat = sSub by decide), if_neg (show ¬ sCat = sMul by decide), if_neg (show ¬ sCat = sQuo by decide), if_neg (show ¬ sCat = sRem by decide), if_pos rfl]
        split
        · rename_i h3
          exact ⟨show In64 0 by decide, by show (textT a ++ textT b).size ≤ _; rw [ByteArray.size_append]; exact h3⟩
        · exact okT_nul
      · rw [if_neg (show ¬ sEq = sAdd by decide), if_neg (show ¬ sEq = sSub by decide), if_neg (show ¬ sEq = sMul by decide), if_neg (show ¬ sEq = sQuo by decide), if_neg (show ¬ sEq = sRem by decide), if_neg (show ¬ sEq = sCat by decide), if_pos rfl]
        exact okT_flag _
      · rw [if_neg (show ¬ sNe = sAdd by decide), if_neg (show ¬ sNe = sSub by decide), if_neg (show ¬ sNe = sMul by decide), if_neg (show ¬ sNe = sQuo by decide), if_neg (show ¬ sNe = sRem by decide), if_neg (show ¬ sNe = sCat by decide), if_neg (show ¬ sNe = sEq by decide), if_pos rfl]
        exact okT_flag _
      · rw [if_neg (show ¬ sLt = sAdd by decide), if_neg (show ¬ sLt = sSub by decide), if_neg (show ¬ sLt = sMul by decide), if_neg (show ¬ sLt = sQuo by decide), if_neg (show ¬ sLt = sRem by decide), if_neg (show ¬ sLt = sCat by decide), if_neg (show ¬ sLt = sEq by decide), if_neg (show ¬ sLt = sNe by decide), if_pos rfl]
        exact okT_flag _
      · rw [if_neg (show ¬ sLe = sAdd by decide), if_neg (show ¬ sLe = sSub by decide), if_neg (show ¬ sLe = sMul by decide), if_neg (show ¬ sLe = sQuo by decide), if_neg (show ¬ sLe = sRem by decide), if_neg (show ¬ sLe = sCat by decide), if_neg (show ¬ sLe = sEq by decide), if_neg (show ¬ sLe = sNe by decide), if_neg (show ¬ sLe = sLt by decide), if_pos rfl]
        exact okT_flag _
      · rw [if_neg (show ¬ sGt = sAdd by decide), if_neg (show ¬ sGt = sSub by decide), if_neg (show ¬ sGt = sMul by decide), if_neg (show ¬ sGt = sQuo by decide), if_neg (show ¬ sGt = sRem by decide), if_neg (show ¬ sGt = sCat by decide), if_neg (show ¬ sGt = sEq by decide), if_neg (show ¬ sGt = sNe by decide), if_neg (show ¬ sGt = sLt by decide), if_neg (show ¬ sGt = sLe by decide), if_pos rfl]
        exact okT_flag _
      · rw [if_neg (show ¬ sGe = sAdd by decide), if_neg (show ¬ sGe = sSub by decide), if_neg (show ¬ sGe = sMul by decide), if_neg (show ¬ sGe = sQuo by decide), if_neg (show ¬ sGe = sRem by decide), if_neg (show ¬ sGe = sCat by decide), if_neg (show ¬ sGe = sEq by decide), if_neg (show ¬ sGe = sNe by decide), if_neg (show ¬ sGe = sLt by decide), if_neg (show ¬ sGe = sLe by decide), if_neg (show ¬ sGe = sGt by decide), if_pos rfl]
        exact okT_flag _
      · rw [if_neg (show ¬ sLike = sAdd by decide), if_neg (show ¬ sLike = sSub by decide), if_neg (show ¬ sLike = sMul by decide), if_neg (show ¬ sLike = sQuo by decide), if_neg (show ¬ sLike = sRem by decide), if_neg (show ¬ sLike = sCat by decide), if_neg (show ¬ sLike = sEq by decide), if_neg (show ¬ sLike = sNe by decide), if_neg (show ¬ sLike = sLt by decide), if_neg (show ¬ sLike = sLe by decide), if_neg (show ¬ sLike = sGt by decide), if_neg (show ¬ sLike = sGe by decide)]
        split
        · exact okT_flag _
        · exact okT_nul
    · rw [if_neg hm]; exact okT_nul
  · rw [if_pos hr]; exact okT_nul
theorem oneX_ok (g : ByteArray) {a : Trip} (ha : OkT a) : OkT (oneX g a).1 := by
  unfold oneX
  repeat' split
  all_goals first | exact okT_nul | exact okT_flag _ | exact okT_int (by assumption)
theorem castX_ok (g : ByteArray) {a : Trip} (ha : OkT a) : OkT (castX g a).1 := by
  unfold castX
  repeat' split
  all_goals first | exact okT_nul | exact okT_int (intT_in ha) | exact ⟨show In64 0 by decide, textT_size ha⟩
end Go.Proofs.YteijijoiifbjlaaGreatDoor
