/-
  substr (layer 2, value). Conditions: sizes, numbers of 64 bits.
-/
import Derived.Test.YtbelhgdogafedaaGreatDoorVCall
import Derived.Test.YtbelhgdogafedaaGreatDoorVVal
namespace Go.Proofs.YtbelhgdogafedaaGreatDoor
open Go.ChangeShapes Go.WideShapes Go.ChangeAt Go.RowKit
set_option linter.unusedVariables false

/-- a sum, or the end of 64 bits -/
def addW (a b : Int) : Int := if In64 (a + b) then a + b else if 0 < b then 9223372036854775807 else -9223372036854775808
theorem addW_64 (a b : Int) : In64 (addW a b) := by
  unfold addW
  split
  · assumption
  · split <;> (unfold In64; omega)
theorem addWithin_any (a b : Int) (w : World) (ha : In64 a) (hb : In64 b) :
    Calls Tryz.prog 154 #[.int .i64 a, .int .i64 b] w fun e w' => e = .returned (.int .i64 (addW a b)) ∧ w = w' := by
  have HA := Lib.hid ha
  have HB := Lib.hid hb
  clear ha hb
  by_cases h : In64 (a + b)
  · have HD := Lib.hid (decide_eq_true h)
    have HW := Lib.hid (show wrap64 (a + b) = addW a b by rw [wrap_in h, addW, if_pos h])
    clear h
    go_enter Tryz.func154, Tryz.ntmps154
    go_wp2_with (go_at_call 108; refine (add_any _ _ _ HA.out HB.out).mono ?_; rintro e w' ⟨rfl, rfl⟩; rw [HD.out])
    go_ret
    exact ⟨ret_i HW.out, rfl⟩
  · have HD := Lib.hid (decide_eq_false h)
    have HW := Lib.hid (show (if 0 < b then (9223372036854775807 : Int) else -9223372036854775808) = addW a b by rw [addW, if_neg h])
    clear h
    go_enter Tryz.func154, Tryz.ntmps154
    go_wp2_with (go_at_call 108; refine (add_any _ _ _ HA.out HB.out).mono ?_; rintro e w' ⟨rfl, rfl⟩; rw [HD.out])
    · go_ret
      exact ⟨ret_i (by rw [← HW.out, if_pos (by assumption)]), rfl⟩
    · go_ret
      exact ⟨ret_i (by rw [← HW.out, if_neg (by omega)]), rfl⟩

def StrRet (p n : Int) (w : World) (e : Ending) (w' : World) : Prop :=
  ∃ lo hi : Int, e = .returned (.tuple #[.int .i64 lo, .int .i64 hi]) ∧ lo = min p (addW p n) ∧ hi = max p (addW p n) ∧ w = w'
theorem ret_ii {k : IntKind} {a b c d : Int} (h : a = b) (h2 : c = d) : Ending.returned (.tuple #[.int k a, .int k c]) = .returned (.tuple #[.int k b, .int k d]) := by rw [h, h2]
theorem stretch_any (p n : Int) (w : World) (hp : In64 p) (hn : In64 n) :
    Calls Tryz.prog 141 #[.int .i64 p, .int .i64 n] w (StrRet p n w) := by
  have HA := Lib.hid hp
  have HB := Lib.hid hn
  clear hp hn
  go_enter Tryz.func141, Tryz.ntmps141
  go_wp2_with (go_at_call 154; refine (addWithin_any _ _ _ HA.out HB.out).mono ?_; rintro e w' ⟨rfl, rfl⟩)
  all_goals
    go_ret2
    exact ⟨_, _, rfl, by (repeat' split) <;> omega, by (repeat' split) <;> omega, rfl⟩

def subF (l : Nat) (fr : Int) : Int := min (max fr 1) (l + 1)
def subB (l : Nat) (fr be : Int) : Int := min (max be (subF l fr)) (l + 1)
/-- the bytes from a place on, and below another one -/
def cutS (s : ByteArray) (fr be : Int) : ByteArray := s.extract (subF s.size fr - 1).toNat (subB s.size fr be - 1).toNat
def fromP (l : Nat) (f : Int) : Int := if f < 0 then l + 1 + f else f

abbrev w2 (w : World) (k n : Int) (s : ByteArray) : World := (w.alloc (box k n s)).alloc (box 0 0 ⟨#[]⟩)

theorem w2_size (w : World) (k n : Int) (s : ByteArray) : (w2 w k n s).heap.size = w.heap.size + 2 := by simp
theorem w2_below (w : World) (k n : Int) (s : ByteArray) : Below w.heap.size w (w2 w k n s) := ((Below.refl _ _).alloc (Nat.le_refl _) _).alloc (by simp) _
theorem w2_out (w : World) (k n : Int) (s : ByteArray) (X : World) (h : Below (w2 w k n s).heap.size (w2 w k n s) X) :
    X.cell? ⟨w.heap.size, 0, none⟩ = some (.int .u8 k) ∧ X.cell? ⟨w.heap.size + 1, 0, none⟩ = some (.int .u8 0) ∧ X.cell? ⟨w.heap.size + 1, 1, none⟩ = some (.int .i64 0) ∧ X.cell? ⟨w.heap.size + 1, 2, none⟩ = some (.string ⟨#[]⟩) ∧
    X.frozen? ⟨w.heap.size + 1, 0, none⟩ = false ∧ X.frozen? ⟨w.heap.size + 1, 1, none⟩ = false ∧ X.frozen? ⟨w.heap.size + 1, 2, none⟩ = false := by
  obtain ⟨hc, hf⟩ := bcell h
  refine ⟨?_, ?_, ?_, ?_, ?_, ?_, ?_⟩
  · rw [hc _ _ (by rw [w2_size]; omega)]; simp [go_sem]
  · rw [hc _ _ (by rw [w2_size]; omega)]; simp [go_sem]
  · rw [hc _ _ (by rw [w2_size]; omega)]; simp [go_sem]
  · rw [hc _ _ (by rw [w2_size]; omega)]; simp [go_sem]
  · rw [hf _ _ (by rw [w2_size]; omega)]; simp [go_sem]
  · rw [hf _ _ (by rw [w2_size]; omega)]; simp [go_sem]
  · rw [hf _ _ (by rw [w2_size]; omega)]; simp [go_sem]
theorem w2_end (w : World) (k n : Int) (s : ByteArray) (X : World) (h : Below (w2 w k n s).heap.size (w2 w k n s) X) (a b c : Value) :
    Below w.heap.size w (((X.setCell ⟨w.heap.size + 1, 0, none⟩ a).setCell ⟨w.heap.size + 1, 1, none⟩ b).setCell ⟨w.heap.size + 1, 2, none⟩ c) :=
  ((((w2_below w k n s).trans (h.mono (by rw [w2_size]; omega))).setCell (by show w.heap.size ≤ w.heap.size + 1; omega) _).setCell (by show w.heap.size ≤ w.heap.size + 1; omega) _).setCell (by show w.heap.size ≤ w.heap.size + 1; omega) _
theorem w2_end0 (w : World) (k n : Int) (s : ByteArray) (X : World) (h : Below (w2 w k n s).heap.size (w2 w k n s) X) : Below w.heap.size w X :=
  (w2_below w k n s).trans (h.mono (by rw [w2_size]; omega))
theorem extract_eq {s : ByteArray} {a b c d : Nat} (h : a = c) (h2 : b = d) : s.extract a b = s.extract c d := by rw [h, h2]

set_option maxRecDepth 100000 in
set_option maxHeartbeats 800000 in
theorem substr_two (k n : Int) (s : ByteArray) (f : Int) (A : Option Addr) (c : Nat) (w : World) (hn : In64 n) (hf : In64 f) (hW : Wd w) (hs : (textV k n s).size ≤ 1099511627776) (hk : k ≠ 3) :
    Calls Tryz.prog 130 #[vv k n s, .int .i64 f, .slice A 0 c] w fun e w' => e = .returned (vv 2 0 (cutS (textV k n s) (fromP (textV k n s).size f) ((textV k n s).size + 1))) ∧ Below w.heap.size w w' := by
  have HWd := Lib.hid (hW.on (w2_below w k n s))
  have HN := Lib.hid hn
  have e3 : (k == 3) = false := by simpa using hk
  clear hk
  unfold In64 at hf
  obtain ⟨hf1, hf2⟩ := hf
  clear hW hn
  go_enter Tryz.func130, Tryz.ntmps130
  go_wp2_with (first
    | (go_at_call 89; refine (Text_any _ _ _ _ HN.out HWd.out).mono ?_; rintro e wa ⟨rfl, ba⟩; have HB := Lib.hid ba; obtain ⟨g0, _, _, _, _, _, _⟩ := w2_out _ _ _ _ _ ba; clear ba)
    | (go_at_call 88; generalize hx : ByteArray.extract _ _ _ = cut; have HX := Lib.hid hx; clear hx; refine (textValue_any _ _).mono ?_; rintro e wb ⟨rfl, bb⟩; have HB := Lib.hid (HB.out.trans (bb.mono HB.out.size)); obtain ⟨_, u0, u1, u2, v0, v1, v2⟩ := w2_out _ _ _ _ _ HB.out; have hz : w.heap.size + 1 < wb.heap.size := (by have := HB.out.size; rw [w2_size] at this; omega); clear bb))
  all_goals
    refine bodyPost_ret (v := vv 2 0 cut) (by simp [results, Tryz.results130, go_sem, u0, u1, u2]) rfl ⟨?_, w2_end _ _ _ _ _ HB.out _ _ _⟩
    rw [← HX.out]
    unfold cutS subB subF fromP
    exact congrArg (fun x => Ending.returned (vv 2 0 x)) (extract_eq (by (repeat' split) <;> omega) (by (repeat' split) <;> omega))

set_option maxRecDepth 100000 in
set_option maxHeartbeats 800000 in
theorem substr_three (k n : Int) (s : ByteArray) (f : Int) (b off c : Nat) (k' n' : Int) (s' : ByteArray) (w : World) (hn : In64 n) (hf : In64 f) (hW : Wd w) (hs : (textV k n s).size ≤ 1099511627776) (hk : k ≠ 3)
    (hs' : s'.size ≤ 4611686018427387904) (hi : In64 (intV k' n' s')) (hR : RdV w b off [(k', n', s')]) :
    Calls Tryz.prog 130 #[vv k n s, .int .i64 f, .slice (some ⟨b, off, none⟩) 1 c] w fun e w' => e = .returned (vv 2 0 (cutS (textV k n s) (min (fromP (textV k n s).size f) (addW (fromP (textV k n s).size f) (intV k' n' s'))) (max (fromP (textV k n s).size f) (addW (fromP (textV k n s).size f) (intV k' n' s'))))) ∧ Below w.heap.size w w' := by
  have HWd := Lib.hid (hW.on (w2_below w k n s))
  have HN := Lib.hid hn
  have HS := Lib.hid hs'
  have HI := Lib.hid hi
  have HR := Lib.hid hR
  have e3 : (k == 3) = false := by simpa using hk
  have hf0 := hf
  unfold In64 at hf
  obtain ⟨hf1, hf2⟩ := hf
  clear hW hn hs' hi hR hf0
  by_cases hneg : f < 0
  · have hfp : (textV k n s).size + 1 + f = fromP (textV k n s).size f := by unfold fromP; rw [if_pos hneg]
    have HFP := Lib.hid hfp
    clear hfp
    go_enter Tryz.func130, Tryz.ntmps130
    go_wp2_with (first
      | (go_at_call 89; refine (Text_any _ _ _ _ HN.out HWd.out).mono ?_; rintro e wa ⟨rfl, ba⟩; have HB := Lib.hid ba; obtain ⟨g0, _, _, _, _, _, _⟩ := w2_out _ _ _ _ _ ba; obtain ⟨r0, r1, r2⟩ := (HR.out.on (w2_end0 _ _ _ _ _ HB.out)).2 0 k' n' s' rfl; simp only [Nat.zero_mul, Nat.add_zero] at r0 r1 r2; clear ba)
      | (go_at_call 41; refine (Int_any _ _ _ _ HS.out).mono ?_; rintro e wb ⟨rfl, bb⟩; have HB := Lib.hid (HB.out.trans (bb.mono HB.out.size)); obtain ⟨g0, _, _, _, _, _, _⟩ := w2_out _ _ _ _ _ HB.out; clear bb)
      | (go_at_call 141; refine (stretch_any _ _ _ (by unfold In64; omega) HI.out).mono ?_; rintro e wb ⟨lo, hi, rfl, hlo, hhi, rfl⟩; have HLO := Lib.hid hlo; have HHI := Lib.hid hhi; clear hlo hhi)
      | (go_at_call 88; generalize hx : ByteArray.extract _ _ _ = cut; have HX := Lib.hid hx; clear hx; refine (textValue_any _ _).mono ?_; rintro e wb ⟨rfl, bb⟩; have HB := Lib.hid (HB.out.trans (bb.mono HB.out.size)); obtain ⟨_, u0, u1, u2, v0, v1, v2⟩ := w2_out _ _ _ _ _ HB.out; have hz : w.heap.size + 1 < wb.heap.size := (by have := HB.out.size; rw [w2_size] at this; omega); clear bb))
    refine bodyPost_ret (v := vv 2 0 cut) (by simp [results, Tryz.results130, go_sem, u0, u1, u2]) rfl ⟨?_, w2_end _ _ _ _ _ HB.out _ _ _⟩
    have h1 := HLO.out
    have h2 := HHI.out
    rw [HFP.out] at h1 h2
    rw [← HX.out, ← h1, ← h2]
    unfold cutS subB subF
    exact congrArg (fun x => Ending.returned (vv 2 0 x)) (extract_eq (by (repeat' split) <;> omega) (by (repeat' split) <;> omega))
  · have hfp : f = fromP (textV k n s).size f := by unfold fromP; rw [if_neg hneg]
    have HFP := Lib.hid hfp
    clear hfp
    go_enter Tryz.func130, Tryz.ntmps130
    go_wp2_with (first
      | (go_at_call 89; refine (Text_any _ _ _ _ HN.out HWd.out).mono ?_; rintro e wa ⟨rfl, ba⟩; have HB := Lib.hid ba; obtain ⟨g0, _, _, _, _, _, _⟩ := w2_out _ _ _ _ _ ba; obtain ⟨r0, r1, r2⟩ := (HR.out.on (w2_end0 _ _ _ _ _ HB.out)).2 0 k' n' s' rfl; simp only [Nat.zero_mul, Nat.add_zero] at r0 r1 r2; clear ba)
      | (go_at_call 41; refine (Int_any _ _ _ _ HS.out).mono ?_; rintro e wb ⟨rfl, bb⟩; have HB := Lib.hid (HB.out.trans (bb.mono HB.out.size)); obtain ⟨g0, _, _, _, _, _, _⟩ := w2_out _ _ _ _ _ HB.out; clear bb)
      | (go_at_call 141; refine (stretch_any _ _ _ (by unfold In64; omega) HI.out).mono ?_; rintro e wb ⟨lo, hi, rfl, hlo, hhi, rfl⟩; have HLO := Lib.hid hlo; have HHI := Lib.hid hhi; clear hlo hhi)
      | (go_at_call 88; generalize hx : ByteArray.extract _ _ _ = cut; have HX := Lib.hid hx; clear hx; refine (textValue_any _ _).mono ?_; rintro e wb ⟨rfl, bb⟩; have HB := Lib.hid (HB.out.trans (bb.mono HB.out.size)); obtain ⟨_, u0, u1, u2, v0, v1, v2⟩ := w2_out _ _ _ _ _ HB.out; have hz : w.heap.size + 1 < wb.heap.size := (by have := HB.out.size; rw [w2_size] at this; omega); clear bb))
    refine bodyPost_ret (v := vv 2 0 cut) (by simp [results, Tryz.results130, go_sem, u0, u1, u2]) rfl ⟨?_, w2_end _ _ _ _ _ HB.out _ _ _⟩
    have h1 := HLO.out
    have h2 := HHI.out
    rw [← HX.out, ← HFP.out, ← h1, ← h2]
    unfold cutS subB subF
    exact congrArg (fun x => Ending.returned (vv 2 0 x)) (extract_eq (by (repeat' split) <;> omega) (by (repeat' split) <;> omega))
end Go.Proofs.YtbelhgdogafedaaGreatDoor
