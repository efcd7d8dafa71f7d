/-
  substr (layer 2, value). Conditions: sizes, numbers of 64 bits.
  The functions substr and hex as they are called (layer 2, value). Conditions: sizes, numbers of 64 bits.
-/
import Derived.Test.YteijijoiifbjlaaGreatDoorVCall
import Derived.Test.YteijijoiifbjlaaGreatDoorVVal
import Derived.Test.YteijijoiifbjlaaGreatDoorVHex
namespace Go.Proofs.YteijijoiifbjlaaGreatDoor
open Go.ChangeShapes Go.WideShapes Go.ChangeAt Go.RowKit
set_option linter.unusedVariables false

/-- a sum, or the end of 64 bits -/
def addW (a b : Int) : Int := if In64 (a + b) then a + b else if 0 < b then 9223372036854775807 else -9223372036854775808
theorem addW_64 (a b : Int) : In64 (addW a b) := by
  unfold addW
  split
  · assumption
  · split <;> (unfold In64; omega)
theorem addWithin_any (a b : Int) (w : World) (ha : In64 a) (hb : In64 b) :
    Calls Tryz.prog 148 #[.int .i64 a, .int .i64 b] w fun e w' => e = .returned (.int .i64 (addW a b)) ∧ w = w' := by
  have HA := Lib.hid ha
  have HB := Lib.hid hb
  clear ha hb
  by_cases h : In64 (a + b)
  · have HD := Lib.hid (decide_eq_true h)
    have HW := Lib.hid (show wrap64 (a + b) = addW a b by rw [wrap_in h, addW, if_pos h])
    clear h
    go_enter Tryz.func148, Tryz.ntmps148
    go_wp2_with (go_at_call 102; refine (add_any _ _ _ HA.out HB.out).mono ?_; rintro e w' ⟨rfl, rfl⟩; rw [HD.out])
    go_ret
    exact ⟨ret_i HW.out, rfl⟩
  · have HD := Lib.hid (decide_eq_false h)
    have HW := Lib.hid (show (if 0 < b then (9223372036854775807 : Int) else -9223372036854775808) = addW a b by rw [addW, if_neg h])
    clear h
    go_enter Tryz.func148, Tryz.ntmps148
    go_wp2_with (go_at_call 102; refine (add_any _ _ _ HA.out HB.out).mono ?_; rintro e w' ⟨rfl, rfl⟩; rw [HD.out])
    · go_ret
      exact ⟨ret_i (by rw [← HW.out, if_pos (by assumption)]), rfl⟩
    · go_ret
      exact ⟨ret_i (by rw [← HW.out, if_neg (by omega)]), rfl⟩

def StrRet (p n : Int) (w : World) (e : Ending) (w' : World) : Prop :=
  ∃ lo hi : Int, e = .returned (.tuple #[.int .i64 lo, .int .i64 hi]) ∧ lo = min p (addW p n) ∧ hi = max p (addW p n) ∧ w = w'
theorem ret_ii {k : IntKind} {a b c d : Int} (h : a = b) (h2 : c = d) : Ending.returned (.tuple #[.int k a, .int k c]) = .returned (.tuple #[.int k b, .int k d]) := by rw [h, h2]
theorem stretch_any (p n : Int) (w : World) (hp : In64 p) (hn : In64 n) :
    Calls Tryz.prog 135 #[.int .i64 p, .int .i64 n] w (StrRet p n w) := by
  have HA := Lib.hid hp
  have HB := Lib.hid hn
  clear hp hn
  go_enter Tryz.func135, Tryz.ntmps135
  go_wp2_with (go_at_call 148; refine (addWithin_any _ _ _ HA.out HB.out).mono ?_; rintro e w' ⟨rfl, rfl⟩)
  all_goals
    go_ret2
    exact ⟨_, _, rfl, by (repeat' split) <;> omega, by (repeat' split) <;> omega, rfl⟩

def subF (l : Nat) (fr : Int) : Int := min (max fr 1) (l + 1)
def subB (l : Nat) (fr be : Int) : Int := min (max be (subF l fr)) (l + 1)
/-- the bytes from a place on, and below another one -/
def cutS (s : ByteArray) (fr be : Int) : ByteArray := s.extract (subF s.size fr - 1).toNat (subB s.size fr be - 1).toNat
def fromP (l : Nat) (f : Int) : Int := if f < 0 then l + 1 + f else f

abbrev w2 (w : World) (k n : Int) (s : ByteArray) : World := (w.alloc (box k n s)).alloc (box 0 0 ⟨#[]⟩)

theorem w2_size (w : World) (k n : Int) (s : ByteArray) : (w2 w k n s).heap.size = w.heap.size + 2 := by simp
theorem w2_below (w : World) (k n : Int) (s : ByteArray) : Below w.heap.size w (w2 w k n s) := ((Below.refl _ _).alloc (Nat.le_refl _) _).alloc (by simp) _
theorem w2_out (w : World) (k n : Int) (s : ByteArray) (X : World) (h : Below (w2 w k n s).heap.size (w2 w k n s) X) :
    X.cell? ⟨w.heap.size, 0, none⟩ = some (.int .u8 k) ∧ X.cell? ⟨w.heap.size + 1, 0, none⟩ = some (.int .u8 0) ∧ X.cell? ⟨w.heap.size + 1, 1, none⟩ = some (.int .i64 0) ∧ X.cell? ⟨w.heap.size + 1, 2, none⟩ = some (.string ⟨#[]⟩) ∧
    X.frozen? ⟨w.heap.size + 1, 0, none⟩ = false ∧ X.frozen? ⟨w.heap.size + 1, 1, none⟩ = false ∧ X.frozen? ⟨w.heap.size + 1, 2, none⟩ = false := by
  obtain ⟨hc, hf⟩ := bcell h
  refine ⟨?_, ?_, ?_, ?_, ?_, ?_, ?_⟩
  · rw [hc _ _ (by rw [w2_size]; omega)]; simp [go_sem]
  · rw [hc _ _ (by rw [w2_size]; omega)]; simp [go_sem]
  · rw [hc _ _ (by rw [w2_size]; omega)]; simp [go_sem]
  · rw [hc _ _ (by rw [w2_size]; omega)]; simp [go_sem]
  · rw [hf _ _ (by rw [w2_size]; omega)]; simp [go_sem]
  · rw [hf _ _ (by rw [w2_size]; omega)]; simp [go_sem]
  · rw [hf _ _ (by rw [w2_size]; omega)]; simp [go_sem]
theorem w2_end (w : World) (k n : Int) (s : ByteArray) (X : World) (h : Below (w2 w k n s).heap.size (w2 w k n s) X) (a b c : Value) :
    Below w.heap.size w (((X.setCell ⟨w.heap.size + 1, 0, none⟩ a).setCell ⟨w.heap.size + 1, 1, none⟩ b).setCell ⟨w.heap.size + 1, 2, none⟩ c) :=
  ((((w2_below w k n s).trans (h.mono (by rw [w2_size]; omega))).setCell (by show w.heap.size ≤ w.heap.size + 1; omega) _).setCell (by show w.heap.size ≤ w.heap.size + 1; omega) _).setCell (by show w.heap.size ≤ w.heap.size + 1; omega) _
theorem w2_end0 (w : World) (k n : Int) (s : ByteArray) (X : World) (h : Below (w2 w k n s).heap.size (w2 w k n s) X) : Below w.heap.size w X :=
  (w2_below w k n s).trans (h.mono (by rw [w2_size]; omega))
theorem extract_eq {s : ByteArray} {a b c d : Nat} (h : a = c) (h2 : b = d) : s.extract a b = s.extract c d := by rw [h, h2]

set_option maxRecDepth 100000 in
set_option maxHeartbeats 800000 in
theorem substr_two (k n : Int) (s : ByteArray) (f : Int) (A : Option Addr) (c : Nat) (w : World) (hn : In64 n) (hf : In64 f) (hW : Wd w) (hs : (textV k n s).size ≤ 1099511627776) (hk : k ≠ 3) :
    Calls Tryz.prog 124 #[vv k n s, .int .i64 f, .slice A 0 c] w fun e w' => e = .returned (vv 2 0 (cutS (textV k n s) (fromP (textV k n s).size f) ((textV k n s).size + 1))) ∧ Below w.heap.size w w' := by
  have HWd := Lib.hid (hW.on (w2_below w k n s))
  have HN := Lib.hid hn
  have e3 : (k == 3) = false := by simpa using hk
  clear hk
  unfold In64 at hf
  obtain ⟨hf1, hf2⟩ := hf
  clear hW hn
  go_enter Tryz.func124, Tryz.ntmps124
  go_wp2_with (first
    | (go_at_call 83; refine (Text_any _ _ _ _ HN.out HWd.out).mono ?_; rintro e wa ⟨rfl, ba⟩; have HB := Lib.hid ba; obtain ⟨g0, _, _, _, _, _, _⟩ := w2_out _ _ _ _ _ ba; clear ba)
    | (go_at_call 82; generalize hx : ByteArray.extract _ _ _ = cut; have HX := Lib.hid hx; clear hx; refine (textValue_any _ _).mono ?_; rintro e wb ⟨rfl, bb⟩; have HB := Lib.hid (HB.out.trans (bb.mono HB.out.size)); obtain ⟨_, u0, u1, u2, v0, v1, v2⟩ := w2_out _ _ _ _ _ HB.out; have hz : w.heap.size + 1 < wb.heap.size := (by have := HB.out.size; rw [w2_size] at this; omega); clear bb))
  all_goals
    refine bodyPost_ret (v := vv 2 0 cut) (by simp [results, Tryz.results124, go_sem, u0, u1, u2]) rfl ⟨?_, w2_end _ _ _ _ _ HB.out _ _ _⟩
    rw [← HX.out]
    unfold cutS subB subF fromP
    exact congrArg (fun x => Ending.returned (vv 2 0 x)) (extract_eq (by (repeat' split) <;> omega) (by (repeat' split) <;> omega))

set_option maxRecDepth 100000 in
set_option maxHeartbeats 800000 in
theorem substr_three (k n : Int) (s : ByteArray) (f : Int) (b off c : Nat) (k' n' : Int) (s' : ByteArray) (w : World) (hn : In64 n) (hf : In64 f) (hW : Wd w) (hs : (textV k n s).size ≤ 1099511627776) (hk : k ≠ 3)
    (hs' : s'.size ≤ 4611686018427387904) (hi : In64 (intV k' n' s')) (hR : RdV w b off [(k', n', s')]) :
    Calls Tryz.prog 124 #[vv k n s, .int .i64 f, .slice (some ⟨b, off, none⟩) 1 c] w fun e w' => e = .returned (vv 2 0 (cutS (textV k n s) (min (fromP (textV k n s).size f) (addW (fromP (textV k n s).size f) (intV k' n' s'))) (max (fromP (textV k n s).size f) (addW (fromP (textV k n s).size f) (intV k' n' s'))))) ∧ Below w.heap.size w w' := by
  have HWd := Lib.hid (hW.on (w2_below w k n s))
  have HN := Lib.hid hn
  have HS := Lib.hid hs'
  have HI := Lib.hid hi
  have HR := Lib.hid hR
  have e3 : (k == 3) = false := by simpa using hk
  have hf0 := hf
  unfold In64 at hf
  obtain ⟨hf1, hf2⟩ := hf
  clear hW hn hs' hi hR hf0
  by_cases hneg : f < 0
  · have hfp : (textV k n s).size + 1 + f = fromP (textV k n s).size f := by unfold fromP; rw [if_pos hneg]
    have HFP := Lib.hid hfp
    clear hfp
    go_enter Tryz.func124, Tryz.ntmps124
    go_wp2_with (first
      | (go_at_call 83; refine (Text_any _ _ _ _ HN.out HWd.out).mono ?_; rintro e wa ⟨rfl, ba⟩; have HB := Lib.hid ba; obtain ⟨g0, _, _, _, _, _, _⟩ := w2_out _ _ _ _ _ ba; obtain ⟨r0, r1, r2⟩ := (HR.out.on (w2_end0 _ _ _ _ _ HB.out)).2 0 k' n' s' rfl; simp only [Nat.zero_mul, Nat.add_zero] at r0 r1 r2; clear ba)
      | (go_at_call 35; refine (Int_any _ _ _ _ HS.out).mono ?_; rintro e wb ⟨rfl, bb⟩; have HB := Lib.hid (HB.out.trans (bb.mono HB.out.size)); obtain ⟨g0, _, _, _, _, _, _⟩ := w2_out _ _ _ _ _ HB.out; clear bb)
      | (go_at_call 135; refine (stretch_any _ _ _ (by unfold In64; omega) HI.out).mono ?_; rintro e wb ⟨lo, hi, rfl, hlo, hhi, rfl⟩; have HLO := Lib.hid hlo; have HHI := Lib.hid hhi; clear hlo hhi)
      | (go_at_call 82; generalize hx : ByteArray.extract _ _ _ = cut; have HX := Lib.hid hx; clear hx; refine (textValue_any _ _).mono ?_; rintro e wb ⟨rfl, bb⟩; have HB := Lib.hid (HB.out.trans (bb.mono HB.out.size)); obtain ⟨_, u0, u1, u2, v0, v1, v2⟩ := w2_out _ _ _ _ _ HB.out; have hz : w.heap.size + 1 < wb.heap.size := (by have := HB.out.size; rw [w2_size] at this; omega); clear bb))
    refine bodyPost_ret (v := vv 2 0 cut) (by simp [results, Tryz.results124, go_sem, u0, u1, u2]) rfl ⟨?_, w2_end _ _ _ _ _ HB.out _ _ _⟩
    have h1 := HLO.out
    have h2 := HHI.out
    rw [HFP.out] at h1 h2
    rw [← HX.out, ← h1, ← h2]
    unfold cutS subB subF
    exact congrArg (fun x => Ending.returned (vv 2 0 x)) (extract_eq (by (repeat' split) <;> omega) (by (repeat' split) <;> omega))
  · have hfp : f = fromP (textV k n s).size f := by unfold fromP; rw [if_neg hneg]
    have HFP := Lib.hid hfp
    clear hfp
    go_enter Tryz.func124, Tryz.ntmps124
    go_wp2_with (first
      | (go_at_call 83; refine (Text_any _ _ _ _ HN.out HWd.out).mono ?_; rintro e wa ⟨rfl, ba⟩; have HB := Lib.hid ba; obtain ⟨g0, _, _, _, _, _, _⟩ := w2_out _ _ _ _ _ ba; obtain ⟨r0, r1, r2⟩ := (HR.out.on (w2_end0 _ _ _ _ _ HB.out)).2 0 k' n' s' rfl; simp only [Nat.zero_mul, Nat.add_zero] at r0 r1 r2; clear ba)
      | (go_at_call 35; refine (Int_any _ _ _ _ HS.out).mono ?_; rintro e wb ⟨rfl, bb⟩; have HB := Lib.hid (HB.out.trans (bb.mono HB.out.size)); obtain ⟨g0, _, _, _, _, _, _⟩ := w2_out _ _ _ _ _ HB.out; clear bb)
      | (go_at_call 135; refine (stretch_any _ _ _ (by unfold In64; omega) HI.out).mono ?_; rintro e wb ⟨lo, hi, rfl, hlo, hhi, rfl⟩; have HLO := Lib.hid hlo; have HHI := Lib.hid hhi; clear hlo hhi)
      | (go_at_call 82; generalize hx : ByteArray.extract _ _ _ = cut; have HX := Lib.hid hx; clear hx; refine (textValue_any _ _).mono ?_; rintro e wb ⟨rfl, bb⟩; have HB := Lib.hid (HB.out.trans (bb.mono HB.out.size)); obtain ⟨_, u0, u1, u2, v0, v1, v2⟩ := w2_out _ _ _ _ _ HB.out; have hz : w.heap.size + 1 < wb.heap.size := (by have := HB.out.size; rw [w2_size] at this; omega); clear bb))
    refine bodyPost_ret (v := vv 2 0 cut) (by simp [results, Tryz.results124, go_sem, u0, u1, u2]) rfl ⟨?_, w2_end _ _ _ _ _ HB.out _ _ _⟩
    have h1 := HLO.out
    have h2 := HHI.out
    rw [← HX.out, ← HFP.out, ← h1, ← h2]
    unfold cutS subB subF
    exact congrArg (fun x => Ending.returned (vv 2 0 x)) (extract_eq (by (repeat' split) <;> omega) (by (repeat' split) <;> omega))
end Go.Proofs.YteijijoiifbjlaaGreatDoor

namespace Go.Proofs.YteijijoiifbjlaaGreatDoor
open Go.ChangeShapes Go.WideShapes Go.ChangeAt Go.RowKit
set_option linter.unusedVariables false

theorem RdV.two {w : World} {b off : Nat} {k n k' n' : Int} {s s' : ByteArray} {r : List Trip} (h : RdV w b off ((k, n, s) :: (k', n', s') :: r)) :
    w.cell? ⟨b, off, none⟩ = some (.int .u8 k) ∧ w.cell? ⟨b, off + 1, none⟩ = some (.int .i64 n) ∧ w.cell? ⟨b, off + 2, none⟩ = some (.string s) ∧
    w.cell? ⟨b, off + 3, none⟩ = some (.int .u8 k') ∧ w.cell? ⟨b, off + 3 + 1, none⟩ = some (.int .i64 n') ∧ w.cell? ⟨b, off + 3 + 2, none⟩ = some (.string s') := by
  obtain ⟨a0, a1, a2⟩ := h.2 0 k n s rfl
  obtain ⟨b0, b1, b2⟩ := h.2 1 k' n' s' rfl
  simp only [Nat.zero_mul, Nat.add_zero, Nat.one_mul] at a0 a1 a2 b0 b1 b2
  exact ⟨a0, a1, a2, b0, b1, b2⟩
theorem RdV.third {w : World} {b off : Nat} {x y z : Trip} (h : RdV w b off [x, y, z]) : RdV w b (off + 6) [z] := by
  refine ⟨h.1, fun j k n s hj => ?_⟩
  match j, hj with
  | 0, hj =>
    have hz : z = (k, n, s) := by simpa using hj
    subst hz
    have := h.2 2 k n s rfl
    simpa using this
  | j + 1, hj => simp at hj

set_option maxRecDepth 100000 in
set_option maxHeartbeats 800000 in
theorem subCall3 (b off : Nat) (k n : Int) (s : ByteArray) (k' n' : Int) (s' : ByteArray) (k2 n2 : Int) (s2 : ByteArray) (w : World) (hn : In64 n) (hW : Wd w) (hs : (textV k n s).size ≤ 1099511627776) (hk : k ≠ 3)
    (hs' : s'.size ≤ 4611686018427387904) (hi : In64 (intV k' n' s')) (hs2 : s2.size ≤ 4611686018427387904) (hi2 : In64 (intV k2 n2 s2)) (hR : RdV w b off [(k, n, s), (k', n', s'), (k2, n2, s2)]) :
    Calls Tryz.prog 123 #[.slice (some ⟨b, off, none⟩) 3 3] w (RetV (vv 2 0 (cutS (textV k n s) (min (fromP (textV k n s).size (intV k' n' s')) (addW (fromP (textV k n s).size (intV k' n' s')) (intV k2 n2 s2))) (max (fromP (textV k n s).size (intV k' n' s')) (addW (fromP (textV k n s).size (intV k' n' s')) (intV k2 n2 s2))))) 0 w) := by
  generalize hcv : cutS (textV k n s) (min (fromP (textV k n s).size (intV k' n' s')) (addW (fromP (textV k n s).size (intV k' n' s')) (intV k2 n2 s2))) (max (fromP (textV k n s).size (intV k' n' s')) (addW (fromP (textV k n s).size (intV k' n' s')) (intV k2 n2 s2))) = cut
  have HC := Lib.hid hcv
  have HN := Lib.hid hn
  have HWd := Lib.hid hW
  have HS := Lib.hid hs
  have HS2 := Lib.hid hs2
  have HI := Lib.hid hi
  have HI2 := Lib.hid hi2
  have HR := Lib.hid hR
  have F := fun (X : World) (h : Below w.heap.size w X) => (hR.on h).two
  clear hcv hn hW hs hs2 hi hi2 hR
  go_enter Tryz.func123, Tryz.ntmps123
  go_wp2_with fail
  go_region_held3 (fun X => X.cell? ⟨b, off, none⟩ = some (.int .u8 k) ∧ X.cell? ⟨b, off + 1, none⟩ = some (.int .i64 n) ∧ X.cell? ⟨b, off + 2, none⟩ = some (.string s) ∧
      X.cell? ⟨b, off + 3, none⟩ = some (.int .u8 k') ∧ X.cell? ⟨b, off + 3 + 1, none⟩ = some (.int .i64 n') ∧ X.cell? ⟨b, off + 3 + 2, none⟩ = some (.string s'))
    (first | exact F _ (w1_end _ _ hcur.out _ _ _) | exact F _ ((w1_below w).trans (hcur.out.mono (by simp))) | exact F _ (w1_below w).drew)
    (first
      | (go_at_call 35; refine (Int_any _ _ _ _ hs').mono ?_; rintro e wa ⟨rfl, ba⟩; have hcur := Lib.hid ((Below.refl (w1 w).heap.size (w1 w)).drew.trans ba))
      | (go_at_call 124; refine (substr_three k n s _ b (off + 6) _ k2 n2 s2 _ HN.out HI.out (HWd.out.on ((w1_below w).trans (hcur.out.mono (by simp)))) HS.out hk HS2.out HI2.out (HR.out.on ((w1_below w).trans (hcur.out.mono (by simp)))).third).mono ?_; rintro e wb ⟨rfl, bb⟩; rw [HC.out]; have hcur := Lib.hid (hcur.out.trans (bb.mono hcur.out.size)); obtain ⟨u0, u1, u2, v0, v1, v2⟩ := w1_out w _ hcur.out; have hz : w.heap.size < wb.heap.size := (by have := hcur.out.size; simp at this; omega)))
  go_wp2_with fail
  exact bodyPost_ret (v := .tuple #[vv 2 0 cut, .int .i64 0]) (by simp [results, Tryz.results123, go_sem, u0, u1, u2]) rfl ⟨rfl, w1_end _ _ hcur.out _ _ _⟩

theorem hex_ok (s : ByteArray) (w : World) (hs : 2 * s.size ≤ 65536) :
    Calls Tryz.prog 119 #[.string s] w (RetV (vv 2 0 ⟨(hexL s.data.toList).toArray⟩) 0 w) := by
  generalize hcv : (⟨(hexL s.data.toList).toArray⟩ : ByteArray) = cut
  have HC := Lib.hid hcv
  clear hcv
  go_enter Tryz.func119, Tryz.ntmps119
  go_wp2_with (first
    | (go_at_call 132; refine (hexDigits_any _ _ (by omega)).mono ?_; rintro e wa ⟨rfl, ba⟩; rw [HC.out]; have hcur := Lib.hid ba)
    | (go_at_call 82; refine (textValue_any _ _).mono ?_; rintro e wb ⟨rfl, bb⟩; have hcur := Lib.hid (hcur.out.trans (bb.mono hcur.out.size)); obtain ⟨u0, u1, u2, v0, v1, v2⟩ := w1_out w _ hcur.out; have hz : w.heap.size < wb.heap.size := (by have := hcur.out.size; simp at this; omega)))
  exact bodyPost_ret (v := .tuple #[vv 2 0 cut, .int .i64 0]) (by simp [results, Tryz.results119, go_sem, u0, u1, u2]) rfl ⟨rfl, w1_end _ _ hcur.out _ _ _⟩
theorem hex_long (s : ByteArray) (w : World) (hs : 65536 < 2 * s.size) (hs2 : s.size ≤ 4611686018427387903) :
    Calls Tryz.prog 119 #[.string s] w (RetV nul 3 w) := by
  go_enter Tryz.func119, Tryz.ntmps119
  go_wp2_with fail
  exact bodyPost_ret (v := .tuple #[nul, .int .i64 3]) (by simp [results, Tryz.results119, go_sem]) rfl ⟨rfl, w1_below w⟩

theorem RdV.one {w : World} {b off : Nat} {k n : Int} {s : ByteArray} {r : List Trip} (h : RdV w b off ((k, n, s) :: r)) :
    w.cell? ⟨b, off, none⟩ = some (.int .u8 k) ∧ w.cell? ⟨b, off + 1, none⟩ = some (.int .i64 n) ∧ w.cell? ⟨b, off + 2, none⟩ = some (.string s) := by
  obtain ⟨a0, a1, a2⟩ := h.2 0 k n s rfl
  simp only [Nat.zero_mul, Nat.add_zero] at a0 a1 a2
  exact ⟨a0, a1, a2⟩

set_option maxRecDepth 100000 in
theorem hexCall (b off : Nat) (k n : Int) (s : ByteArray) (w : World) (hn : In64 n) (hW : Wd w) (x y : Int) (z : ByteArray) (er : Int) (hR : RdV w b off [(k, n, s)])
    (H : ∀ W, Below w.heap.size w W → Calls Tryz.prog 119 #[.string (textV k n s)] W (RetV (vv x y z) er W)) :
    Calls Tryz.prog 118 #[.slice (some ⟨b, off, none⟩) 1 1] w (RetV (vv x y z) er w) := by
  have HN := Lib.hid hn
  have HWd := Lib.hid (hW.on (w1_below w))
  have HH := Lib.hid H
  obtain ⟨c0, c1, c2⟩ := (hR.on (w1_below w)).one
  clear hn hW H hR
  go_enter Tryz.func118, Tryz.ntmps118
  go_wp2_with (first
    | (go_at_call 83; refine (Text_any _ _ _ _ HN.out HWd.out).mono ?_; rintro e wa ⟨rfl, ba⟩; have hcur := Lib.hid ba)
    | (go_at_call 119; refine (HH.out _ ((w1_below w).trans (hcur.out.mono (by simp)))).mono ?_; rintro e wb ⟨rfl, bb⟩; have hcur := Lib.hid (hcur.out.trans (bb.mono hcur.out.size)); obtain ⟨u0, u1, u2, v0, v1, v2⟩ := w1_out w _ hcur.out; have hz : w.heap.size < wb.heap.size := (by have := hcur.out.size; simp at this; omega)))
  exact bodyPost_ret (v := .tuple #[vv x y z, .int .i64 er]) (by simp [results, Tryz.results118, go_sem, u0, u1, u2]) rfl ⟨rfl, w1_end _ _ hcur.out _ _ _⟩

theorem named_substr : Named ⟨#[115, 117, 98, 115, 116, 114]⟩ 2 3 false 123 (fun _ _ => #[]) := fun c1 c2 => ⟨9, rfl⟩
theorem named_hex : Named ⟨#[104, 101, 120]⟩ 1 1 true 118 (fun _ _ => #[]) := fun c1 c2 => ⟨5, rfl⟩
theorem enters_substr : ∀ (args : Array Value) (W : World), (callFunc 123 args).run Tryz.prog W = .ok (.enter 123 args) W := enters_of Tryz.func123 (by kernel_rfl) rfl
theorem enters_hex : ∀ (args : Array Value) (W : World), (callFunc 118 args).run Tryz.prog W = .ok (.enter 118 args) W := enters_of Tryz.func118 (by kernel_rfl) rfl
end Go.Proofs.YteijijoiifbjlaaGreatDoor
