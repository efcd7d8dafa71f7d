/-
  Layer 2: ValueNumbers' helper ints: texts, and the numbers that they begin with. No conditions.
-/
import Derived.Test.YtceknmibopnmhaaGreatDoorVSlot2
import Derived.Deep.RegionHeld3
import Derived.RangeFuncRecord
import Derived.RangeFuncBox
namespace Go.Proofs.YtceknmibopnmhaaGreatDoor
open Go.ChangeShapes Go.WideShapes Go.ChangeAt Go.RowKit Go.ChangeMaps Go.Lib
set_option linter.unusedVariables false

def intsL : List (ByteArray × Int) := [(⟨#[]⟩, 0), (⟨#[120]⟩, 0), (⟨#[45]⟩, 0), (⟨#[43, 55]⟩, 7), (⟨#[45, 45, 55]⟩, 0), (⟨#[9, 10, 11, 12, 13, 32, 49, 50, 32, 51]⟩, 12),
  (⟨#[57, 50, 50, 51, 51, 55, 50, 48, 51, 54, 56, 53, 52, 55, 55, 53, 56, 48, 55]⟩, 9223372036854775807), (⟨#[57, 50, 50, 51, 51, 55, 50, 48, 51, 54, 56, 53, 52, 55, 55, 53, 56, 48, 56]⟩, 9223372036854775807),
  (⟨#[57, 50, 50, 51, 51, 55, 50, 48, 51, 54, 56, 53, 52, 55, 55, 53, 56, 48, 56, 48]⟩, 9223372036854775807), (⟨#[49, 56, 52, 52, 54, 55, 52, 52, 48, 55, 51, 55, 48, 57, 53, 53, 49, 54, 49, 54]⟩, 9223372036854775807),
  (⟨#[45, 57, 50, 50, 51, 51, 55, 50, 48, 51, 54, 56, 53, 52, 55, 55, 53, 56, 48, 56]⟩, -9223372036854775808), (⟨#[45, 57, 50, 50, 51, 51, 55, 50, 48, 51, 54, 56, 53, 52, 55, 55, 53, 56, 48, 57]⟩, -9223372036854775808),
  (⟨#[45, 57, 50, 50, 51, 51, 55, 50, 48, 51, 54, 56, 53, 52, 55, 55, 53, 56, 48, 56, 48]⟩, -9223372036854775808),
  (⟨#[48, 48, 48, 48, 48, 48, 48, 48, 48, 48, 48, 48, 48, 48, 48, 48, 48, 48, 48, 48, 48, 48, 48, 48, 48, 48, 48, 48, 48, 53]⟩, 5), (⟨#[49, 101, 53]⟩, 1), (⟨#[45, 32, 53]⟩, 0)]
def pairCells (l : List (ByteArray × Int)) : List Value := l.flatMap fun x => [.string x.1, .int .i64 x.2]
theorem pairCells_get : ∀ (l : List (ByteArray × Int)) (i : Nat) (x : ByteArray × Int), l[i]? = some x → (pairCells l)[i * 2]? = some (.string x.1) ∧ (pairCells l)[i * 2 + 1]? = some (.int .i64 x.2) := by
  intro l
  induction l with
  | nil => intro i x h; simp at h
  | cons u r ih =>
    intro i x h
    match i, h with
    | 0, h => obtain rfl := Option.some.inj h; exact ⟨rfl, rfl⟩
    | i + 1, h =>
      obtain ⟨h1, h2⟩ := ih i x h
      rw [show (i + 1) * 2 = i * 2 + 1 + 1 by omega]
      exact ⟨h1, h2⟩
/-- pairs of a text and a number that lie in memory -/
def PairsAt (w : World) (g : Nat) (l : List (ByteArray × Int)) : Prop := g < w.heap.size ∧ ∀ i x, l[i]? = some x → w.cell? ⟨g, i * 2, none⟩ = some (.string x.1) ∧ w.cell? ⟨g, i * 2 + 1, none⟩ = some (.int .i64 x.2)
theorem PairsAt.on {w w' : World} {g : Nat} {l : List (ByteArray × Int)} (h : PairsAt w g l) (hb : Below w.heap.size w w') : PairsAt w' g l :=
  ⟨Nat.lt_of_lt_of_le h.1 hb.size, fun i x hi => ⟨(hb.cell (p := ⟨g, i * 2, none⟩) h.1).trans (h.2 i x hi).1, (hb.cell (p := ⟨g, i * 2 + 1, none⟩) h.1).trans (h.2 i x hi).2⟩⟩
theorem PairsAt.new (w : World) (l : List (ByteArray × Int)) (T : TypeId) : PairsAt (w.alloc (.cells (pairCells l).toArray T)) w.heap.size l := by
  have h2 := World.alloc_heap_new w (.cells (pairCells l).toArray T)
  refine ⟨by simp, fun i x h => ?_⟩
  obtain ⟨h3, h4⟩ := pairCells_get l i x h
  simp only [World.cell?, h2]
  exact ⟨by simpa using h3, by simpa using h4⟩
theorem ints_is : ∀ x ∈ intsL, leadInt x.1.data.toList = x.2 ∧ x.1.size ≤ 100 := by
  have h : (intsL.all fun x => decide (leadInt x.1.data.toList = x.2) && decide (x.1.size ≤ 100)) = true := by decide +kernel
  intro x hx
  have := List.all_eq_true.1 h x hx
  simpa using this
theorem drewV {B : Nat} {a w : World} (h : Below B a w) : Below B a w.drew := ⟨h.os, h.tape, h.output, h.size, h.block⟩
theorem pair_at {w X : World} {b : Nat} {s : ByteArray} {n : Int} (h : PairsAt w b [(s, n)]) (hb : Below w.heap.size w X) : X.cell? ⟨b, 0, none⟩ = some (.string s) ∧ X.cell? ⟨b, 1, none⟩ = some (.int .i64 n) := (h.on hb).2 0 _ rfl
theorem itoa_min : Lib.itoa (-9223372036854775808) = [45, 57, 50, 50, 51, 51, 55, 50, 48, 51, 54, 56, 53, 52, 55, 55, 53, 56, 48, 56] := by
  unfold Lib.itoa
  rw [if_pos (by decide)]
  rw [show (-9223372036854775808 : Int).natAbs = 9223372036854775808 from rfl]
  simp [Lib.decDigits]
theorem itoa_zero : Lib.itoa 0 = [48] := by
  unfold Lib.itoa
  rw [if_neg (by decide)]
  simp [Lib.decDigits]
def LpV (wl : World) (m : Nat) (v : Value) (wr : World) : Prop := ∃ j : Nat, j ≤ m ∧ v = .int .i64 (j : Int) ∧ Below wl.heap.size wl wr
set_option maxRecDepth 100000 in
set_option maxHeartbeats 4000000 in
theorem ints_any (w : World) (hW : Wd w) : Calls Tryz.prog 20 #[] w fun e w' => e = .returned (.bool true) ∧ Below w.heap.size w w' := by
  have HW := Lib.hid hW
  clear hW
  go_enter Tryz.func20, Tryz.ntmps20
  go_upto_region 2 with (fail)
  have hnw := PairsAt.new w intsL 92
  obtain ⟨w1, hw1⟩ : ∃ w1, w.alloc (.cells (pairCells intsL).toArray 92) = w1 := ⟨_, rfl⟩
  have hal : Below w.heap.size w w1 := by rw [← hw1]; exact (Below.refl _ _).alloc (Nat.le_refl _) _
  rw [hw1] at hnw
  have HNW := Lib.hid hnw
  have HB1 := Lib.hid hal
  have HW1 := Lib.hid (HW.out.on hal)
  clear hnw hal
  obtain ⟨g1, hg⟩ : ∃ g, w.heap.size = g := ⟨_, rfl⟩
  rw [hg] at HNW ⊢
  simp only [intsL, pairCells, List.flatMap_cons, List.flatMap_nil, List.cons_append, List.nil_append] at hw1
  rw [hw1]
  clear hw1
  go_loopw [21] (fun v wr => LpV w1 16 v wr) (fun v _ => 16 - (intOf v).toNat)
  case atStart => exact ⟨0, by omega, rfl, Below.refl _ _⟩
  case round =>
    obtain ⟨j, hj, rfl, hb⟩ := hrel
    by_cases hlt : j < 16
    · obtain ⟨⟨s, n⟩, hx⟩ : ∃ x, intsL[j]? = some x := ⟨_, List.getElem?_eq_getElem (show j < intsL.length from hlt)⟩
      obtain ⟨hI, hs⟩ := ints_is _ (List.mem_of_getElem? hx)
      obtain ⟨y0, y1⟩ := (HNW.out.on hb).2 j _ hx
      dsimp only at hI hs y0 y1
      have e2 : intV 2 0 s = n := by rw [← hI]; simp [intV]
      have e3 : intV 3 0 s = n := by rw [← hI]; simp [intV]
      have E2 := Lib.hid e2
      have E3 := Lib.hid e3
      have hsz : s.size ≤ 4611686018427387904 := by omega
      have HB0 := Lib.hid hb
      have HJ := Lib.hid hlt
      have hj5 : (j : Int) < 16 := by omega
      clear hb hx hlt hI hs e2 e3
      go_upto_region 4 with (fail)
      obtain ⟨w5, hw5⟩ : ∃ w5, wr.alloc (.cells #[.string s, .int .i64 n] 92) = w5 := ⟨_, rfl⟩
      have hpb : PairsAt w5 wr.heap.size [(s, n)] := by rw [← hw5]; exact PairsAt.new wr [(s, n)] _
      have hal : Below wr.heap.size wr w5 := by rw [← hw5]; exact (Below.refl _ _).alloc (Nat.le_refl _) _
      have HB5 := Lib.hid (HB0.out.trans (hal.mono HB0.out.size))
      have HPB := Lib.hid hpb
      rw [hw5]
      clear hw5 hal hpb
      obtain ⟨bx, hbx⟩ : ∃ n, wr.heap.size = n := ⟨_, rfl⟩
      rw [hbx] at HPB ⊢
      clear hbx
      have HC := Lib.hid (Below.refl w5.heap.size w5)
      go_region_held3 (fun X => X.cell? ⟨bx, 0, none⟩ = some (.string s) ∧ X.cell? ⟨bx, 1, none⟩ = some (.int .i64 n))
        (first | exact pair_at HPB.out HC.out | exact pair_at HPB.out (drewV HC.out))
        (first
          | (go_at_call 10; refine (text_any _ _).mono ?_; rintro e wa ⟨rfl, hba⟩; have HC := Lib.hid (show Below w5.heap.size w5 wa by first | exact Below.trans HC.out (hba.mono HC.out.size) | exact Below.trans (drewV HC.out) (hba.mono HC.out.size)); clear hba)
          | (go_at_call 23; refine (blob_any _ _).mono ?_; rintro e wa ⟨rfl, hba⟩; have HC := Lib.hid (show Below w5.heap.size w5 wa by first | exact Below.trans HC.out (hba.mono HC.out.size) | exact Below.trans (drewV HC.out) (hba.mono HC.out.size)); clear hba)
          | (go_at_call 41; with_reducible refine (Int_any 2 0 s _ hsz).mono ?_; rintro e wa ⟨rfl, hba⟩; rw [E2.out]; have HC := Lib.hid (show Below w5.heap.size w5 wa by first | exact Below.trans HC.out (hba.mono HC.out.size) | exact Below.trans (drewV HC.out) (hba.mono HC.out.size)); clear hba)
          | (go_at_call 41; with_reducible refine (Int_any 3 0 s _ hsz).mono ?_; rintro e wa ⟨rfl, hba⟩; rw [E3.out]; have HC := Lib.hid (show Below w5.heap.size w5 wa by first | exact Below.trans HC.out (hba.mono HC.out.size) | exact Below.trans (drewV HC.out) (hba.mono HC.out.size)); clear hba))
      all_goals
        go_wp2_with fail
        have HB9 := Lib.hid (HB5.out.trans (HC.out.mono HB5.out.size))
        exact ⟨⟨j + 1, HJ.out, by go_num, HB9.out⟩, by have := HJ.out; simp [intOf]; omega⟩
    · have hj5 : ¬ (j : Int) < 16 := by omega
      have HB9 := Lib.hid (HB1.out.trans (hb.mono HB1.out.size))
      have HW9 := Lib.hid (HW1.out.on hb)
      clear hb hlt
      go_upto_region 7 with (fail)
      have T1 := Lib.hid (fun (X : World) (hX : Below w.heap.size w X) => (show Calls Tryz.prog 42 #[vv 1 (-9223372036854775808) ⟨#[]⟩] X fun e w' => e = .returned (.string ⟨#[45, 57, 50, 50, 51, 51, 55, 50, 48, 51, 54, 56, 53, 52, 55, 55, 53, 56, 48, 56]⟩) ∧ Below X.heap.size X w' from by
          have h := Text_any 1 (-9223372036854775808) ⟨#[]⟩ X (by unfold In64; omega) (HW.out.on hX)
          rw [show textV 1 (-9223372036854775808) ⟨#[]⟩ = ⟨#[45, 57, 50, 50, 51, 51, 55, 50, 48, 51, 54, 56, 53, 52, 55, 55, 53, 56, 48, 56]⟩ from by simp [textV, itoa_min]] at h
          exact h))
      have T2 := Lib.hid (fun (X : World) (hX : Below w.heap.size w X) => (show Calls Tryz.prog 42 #[vv 1 0 ⟨#[]⟩] X fun e w' => e = .returned (.string ⟨#[48]⟩) ∧ Below X.heap.size X w' from by
          have h := Text_any 1 0 ⟨#[]⟩ X (by unfold In64; omega) (HW.out.on hX)
          rw [show textV 1 0 ⟨#[]⟩ = ⟨#[48]⟩ from by simp [textV, itoa_zero]] at h
          exact h))
      have T3 := Lib.hid (fun (X : World) (hX : Below w.heap.size w X) => (show Calls Tryz.prog 42 #[vv 3 0 ⟨#[120]⟩] X fun e w' => e = .returned (.string ⟨#[120]⟩) ∧ Below X.heap.size X w' from by
          have h := Text_any 3 0 ⟨#[120]⟩ X (by unfold In64; omega) (HW.out.on hX)
          rw [show textV 3 0 ⟨#[120]⟩ = ⟨#[120]⟩ from by simp [textV]] at h
          exact h))
      go_wp2_with (first
        | (go_at_call 13; (with_reducible refine (num_any _ _).mono ?_); rintro e wa ⟨rfl, hba⟩; have HB9 := Lib.hid (HB9.out.trans (hba.mono HB9.out.size)); clear hba)
        | (go_at_call 23; (with_reducible refine (blob_any _ _).mono ?_); rintro e wa ⟨rfl, hba⟩; have HB9 := Lib.hid (HB9.out.trans (hba.mono HB9.out.size)); clear hba)
        | (go_at_call 42; (with_reducible refine (T1.out _ HB9.out).mono ?_); rintro e wa ⟨rfl, hba⟩; have HB9 := Lib.hid (HB9.out.trans (hba.mono HB9.out.size)); clear hba)
        | (go_at_call 42; (with_reducible refine (T2.out _ HB9.out).mono ?_); rintro e wa ⟨rfl, hba⟩; have HB9 := Lib.hid (HB9.out.trans (hba.mono HB9.out.size)); clear hba)
        | (go_at_call 42; (with_reducible refine (T3.out _ HB9.out).mono ?_); rintro e wa ⟨rfl, hba⟩; have HB9 := Lib.hid (HB9.out.trans (hba.mono HB9.out.size)); clear hba))
      go_ret
      exact ⟨rfl, HB9.out⟩
end Go.Proofs.YtceknmibopnmhaaGreatDoor
