/-
  Layer 9: Next; Quote and Hex. Conditions: sizes; the library's variables are as its text lays them.
-/
import Derived.Test.YtceknmibopnmhaaDoorWNext
namespace Go.Proofs.YtceknmibopnmhaaDoor
open Go.ChangeShapes Go.WideShapes Go.ChangeAt Go.RowKit
set_option linter.unusedVariables false

abbrev flt (e a : Int) : Value := .agg #[.int .i64 e, .int .i64 a]
/-- the box of a fault -/
def Box2 (X : World) (b : Nat) (e a : Int) : Prop := X.heap[b]? = some (.cells #[.int .i64 e, .int .i64 a] 27 (0, 0))
theorem Box2.lt {X : World} {b : Nat} {e a : Int} (h : Box2 X b e a) : b < X.heap.size := (Array.getElem?_eq_some_iff.1 h).1
theorem Box2.on {X Y : World} {b : Nat} {e a : Int} (h : Box2 X b e a) (hb : Below X.heap.size X Y) : Box2 Y b e a := (hb.block b h.lt).trans h
theorem Box2.cells {X : World} {b : Nat} {e a : Int} (h : Box2 X b e a) : X.cell? ⟨b, 0, none⟩ = some (.int .i64 e) ∧ X.cell? ⟨b, 1, none⟩ = some (.int .i64 a) := by
  unfold Box2 at h
  refine ⟨?_, ?_⟩ <;> simp [World.cell?, h]
theorem Box2.frz {X : World} {b : Nat} {e a : Int} (h : Box2 X b e a) : X.frozen? ⟨b, 0, none⟩ = false ∧ X.frozen? ⟨b, 1, none⟩ = false := by
  unfold Box2 at h
  refine ⟨?_, ?_⟩ <;> simp [World.frozen?, h]
theorem w52_named (w : World) : ∃ wA wB, w.alloc (.cells #[.int .u8 0, .string nb, .int .i64 0, .int .i64 0, .int .i64 0] 24) = wA ∧ wA.alloc (.cells #[.int .i64 0, .int .i64 0] 27) = wB ∧ Hid (wA.heap.size = w.heap.size + 1) ∧ Hid (Box5 wB w.heap.size 0 nb 0 0 0) ∧ Hid (Box2 wB wA.heap.size 0 0) ∧ Hid (Below w.heap.size w wB) := by
  refine ⟨_, _, rfl, rfl, Lib.hid (by simp), Lib.hid ((Box5.new w).on ((Below.refl _ _).alloc (Nat.le_refl _) _)), Lib.hid (heap_alloc_new _ _), Lib.hid ((w5_below w).alloc (w5_below w).size _)⟩
theorem end52 {w X : World} {b2 : Nat} (h : Below w.heap.size w X) (hle : w.heap.size ≤ b2) (a b c d e f g : Value) : Below w.heap.size w (((((((X.setCell ⟨w.heap.size, 0, none⟩ a).setCell ⟨w.heap.size, 1, none⟩ b).setCell ⟨w.heap.size, 2, none⟩ c).setCell ⟨w.heap.size, 3, none⟩ d).setCell ⟨w.heap.size, 4, none⟩ e).setCell ⟨b2, 0, none⟩ f).setCell ⟨b2, 1, none⟩ g) :=
  ((end5 h a b c d e).setCell (p := ⟨b2, 0, none⟩) hle _).setCell (p := ⟨b2, 1, none⟩) hle _
/-- what Next tells -/
def RetNx (k : Int) (S : ByteArray) (N a e err pl : Int) (w : World) (x : Ending) (w' : World) : Prop := x = .returned (.tuple #[wd k S N a e, flt err pl]) ∧ Below w.heap.size w w'
set_option maxRecDepth 100000 in
set_option maxHeartbeats 1000000 in
theorem Next_long (s : ByteArray) (at_ : Int) (w : World) (h : 65536 < s.size) : Calls Tryd.prog 4 #[.string s, .int .i64 at_] w (RetNx 0 nb 0 0 0 3 0 w) := by
  obtain ⟨wA, wB, hA, hB, HA, HB5, HB2, HB⟩ := w52_named w
  obtain ⟨c0, c1, c2, c3, c4⟩ := HB5.out.cells
  obtain ⟨f0, f1, f2, f3, f4⟩ := HB5.out.frz
  obtain ⟨d0, d1⟩ := HB2.out.cells
  obtain ⟨g0, g1⟩ := HB2.out.frz
  have hne : w.heap.size ≠ wA.heap.size := by have := HA.out; omega
  have hne2 : wA.heap.size ≠ w.heap.size := fun e => hne e.symm
  have hle : w.heap.size ≤ wA.heap.size := by have := HA.out; omega
  have HLE := Lib.hid hle
  have hlt : (65536 : Int) < (s.size : Int) := by omega
  clear h hle
  go_enter Tryd.func4, Tryd.ntmps4
  go_wp2_with fail
  refine bodyPost_ret (v := .tuple #[wd 0 nb 0 0 0, flt 3 0]) (by simp [results, Tryd.results4, go_sem, c0, c1, c2, c3, c4, d0, d1]) rfl ⟨rfl, end52 HB.out HLE.out _ _ _ _ _ _ _⟩
set_option maxRecDepth 100000 in
set_option maxHeartbeats 1000000 in
theorem Next_arg (s : ByteArray) (at_ : Int) (w : World) (hs : s.size ≤ 65536) (h : at_ < 0 ∨ (s.size : Int) < at_) : Calls Tryd.prog 4 #[.string s, .int .i64 at_] w (RetNx 0 nb 0 0 0 2 0 w) := by
  obtain ⟨wA, wB, hA, hB, HA, HB5, HB2, HB⟩ := w52_named w
  obtain ⟨c0, c1, c2, c3, c4⟩ := HB5.out.cells
  obtain ⟨f0, f1, f2, f3, f4⟩ := HB5.out.frz
  obtain ⟨d0, d1⟩ := HB2.out.cells
  obtain ⟨g0, g1⟩ := HB2.out.frz
  have hne : w.heap.size ≠ wA.heap.size := by have := HA.out; omega
  have hne2 : wA.heap.size ≠ w.heap.size := fun e => hne e.symm
  have hle : w.heap.size ≤ wA.heap.size := by have := HA.out; omega
  have HLE := Lib.hid hle
  clear hle
  by_cases h0 : at_ < 0
  · clear h
    go_enter Tryd.func4, Tryd.ntmps4
    go_wp2_with fail
    refine bodyPost_ret (v := .tuple #[wd 0 nb 0 0 0, flt 2 0]) (by simp [results, Tryd.results4, go_sem, c0, c1, c2, c3, c4, d0, d1]) rfl ⟨rfl, end52 HB.out HLE.out _ _ _ _ _ _ _⟩
  · have h1 : (s.size : Int) < at_ := by omega
    clear h
    go_enter Tryd.func4, Tryd.ntmps4
    go_wp2_with fail
    refine bodyPost_ret (v := .tuple #[wd 0 nb 0 0 0, flt 2 0]) (by simp [results, Tryd.results4, go_sem, c0, c1, c2, c3, c4, d0, d1]) rfl ⟨rfl, end52 HB.out HLE.out _ _ _ _ _ _ _⟩
/-- what a place's token is: its fields, and the fault's -/
def NxOf (l : List UInt8) (k : Nat) : M.Tk × Nat := (M.tok keysW (l.drop (k + M.pass (l.drop k) false)), k + M.pass (l.drop k) false)
theorem tok_no (keys : List (List UInt8)) (l : List UInt8) (h : (M.tok keys l).1 = 0) : M.tok keys l = M.no := by
  cases l with
  | nil => cases h
  | cons c r =>
    simp only [M.tok] at h ⊢
    split at h
    · next hb =>
      rw [if_pos hb]
      simp only [M.blobT] at h ⊢
      split at h
      · cases h
      · next hx => rw [if_neg hx]
    · next hb =>
      rw [if_neg hb]
      split at h
      · next hd =>
        rw [if_pos hd]
        simp only [M.numT] at h ⊢
        split at h
        · cases h
        · next hx => rw [if_neg hx]
      · next hd =>
        rw [if_neg hd]
        split at h
        · simp only [M.nameT] at h
          split at h <;> cases h
        · next hn =>
          rw [if_neg hn]
          split at h
          · next hq =>
            rw [if_pos hq]
            simp only [M.qtT] at h ⊢
            cases hqq : M.qt r with
            | none => rfl
            | some x => rw [hqq] at h; cases h
          · next hq =>
            rw [if_neg hq]
            simp only [M.sgT] at h ⊢
            split at h
            · cases h
            · next h2 =>
              rw [if_neg h2]
              split at h
              · cases h
              · next h1 => rw [if_neg h1]
theorem tok_le (keys : List (List UInt8)) (l : List UInt8) : (M.tok keys l).2.2.2 ≤ l.length := by
  rcases ht : M.tok keys l with ⟨k, S, N, n⟩
  by_cases h0 : k = 0
  · have := tok_no keys l (by rw [ht]; exact h0)
    rw [ht] at this
    cases this
    exact Nat.zero_le _
  · by_cases h7 : k = 7
    · subst h7
      cases l with
      | nil => simp only [M.tok] at ht; cases ht; exact Nat.zero_le _
      | cons c r =>
        exfalso
        simp only [M.tok] at ht
        split at ht
        · simp only [M.blobT] at ht
          split at ht <;> cases ht
        · split at ht
          · simp only [M.numT] at ht
            split at ht <;> cases ht
          · split at ht
            · simp only [M.nameT] at ht
              have h := congrArg Prod.fst ht
              dsimp only at h
              split at h <;> cases h
            · split at ht
              · simp only [M.qtT] at ht
                split at ht <;> cases ht
              · simp only [M.sgT] at ht
                split at ht
                · cases ht
                · split at ht <;> cases ht
    · exact (M.tok_again keys l k S N n [] ht h0 h7).2.1
set_option maxRecDepth 100000 in
set_option maxHeartbeats 2000000 in
theorem Next_no (s : ByteArray) (at_ : Nat) (w : World) (hs : s.size ≤ 65536) (h : at_ ≤ s.size) (hW : Wv w) (S : List UInt8) (N : Int) (n p : Nat) (hN : NxOf s.data.toList at_ = ((0, S, N, n), p)) :
    Calls Tryd.prog 4 #[.string s, .int .i64 (at_ : Int)] w (RetNx 0 nb 0 0 0 100 p w) := by
  obtain ⟨wA, wB, hA, hB, HA, HB5, HB2, HB⟩ := w52_named w
  have hne : w.heap.size ≠ wA.heap.size := by have := HA.out; omega
  have hne2 : wA.heap.size ≠ w.heap.size := fun e => hne e.symm
  have HLE := Lib.hid (show w.heap.size ≤ wA.heap.size by have := HA.out; omega)
  have HWB := Lib.hid (hW.on HB.out)
  have hp : at_ + M.pass (s.data.toList.drop at_) false = p := congrArg Prod.snd hN
  have ht : M.tok keysW (s.data.toList.drop (at_ + M.pass (s.data.toList.drop at_) false)) = (0, S, N, n) := congrArg Prod.fst hN
  rw [hp] at ht
  have hpl := M.pass_le (s.data.toList.drop at_) false
  have hps : p ≤ s.size := by
    rw [List.length_drop] at hpl
    simp at hpl
    omega
  have htl := tok_le keysW (s.data.toList.drop p)
  rw [ht, List.length_drop] at htl
  have hn : n ≤ 65536 := by simp at htl; omega
  have HE1 := Lib.hid (passedOver_any (s.extract at_ s.size) wB (by rw [ext_size]; omega))
  rw [ext_drop] at HE1
  obtain ⟨q, HQ⟩ : ∃ q, Hid (M.pass (s.data.toList.drop at_) false = q) := ⟨_, Lib.hid rfl⟩
  rw [HQ.out] at hp HE1
  have hadd : (at_ : Int) + (q : Int) = (p : Int) := by omega
  have hq : q ≤ 65536 := by omega
  have HE2 := Lib.hid (fun (W : World) (h : Wv W) => token_any (s.extract p s.size) W (by rw [ext_size]; omega) h)
  rw [ext_drop, ht] at HE2
  have HV : Hid (tkV (0, S, N, n) = .tuple #[wd 0 ⟨S.toArray⟩ N 0 0, .int .i64 n, .bool false]) := Lib.hid rfl
  clear hN ht htl hpl hW hp
  go_enter Tryd.func4, Tryd.ntmps4
  go_wp2_with fail
  refine HE1.out.mono ?_
  rintro e w3 ⟨rfl, hb3⟩
  have HB3 := Lib.hid hb3
  clear hb3
  go_wp2_with fail
  refine (HE2.out _ (HWB.out.on HB3.out)).mono ?_
  rintro e w4 ⟨rfl, hb4⟩
  have HB4 := Lib.hid (HB3.out.trans (hb4.mono HB3.out.size))
  have HBW := Lib.hid (HB.out.trans (HB4.out.mono HB.out.size))
  have HX5 := Lib.hid (HB5.out.on HB4.out)
  have HX2 := Lib.hid (HB2.out.on HB4.out)
  clear hb4
  rw [HV.out]
  obtain ⟨S', HS⟩ : ∃ S', Hid ((⟨S.toArray⟩ : ByteArray) = S') := ⟨_, Lib.hid rfl⟩
  rw [HS.out]
  go_upto_if 39 with (fail)
  obtain ⟨w6, hw6, HB6⟩ : ∃ w6, w4.alloc (.cells #[.int .u8 0, .string S', .int .i64 N, .int .i64 0, .int .i64 0] 24) = w6 ∧ Hid (Below w4.heap.size w4 w6) := ⟨_, rfl, Lib.hid ((Below.refl _ _).alloc (Nat.le_refl _) _)⟩
  rw [hw6]
  clear hw6
  have HB7 := Lib.hid (HBW.out.trans (HB6.out.mono HBW.out.size))
  obtain ⟨c0, c1, c2, c3, c4⟩ := (HX5.out.on HB6.out).cells
  obtain ⟨f0, f1, f2, f3, f4⟩ := (HX5.out.on HB6.out).frz
  obtain ⟨d0, d1⟩ := (HX2.out.on HB6.out).cells
  obtain ⟨g0, g1⟩ := (HX2.out.on HB6.out).frz
  go_wp2_with fail
  refine bodyPost_ret (v := .tuple #[wd 0 nb 0 0 0, flt 100 p]) (by simp [results, Tryd.results4, go_sem, c0, c1, c2, c3, c4, d0, d1]) rfl ⟨rfl, end52 HB7.out HLE.out _ _ _ _ _ _ _⟩
set_option maxRecDepth 100000 in
set_option maxHeartbeats 2000000 in
theorem Next_yes (s : ByteArray) (at_ : Nat) (w : World) (hs : s.size ≤ 65536) (h : at_ ≤ s.size) (hW : Wv w) (k : Nat) (S : List UInt8) (N : Int) (n p : Nat) (hk : k ≠ 0) (hN : NxOf s.data.toList at_ = ((k, S, N, n), p)) (m : Nat) (hm : p + n = m) :
    Calls Tryd.prog 4 #[.string s, .int .i64 (at_ : Int)] w (RetNx k ⟨S.toArray⟩ N p m 0 0 w) := by
  obtain ⟨wA, wB, hA, hB, HA, HB5, HB2, HB⟩ := w52_named w
  have hne : w.heap.size ≠ wA.heap.size := by have := HA.out; omega
  have hne2 : wA.heap.size ≠ w.heap.size := fun e => hne e.symm
  have HLE := Lib.hid (show w.heap.size ≤ wA.heap.size by have := HA.out; omega)
  have HWB := Lib.hid (hW.on HB.out)
  have hp : at_ + M.pass (s.data.toList.drop at_) false = p := congrArg Prod.snd hN
  have ht : M.tok keysW (s.data.toList.drop (at_ + M.pass (s.data.toList.drop at_) false)) = (k, S, N, n) := congrArg Prod.fst hN
  rw [hp] at ht
  have hpl := M.pass_le (s.data.toList.drop at_) false
  have hps : p ≤ s.size := by
    rw [List.length_drop] at hpl
    simp at hpl
    omega
  have htl := tok_le keysW (s.data.toList.drop p)
  rw [ht, List.length_drop] at htl
  have hn : n ≤ 65536 := by simp at htl; omega
  have HE1 := Lib.hid (passedOver_any (s.extract at_ s.size) wB (by rw [ext_size]; omega))
  rw [ext_drop] at HE1
  obtain ⟨q, HQ⟩ : ∃ q, Hid (M.pass (s.data.toList.drop at_) false = q) := ⟨_, Lib.hid rfl⟩
  rw [HQ.out] at hp HE1
  have hadd : (at_ : Int) + (q : Int) = (p : Int) := by omega
  have hq : q ≤ 65536 := by omega
  have HE2 := Lib.hid (fun (W : World) (h : Wv W) => token_any (s.extract p s.size) W (by rw [ext_size]; omega) h)
  rw [ext_drop, ht] at HE2
  have HV : Hid (tkV (k, S, N, n) = .tuple #[wd k ⟨S.toArray⟩ N 0 0, .int .i64 n, .bool true]) := Lib.hid (by unfold tkV; simp [hk])
  have HM := Lib.hid hm
  clear hN ht htl hpl hW hp hm
  go_enter Tryd.func4, Tryd.ntmps4
  go_wp2_with fail
  refine HE1.out.mono ?_
  rintro e w3 ⟨rfl, hb3⟩
  have HB3 := Lib.hid hb3
  clear hb3
  go_wp2_with fail
  refine (HE2.out _ (HWB.out.on HB3.out)).mono ?_
  rintro e w4 ⟨rfl, hb4⟩
  have HB4 := Lib.hid (HB3.out.trans (hb4.mono HB3.out.size))
  have HBW := Lib.hid (HB.out.trans (HB4.out.mono HB.out.size))
  have HX5 := Lib.hid (HB5.out.on HB4.out)
  have HX2 := Lib.hid (HB2.out.on HB4.out)
  clear hb4
  rw [HV.out]
  obtain ⟨S', HS⟩ : ∃ S', Hid ((⟨S.toArray⟩ : ByteArray) = S') := ⟨_, Lib.hid rfl⟩
  rw [HS.out]
  go_upto_if 39 with (fail)
  obtain ⟨w6, hw6, HX6, HB6⟩ : ∃ w6, w4.alloc (.cells #[.int .u8 k, .string S', .int .i64 N, .int .i64 0, .int .i64 0] 24) = w6 ∧ Hid (Box5 w6 w4.heap.size k S' N 0 0) ∧ Hid (Below w4.heap.size w4 w6) := ⟨_, rfl, Lib.hid (heap_alloc_new _ _), Lib.hid ((Below.refl _ _).alloc (Nat.le_refl _) _)⟩
  rw [hw6]
  clear hw6
  have HB7 := Lib.hid (HBW.out.trans (HB6.out.mono HBW.out.size))
  have hn3 : w4.heap.size ≠ w.heap.size := by have := HX5.out.lt; omega
  have hn4 : w4.heap.size ≠ wA.heap.size := by have := HX2.out.lt; omega
  have HL3 := Lib.hid (show w.heap.size ≤ w4.heap.size from HBW.out.size)
  obtain ⟨c0, c1, c2, c3, c4⟩ := (HX5.out.on HB6.out).cells
  obtain ⟨f0, f1, f2, f3, f4⟩ := (HX5.out.on HB6.out).frz
  obtain ⟨d0, d1⟩ := (HX2.out.on HB6.out).cells
  obtain ⟨g0, g1⟩ := (HX2.out.on HB6.out).frz
  obtain ⟨b0, b1, b2, b3, b4⟩ := HX6.out.cells
  obtain ⟨e0, e1, e2, e3, e4⟩ := HX6.out.frz
  have hpn : (p : Int) + (n : Int) = (m : Int) := by have := HM.out; omega
  have hmm : m ≤ 200000 := by have := HM.out; omega
  go_wp2_with fail
  refine bodyPost_ret (v := .tuple #[wd k S' N p m, flt 0 0]) (by simp [results, Tryd.results4, go_sem, c0, c1, c2, c3, c4, d0, d1]) rfl ⟨by rw [HS.out], end52 ((HB7.out.setCell (p := ⟨w4.heap.size, 3, none⟩) HL3.out _).setCell (p := ⟨w4.heap.size, 4, none⟩) HL3.out _) HLE.out _ _ _ _ _ _ _⟩
end Go.Proofs.YtceknmibopnmhaaDoor
