/-
  The contract of the law's own helper awake: the chapter's examples come out. No conditions.
-/
import Derived.Test.YtlichbiioejpiaaFits
import Derived.Lib.SlBytesConst
namespace Go.Proofs.Ytlichbiioejpiaa
open Go.ChangeShapes Go.WideShapes Go.ChangeAt Go.RowKit
set_option linter.unusedVariables false

theorem uv5 : Lib.uvarint 5 = [5] := Lib.uvarint_small (by omega)
theorem uv127 : Lib.uvarint 127 = [127] := Lib.uvarint_small (by omega)
theorem uv128 : Lib.uvarint 128 = [128, 1] := by rw [Lib.uvarint_big (by omega), Lib.uvarint_small (by omega)]; rfl
theorem uv300 : Lib.uvarint 300 = [172, 2] := by rw [Lib.uvarint_big (by omega), Lib.uvarint_small (by omega)]; rfl

/-- a row of bytes, known cell by cell -/
theorem Rd.of_cells {w : World} {g : Nat} {l : List UInt8} (hg : g < w.heap.size) (h : ∀ (j : Nat) (u : UInt8), l[j]? = some u → w.cell? ⟨g, j, none⟩ = some (b8 u)) : Rd w w.heap.size (some ⟨g, 0, none⟩) l := by
  intro _
  refine ⟨_, rfl, hg, fun j u hu => ?_⟩
  have ha : ((⟨g, 0, none⟩ : Addr).add j) = ⟨g, j, none⟩ := by
    unfold Addr.add
    by_cases hj0 : j = 0 <;> simp [hj0]
  rw [ha]
  exact h j u hu

/-- a row of bytes that has just been made, with whatever mark -/
theorem Rd.of_alloc (w : World) (l : List UInt8) (fr : Nat × Nat) : Rd (w.alloc (.cells (bs l).toArray 5 fr)) (w.alloc (.cells (bs l).toArray 5 fr)).heap.size (some ⟨w.heap.size, 0, none⟩) l := by
  refine Rd.of_cells (by simp) fun j u hu => ?_
  rw [World.cell?_alloc_mark]
  simp [bs, hu]

/-- a list of two, that has just been made -/
theorem RdL.two (w : World) (A1 A2 : Option Addr) (l1 l2 : List UInt8) (c1 c2 : Nat) (h1 : Rd w w.heap.size A1 l1) (h2 : Rd w w.heap.size A2 l2) (hc1 : l1.length ≤ c1) (hc2 : l2.length ≤ c2) (hm1 : c1 ≤ maxLen) (hm2 : c2 ≤ maxLen) :
    RdL (w.alloc (.cells #[.slice A1 l1.length c1, .slice A2 l2.length c2] 24)) (w.alloc (.cells #[.slice A1 l1.length c1, .slice A2 l2.length c2] 24)).heap.size (some ⟨w.heap.size, 0, none⟩) [l1, l2] := by
  intro _
  refine ⟨_, rfl, by simp, fun j m hm => ?_⟩
  have ha : ((⟨w.heap.size, 0, none⟩ : Addr).add j) = ⟨w.heap.size, j, none⟩ := by
    unfold Addr.add
    by_cases hj0 : j = 0 <;> simp [hj0]
  rw [ha, World.cell?_alloc_mark]
  have hk : ∀ {A : Option Addr} {l : List UInt8}, Rd w w.heap.size A l → Rd (w.alloc (.cells #[.slice A1 l1.length c1, .slice A2 l2.length c2] 24)) (w.alloc (.cells #[.slice A1 l1.length c1, .slice A2 l2.length c2] 24)).heap.size A l :=
    fun h => (h.alloc _).more (by simp)
  match j, hm with
  | 0, hm =>
    obtain rfl : l1 = m := by simpa using hm
    exact ⟨A1, c1, rfl, hc1, hm1, hk h1⟩
  | 1, hm =>
    obtain rfl : l2 = m := by simpa using hm
    exact ⟨A2, c2, rfl, hc2, hm2, hk h2⟩
  | j + 2, hm => simp at hm

/-- where 'ab' and nothing are laid out as a list -/
theorem ab_list (w : World) : RdL ((w.alloc (.cells #[.int .u8 97, .int .u8 98] 5 (2, 3))).alloc (.cells #[.slice (some ⟨w.heap.size, 0, none⟩) 2 2, .slice none 0 0] 24))
    ((w.alloc (.cells #[.int .u8 97, .int .u8 98] 5 (2, 3))).alloc (.cells #[.slice (some ⟨w.heap.size, 0, none⟩) 2 2, .slice none 0 0] 24)).heap.size (some ⟨w.heap.size + 1, 0, none⟩) [[97, 98], []] := by
  have h := RdL.two (w.alloc (.cells #[.int .u8 97, .int .u8 98] 5 (2, 3))) (some ⟨w.heap.size, 0, none⟩) none [97, 98] [] 2 0 (Rd.of_alloc w [97, 98] (2, 3)) Rd.nil (by simp) (by simp) (by simp [maxLen]) (by simp [maxLen])
  have e : (w.alloc (.cells #[.int .u8 97, .int .u8 98] 5 (2, 3))).heap.size = w.heap.size + 1 := by simp
  rw [e] at h
  exact h
theorem ab_below (w : World) : Below w.heap.size w ((w.alloc (.cells #[.int .u8 97, .int .u8 98] 5 (2, 3))).alloc (.cells #[.slice (some ⟨w.heap.size, 0, none⟩) 2 2, .slice none 0 0] 24)) :=
  ((Below.refl _ _).alloc (Nat.le_refl _) _).alloc (by simp) _
theorem ab_enc : ([] : List UInt8) ++ (Lib.uvarint ([[97, 98], []] : List (List UInt8)).length ++ blobsE [[97, 98], []]) = [2, 2, 97, 98, 0] := by
  show Lib.uvarint 2 ++ blobsE [[97, 98], []] = _
  simp only [blobsE, blobE, List.map_cons, List.map_nil, List.length_cons, List.length_nil, List.flatten_cons, List.flatten_nil]
  rw [Lib.uvarint_small (show 2 < 128 by omega), Lib.uvarint_small (show 0 < 128 by omega)]
  rfl
theorem ab_blob : ([] : List UInt8) ++ (Lib.uvarint ([97, 98] : List UInt8).length ++ [97, 98]) = [2, 97, 98] := by
  show Lib.uvarint 2 ++ [97, 98] = _
  rw [Lib.uvarint_small (show 2 < 128 by omega)]
  rfl
theorem ab_at1 : blobsAt [2, 2, 97, 98, 0] 0 2 2 = ([[97, 98], []], 5, 0) := by decide +kernel
theorem ab_at2 : blobsAt [2, 2, 97, 98, 0] 0 1 2 = ([], 0, 3) := by decide +kernel
theorem ab_at3 : blobsAt [2, 2, 97, 98, 0] 0 2 1 = ([], 0, 3) := by decide +kernel
theorem nine_at : uintAt [9, 172, 2] 1 = (300, 3, 0) := by decide +kernel
theorem bad_at1 : uintAt [128, 0] 0 = (0, 0, 10) := by decide +kernel
theorem bad_at2 : uintAt [128] 0 = (0, 0, 11) := by decide +kernel

/-- cards, as cells -/
def cardCells : List Nat → List Value
  | [] => []
  | n :: r => .int .u64 n :: .string ⟨(Lib.uvarint n).toArray⟩ :: cardCells r
theorem cards_get : ∀ (cs : List Nat) (j n : Nat), cs[j]? = some n → (cardCells cs)[j * 2]? = some (.int .u64 n) ∧ (cardCells cs)[j * 2 + 1]? = some (.string ⟨(Lib.uvarint n).toArray⟩)
  | [], j, n, h => by simp at h
  | m :: r, 0, n, h => by
    obtain rfl : m = n := by simpa using h
    exact ⟨rfl, rfl⟩
  | m :: r, j + 1, n, h => by
    have h' : r[j]? = some n := by simpa using h
    have ih := cards_get r j n h'
    have e : (j + 1) * 2 = j * 2 + 1 + 1 := by omega
    rw [e]
    simp only [cardCells, List.getElem?_cons_succ]
    exact ih
theorem RdC.of_alloc (w : World) (cs : List Nat) : RdC (w.alloc (.cells (cardCells cs).toArray 75)) w.heap.size cs := by
  intro j n h
  obtain ⟨h1, h2⟩ := cards_get cs j n h
  constructor
  · rw [World.cell?_alloc_mark]; simpa using h1
  · rw [World.cell?_alloc_mark]; simpa using h2
theorem four_cards (w : World) : RdC (w.alloc (Obj.cells #[Value.int IntKind.u64 5, Value.string { data := #[5] }, Value.int IntKind.u64 127, Value.string { data := #[127] }, Value.int IntKind.u64 128, Value.string { data := #[128, 1] }, Value.int IntKind.u64 300, Value.string { data := #[172, 2] }] 75)) w.heap.size [5, 127, 128, 300] := by
  have h := RdC.of_alloc w [5, 127, 128, 300]
  simp only [cardCells, uv5, uv127, uv128, uv300] at h
  exact h

set_option maxRecDepth 100000 in
theorem awake_any (w : World) : Calls Try.prog 12 #[] w fun e w' => e = .returned (.bool true) ∧ Below w.heap.size w w' := by
  have kc := fun (w : World) (C : Array Value) (n c : Nat) => Lib.run_convert_bytes_const (P := Try.prog) w 24 5 C n c Try.underlying24 Try.underlying5
  go_enter Try.func12, Try.ntmps12
  go_wp2_with fail
  refine (Blobs_any none 0 [] _ 2 [[97, 98], []] _ (by simp) (by simp) (by decide +kernel) Rd.nil (ab_list w)).mono ?_
  rintro e w1 ⟨v1, rfl, ho1, hb1⟩
  rw [ab_enc] at ho1
  have hw1 := (ab_below w).trans (hb1.mono (ab_below w).size)
  clear hb1
  obtain ⟨A1, c1, rfl, hx1, hx2, hr1⟩ := ho1.form
  clear ho1
  go_wp2_with fail
  refine (GetBlobs_any A1 c1 [2, 2, 97, 98, 0] 0 2 2 w1 (by simp) hx1 hx2 hr1 (by omega) (by omega) (by omega) (by omega)).mono ?_
  rintro e w2 ⟨v2, rfl, ho2, hb2⟩
  rw [ab_at1] at ho2
  rw [ab_at1]
  have hw2 := hw1.trans (hb2.mono hw1.size)
  have hr2 := hr1.on hb2
  obtain ⟨A2, c2, rfl, hy1, hy2, hs2⟩ := ho2.form
  clear ho2 hb2 hr1
  go_wp2_with fail
  refine (GetBlobs_any A1 c1 [2, 2, 97, 98, 0] 0 1 2 w2 (by simp) hx1 hx2 hr2 (by omega) (by omega) (by omega) (by omega)).mono ?_
  rintro e w3 ⟨v3, rfl, ho3, hb3⟩
  rw [ab_at2]
  have hw3 := hw2.trans (hb3.mono hw2.size)
  have hr3 := hr2.on hb3
  have hs3 := hs2.on hb3
  clear ho3 hb3 hr2 hs2
  go_wp2_with fail
  refine (GetBlobs_any A1 c1 [2, 2, 97, 98, 0] 0 2 1 w3 (by simp) hx1 hx2 hr3 (by omega) (by omega) (by omega) (by omega)).mono ?_
  rintro e w4 ⟨v4, rfl, ho4, hb4⟩
  rw [ab_at3]
  have hw4 := hw3.trans (hb4.mono hw3.size)
  have hr4 := hr3.on hb4
  have hs4 := hs3.on hb4
  clear ho4 hb4 hr3 hs3
  go_wp2_with fail
  refine (GetUint_any (some ⟨w4.heap.size, 0, none⟩) 3 [9, 172, 2] 1 _ (by simp) (Rd.of_alloc w4 [9, 172, 2] (0, 0))).mono ?_
  rintro e w5 ⟨rfl, hv5⟩
  rw [nine_at]
  have hb5 : Below w4.heap.size w4 w5 := by rw [← hv5]; exact (Below.refl _ _).alloc (Nat.le_refl _) _
  have hw5 := hw4.trans (hb5.mono hw4.size)
  have hr5 := hr4.on hb5
  have hs5 := hs4.on hb5
  clear hv5 hb5 hr4 hs4
  go_wp2_with fail
  refine (fits_any w5.heap.size 4 [5, 127, 128, 300] _ (by simp) (by simp) (by simp) (four_cards w5)).mono ?_
  rintro e w6 ⟨rfl, hb6'⟩
  have hb6 : Below w5.heap.size w5 w6 := ((Below.refl _ _).alloc (Nat.le_refl _) _).trans (hb6'.mono (by simp))
  have hw6 := hw5.trans (hb6.mono hw5.size)
  have hr6 := hr5.on hb6
  have hs6 := hs5.on hb6
  clear hb6' hb6 hr5 hs5
  go_wp2_with fail
  refine (Blob_any none 0 [] (some ⟨w6.heap.size, 0, none⟩) 2 [97, 98] _ (by simp) (by simp) Rd.nil (Rd.of_alloc w6 [97, 98] (2, 3))).mono ?_
  rintro e w7 ⟨v7, rfl, ho7, hb7'⟩
  rw [ab_blob] at ho7
  have hb7 : Below w6.heap.size w6 w7 := ((Below.refl _ _).alloc (Nat.le_refl _) _).trans (hb7'.mono (by simp))
  have hw7 := hw6.trans (hb7.mono hw6.size)
  have hr7 := hr6.on hb7
  have hs7 := hs6.on hb7
  obtain ⟨A7, c7, rfl, hz1, hz2, hq7⟩ := ho7.form
  have st1 := run_str hq7 c7
  have st2 := run_str hr7 c1
  simp only [List.length_cons, List.length_nil] at st1 st2
  clear hb7' hb7 hr6 hs6 ho7
  go_wp2_with fail
  refine (same_any A2 c2 [[97, 98], []] (some ⟨w7.heap.size + 1, 0, none⟩) 2 [[97, 98], []] _ (by simp) (by simp) (hs7.on (ab_below w7)) (ab_list w7)).mono ?_
  rintro e w8 ⟨rfl, hb8'⟩
  have hb8 : Below w7.heap.size w7 w8 := (ab_below w7).trans (hb8'.mono (ab_below w7).size)
  have hw8 := hw7.trans (hb8.mono hw7.size)
  rw [decide_eq_true rfl]
  clear hb8' hb8 st1 st2 hs7 hr7 hq7
  go_wp2_with fail
  refine (bad_any [128, 0] 0 10 _ (by simp) bad_at1).mono ?_
  rintro e w9 ⟨rfl, hb9⟩
  have hw9 := hw8.trans (hb9.mono hw8.size)
  clear hb9
  go_wp2_with fail
  refine (bad_any [128] 0 11 _ (by simp) bad_at2).mono ?_
  rintro e w10 ⟨rfl, hb10⟩
  have hw10 := hw9.trans (hb10.mono hw9.size)
  clear hb10
  go_wp2_with fail
  go_ret
  exact ⟨rfl, hw10⟩
end Go.Proofs.Ytlichbiioejpiaa
