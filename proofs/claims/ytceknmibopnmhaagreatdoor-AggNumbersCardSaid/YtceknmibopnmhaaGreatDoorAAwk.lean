/-
  Layer 8: awake. No conditions.
-/
import Derived.Test.YtceknmibopnmhaaGreatDoorACom
import Derived.Test.YtceknmibopnmhaaGreatDoorAVal
import Derived.Deep.RegionHeld3
namespace Go.Proofs.YtceknmibopnmhaaGreatDoor
open Go.ChangeShapes Go.WideShapes Go.ChangeAt Go.RowKit Go.Maps Go.Sort Go.Shelf Go.ChangeMaps Go.Lib
set_option linter.unusedVariables false

theorem cellsT_get : ∀ (vs : List Trip) (i : Nat) (t : Trip), vs[i]? = some t → (cellsT vs)[i * 3]? = some (.int .u8 t.1) ∧ (cellsT vs)[i * 3 + 1]? = some (.int .i64 t.2.1) ∧ (cellsT vs)[i * 3 + 2]? = some (.string t.2.2) := by
  intro vs
  induction vs with
  | nil => intro i t h; simp at h
  | cons u r ih =>
    intro i t h
    match i, h with
    | 0, h => obtain rfl := Option.some.inj h; exact ⟨rfl, rfl, rfl⟩
    | i + 1, h =>
      obtain ⟨h1, h2, h3⟩ := ih i t h
      rw [show (i + 1) * 3 = i * 3 + 1 + 1 + 1 by omega]
      exact ⟨h1, h2, h3⟩
theorem rdt_built (w : World) (vs : List Trip) : RdT (w.alloc (.cells (cellsT vs).toArray 24)) (some ⟨w.heap.size, 0, none⟩) vs := by
  have hb : (w.alloc (.cells (cellsT vs).toArray 24)).heap[w.heap.size]? = some (.cells (cellsT vs).toArray 24 (0, 0)) := World.alloc_heap_new w _
  refine .inr ⟨w.heap.size, 0, rfl, (Array.getElem?_eq_some_iff.1 hb).1, fun j k n s hj => ?_⟩
  obtain ⟨h1, h2, h3⟩ := cellsT_get vs j _ hj
  refine ⟨?_, ?_, ?_⟩
  · rw [cell_of_row _ _ _ _ _ _ hb, Nat.zero_add]; simpa using h1
  · rw [cell_of_row _ _ _ _ _ _ hb, Nat.zero_add]; simpa using h2
  · rw [cell_of_row _ _ _ _ _ _ hb, Nat.zero_add]; simpa using h3
theorem comes_built {name : ByteArray} {all d : Bool} {fin : Bool → List Trip → Trip × Int} (hn : Named name all fin) (had : (all && d) = false) (t : Trip) (vs : List Trip) (hr : fin d (valsOf all vs) = (t, 0)) (hg : ∀ t ∈ vs, GoodT t) (hl : vs.length ≤ 1000) (cs : Array Value) (hcs : cs = (cellsT vs).toArray) (n : Nat) (hnl : n = vs.length)
    {w X : World} (hW : Wd w) (hX : Below w.heap.size w X) :
    Calls Tryz.prog 27 #[vvT t, .string name, .bool d, .slice (some ⟨X.heap.size, 0, none⟩) n n] (X.alloc (.cells cs 24)) fun e w' => e = .returned (.bool true) ∧ Below X.heap.size X w' := by
  subst hcs hnl
  have hal : Below X.heap.size X (X.alloc (.cells (cellsT vs).toArray 24)) := (Below.refl _ _).alloc (Nat.le_refl _) _
  refine (comes_any hn had t _ (hW.on (hX.trans (hal.mono hX.size))) _ vs.length vs (rdt_built X vs) hg hl (Nat.le_refl _)).mono ?_
  rintro e w' ⟨rfl, hb⟩
  exact ⟨by rw [hr]; simp, hal.trans (hb.mono hal.size)⟩
theorem comes_none {name : ByteArray} {all d : Bool} {fin : Bool → List Trip → Trip × Int} (hn : Named name all fin) (had : (all && d) = false) (t : Trip) (hr : fin d (valsOf all []) = (t, 0)) {w X : World} (hW : Wd w) (hX : Below w.heap.size w X) :
    Calls Tryz.prog 27 #[vvT t, .string name, .bool d, .slice none 0 0] X fun e w' => e = .returned (.bool true) ∧ Below X.heap.size X w' := by
  refine (comes_any hn had t _ (hW.on hX) none 0 [] (.inl rfl) (by simp) (by simp) (Nat.le_refl _)).mono ?_
  rintro e w' ⟨rfl, hb⟩
  exact ⟨by rw [hr]; simp, hb⟩
theorem errs_built {name : ByteArray} {all : Bool} {fin : Bool → List Trip → Trip × Int} (hn : Named name all fin) (q : Int) (vs : List Trip) (hr : fin false (valsOf all vs) = (nuT, q)) (hg : ∀ t ∈ vs, GoodT t) (hl : vs.length ≤ 1000) (cs : Array Value) (hcs : cs = (cellsT vs).toArray) (n : Nat) (hnl : n = vs.length)
    {w X : World} (hW : Wd w) (hX : Below w.heap.size w X) :
    Calls Tryz.prog 33 #[.int .i64 q, .string name, .slice (some ⟨X.heap.size, 0, none⟩) n n] (X.alloc (.cells cs 24)) fun e w' => e = .returned (.bool true) ∧ Below X.heap.size X w' := by
  subst hcs hnl
  have hal : Below X.heap.size X (X.alloc (.cells (cellsT vs).toArray 24)) := (Below.refl _ _).alloc (Nat.le_refl _) _
  refine (errs_any hn q _ (hW.on (hX.trans (hal.mono hX.size))) _ vs.length vs (rdt_built X vs) hg hl (Nat.le_refl _)).mono ?_
  rintro e w' ⟨rfl, hb⟩
  exact ⟨by rw [hr]; simp, hal.trans (hb.mono hal.size)⟩
theorem good3 {a b c : Trip} (h1 : GoodT a) (h2 : GoodT b) (h3 : GoodT c) : ∀ t ∈ [a, b, c], GoodT t := fun t ht => by
  simp only [List.mem_cons, List.mem_nil_iff, or_false] at ht
  rcases ht with rfl | rfl | rfl <;> assumption
theorem good2 {a b : Trip} (h1 : GoodT a) (h2 : GoodT b) : ∀ t ∈ [a, b], GoodT t := fun t ht => by
  simp only [List.mem_cons, List.mem_nil_iff, or_false] at ht
  rcases ht with rfl | rfl <;> assumption
theorem nul_at {w1 X : World} {b : Nat} (hn : BoxT w1 b nuT) (h : Below w1.heap.size w1 X) : X.cell? ⟨b, 0, none⟩ = some (.int .u8 0) ∧ X.cell? ⟨b, 1, none⟩ = some (.int .i64 0) ∧ X.cell? ⟨b, 2, none⟩ = some (.string ⟨#[]⟩) := (hn.on h).cells
set_option maxRecDepth 100000 in
set_option maxHeartbeats 8000000 in
theorem awake_any (w : World) (hW : Wd w) : Calls Tryz.prog 34 #[] w fun e w' => e = .returned (.bool true) ∧ Below w.heap.size w w' := by
  obtain ⟨w0, hw0⟩ : ∃ w0, w.alloc (.cells #[.int .u8 0, .int .i64 0, .string ⟨#[]⟩] 24) = w0 := ⟨_, rfl⟩
  have hb0 : Below w.heap.size w w0 := by rw [← hw0]; exact (Below.refl _ _).alloc (Nat.le_refl _) _
  have hn0 : BoxT w0 w.heap.size nuT := by rw [← hw0]; exact BoxT.new w nuT
  obtain ⟨x0, x1, x2⟩ := hn0.cells
  obtain ⟨f0, f1, f2⟩ := hn0.frz
  dsimp only at x0 x1 x2
  obtain ⟨w1, hw1⟩ : ∃ w1, ((w0.setCell ⟨w.heap.size, 0, none⟩ (.int .u8 0)).setCell ⟨w.heap.size, 1, none⟩ (.int .i64 0)).setCell ⟨w.heap.size, 2, none⟩ (.string ⟨#[]⟩) = w1 := ⟨_, rfl⟩
  have HB1 := Lib.hid (show Below w.heap.size w w1 by rw [← hw1]; exact ((hb0.setCell (p := ⟨w.heap.size, 0, none⟩) (Nat.le_refl _) _).setCell (p := ⟨w.heap.size, 1, none⟩) (Nat.le_refl _) _).setCell (p := ⟨w.heap.size, 2, none⟩) (Nat.le_refl _) _)
  have HN1 := Lib.hid (show BoxT w1 w.heap.size nuT by rw [← hw1]; exact hn0.set3 0 0 ⟨#[]⟩)
  have HW := Lib.hid (hW.on HB1.out)
  have HC := Lib.hid (Below.refl w1.heap.size w1)
  have g1 : In64 1 := by unfold In64; omega
  have g5 : In64 5 := by unfold In64; omega
  have gm : In64 9223372036854775807 := by unfold In64; omega
  have gn : In64 (-5) := by unfold In64; omega
  have GA := Lib.hid (tx_good ⟨#[97]⟩ (by decide))
  have GB := Lib.hid (tx_good ⟨#[98]⟩ (by decide))
  have G1 := Lib.hid (nm_good 1 g1)
  have G5 := Lib.hid (nm_good 5 g5)
  have GM := Lib.hid (nm_good _ gm)
  have GN := Lib.hid (nm_good _ gn)
  clear g1 g5 gm gn hb0 hn0
  obtain ⟨n0, n1, n2⟩ := HN1.out.cells
  dsimp only at n0 n1 n2
  have K0 := Lib.hid (show ∀ X : World, Below w1.heap.size w1 X → Calls Tryz.prog 27 #[vv 1 9223372036854775803 ⟨#[]⟩, .string ⟨#[115, 117, 109]⟩, .bool false, .slice (some ⟨X.heap.size, 0, none⟩) 3 3] (X.alloc (.cells #[.int .u8 1, .int .i64 9223372036854775807, .string ⟨#[]⟩, .int .u8 1, .int .i64 1, .string ⟨#[]⟩, .int .u8 1, .int .i64 (-5), .string ⟨#[]⟩] 24)) fun e w' => e = .returned (.bool true) ∧ Below X.heap.size X w' from fun X hX => comes_built named_sum rfl (nmT 9223372036854775803) [(nmT 9223372036854775807), (nmT 1), (nmT (-5))] ex1 (good3 GM.out G1.out GN.out) (by decide) _ rfl _ rfl HW.out hX)
  have K1 := Lib.hid (show ∀ X : World, Below w1.heap.size w1 X → Calls Tryz.prog 27 #[vv 0 0 ⟨#[]⟩, .string ⟨#[115, 117, 109]⟩, .bool false, .slice none 0 0] X fun e w' => e = .returned (.bool true) ∧ Below X.heap.size X w' from fun X hX => comes_none named_sum rfl nuT ex3 HW.out hX)
  have K2 := Lib.hid (show ∀ X : World, Below w1.heap.size w1 X → Calls Tryz.prog 27 #[vv 1 0 ⟨#[]⟩, .string ⟨#[116, 111, 116, 97, 108]⟩, .bool false, .slice none 0 0] X fun e w' => e = .returned (.bool true) ∧ Below X.heap.size X w' from fun X hX => comes_none named_total rfl (nmT 0) ex4 HW.out hX)
  have K3 := Lib.hid (show ∀ X : World, Below w1.heap.size w1 X → Calls Tryz.prog 27 #[vv 1 2 ⟨#[]⟩, .string ⟨#[99, 111, 117, 110, 116]⟩, .bool false, .slice (some ⟨X.heap.size, 0, none⟩) 3 3] (X.alloc (.cells #[.int .u8 1, .int .i64 1, .string ⟨#[]⟩, .int .u8 0, .int .i64 0, .string ⟨#[]⟩, .int .u8 1, .int .i64 1, .string ⟨#[]⟩] 24)) fun e w' => e = .returned (.bool true) ∧ Below X.heap.size X w' from fun X hX => comes_built named_count rfl (nmT 2) [(nmT 1), nuT, (nmT 1)] ex5 (good3 G1.out nu_good G1.out) (by decide) _ rfl _ rfl HW.out hX)
  have K4 := Lib.hid (show ∀ X : World, Below w1.heap.size w1 X → Calls Tryz.prog 27 #[vv 1 1 ⟨#[]⟩, .string ⟨#[99, 111, 117, 110, 116]⟩, .bool true, .slice (some ⟨X.heap.size, 0, none⟩) 3 3] (X.alloc (.cells #[.int .u8 1, .int .i64 1, .string ⟨#[]⟩, .int .u8 0, .int .i64 0, .string ⟨#[]⟩, .int .u8 1, .int .i64 1, .string ⟨#[]⟩] 24)) fun e w' => e = .returned (.bool true) ∧ Below X.heap.size X w' from fun X hX => comes_built named_count rfl (nmT 1) [(nmT 1), nuT, (nmT 1)] ex6 (good3 G1.out nu_good G1.out) (by decide) _ rfl _ rfl HW.out hX)
  have K5 := Lib.hid (show ∀ X : World, Below w1.heap.size w1 X → Calls Tryz.prog 27 #[vv 1 3 ⟨#[]⟩, .string ⟨#[99, 111, 117, 110, 116, 42]⟩, .bool false, .slice (some ⟨X.heap.size, 0, none⟩) 3 3] (X.alloc (.cells #[.int .u8 1, .int .i64 1, .string ⟨#[]⟩, .int .u8 0, .int .i64 0, .string ⟨#[]⟩, .int .u8 1, .int .i64 1, .string ⟨#[]⟩] 24)) fun e w' => e = .returned (.bool true) ∧ Below X.heap.size X w' from fun X hX => comes_built named_countAll rfl (nmT 3) [(nmT 1), nuT, (nmT 1)] ex7 (good3 G1.out nu_good G1.out) (by decide) _ rfl _ rfl HW.out hX)
  have K6 := Lib.hid (show ∀ X : World, Below w1.heap.size w1 X → Calls Tryz.prog 27 #[vv 1 5 ⟨#[]⟩, .string ⟨#[109, 105, 110]⟩, .bool false, .slice (some ⟨X.heap.size, 0, none⟩) 3 3] (X.alloc (.cells #[.int .u8 2, .int .i64 0, .string ⟨#[97]⟩, .int .u8 1, .int .i64 5, .string ⟨#[]⟩, .int .u8 0, .int .i64 0, .string ⟨#[]⟩] 24)) fun e w' => e = .returned (.bool true) ∧ Below X.heap.size X w' from fun X hX => comes_built named_min rfl (nmT 5) [(txT ⟨#[97]⟩), (nmT 5), nuT] ex8 (good3 GA.out G5.out nu_good) (by decide) _ rfl _ rfl HW.out hX)
  have K7 := Lib.hid (show ∀ X : World, Below w1.heap.size w1 X → Calls Tryz.prog 27 #[vv 2 0 ⟨#[97]⟩, .string ⟨#[109, 97, 120]⟩, .bool false, .slice (some ⟨X.heap.size, 0, none⟩) 3 3] (X.alloc (.cells #[.int .u8 2, .int .i64 0, .string ⟨#[97]⟩, .int .u8 1, .int .i64 5, .string ⟨#[]⟩, .int .u8 0, .int .i64 0, .string ⟨#[]⟩] 24)) fun e w' => e = .returned (.bool true) ∧ Below X.heap.size X w' from fun X hX => comes_built named_max rfl (txT ⟨#[97]⟩) [(txT ⟨#[97]⟩), (nmT 5), nuT] ex9 (good3 GA.out G5.out nu_good) (by decide) _ rfl _ rfl HW.out hX)
  have K8 := Lib.hid (show ∀ X : World, Below w1.heap.size w1 X → Calls Tryz.prog 27 #[vv 2 0 ⟨#[49, 44, 98]⟩, .string ⟨#[103, 114, 111, 117, 112, 95, 99, 111, 110, 99, 97, 116]⟩, .bool false, .slice (some ⟨X.heap.size, 0, none⟩) 3 3] (X.alloc (.cells #[.int .u8 2, .int .i64 0, .string ⟨#[98]⟩, .int .u8 0, .int .i64 0, .string ⟨#[]⟩, .int .u8 1, .int .i64 1, .string ⟨#[]⟩] 24)) fun e w' => e = .returned (.bool true) ∧ Below X.heap.size X w' from fun X hX => comes_built named_join rfl (txT ⟨#[49, 44, 98]⟩) [(txT ⟨#[98]⟩), nuT, (nmT 1)] ex10 (good3 GB.out nu_good G1.out) (by decide) _ rfl _ rfl HW.out hX)
  have KE := Lib.hid (show ∀ X : World, Below w1.heap.size w1 X → Calls Tryz.prog 33 #[.int .i64 20, .string ⟨#[115, 117, 109]⟩, .slice (some ⟨X.heap.size, 0, none⟩) 2 2] (X.alloc (.cells #[.int .u8 1, .int .i64 9223372036854775807, .string ⟨#[]⟩, .int .u8 1, .int .i64 1, .string ⟨#[]⟩] 24)) fun e w' => e = .returned (.bool true) ∧ Below X.heap.size X w' from fun X hX => errs_built named_sum 20 [(nmT 9223372036854775807), (nmT 1)] ex2 (good2 GM.out G1.out) (by decide) _ rfl _ rfl HW.out hX)
  go_enter Tryz.func34, Tryz.ntmps34
  go_wp2_with fail
  clear hw0 hw1 x0 x1 x2 f0 f1 f2 n0 n1 n2
  obtain ⟨bn, hbn⟩ : ∃ n, w.heap.size = n := ⟨_, rfl⟩
  have HN1 := Lib.hid (show BoxT w1 bn nuT by rw [← hbn]; exact HN1.out)
  rw [hbn]
  clear hbn
  simp only [List.cons_append, List.nil_append, List.append_eq]
  go_region_held3 (fun X => X.cell? ⟨bn, 0, none⟩ = some (.int .u8 0) ∧ X.cell? ⟨bn, 1, none⟩ = some (.int .i64 0) ∧ X.cell? ⟨bn, 2, none⟩ = some (.string ⟨#[]⟩))
    (first | exact nul_at HN1.out HC.out | exact nul_at HN1.out (drewR HC.out) | exact nul_at HN1.out (HC.out.alloc HC.out.size _))
    (first
      | (go_at_call 28; refine (numA _ _).mono ?_; rintro e wa ⟨rfl, hba⟩; have HC := Lib.hid (show Below w1.heap.size w1 wa by first | exact Below.trans HC.out (hba.mono HC.out.size) | exact Below.trans (drewR HC.out) (hba.mono HC.out.size)); clear hba)
      | (go_at_call 31; refine (textA _ _).mono ?_; rintro e wa ⟨rfl, hba⟩; have HC := Lib.hid (show Below w1.heap.size w1 wa by first | exact Below.trans HC.out (hba.mono HC.out.size) | exact Below.trans (drewR HC.out) (hba.mono HC.out.size)); clear hba)
      | (go_at_call 33; with_reducible refine (KE.out _ HC.out).mono ?_; rintro e wa ⟨rfl, hba⟩; have HC := Lib.hid (show Below w1.heap.size w1 wa by first | exact Below.trans HC.out (hba.mono HC.out.size) | exact Below.trans (drewR HC.out) (hba.mono HC.out.size)); clear hba)
      | (go_at_call 27; (first
          | (with_reducible refine (K0.out _ HC.out).mono ?_)
          | (with_reducible refine (K1.out _ HC.out).mono ?_)
          | (with_reducible refine (K2.out _ HC.out).mono ?_)
          | (with_reducible refine (K3.out _ HC.out).mono ?_)
          | (with_reducible refine (K4.out _ HC.out).mono ?_)
          | (with_reducible refine (K5.out _ HC.out).mono ?_)
          | (with_reducible refine (K6.out _ HC.out).mono ?_)
          | (with_reducible refine (K7.out _ HC.out).mono ?_)
          | (with_reducible refine (K8.out _ HC.out).mono ?_)); rintro e wa ⟨rfl, hba⟩; have HC := Lib.hid (show Below w1.heap.size w1 wa by first | exact Below.trans HC.out (hba.mono HC.out.size) | exact Below.trans (drewR HC.out) (hba.mono HC.out.size)); clear hba))
  all_goals
    go_wp2_with fail
    go_ret
    exact ⟨rfl, HB1.out.trans (HC.out.mono HB1.out.size)⟩
end Go.Proofs.YtceknmibopnmhaaGreatDoor
