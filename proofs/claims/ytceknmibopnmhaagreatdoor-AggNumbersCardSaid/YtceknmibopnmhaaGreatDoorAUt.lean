/-
  Layer 8: the least and the greatest. Conditions: right values.
-/
import Derived.Test.YtceknmibopnmhaaGreatDoorATal
import Derived.BigQuiet
import Derived.Deep.RegionHeld3
namespace Go.Proofs.YtceknmibopnmhaaGreatDoor
open Go.ChangeShapes Go.WideShapes Go.ChangeAt Go.RowKit Go.Maps Go.Sort Go.Shelf Go.ChangeMaps Go.Lib
set_option linter.unusedVariables false

def cmpT (t u : Trip) : Int := cmpV t.1 t.2.1 t.2.2 u.1 u.2.1 u.2.2
theorem drewR {B : Nat} {a w : World} (h : Below B a w) : Below B a w.drew := ⟨h.os, h.tape, h.output, h.size, h.block⟩
theorem set_box {w : World} {b : Nat} {cs : Array Value} {t : TypeId} {fr : Nat × Nat} (i : Nat) (v : Value) (h : w.heap[b]? = some (.cells cs t fr)) : (w.setCell ⟨b, i, none⟩ v).heap[b]? = some (.cells (cs.setIfInBounds i v) t fr) := by
  obtain ⟨hlt, hk⟩ := Array.getElem?_eq_some_iff.1 h
  show (w.heap.modify b _)[b]? = _
  rw [Array.getElem?_eq_getElem (by rw [Array.size_modify]; exact hlt), Array.getElem_modify_self, hk]
  rfl
theorem heap_set3 (w : World) (b : Nat) (v0 v1 v2 : Value) {k : Nat} (hk : k ≠ b) : (((w.setCell ⟨b, 0, none⟩ v0).setCell ⟨b, 1, none⟩ v1).setCell ⟨b, 2, none⟩ v2).heap[k]? = w.heap[k]? :=
  ((Below.heap_setCell _ ⟨b, 2, none⟩ _ k hk).trans (Below.heap_setCell _ ⟨b, 1, none⟩ _ k hk)).trans (Below.heap_setCell _ ⟨b, 0, none⟩ _ k hk)
theorem BoxT.set3 {w : World} {b : Nat} {t : Trip} (h : BoxT w b t) (k z : Int) (s : ByteArray) : BoxT (((w.setCell ⟨b, 0, none⟩ (.int .u8 k)).setCell ⟨b, 1, none⟩ (.int .i64 z)).setCell ⟨b, 2, none⟩ (.string s)) b (k, z, s) := by
  have h1 := set_box 0 (.int .u8 k) h
  have h2 := set_box 1 (.int .i64 z) h1
  have h3 := set_box 2 (.string s) h2
  exact h3.trans rfl
theorem Mn_any (o : Int) (w : World) : Calls Tryz.prog 102 #[.int .i64 o] w fun e w' => e = .returned (.bool (decide (o < 0))) ∧ w' = w := by
  go_enter Tryz.func102, Tryz.ntmps102
  go_wp2
  go_ret
  exact ⟨rfl, rfl⟩
open Classical in
noncomputable def utMn (b t : Trip) : Trip := if b.1 = 0 ∨ cmpT t b < 0 then t else b
noncomputable def bestMn (L : List Trip) : Trip := L.foldl utMn (0, 0, ⟨#[]⟩)
def StMn (b bb : Nat) (w : World) (L : List Trip) : Prop := BoxT w b (bestMn L) ∧ Boxed w bb 134 (.func (.func 102) #[] #[])
theorem Mn_stable (b bb : Nat) : Stable [b, bb] (StMn b bb) := fun w w' L h hb => ⟨(hb b (by simp) h.1.lt).trans h.1, (hb bb (by simp) h.2.lt).trans h.2⟩
set_option maxRecDepth 100000 in
set_option maxHeartbeats 1000000 in
theorem Mn_step (B b bb : Nat) (hne : b ≠ bb) : StepOk B 142 #[.pointer (some ⟨b, 0, none⟩), .pointer (some ⟨bb, 0, none⟩)] [b] (StMn b bb) := by
  intro w L ⟨k, z, s⟩ ht hL _ ⟨hst, hbf⟩
  have hsz : s.size ≤ 65536 := ht.size
  have HG := Lib.hid ht
  obtain ⟨⟨k', z', s'⟩, hbest⟩ : ∃ t, bestMn L = t := ⟨_, rfl⟩
  rw [hbest] at hst
  have HN : bestMn (L ++ [(k, z, s)]) = utMn (k', z', s') (k, z, s) := by unfold bestMn; rw [List.foldl_append]; show utMn (bestMn L) _ = _; rw [hbest]
  obtain ⟨w1, hw1⟩ : ∃ w1, w.alloc (.cells #[.int .u8 k, .int .i64 z, .string s] 24) = w1 := ⟨_, rfl⟩
  have hal : Below w.heap.size w w1 := by rw [← hw1]; exact (Below.refl _ _).alloc (Nat.le_refl _) _
  have bv : BoxT w1 w.heap.size (k, z, s) := by rw [← hw1]; exact BoxT.new w (k, z, s)
  have bb1 : BoxT w1 b (k', z', s') := hst.on hal
  have bf1 : Boxed w1 bb 134 (.func (.func 102) #[] #[]) := (hal.block bb hbf.lt).trans hbf
  have hb1 : b < w.heap.size := (Array.getElem?_eq_some_iff.1 hst).1
  have FA := Lib.hid (show ∀ X : World, Below w1.heap.size w1 X → (X.cell? ⟨w.heap.size, 0, none⟩ = some (.int .u8 k) ∧ X.cell? ⟨w.heap.size, 1, none⟩ = some (.int .i64 z) ∧ X.cell? ⟨w.heap.size, 2, none⟩ = some (.string s)) ∧ (X.cell? ⟨b, 0, none⟩ = some (.int .u8 k') ∧ X.cell? ⟨b, 1, none⟩ = some (.int .i64 z') ∧ X.cell? ⟨b, 2, none⟩ = some (.string s')) ∧ X.cell? ⟨bb, 0, none⟩ = some (.func (.func 102) #[] #[]) from fun X hX =>
    ⟨(bv.on hX).cells, (bb1.on hX).cells, Boxed.cell (show Boxed X bb _ _ from (hX.block bb bf1.lt).trans bf1)⟩)
  have HBX := Lib.hid (Below.refl w1.heap.size w1)
  obtain ⟨⟨x0, x1, x2⟩, ⟨y0, y1, y2⟩, p0⟩ := FA.out w1 HBX.out
  have HALL := Lib.hid hal
  have HST := Lib.hid bb1
  have HBF := Lib.hid bf1
  have HBV := Lib.hid bv
  have HNN := Lib.hid HN
  clear hbest hst hbf HN bv bb1 bf1 hal ht
  show Calls Tryz.prog 142 #[vv k z s, .pointer (some ⟨b, 0, none⟩), .pointer (some ⟨bb, 0, none⟩)] w _
  -- the end: the best is t
  have hEnd : ∀ X : World, Below w1.heap.size w1 X → ∀ Y : World, Below X.heap.size X Y → utMn (k', z', s') (k, z, s) = (k, z, s) →
      StMn b bb ((((Y.setCell ⟨b, 0, none⟩ (.int .u8 k)).setCell ⟨b, 1, none⟩ (.int .i64 z)).setCell ⟨b, 2, none⟩ (.string s))) (L ++ [(k, z, s)]) ∧ Keep (· ∈ [b]) w ((((Y.setCell ⟨b, 0, none⟩ (.int .u8 k)).setCell ⟨b, 1, none⟩ (.int .i64 z)).setCell ⟨b, 2, none⟩ (.string s))) := by
    intro X hX Y hY hu
    have hY1 : Below w1.heap.size w1 Y := hX.trans (hY.mono hX.size)
    refine ⟨⟨?_, ?_⟩, ?_⟩
    · rw [HNN.out, hu]
      exact (HST.out.on hY1).set3 _ _ _
    · exact (heap_set3 _ _ _ _ _ (fun e => hne e.symm)).trans ((hY1.block bb HBF.out.lt).trans HBF.out)
    · exact (Keep.of_below (HALL.out.trans (hY1.mono HALL.out.size))).trans (((Keep.setCell _ _ _ (by simp)).trans (Keep.setCell _ _ _ (by simp))).trans (Keep.setCell _ _ _ (by simp)))
  by_cases hk : k' = 0
  · have hu : utMn (k', z', s') (k, z, s) = (k, z, s) := if_pos (.inl hk)
    subst hk
    go_enter Tryz.func142, Tryz.ntmps142
    go_wp2_with fail
    go_quiet (fail)
    go_wp2_with fail
    refine (own_any k z s _ hsz).mono ?_
    rintro e w2 ⟨rfl, hb2⟩
    have hX : Below w1.heap.size w1 (w1.drewN nq) := ⟨rfl, rfl, rfl, Nat.le_refl _, fun _ _ => rfl⟩
    obtain ⟨_, ⟨z0, z1, z2⟩, _⟩ := FA.out w2 (hX.trans hb2)
    obtain ⟨f0, f1, f2⟩ := (HST.out.on (hX.trans hb2)).frz
    have hE := hEnd (w1.drewN nq) hX w2 hb2 hu
    clear x0 x1 x2 y0 y1 y2 p0 hEnd
    go_wp2_with fail
    go_end0
    exact ⟨rfl, hE⟩
  · have hkb : (k' == 0) = false := by simpa using hk
    have HU := Lib.hid (show ∀ c, cmpT (k, z, s) (k', z', s') = c → (c < 0 → utMn (k', z', s') (k, z, s) = (k, z, s)) ∧ (¬ (c < 0) → utMn (k', z', s') (k, z, s) = (k', z', s')) from fun c hc => ⟨fun h => if_pos (.inr (by rw [hc]; exact h)), fun h => if_neg (fun h2 => h2.elim hk (by rw [hc]; exact h))⟩)
    obtain ⟨c, hc⟩ : ∃ c, cmpT (k, z, s) (k', z', s') = c := ⟨_, rfl⟩
    obtain ⟨hu1, hu2⟩ := HU.out c hc
    have HU1 := Lib.hid hu1
    have HU2 := Lib.hid hu2
    have HC := Lib.hid (show cmpV k z s k' z' s' = c from hc)
    have HEND := Lib.hid hEnd
    clear hc hu1 hu2 hEnd
    go_enter Tryz.func142, Tryz.ntmps142
    go_wp2_with fail
    go_region_held3 (fun X => (X.cell? ⟨w.heap.size, 0, none⟩ = some (.int .u8 k) ∧ X.cell? ⟨w.heap.size, 1, none⟩ = some (.int .i64 z) ∧ X.cell? ⟨w.heap.size, 2, none⟩ = some (.string s)) ∧ (X.cell? ⟨b, 0, none⟩ = some (.int .u8 k') ∧ X.cell? ⟨b, 1, none⟩ = some (.int .i64 z') ∧ X.cell? ⟨b, 2, none⟩ = some (.string s')) ∧ X.cell? ⟨bb, 0, none⟩ = some (.func (.func 102) #[] #[]))
      (first | exact FA.out _ HBX.out | exact FA.out _ (drewR HBX.out))
      (first
        | (go_at_call 67; refine (Compare_any _ _ _ _ _ _ _).mono ?_; rintro e w2 ⟨rfl, hb2⟩; rw [HC.out]; have HBX := Lib.hid ((drewR HBX.out).trans (hb2.mono HBX.out.size)); clear hb2)
        | (go_at_call 102; refine (Mn_any _ _).mono ?_; rintro e w3 ⟨rfl, rfl⟩))
    by_cases hcn : c < 0
    · have hcd : decide (c < 0) = true := decide_eq_true hcn
      have hE0 := HU1.out hcn
      go_wp2_with fail
      refine (own_any k z s _ hsz).mono ?_
      rintro e w4 ⟨rfl, hb4⟩
      have h4 := HBX.out.trans (hb4.mono HBX.out.size)
      obtain ⟨_, ⟨z0, z1, z2⟩, _⟩ := FA.out w4 h4
      obtain ⟨f0, f1, f2⟩ := (HST.out.on h4).frz
      have hE := HEND.out _ HBX.out w4 hb4 hE0
      clear x0 x1 x2 y0 y1 y2 p0 hE0
      go_wp2_with fail
      go_end0
      exact ⟨rfl, hE⟩
    · have hcd : decide (c < 0) = false := decide_eq_false hcn
      have hE0 := HU2.out (by omega)
      go_wp2_with fail
      go_end0
      refine ⟨rfl, ⟨?_, ?_⟩, Keep.of_below (HALL.out.trans (HBX.out.mono HALL.out.size))⟩
      · rw [HNN.out, hE0]
        exact HST.out.on HBX.out
      · exact (HBX.out.block bb HBF.out.lt).trans HBF.out
theorem Mn_fin (B b bb : Nat) : FinOk B 144 #[.pointer (some ⟨b, 0, none⟩)] (StMn b bb) (fun L => (bestMn L, 0)) := by
  intro w L hL _ ⟨hst, _⟩
  obtain ⟨⟨k, z, s⟩, hbest⟩ : ∃ t, bestMn L = t := ⟨_, rfl⟩
  rw [hbest] at hst
  show Calls _ _ _ _ (fun e w' => e = .returned (.tuple #[vvT (bestMn L), .int .i64 0]) ∧ _)
  rw [hbest]
  have b2 := (BoxT.new w (0, 0, ⟨#[]⟩))
  have hal : Below w.heap.size w (w.alloc (.cells #[.int .u8 0, .int .i64 0, .string ⟨#[]⟩] 24)) := (Below.refl _ w).alloc (Nat.le_refl _) _
  obtain ⟨x0, x1, x2⟩ := (hst.on hal).cells
  dsimp only at x0 x1 x2
  clear hst b2 hbest
  go_enter Tryz.func144, Tryz.ntmps144
  go_wp2_with fail
  refine bodyPost_ret (v := .tuple #[vv k z s, .int .i64 0]) (by simp [results, Tryz.results144, go_sem]) rfl ⟨rfl, ?_⟩
  exact (Below.refl _ w).alloc (Nat.le_refl _) _
theorem Mx_any (o : Int) (w : World) : Calls Tryz.prog 103 #[.int .i64 o] w fun e w' => e = .returned (.bool (decide (0 < o))) ∧ w' = w := by
  go_enter Tryz.func103, Tryz.ntmps103
  go_wp2
  go_ret
  exact ⟨rfl, rfl⟩
open Classical in
noncomputable def utMx (b t : Trip) : Trip := if b.1 = 0 ∨ 0 < cmpT t b then t else b
noncomputable def bestMx (L : List Trip) : Trip := L.foldl utMx (0, 0, ⟨#[]⟩)
def StMx (b bb : Nat) (w : World) (L : List Trip) : Prop := BoxT w b (bestMx L) ∧ Boxed w bb 134 (.func (.func 103) #[] #[])
theorem Mx_stable (b bb : Nat) : Stable [b, bb] (StMx b bb) := fun w w' L h hb => ⟨(hb b (by simp) h.1.lt).trans h.1, (hb bb (by simp) h.2.lt).trans h.2⟩
set_option maxRecDepth 100000 in
set_option maxHeartbeats 1000000 in
theorem Mx_step (B b bb : Nat) (hne : b ≠ bb) : StepOk B 142 #[.pointer (some ⟨b, 0, none⟩), .pointer (some ⟨bb, 0, none⟩)] [b] (StMx b bb) := by
  intro w L ⟨k, z, s⟩ ht hL _ ⟨hst, hbf⟩
  have hsz : s.size ≤ 65536 := ht.size
  have HG := Lib.hid ht
  obtain ⟨⟨k', z', s'⟩, hbest⟩ : ∃ t, bestMx L = t := ⟨_, rfl⟩
  rw [hbest] at hst
  have HN : bestMx (L ++ [(k, z, s)]) = utMx (k', z', s') (k, z, s) := by unfold bestMx; rw [List.foldl_append]; show utMx (bestMx L) _ = _; rw [hbest]
  obtain ⟨w1, hw1⟩ : ∃ w1, w.alloc (.cells #[.int .u8 k, .int .i64 z, .string s] 24) = w1 := ⟨_, rfl⟩
  have hal : Below w.heap.size w w1 := by rw [← hw1]; exact (Below.refl _ _).alloc (Nat.le_refl _) _
  have bv : BoxT w1 w.heap.size (k, z, s) := by rw [← hw1]; exact BoxT.new w (k, z, s)
  have bb1 : BoxT w1 b (k', z', s') := hst.on hal
  have bf1 : Boxed w1 bb 134 (.func (.func 103) #[] #[]) := (hal.block bb hbf.lt).trans hbf
  have hb1 : b < w.heap.size := (Array.getElem?_eq_some_iff.1 hst).1
  have FA := Lib.hid (show ∀ X : World, Below w1.heap.size w1 X → (X.cell? ⟨w.heap.size, 0, none⟩ = some (.int .u8 k) ∧ X.cell? ⟨w.heap.size, 1, none⟩ = some (.int .i64 z) ∧ X.cell? ⟨w.heap.size, 2, none⟩ = some (.string s)) ∧ (X.cell? ⟨b, 0, none⟩ = some (.int .u8 k') ∧ X.cell? ⟨b, 1, none⟩ = some (.int .i64 z') ∧ X.cell? ⟨b, 2, none⟩ = some (.string s')) ∧ X.cell? ⟨bb, 0, none⟩ = some (.func (.func 103) #[] #[]) from fun X hX =>
    ⟨(bv.on hX).cells, (bb1.on hX).cells, Boxed.cell (show Boxed X bb _ _ from (hX.block bb bf1.lt).trans bf1)⟩)
  have HBX := Lib.hid (Below.refl w1.heap.size w1)
  obtain ⟨⟨x0, x1, x2⟩, ⟨y0, y1, y2⟩, p0⟩ := FA.out w1 HBX.out
  have HALL := Lib.hid hal
  have HST := Lib.hid bb1
  have HBF := Lib.hid bf1
  have HBV := Lib.hid bv
  have HNN := Lib.hid HN
  clear hbest hst hbf HN bv bb1 bf1 hal ht
  show Calls Tryz.prog 142 #[vv k z s, .pointer (some ⟨b, 0, none⟩), .pointer (some ⟨bb, 0, none⟩)] w _
  -- the end: the best is t
  have hEnd : ∀ X : World, Below w1.heap.size w1 X → ∀ Y : World, Below X.heap.size X Y → utMx (k', z', s') (k, z, s) = (k, z, s) →
      StMx b bb ((((Y.setCell ⟨b, 0, none⟩ (.int .u8 k)).setCell ⟨b, 1, none⟩ (.int .i64 z)).setCell ⟨b, 2, none⟩ (.string s))) (L ++ [(k, z, s)]) ∧ Keep (· ∈ [b]) w ((((Y.setCell ⟨b, 0, none⟩ (.int .u8 k)).setCell ⟨b, 1, none⟩ (.int .i64 z)).setCell ⟨b, 2, none⟩ (.string s))) := by
    intro X hX Y hY hu
    have hY1 : Below w1.heap.size w1 Y := hX.trans (hY.mono hX.size)
    refine ⟨⟨?_, ?_⟩, ?_⟩
    · rw [HNN.out, hu]
      exact (HST.out.on hY1).set3 _ _ _
    · exact (heap_set3 _ _ _ _ _ (fun e => hne e.symm)).trans ((hY1.block bb HBF.out.lt).trans HBF.out)
    · exact (Keep.of_below (HALL.out.trans (hY1.mono HALL.out.size))).trans (((Keep.setCell _ _ _ (by simp)).trans (Keep.setCell _ _ _ (by simp))).trans (Keep.setCell _ _ _ (by simp)))
  by_cases hk : k' = 0
  · have hu : utMx (k', z', s') (k, z, s) = (k, z, s) := if_pos (.inl hk)
    subst hk
    go_enter Tryz.func142, Tryz.ntmps142
    go_wp2_with fail
    go_quiet (fail)
    go_wp2_with fail
    refine (own_any k z s _ hsz).mono ?_
    rintro e w2 ⟨rfl, hb2⟩
    have hX : Below w1.heap.size w1 (w1.drewN nq) := ⟨rfl, rfl, rfl, Nat.le_refl _, fun _ _ => rfl⟩
    obtain ⟨_, ⟨z0, z1, z2⟩, _⟩ := FA.out w2 (hX.trans hb2)
    obtain ⟨f0, f1, f2⟩ := (HST.out.on (hX.trans hb2)).frz
    have hE := hEnd (w1.drewN nq) hX w2 hb2 hu
    clear x0 x1 x2 y0 y1 y2 p0 hEnd
    go_wp2_with fail
    go_end0
    exact ⟨rfl, hE⟩
  · have hkb : (k' == 0) = false := by simpa using hk
    have HU := Lib.hid (show ∀ c, cmpT (k, z, s) (k', z', s') = c → (0 < c → utMx (k', z', s') (k, z, s) = (k, z, s)) ∧ (¬ (0 < c) → utMx (k', z', s') (k, z, s) = (k', z', s')) from fun c hc => ⟨fun h => if_pos (.inr (by rw [hc]; exact h)), fun h => if_neg (fun h2 => h2.elim hk (by rw [hc]; exact h))⟩)
    obtain ⟨c, hc⟩ : ∃ c, cmpT (k, z, s) (k', z', s') = c := ⟨_, rfl⟩
    obtain ⟨hu1, hu2⟩ := HU.out c hc
    have HU1 := Lib.hid hu1
    have HU2 := Lib.hid hu2
    have HC := Lib.hid (show cmpV k z s k' z' s' = c from hc)
    have HEND := Lib.hid hEnd
    clear hc hu1 hu2 hEnd
    go_enter Tryz.func142, Tryz.ntmps142
    go_wp2_with fail
    go_region_held3 (fun X => (X.cell? ⟨w.heap.size, 0, none⟩ = some (.int .u8 k) ∧ X.cell? ⟨w.heap.size, 1, none⟩ = some (.int .i64 z) ∧ X.cell? ⟨w.heap.size, 2, none⟩ = some (.string s)) ∧ (X.cell? ⟨b, 0, none⟩ = some (.int .u8 k') ∧ X.cell? ⟨b, 1, none⟩ = some (.int .i64 z') ∧ X.cell? ⟨b, 2, none⟩ = some (.string s')) ∧ X.cell? ⟨bb, 0, none⟩ = some (.func (.func 103) #[] #[]))
      (first | exact FA.out _ HBX.out | exact FA.out _ (drewR HBX.out))
      (first
        | (go_at_call 67; refine (Compare_any _ _ _ _ _ _ _).mono ?_; rintro e w2 ⟨rfl, hb2⟩; rw [HC.out]; have HBX := Lib.hid ((drewR HBX.out).trans (hb2.mono HBX.out.size)); clear hb2)
        | (go_at_call 103; refine (Mx_any _ _).mono ?_; rintro e w3 ⟨rfl, rfl⟩))
    by_cases hcn : 0 < c
    · have hcd : decide (0 < c) = true := decide_eq_true hcn
      have hE0 := HU1.out hcn
      go_wp2_with fail
      refine (own_any k z s _ hsz).mono ?_
      rintro e w4 ⟨rfl, hb4⟩
      have h4 := HBX.out.trans (hb4.mono HBX.out.size)
      obtain ⟨_, ⟨z0, z1, z2⟩, _⟩ := FA.out w4 h4
      obtain ⟨f0, f1, f2⟩ := (HST.out.on h4).frz
      have hE := HEND.out _ HBX.out w4 hb4 hE0
      clear x0 x1 x2 y0 y1 y2 p0 hE0
      go_wp2_with fail
      go_end0
      exact ⟨rfl, hE⟩
    · have hcd : decide (0 < c) = false := decide_eq_false hcn
      have hE0 := HU2.out (by omega)
      go_wp2_with fail
      go_end0
      refine ⟨rfl, ⟨?_, ?_⟩, Keep.of_below (HALL.out.trans (HBX.out.mono HALL.out.size))⟩
      · rw [HNN.out, hE0]
        exact HST.out.on HBX.out
      · exact (HBX.out.block bb HBF.out.lt).trans HBF.out
theorem Mx_fin (B b bb : Nat) : FinOk B 144 #[.pointer (some ⟨b, 0, none⟩)] (StMx b bb) (fun L => (bestMx L, 0)) := by
  intro w L hL _ ⟨hst, _⟩
  obtain ⟨⟨k, z, s⟩, hbest⟩ : ∃ t, bestMx L = t := ⟨_, rfl⟩
  rw [hbest] at hst
  show Calls _ _ _ _ (fun e w' => e = .returned (.tuple #[vvT (bestMx L), .int .i64 0]) ∧ _)
  rw [hbest]
  have b2 := (BoxT.new w (0, 0, ⟨#[]⟩))
  have hal : Below w.heap.size w (w.alloc (.cells #[.int .u8 0, .int .i64 0, .string ⟨#[]⟩] 24)) := (Below.refl _ w).alloc (Nat.le_refl _) _
  obtain ⟨x0, x1, x2⟩ := (hst.on hal).cells
  dsimp only at x0 x1 x2
  clear hst b2 hbest
  go_enter Tryz.func144, Tryz.ntmps144
  go_wp2_with fail
  refine bodyPost_ret (v := .tuple #[vv k z s, .int .i64 0]) (by simp [results, Tryz.results144, go_sem]) rfl ⟨rfl, ?_⟩
  exact (Below.refl _ w).alloc (Nat.le_refl _) _
end Go.Proofs.YtceknmibopnmhaaGreatDoor
