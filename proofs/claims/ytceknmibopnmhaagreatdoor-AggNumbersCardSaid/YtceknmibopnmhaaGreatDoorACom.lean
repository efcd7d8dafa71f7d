/-
  Layer 8: comes, errs, num, text. Conditions: right values, a known name.
-/
import Derived.Test.YtceknmibopnmhaaGreatDoorAOf
namespace Go.Proofs.YtceknmibopnmhaaGreatDoor
open Go.ChangeShapes Go.WideShapes Go.ChangeAt Go.RowKit Go.Maps Go.Sort Go.Shelf Go.ChangeMaps Go.Lib
set_option linter.unusedVariables false

theorem lowNumA (n : Int) (w : World) : Calls Tryz.prog 55 #[.int .i64 n] w fun e w' => e = .returned (vv 1 n ⟨#[]⟩) ∧ Below w.heap.size w w' := by
  go_enter Tryz.func55, Tryz.ntmps55
  go_wp2_with fail
  exact bodyPost_ret (v := vv 1 n ⟨#[]⟩) (by simp [results, Tryz.results55, go_sem]) rfl ⟨rfl, (Below.refl _ _).alloc (Nat.le_refl _) _⟩
theorem lowTextA (s : ByteArray) (w : World) : Calls Tryz.prog 44 #[.string s] w fun e w' => e = .returned (vv 2 0 s) ∧ Below w.heap.size w w' := by
  go_enter Tryz.func44, Tryz.ntmps44
  go_wp2_with fail
  exact bodyPost_ret (v := vv 2 0 s) (by simp [results, Tryz.results44, go_sem]) rfl ⟨rfl, (Below.refl _ _).alloc (Nat.le_refl _) _⟩
theorem numA (n : Int) (w : World) : Calls Tryz.prog 28 #[.int .i64 n] w fun e w' => e = .returned (vv 1 n ⟨#[]⟩) ∧ Below w.heap.size w w' := by
  have b2 := BoxT.new w (0, 0, ⟨#[]⟩)
  go_enter Tryz.func28, Tryz.ntmps28
  go_wp2_with fail
  refine (lowNumA _ _).mono ?_
  rintro e w3 ⟨rfl, hb⟩
  obtain ⟨y0, y1, y2⟩ := (b2.on hb).cells
  obtain ⟨v0, v1, v2⟩ := (b2.on hb).frz
  dsimp only at y0 y1 y2
  go_wp2_with fail
  refine bodyPost_ret (v := vv 1 n ⟨#[]⟩) (by simp [results, Tryz.results28, go_sem, y0, y1, y2]) rfl ⟨rfl, ?_⟩
  have hB : Below w.heap.size w w3 := ((Below.refl _ w).alloc (Nat.le_refl _) _).trans (hb.mono (by simp))
  exact ((hB.setCell (p := ⟨w.heap.size, 0, none⟩) (Nat.le_refl _) _).setCell (p := ⟨w.heap.size, 1, none⟩) (Nat.le_refl _) _).setCell (p := ⟨w.heap.size, 2, none⟩) (Nat.le_refl _) _
theorem textA (s : ByteArray) (w : World) : Calls Tryz.prog 31 #[.string s] w fun e w' => e = .returned (vv 2 0 s) ∧ Below w.heap.size w w' := by
  have b2 := BoxT.new w (0, 0, ⟨#[]⟩)
  go_enter Tryz.func31, Tryz.ntmps31
  go_wp2_with fail
  refine (lowTextA _ _).mono ?_
  rintro e w3 ⟨rfl, hb⟩
  obtain ⟨y0, y1, y2⟩ := (b2.on hb).cells
  obtain ⟨v0, v1, v2⟩ := (b2.on hb).frz
  dsimp only at y0 y1 y2
  go_wp2_with fail
  refine bodyPost_ret (v := vv 2 0 s) (by simp [results, Tryz.results31, go_sem, y0, y1, y2]) rfl ⟨rfl, ?_⟩
  have hB : Below w.heap.size w w3 := ((Below.refl _ w).alloc (Nat.le_refl _) _).trans (hb.mono (by simp))
  exact ((hB.setCell (p := ⟨w.heap.size, 0, none⟩) (Nat.le_refl _) _).setCell (p := ⟨w.heap.size, 1, none⟩) (Nat.le_refl _) _).setCell (p := ⟨w.heap.size, 2, none⟩) (Nat.le_refl _) _
theorem run_eqV (t u : Trip) (w : World) : (binOp .eql 24 (vvT t) (vvT u)).run Tryz.prog w = .ok (.bool (decide (t = u))) w := by
  have h := run_eq24 t u w
  show (Op.equal 24 (vvT t) (vvT u) >>= fun b => pure (Value.bool b)).run Tryz.prog w = _
  rw [Sem.run_bind, h]
  rfl
theorem tl_ne {a b : ByteArray} (h : ¬ a = b) : ¬ a.toList = b.toList := fun e => h (ba_ext (by rwa [ByteArray.toList_eq, ByteArray.toList_eq] at e))
set_option maxRecDepth 100000 in
set_option maxHeartbeats 1000000 in
theorem comes_any {name : ByteArray} {all d : Bool} {fin : Bool → List Trip → Trip × Int} (hn : Named name all fin) (had : (all && d) = false) (t : Trip) (w : World) (hW : Wd w) (A : Option Addr) (c : Nat) (vs : List Trip) (hvs : RdT w A vs) (hg : ∀ t ∈ vs, GoodT t) (hl : vs.length ≤ 1000) (hc : vs.length ≤ c) :
    Calls Tryz.prog 27 #[vvT t, .string name, .bool d, .slice A vs.length c] w fun e w' => e = .returned (.bool (decide ((fin d (valsOf all vs)).2 = 0) && decide ((fin d (valsOf all vs)).1 = t))) ∧ Below w.heap.size w w' := by
  obtain ⟨k, z, s⟩ := t
  obtain ⟨w1, hw1⟩ : ∃ w1, w.alloc (.cells #[.int .u8 k, .int .i64 z, .string s] 24) = w1 := ⟨_, rfl⟩
  have hal : Below w.heap.size w w1 := by rw [← hw1]; exact (Below.refl _ _).alloc (Nat.le_refl _) _
  have bv : BoxT w1 w.heap.size (k, z, s) := by rw [← hw1]; exact BoxT.new w (k, z, s)
  have HOF := Lib.hid (of_any hn had w1 (hW.on hal) A c vs (hvs.on hal) hg hl hc)
  obtain ⟨⟨⟨k', z', s'⟩, r⟩, ht⟩ : ∃ t, fin d (valsOf all vs) = t := ⟨_, rfl⟩
  rw [ht] at HOF ⊢
  dsimp only at HOF ⊢
  have HAL := Lib.hid hal
  have HBV := Lib.hid bv
  clear hal bv hn hvs hg hW
  show Calls Tryz.prog 27 #[vv k z s, .string name, .bool d, .slice A vs.length c] w _
  go_enter Tryz.func27, Tryz.ntmps27
  go_wp2_with fail
  refine HOF.out.mono ?_
  rintro e w2 ⟨rfl, hb2⟩
  obtain ⟨w3, hw3⟩ : ∃ w3, w2.alloc (.cells #[.int .u8 k', .int .i64 z', .string s'] 24) = w3 := ⟨_, rfl⟩
  have hal3 : Below w2.heap.size w2 w3 := by rw [← hw3]; exact (Below.refl _ _).alloc (Nat.le_refl _) _
  have b3 : BoxT w3 w2.heap.size (k', z', s') := by rw [← hw3]; exact BoxT.new w2 (k', z', s')
  obtain ⟨x0, x1, x2⟩ := ((HBV.out.on hb2).on hal3).cells
  obtain ⟨y0, y1, y2⟩ := b3.cells
  dsimp only at x0 x1 x2 y0 y1 y2
  have hq := run_eqV (k', z', s') (k, z, s) w3
  dsimp only [vvT, vv] at hq
  have HB := Lib.hid (HAL.out.trans ((hb2.trans (hal3.mono hb2.size)).mono HAL.out.size))
  clear hb2 hal3 b3
  by_cases hr : r = 0
  · subst hr
    clear hq
    by_cases e1 : k' = k
    · by_cases e2 : z' = z
      · by_cases e3 : s' = s
        · subst e1 e2 e3
          go_wp2_with fail
          go_ret
          exact ⟨by simp, HB.out⟩
        · have e4 := tl_ne e3
          subst e1 e2
          go_wp2_with fail
          go_ret
          exact ⟨by simp, HB.out⟩
      · subst e1
        go_wp2_with fail
        go_ret
        exact ⟨by simp, HB.out⟩
    · go_wp2_with fail
      go_ret
      exact ⟨by simp, HB.out⟩
  · have hrd : decide (r = 0) = false := decide_eq_false hr
    go_wp2_with fail
    go_ret
    exact ⟨by simp [hr], HB.out⟩
set_option maxRecDepth 100000 in
set_option maxHeartbeats 1000000 in
theorem errs_any {name : ByteArray} {all : Bool} {fin : Bool → List Trip → Trip × Int} (hn : Named name all fin) (q : Int) (w : World) (hW : Wd w) (A : Option Addr) (c : Nat) (vs : List Trip) (hvs : RdT w A vs) (hg : ∀ t ∈ vs, GoodT t) (hl : vs.length ≤ 1000) (hc : vs.length ≤ c) :
    Calls Tryz.prog 33 #[.int .i64 q, .string name, .slice A vs.length c] w fun e w' => e = .returned (.bool (decide ((fin false (valsOf all vs)).2 = q) && decide ((fin false (valsOf all vs)).1 = (0, 0, ⟨#[]⟩)))) ∧ Below w.heap.size w w' := by
  have HOF := Lib.hid (of_any hn (d := false) (by cases all <;> rfl) w hW A c vs hvs hg hl hc)
  obtain ⟨⟨⟨k', z', s'⟩, r⟩, ht⟩ : ∃ t, fin false (valsOf all vs) = t := ⟨_, rfl⟩
  rw [ht] at HOF ⊢
  dsimp only at HOF ⊢
  clear hn hvs hg hW
  go_enter Tryz.func33, Tryz.ntmps33
  go_wp2_with fail
  refine HOF.out.mono ?_
  rintro e w2 ⟨rfl, hb2⟩
  obtain ⟨w3, hw3⟩ : ∃ w3, w2.alloc (.cells #[.int .u8 k', .int .i64 z', .string s'] 24) = w3 := ⟨_, rfl⟩
  have hal3 : Below w2.heap.size w2 w3 := by rw [← hw3]; exact (Below.refl _ _).alloc (Nat.le_refl _) _
  have b3 : BoxT w3 w2.heap.size (k', z', s') := by rw [← hw3]; exact BoxT.new w2 (k', z', s')
  obtain ⟨y0, y1, y2⟩ := b3.cells
  dsimp only at y0 y1 y2
  have hq := run_eqV (k', z', s') (0, 0, ⟨#[]⟩) w3
  dsimp only [vvT, vv] at hq
  have HB := Lib.hid (hb2.trans (hal3.mono hb2.size))
  clear hb2 hal3 b3
  go_upto_region 2 with (fail)
  clear hw3
  by_cases hr : r = q
  · subst hr
    clear hq
    by_cases e1 : k' = 0
    · by_cases e2 : z' = 0
      · by_cases e3 : s' = (⟨#[]⟩ : ByteArray)
        · subst e1 e2 e3
          have e6 : (⟨#[]⟩ : ByteArray).toList = [] := by simp [ByteArray.toList_eq]
          go_wp2_with fail
          go_ret
          exact ⟨by simp, HB.out⟩
        · have e4 := tl_ne e3
          have e5 : ¬ s'.toList = [] := fun h => e4 (h.trans (by simp [ByteArray.toList_eq]))
          subst e1 e2
          go_wp2_with fail
          go_ret
          exact ⟨by simp, HB.out⟩
      · subst e1
        go_wp2_with fail
        go_ret
        exact ⟨by simp, HB.out⟩
    · go_wp2_with fail
      go_ret
      exact ⟨by simp, HB.out⟩
  · have hrd : decide (r = q) = false := decide_eq_false hr
    go_wp2_with fail
    go_ret
    exact ⟨by simp [hr], HB.out⟩
end Go.Proofs.YtceknmibopnmhaaGreatDoor
