/-
  Layer 8: joining: what it comes to, and its begin. Conditions: right values.
-/
import Derived.Test.YtceknmibopnmhaaGreatDoorAJnd
namespace Go.Proofs.YtceknmibopnmhaaGreatDoor
open Go.ChangeShapes Go.WideShapes Go.ChangeAt Go.RowKit Go.Maps Go.Sort Go.Shelf Go.ChangeMaps Go.Lib
set_option linter.unusedVariables false

theorem jfold_sub (d : Bool) (P : Trip → Prop) : ∀ (L : List Trip) (x : Int × List Trip), (∀ t ∈ x.2, P t) → (∀ t ∈ L, P t) → ∀ t ∈ (L.foldl (jstep d) x).2, P t
  | [], _, h, _ => h
  | u :: L, x, h, hL => by
    rw [List.foldl_cons]
    refine jfold_sub d P L _ (fun t ht => ?_) fun t ht => hL t (List.mem_cons_of_mem _ ht)
    unfold jstep at ht
    split at ht
    · exact h t ht
    · rcases List.mem_append.1 ht with ht | ht
      · exact h t ht
      · rw [List.mem_singleton.1 ht]
        exact hL u List.mem_cons_self
theorem jst_sub (d : Bool) (L : List Trip) (P : Trip → Prop) (h : ∀ t ∈ L, P t) : ∀ t ∈ (jst d L).2, P t := jfold_sub d P L _ (by simp) h
/-- group_concat -/
noncomputable def finJoin (d : Bool) (L : List Trip) : Trip × Int := if 65536 < (jst d L).1 then ((0, 0, ⟨#[]⟩), 3) else (joinV (sortT (jst d L).2), 0)
def JSg (d : Bool) (bz bd bx bm : Nat) (w : World) (L : List Trip) : Prop := JSt d bz bd bx bm w L ∧ ∀ t ∈ L, GoodT t
theorem jg_stable (d : Bool) (bz bd bx bm : Nat) : Stable [bz, bd, bx, bm] (JSg d bz bd bx bm) := fun w w' L h hb => ⟨j_stable d bz bd bx bm w w' L h.1 hb, h.2⟩
theorem jg_step (B : Nat) (d : Bool) (bz bd bx bm : Nat) (h1 : bz ≠ bd) (h2 : bz ≠ bx) (h3 : bz ≠ bm) (h4 : bd ≠ bx) (h5 : bd ≠ bm) (h6 : bx ≠ bm) (hB : B ≤ bm) :
    StepOk B 145 #[.pointer (some ⟨bz, 0, none⟩), .pointer (some ⟨bd, 0, none⟩), .pointer (some ⟨bx, 0, none⟩)] [bz, bx, bm] (JSg d bz bd bx bm) := fun w L t ht hL hwd hst =>
  (j_step B d bz bd bx bm h1 h2 h3 h4 h5 h6 hB w L t ht hL hwd hst.1).mono fun e w' ⟨he, hj, hk⟩ => ⟨he, ⟨hj, fun u hu => by
    rcases List.mem_append.1 hu with hu | hu
    · exact hst.2 u hu
    · rw [List.mem_singleton.1 hu]; exact ht⟩, hk⟩
theorem j_fin (B : Nat) (d : Bool) (bz bd bx bm : Nat) : FinOk B 146 #[.pointer (some ⟨bz, 0, none⟩), .pointer (some ⟨bx, 0, none⟩)] (JSg d bz bd bx bm) (finJoin d) := by
  intro w L hL hwd ⟨⟨hz, hd, hx, hm, hlo, hhi, hlen⟩, hgl⟩
  have hgm := jst_sub d L GoodT hgl
  unfold finJoin
  obtain ⟨sz, hszv⟩ : ∃ sz, (jst d L).1 = sz := ⟨_, rfl⟩
  obtain ⟨M, hM⟩ : ∃ M, (jst d L).2 = M := ⟨_, rfl⟩
  have hxv : jst d L = (sz, M) := Prod.ext hszv hM
  rw [hxv] at hz hx hm hlo hhi hlen hgm ⊢
  dsimp only at hz hx hm hlo hhi hlen hgm ⊢
  obtain ⟨w1, hw1⟩ : ∃ w1, w.alloc (.cells #[.int .u8 0, .int .i64 0, .string ⟨#[]⟩] 24) = w1 := ⟨_, rfl⟩
  have hal : Below w.heap.size w w1 := by rw [← hw1]; exact (Below.refl _ _).alloc (Nat.le_refl _) _
  have hres : BoxT w1 w.heap.size (0, 0, ⟨#[]⟩) := by rw [← hw1]; exact BoxT.new w (0, 0, ⟨#[]⟩)
  have hz1 : Boxed w1 bz 3 (.int .i64 sz) := (hal.block bz hz.lt).trans hz
  have cz := hz1.cell
  by_cases hbig : 65536 < sz
  · rw [if_pos hbig]
    obtain ⟨x0, x1, x2⟩ := hres.cells
    obtain ⟨f0, f1, f2⟩ := hres.frz
    dsimp only at x0 x1 x2
    clear hx hm
    go_enter Tryz.func146, Tryz.ntmps146
    go_wp2_with fail
    refine bodyPost_ret (v := .tuple #[vv 0 0 ⟨#[]⟩, .int .i64 3]) (by simp [results, Tryz.results146, go_sem, x0, x1, x2]) rfl ⟨rfl, ?_⟩
    exact ((hal.setCell (p := ⟨w.heap.size, 0, none⟩) (Nat.le_refl _) _).setCell (p := ⟨w.heap.size, 1, none⟩) (Nat.le_refl _) _).setCell (p := ⟨w.heap.size, 2, none⟩) (Nat.le_refl _) _
  · rw [if_neg hbig]
    rw [if_neg hbig] at hx
    have hx1 : Boxed w1 bx 157 (.map (some bm)) := (hal.block bx hx.lt).trans hx
    have cx := hx1.cell
    have hm1 := (hm (by omega)).of_block (hal.block bm)
    have hJ := joined_any B bm M w1 hm1 (by omega) hgm (hwd.on hal)
    clear hx hm
    go_enter Tryz.func146, Tryz.ntmps146
    go_wp2_with fail
    refine hJ.mono ?_
    rintro e w3 ⟨rfl, hb⟩
    obtain ⟨x0, x1, x2⟩ := (hres.on hb).cells
    obtain ⟨f0, f1, f2⟩ := (hres.on hb).frz
    dsimp only at x0 x1 x2
    obtain ⟨⟨k, z, s⟩, ht⟩ : ∃ t, joinV (sortT M) = t := ⟨_, rfl⟩
    rw [ht]
    go_wp2_with fail
    refine bodyPost_ret (v := .tuple #[vv k z s, .int .i64 0]) (by simp [results, Tryz.results146, go_sem, x0, x1, x2]) rfl ⟨by rw [ht], ?_⟩
    have hB := hal.trans (hb.mono hal.size)
    exact ((hB.setCell (p := ⟨w.heap.size, 0, none⟩) (Nat.le_refl _) _).setCell (p := ⟨w.heap.size, 1, none⟩) (Nat.le_refl _) _).setCell (p := ⟨w.heap.size, 2, none⟩) (Nat.le_refl _) _
theorem j_beg (B : Nat) : BegOk B 104 #[] [] (fun _ => True) (fun d => finJoin d) := by
  intro d w hB0 _
  show Calls Tryz.prog 104 #[.bool d] w _
  obtain ⟨w1, hw1⟩ : ∃ w1, w.alloc (.cells #[.bool d] 4) = w1 := ⟨_, rfl⟩
  have h1 : Boxed w1 w.heap.size 4 (.bool d) := by rw [← hw1]; exact Boxed.new w _ _
  have z1 : w1.heap.size = w.heap.size + 1 := by rw [← hw1]; simp
  have a1 : Below w.heap.size w w1 := by rw [← hw1]; exact (Below.refl _ _).alloc (Nat.le_refl _) _
  obtain ⟨w2, hw2⟩ : ∃ w2, w1.alloc (.cells #[.nilFunc, .nilFunc] 106) = w2 := ⟨_, rfl⟩
  have h2 : Res2 w2 (w.heap.size + 1) := by rw [← z1, ← hw2]; exact World.alloc_heap_new w1 _
  have z2 : w2.heap.size = w.heap.size + 2 := by rw [← hw2]; simp [z1]
  have a2 : Below w1.heap.size w1 w2 := by rw [← hw2]; exact (Below.refl _ _).alloc (Nat.le_refl _) _
  obtain ⟨w3, hw3⟩ : ∃ w3, w2.alloc (.map #[] 0) = w3 := ⟨_, rfl⟩
  have h3 : MapT w3 (w.heap.size + 2) [] (fun _ => .int .i64 0) := ⟨0, by rw [← z2, ← hw3]; exact World.alloc_heap_new _ _, ⟨fun p hp => by simp at hp, by simp, by simp⟩⟩
  have z3 : w3.heap.size = w.heap.size + 3 := by rw [← hw3]; simp [z2]
  have a3 : Below w2.heap.size w2 w3 := by rw [← hw3]; exact (Below.refl _ _).alloc (Nat.le_refl _) _
  obtain ⟨w4, hw4⟩ : ∃ w4, w3.alloc (.cells #[.map (some (w.heap.size + 2))] 157) = w4 := ⟨_, rfl⟩
  have h4 : Boxed w4 (w.heap.size + 3) 157 (.map (some (w.heap.size + 2))) := by rw [← z3, ← hw4]; exact Boxed.new w3 _ _
  have z4 : w4.heap.size = w.heap.size + 4 := by rw [← hw4]; simp [z3]
  have a4 : Below w3.heap.size w3 w4 := by rw [← hw4]; exact (Below.refl _ _).alloc (Nat.le_refl _) _
  obtain ⟨w5, hw5⟩ : ∃ w5, w4.alloc (.cells #[.int .i64 (-1)] 3) = w5 := ⟨_, rfl⟩
  have h5 : Boxed w5 (w.heap.size + 4) 3 (.int .i64 (-1)) := by rw [← z4, ← hw5]; exact Boxed.new w4 _ _
  have z5 : w5.heap.size = w.heap.size + 5 := by rw [← hw5]; simp [z4]
  have a5 : Below w4.heap.size w4 w5 := by rw [← hw5]; exact (Below.refl _ _).alloc (Nat.le_refl _) _
  have hr5 : Res2 w5 (w.heap.size + 1) := ((h2.on a3).on a4).on a5
  obtain ⟨⟨x0, x1⟩, f0, f1⟩ := hr5.facts
  obtain ⟨s0, s1⟩ := store2 (v0 := .func (.func 145) #[] #[.pointer (some ⟨w.heap.size + 4, 0, none⟩), .pointer (some ⟨w.heap.size, 0, none⟩), .pointer (some ⟨w.heap.size + 3, 0, none⟩)]) (v1 := .func (.func 146) #[] #[.pointer (some ⟨w.heap.size + 4, 0, none⟩), .pointer (some ⟨w.heap.size + 3, 0, none⟩)]) rfl rfl x0 x1 f0 f1
  have hB : Below w.heap.size w w5 := a1.trans ((a2.trans ((a3.trans ((a4.trans (a5.mono a4.size)).mono a3.size)).mono a2.size)).mono a1.size)
  have hS : JSg d (w.heap.size + 4) w.heap.size (w.heap.size + 3) (w.heap.size + 2) w5 [] := by
    refine ⟨?_, fun t ht => by simp at ht⟩
    unfold JSt
    rw [show jst d [] = ((-1 : Int), ([] : List Trip)) from rfl]
    dsimp only
    rw [if_neg (by decide)]
    have b1 : Boxed w5 w.heap.size 4 (.bool d) := (a5.block _ (by omega)).trans ((a4.block _ (by omega)).trans ((a3.block _ (by omega)).trans ((a2.block _ (by omega)).trans h1)))
    refine ⟨h5, b1, (a5.block _ (by omega)).trans h4, fun _ => ⟨[], (h3.on a4).on a5, fun t => by simp, Nat.le_refl _⟩, by omega, by omega, Nat.le_refl _⟩
  have HB := Lib.hid hB
  have HS := Lib.hid hS
  clear h1 h2 h3 h4 h5 a1 a2 a3 a4 a5 hr5 hB hS
  have hmm := @run_makeMap Tryz.prog
  go_enter Tryz.func104, Tryz.ntmps104
  go_wp2_with fail
  refine bodyPost_ret (v := .agg #[.func (.func 145) #[] #[.pointer (some ⟨w.heap.size + 4, 0, none⟩), .pointer (some ⟨w.heap.size, 0, none⟩), .pointer (some ⟨w.heap.size + 3, 0, none⟩)], .func (.func 146) #[] #[.pointer (some ⟨w.heap.size + 4, 0, none⟩), .pointer (some ⟨w.heap.size + 3, 0, none⟩)]]) (by simp [results, Tryz.results104, go_sem, x0, x1]) rfl ?_
  refine ⟨_, _, [w.heap.size + 4, w.heap.size + 3, w.heap.size + 2], [w.heap.size + 4, w.heap.size, w.heap.size + 3, w.heap.size + 2], rfl, ⟨_, _, _, _, JSg d (w.heap.size + 4) w.heap.size (w.heap.size + 3) (w.heap.size + 2), rfl, rfl, enters_of Tryz.func145 (by kernel_rfl) rfl, enters_of Tryz.func146 (by kernel_rfl) rfl, jg_step B d _ _ _ _ (by omega) (by omega) (by omega) (by omega) (by omega) (by omega) (by omega), j_fin B d _ _ _ _, jg_stable d _ _ _ _, jg_stable d _ _ _ _ w5 _ [] HS.out fun b hb hlt => set2_block _ _ _ _ fun e => ?_⟩, fun b hb => ?_, fun b hb => ?_, ?_⟩
  · simp only [List.mem_cons, List.mem_nil_iff, or_false] at hb
    omega
  · simp only [List.mem_cons, List.mem_nil_iff, or_false] at hb
    simp only [World.size_setCell]
    omega
  · simp only [List.mem_cons, List.mem_nil_iff, or_false] at hb
    simp only [World.size_setCell]
    omega
  · exact (HB.out.setCell (p := ⟨w.heap.size + 1, 0, none⟩) (Nat.le_succ _) _).setCell (p := ⟨w.heap.size + 1, 1, none⟩) (Nat.le_succ _) _
end Go.Proofs.YtceknmibopnmhaaGreatDoor
