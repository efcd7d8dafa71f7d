/-
  Layer 8: of a distinct total, the first one alone of values that are the same. Conditions: right values.
-/
import Derived.Test.YtceknmibopnmhaaGreatDoorASum
namespace Go.Proofs.YtceknmibopnmhaaGreatDoor
open Go.ChangeShapes Go.WideShapes Go.ChangeAt Go.RowKit Go.Maps Go.Sort Go.Shelf Go.ChangeMaps Go.Lib
set_option linter.unusedVariables false

open Classical in
/-- each value once, as it came first -/
noncomputable def ded (L : List Trip) : List Trip := L.foldl (fun acc t => if t ∈ acc then acc else acc ++ [t]) []
open Classical in
theorem ded_snoc (L : List Trip) (t : Trip) : ded (L ++ [t]) = if t ∈ ded L then ded L else ded L ++ [t] := by
  unfold ded
  rw [List.foldl_append]
  rfl
theorem ded_old {L : List Trip} {t : Trip} (h : t ∈ ded L) : ded (L ++ [t]) = ded L := by rw [ded_snoc, if_pos h]
theorem ded_new {L : List Trip} {t : Trip} (h : t ∉ ded L) : ded (L ++ [t]) = ded L ++ [t] := by rw [ded_snoc, if_neg h]
theorem ded_len : ∀ (n : Nat) (L : List Trip), L.length = n → (ded L).length ≤ L.length := by
  intro n
  induction n with
  | zero =>
    intro L h
    obtain rfl := List.length_eq_zero_iff.1 h
    exact Nat.le_refl _
  | succ n ih =>
    intro L h
    obtain ⟨M, t, rfl⟩ : ∃ M t, L = M ++ [t] := ⟨L.dropLast, L.getLast (by intro e; subst e; simp at h), (List.dropLast_concat_getLast _).symm⟩
    have h1 := ih M (by simpa using h)
    rw [ded_snoc]
    split <;> simp <;> omega
theorem MapT.lt {w : World} {b : Nat} {E : List (Trip × Nat)} {f : Trip → Value} (h : MapT w b E f) : b < w.heap.size := by
  obtain ⟨ck, h1, _⟩ := h
  exact (Array.getElem?_eq_some_iff.1 h1).1
theorem MapT.of_block {w w' : World} {b : Nat} {E : List (Trip × Nat)} {f : Trip → Value} (h : MapT w b E f) (hb : w'.heap[b]? = w.heap[b]?) : MapT w' b E f := by
  obtain ⟨ck, h1, h2⟩ := h
  exact ⟨ck, hb.trans h1, h2⟩
theorem Keep.put (w : World) (b : Nat) (o : Obj) : Keep (· = b) w (setBlock w b o) :=
  ⟨rfl, rfl, rfl, by simp [setBlock], fun k _ hn => by simp [setBlock, show ¬ b = k from fun e => hn e.symm]⟩
/-- a new key, in a region that draws its order -/
theorem step_insT {W : World} {ops : Array Oper} {o : Oper} {a : Act} {K : Act → World → Prop} {Q : Exit → Act → World → Prop} {E' : Prop} (hgd : o.guard = none) (mt et : TypeId) (hmt : Tryz.prog.underlying mt = some (.map 24 et)) (m x v : Operand)
    (hop : o.op = Op.mapUpdate mt m x v) (b : Nat) (E : List (Trip × Nat)) (f : Trip → Value) (t : Trip) (hm : a.eval m = .map (some b)) (hx : a.eval x = vvT t) (hv : a.eval v = f t) (hmap : MapT W b E f) (ht : t ∉ E.map Prod.fst)
    (h : ∀ ck w', MapT w' b (E ++ [(t, ck)]) f → Keep (· = b) W w' → K (a.put o.dst undef) w') :
    if Region.wanted o (yielded ops a.tmps) = true then Oper.wp Tryz.prog o a W K Q else E' := by
  have hw : Region.wanted o (yielded ops a.tmps) = true := by simp [Region.wanted, hgd]
  rw [if_pos hw]
  obtain ⟨ob, ck, hrun, hm2⟩ := run_insT mt et hmt W b E f hmap t ht
  unfold Oper.wp
  simp [execOp, hop, hm, hx, hv, hrun, Result.andThen]
  exact h ck _ hm2 (Keep.put W b ob)
def unitF (_ : Trip) : Value := .agg #[]
theorem zero_unit (w : World) : (zeroValue 170).run Tryz.prog w = .ok (.agg #[]) w := Tryz.zeroValue170 w
/-- the wrapper's state -/
def DisSt (g : Nat) (cb : Array Value) (St : World → List Trip → Prop) (bm bx bp : Nat) (w : World) (L : List Trip) : Prop :=
  (∃ E, MapT w bm E unitF ∧ E.map Prod.fst = ded L) ∧ Boxed w bx 169 (.map (some bm)) ∧ Boxed w bp 104 (.func (.func g) #[] cb) ∧ St w (ded L)
theorem dis_stable {g : Nat} {cb : Array Value} {St : World → List Trip → Prop} {rs : List Nat} (hS : Stable rs St) (bm bx bp : Nat) : Stable (bm :: bx :: bp :: rs) (DisSt g cb St bm bx bp) := fun w w' L ⟨⟨E, h1, h2⟩, h3, h4, h5⟩ hb =>
  ⟨⟨E, h1.of_block (hb bm (by simp) h1.lt), h2⟩, (hb bx (by simp) h3.lt).trans h3, (hb bp (by simp) h4.lt).trans h4, hS w w' _ h5 fun b h => hb b (by simp [h])⟩
set_option maxRecDepth 100000 in
set_option maxHeartbeats 1000000 in
theorem dis_step {B g : Nat} {cb : Array Value} {St : World → List Trip → Prop} {bs rs : List Nat} (eg : ∀ args w, (callFunc g args).run Tryz.prog w = .ok (.enter g args) w) (hstep : StepOk B g cb bs St) (hS : Stable rs St) {bm bx bp : Nat} (hB : B ≤ bm)
    (h1 : bm ∉ bs) (h2 : bx ∉ bs) (h3 : bp ∉ bs) (h4 : bm ∉ rs) (h5 : bm ≠ bx) (h6 : bm ≠ bp) :
    StepOk B 159 #[.pointer (some ⟨bx, 0, none⟩), .pointer (some ⟨bp, 0, none⟩)] (bm :: bs) (DisSt g cb St bm bx bp) := by
  intro w L ⟨k, z, s⟩ ht hL hwd ⟨⟨E, hm, hE⟩, hx, hp, hst⟩
  have HWD := Lib.hid hwd
  have hsz : s.size ≤ 65536 := ht.size
  obtain ⟨w1, hw1⟩ : ∃ w1, w.alloc (.cells #[.int .u8 k, .int .i64 z, .string s] 24) = w1 := ⟨_, rfl⟩
  have hal : Below w.heap.size w w1 := by rw [← hw1]; exact (Below.refl _ _).alloc (Nat.le_refl _) _
  have bv : BoxT w1 w.heap.size (k, z, s) := by rw [← hw1]; exact BoxT.new w (k, z, s)
  have hm1 := hm.on hal
  have hx1 : Boxed w1 bx 169 (.map (some bm)) := (hal.block bx hx.lt).trans hx
  have hp1 : Boxed w1 bp 104 (.func (.func g) #[] cb) := (hal.block bp hp.lt).trans hp
  have hlk := run_lookupT 169 170 (.agg #[]) Tryz.underlying169 zero_unit w1 bm E unitF hm1 (k, z, s) true (fun _ => rfl)
  rw [if_pos rfl] at hlk
  dsimp only [vvT, unitF] at hlk
  obtain ⟨x0, x1, x2⟩ := bv.cells
  dsimp only at x0 x1 x2
  have hc := hx1.cell
  have hbml := hm.lt
  show Calls Tryz.prog 159 #[vv k z s, .pointer (some ⟨bx, 0, none⟩), .pointer (some ⟨bp, 0, none⟩)] w _
  cases hh : hasE (k, z, s) E with
  | true =>
    rw [hh] at hlk
    go_enter Tryz.func159, Tryz.ntmps159
    go_wp2_with fail
    go_end0
    have hin : (k, z, s) ∈ ded L := by rw [← hE]; exact hasE_iff.1 hh
    have hB : Below w.heap.size w (w1.alloc (.cells #[] 170)) := hal.trans ((Below.refl _ _).alloc hal.size _)
    refine ⟨rfl, ?_, Keep.of_below hB⟩
    have h := dis_stable (g := g) (cb := cb) hS bm bx bp w _ L ⟨⟨E, hm, hE⟩, hx, hp, hst⟩ fun b _ hb => hB.block b hb
    unfold DisSt at h ⊢
    rw [ded_old hin]
    exact h
  | false =>
    rw [hh] at hlk
    have hnin : (k, z, s) ∉ E.map Prod.fst := hasE_no.1 hh
    have hnd : (k, z, s) ∉ ded L := by rw [← hE]; exact hnin
    obtain ⟨w2, hw2⟩ : ∃ w2, w1.alloc (.cells #[] 170) = w2 := ⟨_, rfl⟩
    have hal2 : Below w1.heap.size w1 w2 := by rw [← hw2]; exact (Below.refl _ _).alloc (Nat.le_refl _) _
    have HM2 := Lib.hid (hm1.on hal2)
    have HV := Lib.hid bv
    have HX2 := Lib.hid (show Boxed w2 bx 169 (.map (some bm)) from (hal2.block bx hx1.lt).trans hx1)
    have HP2 := Lib.hid (show Boxed w2 bp 104 (.func (.func g) #[] cb) from (hal2.block bp hp1.lt).trans hp1)
    have HV2 := Lib.hid (bv.on hal2)
    have HB2 := Lib.hid (hal.trans (hal2.mono hal.size))
    have HST := Lib.hid hst
    have HSZ := Lib.hid hal2.size
    have FA := Lib.hid (show ∀ X : World, Below w2.heap.size w2 X → X.cell? ⟨bx, 0, none⟩ = some (.map (some bm)) ∧ (X.cell? ⟨w.heap.size, 0, none⟩ = some (.int .u8 k) ∧ X.cell? ⟨w.heap.size, 1, none⟩ = some (.int .i64 z) ∧ X.cell? ⟨w.heap.size, 2, none⟩ = some (.string s)) from fun X hX =>
      ⟨Boxed.cell (show Boxed X bx _ _ from (hX.block bx HX2.out.lt).trans HX2.out), (HV2.out.on hX).cells⟩)
    clear hal2 hm hx hp hst bv hm1 hx1 hp1
    go_enter Tryz.func159, Tryz.ntmps159
    go_wp2_with fail
    clear hlk x0 x1 x2 hc
    obtain ⟨c0, x0, x1, x2⟩ := FA.out w2 (Below.refl _ _)
    go_region_law (first
      | (go_simp; go_at_call 143; refine (own_any _ _ _ _ hsz).mono ?_; rintro e w3 ⟨rfl, hb3⟩; have HB3 := Lib.hid (show Below w2.heap.size w2 w3 from ⟨hb3.os, hb3.tape, hb3.output, hb3.size, hb3.block⟩); clear hb3; obtain ⟨c1, _⟩ := FA.out w3 HB3.out; obtain ⟨ob, ck, hrun, hm4⟩ := run_insT 169 170 Tryz.underlying169 w3 bm E unitF (HM2.out.on HB3.out) (k, z, s) hnin; dsimp only [vvT, unitF] at hrun; have HM4 := Lib.hid hm4; clear hm4))
    all_goals
      have HK4 := Lib.hid (Keep.put w3 bm ob)
      have HW3 := Lib.hid (HB2.out.trans (HB3.out.mono HB2.out.size))
      generalize setBlock w3 bm ob = w4 at *
      have HP4 := Lib.hid (show Boxed w4 bp 104 (.func (.func g) #[] cb) from (HK4.out.block bp (Nat.lt_of_lt_of_le HP2.out.lt HB3.out.size) (fun e => h6 e.symm)).trans ((HB3.out.block bp HP2.out.lt).trans HP2.out))
      have HV4 := Lib.hid (show BoxT w4 w.heap.size (k, z, s) from (HK4.out.block _ (Nat.lt_of_lt_of_le HV2.out.lt HB3.out.size) (fun e => by omega)).trans (HV2.out.on HB3.out))
      have HX4 := Lib.hid (show Boxed w4 bx 169 (.map (some bm)) from (HK4.out.block bx (Nat.lt_of_lt_of_le HX2.out.lt HB3.out.size) (fun e => h5 e.symm)).trans ((HB3.out.block bx HX2.out.lt).trans HX2.out))
      have HKW := Lib.hid (show Keep (· = bm) w w4 from (Keep.of_below HW3.out).trans HK4.out)
      have HS4 := Lib.hid (hS w w4 (ded L) HST.out fun b hb hlt => HKW.out.block b hlt fun e => h4 (e ▸ hb))
      clear hrun c0 x0 x1 x2 c1
      have q0 := HP4.out.cell
      obtain ⟨x0, x1, x2⟩ := HV4.out.cells
      dsimp only at x0 x1 x2
      go_wp2_with fail
      refine (hstep w4 (ded L) (k, z, s) ht (by have := ded_len _ L rfl; omega) (HWD.out.keep HKW.out fun j hj => by rw [hj]; exact hB) HS4.out).mono ?_
      rintro e w5 ⟨rfl, hst5, hk5⟩
      go_wp2_with fail
      go_end0
      have hk : Keep (· ∈ bm :: bs) w w5 := (HKW.out.imp fun j hj => by rw [hj]; exact List.mem_cons_self).trans (hk5.imp fun j hj => List.mem_cons_of_mem _ hj)
      refine ⟨rfl, ⟨⟨E ++ [((k, z, s), ck)], HM4.out.of_block (hk5.block bm HM4.out.lt h1), by rw [List.map_append, hE, ded_new hnd]; rfl⟩, (hk5.block bx HX4.out.lt h2).trans HX4.out, (hk5.block bp HP4.out.lt h3).trans HP4.out, by rw [ded_new hnd]; exact hst5⟩, hk⟩
theorem dis_fin {B g : Nat} {cb : Array Value} {g' : Nat} {cb' : Array Value} {St : World → List Trip → Prop} {fin : List Trip → Trip × Int} (h : FinOk B g' cb' St fin) (bm bx bp : Nat) : FinOk B g' cb' (DisSt g cb St bm bx bp) (fun L => fin (ded L)) :=
  fun w L hL hwd hst => h w (ded L) (Nat.le_trans (ded_len _ L rfl) hL) hwd hst.2.2.2
theorem onlyNew_off (g : Nat) (cb : Array Value) (w : World) : Calls Tryz.prog 133 #[.bool false, .func (.func g) #[] cb] w fun e w' => e = .returned (.func (.func g) #[] cb) ∧ Below w.heap.size w w' := by
  go_enter Tryz.func133, Tryz.ntmps133
  go_wp2_with fail
  go_ret
  exact ⟨rfl, (Below.refl _ w).alloc (Nat.le_refl _) _⟩
theorem onlyNew_on (g : Nat) (cb : Array Value) (w : World) : Calls Tryz.prog 133 #[.bool true, .func (.func g) #[] cb] w fun e w' => ∃ bm bx bp : Nat, e = .returned (.func (.func 159) #[] #[.pointer (some ⟨bx, 0, none⟩), .pointer (some ⟨bp, 0, none⟩)]) ∧
    w.heap.size ≤ bm ∧ w.heap.size ≤ bx ∧ w.heap.size ≤ bp ∧ bm ≠ bx ∧ bm ≠ bp ∧ bx ≠ bp ∧ MapT w' bm [] unitF ∧ Boxed w' bx 169 (.map (some bm)) ∧ Boxed w' bp 104 (.func (.func g) #[] cb) ∧ Below w.heap.size w w' := by
  have hmm := @run_makeMap Tryz.prog
  go_enter Tryz.func133, Tryz.ntmps133
  go_wp2_with fail
  go_ret
  have hA1 : Below w.heap.size w (w.alloc (.cells #[.func (.func g) #[] cb] 104)) := (Below.refl _ w).alloc (Nat.le_refl _) _
  have hA2 := hA1.alloc (Nat.le_succ_of_le hA1.size |> fun _ => hA1.size) (.map #[] 0)
  have b1 := Boxed.new w 104 (.func (.func g) #[] cb)
  have m1 : MapT ((w.alloc (.cells #[.func (.func g) #[] cb] 104)).alloc (.map #[] 0)) (w.heap.size + 1) [] unitF := ⟨0, by rw [show w.heap.size + 1 = (w.alloc (.cells #[.func (.func g) #[] cb] 104)).heap.size by simp]; exact World.alloc_heap_new _ _, ⟨fun p hp => by simp at hp, by simp, by simp⟩⟩
  have b3 := Boxed.new ((w.alloc (.cells #[.func (.func g) #[] cb] 104)).alloc (.map #[] 0)) 169 (.map (some (w.heap.size + 1)))
  simp only [World.size_alloc] at b3
  exact ⟨w.heap.size + 1, w.heap.size + 1 + 1, w.heap.size, rfl, by omega, by omega, by omega, by omega, by omega, by omega, m1.on ((Below.refl _ _).alloc (Nat.le_refl _) _), b3, (b1.alloc _).alloc _, ((hA1.alloc hA1.size _).alloc (Nat.le_trans hA1.size (by simp)) _)⟩
end Go.Proofs.YtceknmibopnmhaaGreatDoor
