/-
  Layer 8: the tallies, made. Conditions: right values.
-/
import Derived.Test.YtceknmibopnmhaaGreatDoorADis
namespace Go.Proofs.YtceknmibopnmhaaGreatDoor
open Go.ChangeShapes Go.WideShapes Go.ChangeAt Go.RowKit Go.Maps Go.Sort Go.Shelf Go.ChangeMaps Go.Lib
set_option linter.unusedVariables false

/-- a tally: what is done with a value, and at the end -/
def Tal (B : Nat) (w : World) (bs rs : List Nat) (sf ff : Value) (fin : List Trip → Trip × Int) (L : List Trip) : Prop :=
  ∃ g cb g' cb' St, sf = .func (.func g) #[] cb ∧ ff = .func (.func g') #[] cb' ∧ (∀ args w, (callFunc g args).run Tryz.prog w = .ok (.enter g args) w) ∧ (∀ args w, (callFunc g' args).run Tryz.prog w = .ok (.enter g' args) w) ∧
    StepOk B g cb bs St ∧ FinOk B g' cb' St fin ∧ Stable rs St ∧ St w L
/-- a tally is made -/
def BegOk (B gb : Nat) (cb : Array Value) (be : List Nat) (Bg : World → Prop) (fin : Bool → List Trip → Trip × Int) : Prop :=
  ∀ d w, B ≤ w.heap.size → Bg w → Calls Tryz.prog gb (#[.bool d] ++ cb) w fun e w' => ∃ sf ff bs rs, e = .returned (.agg #[sf, ff]) ∧ Tal B w' bs rs sf ff (fin d) [] ∧ (∀ b ∈ bs, w.heap.size ≤ b ∧ b < w'.heap.size) ∧ (∀ b ∈ rs, b < w'.heap.size ∧ (w.heap.size ≤ b ∨ b ∈ be)) ∧ Below w.heap.size w w'
/-- of a distinct one the values that came first count alone -/
noncomputable def dsel (d : Bool) (L : List Trip) : List Trip := if d then ded L else L
def finCnt (L : List Trip) : Trip × Int := ((1, (L.length : Int), ⟨#[]⟩), 0)
def Res2 (W : World) (B : Nat) : Prop := W.heap[B]? = some (.cells #[.nilFunc, .nilFunc] 106 (0, 0))
theorem Res2.facts {W : World} {B : Nat} (h : Res2 W B) : (W.cell? ⟨B, 0, none⟩ = some .nilFunc ∧ W.cell? ⟨B, 1, none⟩ = some .nilFunc) ∧ W.frozen? ⟨B, 0, none⟩ = false ∧ W.frozen? ⟨B, 1, none⟩ = false := by
  unfold Res2 at h
  refine ⟨⟨?_, ?_⟩, ?_, ?_⟩ <;> simp [World.cell?, World.frozen?, h]
theorem Res2.on {W W' : World} {B : Nat} (h : Res2 W B) (hb : Below W.heap.size W W') : Res2 W' B := (hb.block B (Array.getElem?_eq_some_iff.1 h).1).trans h
theorem set2_block (w : World) (b : Nat) (v0 v1 : Value) {k : Nat} (hk : k ≠ b) : ((w.setCell ⟨b, 0, none⟩ v0).setCell ⟨b, 1, none⟩ v1).heap[k]? = w.heap[k]? :=
  (Below.heap_setCell _ ⟨b, 1, none⟩ _ k hk).trans (Below.heap_setCell _ ⟨b, 0, none⟩ _ k hk)
theorem run_store1 {w : World} {a : Addr} {v u : Value} (hv : v.oneCell' = true) (hc : w.cell? a = some u) (hf : w.frozen? a = false) (m : Mode := .plain) : (store a v m).run Tryz.prog w = .ok () (w.setCell a v) := by
  rw [run_store Tryz.prog w a v m hv]
  simp [hc, hf]
theorem store2 {w : World} {b : Nat} {v0 v1 u0 u1 : Value} (h0 : v0.oneCell' = true) (h1 : v1.oneCell' = true) (x0 : w.cell? ⟨b, 0, none⟩ = some u0) (x1 : w.cell? ⟨b, 1, none⟩ = some u1) (f0 : w.frozen? ⟨b, 0, none⟩ = false) (f1 : w.frozen? ⟨b, 1, none⟩ = false) :
    (store ⟨b, 0, none⟩ v0).run Tryz.prog w = .ok () (w.setCell ⟨b, 0, none⟩ v0) ∧ (store ⟨b, 1, none⟩ v1).run Tryz.prog (w.setCell ⟨b, 0, none⟩ v0) = .ok () ((w.setCell ⟨b, 0, none⟩ v0).setCell ⟨b, 1, none⟩ v1) :=
  ⟨run_store1 h0 x0 f0, run_store1 h1 ((World.cell?_setCell_other _ _ _ _ (by simp)).trans x1) (by rw [World.frozen?_setCell]; exact f1)⟩
theorem dsel_off (L : List Trip) : dsel false L = L := rfl
theorem dsel_on (L : List Trip) : dsel true L = ded L := rfl
theorem onlyNew_tal (d : Bool) {B g : Nat} {cb : Array Value} {bs rs : List Nat} {St : World → List Trip → Prop} (eg : ∀ args w, (callFunc g args).run Tryz.prog w = .ok (.enter g args) w) (hstep : StepOk B g cb bs St) (hS : Stable rs St) (w : World) (hB : B ≤ w.heap.size) (h0 : St w []) (hbs : ∀ b ∈ bs, b < w.heap.size) (hrs : ∀ b ∈ rs, b < w.heap.size) :
    Calls Tryz.prog 133 #[.bool d, .func (.func g) #[] cb] w fun e w' => ∃ sg scb St' bs' rs', e = .returned (.func (.func sg) #[] scb) ∧ (∀ args w, (callFunc sg args).run Tryz.prog w = .ok (.enter sg args) w) ∧ StepOk B sg scb bs' St' ∧ Stable rs' St' ∧ St' w' [] ∧
      (∀ fg fcb fin, FinOk B fg fcb St fin → FinOk B fg fcb St' (fun L => fin (dsel d L))) ∧ (∀ b ∈ bs', b < w'.heap.size ∧ (w.heap.size ≤ b ∨ b ∈ bs)) ∧ (∀ b ∈ rs', b < w'.heap.size ∧ (w.heap.size ≤ b ∨ b ∈ rs)) ∧ Below w.heap.size w w' := by
  cases d with
  | false =>
    refine (onlyNew_off g cb w).mono ?_
    rintro e w' ⟨rfl, hb⟩
    exact ⟨g, cb, St, bs, rs, rfl, eg, hstep, hS, hS w w' [] h0 fun b _ hb' => hb.block b hb', fun fg fcb fin h => h, fun b h => ⟨Nat.lt_of_lt_of_le (hbs b h) hb.size, .inr h⟩, fun b h => ⟨Nat.lt_of_lt_of_le (hrs b h) hb.size, .inr h⟩, hb⟩
  | true =>
    refine (onlyNew_on g cb w).mono ?_
    rintro e w' ⟨bm, bx, bp, rfl, g1, g2, g3, n1, n2, n3, hm, hx, hp, hb⟩
    refine ⟨_, _, DisSt g cb St bm bx bp, bm :: bs, bm :: bx :: bp :: rs, rfl, enters_of Tryz.func159 (by kernel_rfl) rfl, dis_step eg hstep hS (Nat.le_trans hB g1) (fun h => by have := hbs _ h; omega) (fun h => by have := hbs _ h; omega) (fun h => by have := hbs _ h; omega) (fun h => by have := hrs _ h; omega) n1 n2, dis_stable hS bm bx bp, ⟨⟨[], hm, rfl⟩, hx, hp, hS w w' [] h0 fun b _ hb' => hb.block b hb'⟩, fun fg fcb fin h => dis_fin h bm bx bp, ?_, ?_, hb⟩
    · intro b h
      rcases List.mem_cons.1 h with rfl | h
      · exact ⟨hm.lt, .inl g1⟩
      · exact ⟨Nat.lt_of_lt_of_le (hbs b h) hb.size, .inr h⟩
    · intro b h
      simp only [List.mem_cons] at h
      rcases h with rfl | rfl | rfl | h
      · exact ⟨hm.lt, .inl g1⟩
      · exact ⟨hx.lt, .inl g2⟩
      · exact ⟨hp.lt, .inl g3⟩
      · exact ⟨Nat.lt_of_lt_of_le (hrs b h) hb.size, .inr h⟩
set_option maxRecDepth 100000 in
set_option maxHeartbeats 1000000 in
theorem count_beg (B : Nat) : BegOk B 98 #[] [] (fun _ => True) (fun d L => finCnt (dsel d L)) := by
  intro d w hB0 _
  show Calls Tryz.prog 98 #[.bool d] w _
  obtain ⟨w1, hw1⟩ : ∃ w1, w.alloc (.cells #[.nilFunc, .nilFunc] 106) = w1 := ⟨_, rfl⟩
  have hr1 : Res2 w1 w.heap.size := by rw [← hw1]; exact World.alloc_heap_new w _
  have hz1 : w1.heap.size = w.heap.size + 1 := by rw [← hw1]; simp
  have hal1 : Below w.heap.size w w1 := by rw [← hw1]; exact (Below.refl _ _).alloc (Nat.le_refl _) _
  obtain ⟨w2, hw2⟩ : ∃ w2, w1.alloc (.cells #[.int .i64 0] 2) = w2 := ⟨_, rfl⟩
  have hb2 : Boxed w2 w1.heap.size 2 (.int .i64 0) := by rw [← hw2]; exact Boxed.new w1 _ _
  have hal2 : Below w1.heap.size w1 w2 := by rw [← hw2]; exact (Below.refl _ _).alloc (Nat.le_refl _) _
  have hr2 : Res2 w2 w.heap.size := hr1.on hal2
  have hz2 : w2.heap.size = w.heap.size + 2 := by rw [← hw2]; simp [hz1]
  go_enter Tryz.func98, Tryz.ntmps98
  go_wp2_with fail
  refine (onlyNew_tal d (enters_of Tryz.func134 (by kernel_rfl) rfl) (count_step B (w.heap.size + 1)) (count_stable (w.heap.size + 1)) w2 (by omega) (by rw [← hz1]; exact hb2) (by simp; omega) (by simp; omega)).mono ?_
  rintro e w3 ⟨sg, scb, St, bs, rs, rfl, eg, hstep, hS, h0, hfin, hbs, hrs, hb3⟩
  obtain ⟨⟨x0, x1⟩, f0, f1⟩ := (hr2.on hb3).facts
  have HB3 := Lib.hid ((hal1.trans (hal2.mono hal1.size)).trans (hb3.mono (by omega)))
  have HF := Lib.hid hfin
  have HS := Lib.hid hS
  have H0 := Lib.hid h0
  have HBS := Lib.hid hbs
  have HRS := Lib.hid hrs
  obtain ⟨s0, s1⟩ := store2 (v0 := .func (.func sg) #[] scb) (v1 := .func (.func 135) #[] #[.pointer (some ⟨w.heap.size + 1, 0, none⟩)]) rfl rfl x0 x1 f0 f1
  clear hr1 hr2 hal1 hal2 hb2 hb3 hfin hS h0 hbs hrs
  go_wp2_with fail
  refine bodyPost_ret (v := .agg #[.func (.func sg) #[] scb, .func (.func 135) #[] #[.pointer (some ⟨w.heap.size + 1, 0, none⟩)]]) (by simp [results, Tryz.results98, go_sem, x0, x1]) rfl ?_
  refine ⟨_, _, bs, rs, rfl, ⟨sg, scb, _, _, St, rfl, rfl, eg, enters_of Tryz.func135 (by kernel_rfl) rfl, hstep, HF.out _ _ _ (count_fin B (w.heap.size + 1)), HS.out, HS.out w3 _ [] H0.out fun b hb hlt => set2_block _ _ _ _ fun e => ?_⟩, fun b hb => ?_, fun b hb => ?_, ?_⟩
  · have h := (HRS.out b hb).2
    simp only [List.mem_singleton] at h
    omega
  · have h := HBS.out b hb
    simp only [List.mem_singleton] at h
    simp only [World.size_setCell]
    omega
  · have h := HRS.out b hb
    simp only [List.mem_singleton] at h
    simp only [World.size_setCell]
    exact ⟨h.1, .inl (by omega)⟩
  · exact (HB3.out.setCell (p := ⟨w.heap.size, 0, none⟩) (Nat.le_refl _) _).setCell (p := ⟨w.heap.size, 1, none⟩) (Nat.le_refl _) _
set_option maxRecDepth 100000 in
set_option maxHeartbeats 1000000 in
theorem Mn_beg (B bb : Nat) : BegOk B 141 #[.pointer (some ⟨bb, 0, none⟩)] [bb] (fun w => Boxed w bb 134 (.func (.func 102) #[] #[])) (fun _ L => (bestMn L, 0)) := by
  intro d w hB0 hbg
  show Calls Tryz.prog 141 #[.bool d, .pointer (some ⟨bb, 0, none⟩)] w _
  obtain ⟨w1, hw1⟩ : ∃ w1, w.alloc (.cells #[.nilFunc, .nilFunc] 106) = w1 := ⟨_, rfl⟩
  have hr1 : Res2 w1 w.heap.size := by rw [← hw1]; exact World.alloc_heap_new w _
  have hz1 : w1.heap.size = w.heap.size + 1 := by rw [← hw1]; simp
  have hal1 : Below w.heap.size w w1 := by rw [← hw1]; exact (Below.refl _ _).alloc (Nat.le_refl _) _
  obtain ⟨w2, hw2⟩ : ∃ w2, w1.alloc (.cells #[.int .u8 0, .int .i64 0, .string ⟨#[]⟩] 24) = w2 := ⟨_, rfl⟩
  have hb2 : BoxT w2 w1.heap.size (0, 0, ⟨#[]⟩) := by rw [← hw2]; exact BoxT.new w1 (0, 0, ⟨#[]⟩)
  have hal2 : Below w1.heap.size w1 w2 := by rw [← hw2]; exact (Below.refl _ _).alloc (Nat.le_refl _) _
  obtain ⟨⟨x0, x1⟩, f0, f1⟩ := (hr1.on hal2).facts
  have hz2 : w2.heap.size = w.heap.size + 2 := by rw [← hw2]; simp [hz1]
  have hbl := hbg.lt
  have hb' : Below w.heap.size w w2 := hal1.trans (hal2.mono hal1.size)
  have hbg2 : Boxed w2 bb 134 (.func (.func 102) #[] #[]) := (hb'.block bb hbl).trans hbg
  rw [hz1] at hb2
  have HB := Lib.hid hb'
  have HB2 := Lib.hid hb2
  have HG2 := Lib.hid hbg2
  obtain ⟨s0, s1⟩ := store2 (v0 := .func (.func 142) #[] #[.pointer (some ⟨w.heap.size + 1, 0, none⟩), .pointer (some ⟨bb, 0, none⟩)]) (v1 := .func (.func 144) #[] #[.pointer (some ⟨w.heap.size + 1, 0, none⟩)]) rfl rfl x0 x1 f0 f1
  clear hr1 hal1 hal2 hb2 hbg hb' hbg2
  go_enter Tryz.func141, Tryz.ntmps141
  go_wp2_with fail
  refine bodyPost_ret (v := .agg #[.func (.func 142) #[] #[.pointer (some ⟨w.heap.size + 1, 0, none⟩), .pointer (some ⟨bb, 0, none⟩)], .func (.func 144) #[] #[.pointer (some ⟨w.heap.size + 1, 0, none⟩)]]) (by simp [results, Tryz.results141, go_sem, x0, x1]) rfl ?_
  refine ⟨_, _, [w.heap.size + 1], [w.heap.size + 1, bb], rfl, ⟨_, _, _, _, StMn (w.heap.size + 1) bb, rfl, rfl, enters_of Tryz.func142 (by kernel_rfl) rfl, enters_of Tryz.func144 (by kernel_rfl) rfl, Mn_step _ _ _ (by omega), Mn_fin _ _ _, Mn_stable _ _, ?_⟩, fun b hb => ?_, fun b hb => ?_, ?_⟩
  · exact ⟨(set2_block _ _ _ _ (by omega)).trans HB2.out, (set2_block _ _ _ _ (by omega)).trans HG2.out⟩
  · simp only [List.mem_singleton] at hb
    simp only [World.size_setCell]
    omega
  · simp only [List.mem_cons, List.mem_nil_iff, or_false] at hb
    simp only [World.size_setCell, List.mem_singleton]
    omega
  · exact (HB.out.setCell (p := ⟨w.heap.size, 0, none⟩) (Nat.le_refl _) _).setCell (p := ⟨w.heap.size, 1, none⟩) (Nat.le_refl _) _
set_option maxRecDepth 100000 in
set_option maxHeartbeats 1000000 in
theorem Mx_beg (B bb : Nat) : BegOk B 141 #[.pointer (some ⟨bb, 0, none⟩)] [bb] (fun w => Boxed w bb 134 (.func (.func 103) #[] #[])) (fun _ L => (bestMx L, 0)) := by
  intro d w hB0 hbg
  show Calls Tryz.prog 141 #[.bool d, .pointer (some ⟨bb, 0, none⟩)] w _
  obtain ⟨w1, hw1⟩ : ∃ w1, w.alloc (.cells #[.nilFunc, .nilFunc] 106) = w1 := ⟨_, rfl⟩
  have hr1 : Res2 w1 w.heap.size := by rw [← hw1]; exact World.alloc_heap_new w _
  have hz1 : w1.heap.size = w.heap.size + 1 := by rw [← hw1]; simp
  have hal1 : Below w.heap.size w w1 := by rw [← hw1]; exact (Below.refl _ _).alloc (Nat.le_refl _) _
  obtain ⟨w2, hw2⟩ : ∃ w2, w1.alloc (.cells #[.int .u8 0, .int .i64 0, .string ⟨#[]⟩] 24) = w2 := ⟨_, rfl⟩
  have hb2 : BoxT w2 w1.heap.size (0, 0, ⟨#[]⟩) := by rw [← hw2]; exact BoxT.new w1 (0, 0, ⟨#[]⟩)
  have hal2 : Below w1.heap.size w1 w2 := by rw [← hw2]; exact (Below.refl _ _).alloc (Nat.le_refl _) _
  obtain ⟨⟨x0, x1⟩, f0, f1⟩ := (hr1.on hal2).facts
  have hz2 : w2.heap.size = w.heap.size + 2 := by rw [← hw2]; simp [hz1]
  have hbl := hbg.lt
  have hb' : Below w.heap.size w w2 := hal1.trans (hal2.mono hal1.size)
  have hbg2 : Boxed w2 bb 134 (.func (.func 103) #[] #[]) := (hb'.block bb hbl).trans hbg
  rw [hz1] at hb2
  have HB := Lib.hid hb'
  have HB2 := Lib.hid hb2
  have HG2 := Lib.hid hbg2
  obtain ⟨s0, s1⟩ := store2 (v0 := .func (.func 142) #[] #[.pointer (some ⟨w.heap.size + 1, 0, none⟩), .pointer (some ⟨bb, 0, none⟩)]) (v1 := .func (.func 144) #[] #[.pointer (some ⟨w.heap.size + 1, 0, none⟩)]) rfl rfl x0 x1 f0 f1
  clear hr1 hal1 hal2 hb2 hbg hb' hbg2
  go_enter Tryz.func141, Tryz.ntmps141
  go_wp2_with fail
  refine bodyPost_ret (v := .agg #[.func (.func 142) #[] #[.pointer (some ⟨w.heap.size + 1, 0, none⟩), .pointer (some ⟨bb, 0, none⟩)], .func (.func 144) #[] #[.pointer (some ⟨w.heap.size + 1, 0, none⟩)]]) (by simp [results, Tryz.results141, go_sem, x0, x1]) rfl ?_
  refine ⟨_, _, [w.heap.size + 1], [w.heap.size + 1, bb], rfl, ⟨_, _, _, _, StMx (w.heap.size + 1) bb, rfl, rfl, enters_of Tryz.func142 (by kernel_rfl) rfl, enters_of Tryz.func144 (by kernel_rfl) rfl, Mx_step _ _ _ (by omega), Mx_fin _ _ _, Mx_stable _ _, ?_⟩, fun b hb => ?_, fun b hb => ?_, ?_⟩
  · exact ⟨(set2_block _ _ _ _ (by omega)).trans HB2.out, (set2_block _ _ _ _ (by omega)).trans HG2.out⟩
  · simp only [List.mem_singleton] at hb
    simp only [World.size_setCell]
    omega
  · simp only [List.mem_cons, List.mem_nil_iff, or_false] at hb
    simp only [World.size_setCell, List.mem_singleton]
    omega
  · exact (HB.out.setCell (p := ⟨w.heap.size, 0, none⟩) (Nat.le_refl _) _).setCell (p := ⟨w.heap.size, 1, none⟩) (Nat.le_refl _) _
set_option maxRecDepth 100000 in
set_option maxHeartbeats 1000000 in
theorem sum_beg (B bn : Nat) (nn : Trip) : BegOk B 136 #[.pointer (some ⟨bn, 0, none⟩)] [bn] (fun w => BoxT w bn nn) (fun d L => finSum nn (dsel d L)) := by
  intro d w hB0 hbg
  show Calls Tryz.prog 136 #[.bool d, .pointer (some ⟨bn, 0, none⟩)] w _
  obtain ⟨w1, hw1⟩ : ∃ w1, w.alloc (.cells #[.nilFunc, .nilFunc] 106) = w1 := ⟨_, rfl⟩
  have hr1 : Res2 w1 w.heap.size := by rw [← hw1]; exact World.alloc_heap_new w _
  have hz1 : w1.heap.size = w.heap.size + 1 := by rw [← hw1]; simp
  have hal1 : Below w.heap.size w w1 := by rw [← hw1]; exact (Below.refl _ _).alloc (Nat.le_refl _) _
  obtain ⟨w2, hw2⟩ : ∃ w2, w1.alloc (.cells #[.int .u64 0, .int .u64 0] 153) = w2 := ⟨_, rfl⟩
  have hb2 : w2.heap[w1.heap.size]? = some (.cells #[.int .u64 0, .int .u64 0] 153 (0, 0)) := by rw [← hw2]; exact World.alloc_heap_new w1 _
  have hal2 : Below w1.heap.size w1 w2 := by rw [← hw2]; exact (Below.refl _ _).alloc (Nat.le_refl _) _
  have hz2 : w2.heap.size = w.heap.size + 2 := by rw [← hw2]; simp [hz1]
  obtain ⟨w5, hw5⟩ : ∃ w5, w2.alloc (.cells #[.bool false] 4) = w5 := ⟨_, rfl⟩
  have hb5 : Boxed w5 w2.heap.size 4 (.bool false) := by rw [← hw5]; exact Boxed.new w2 _ _
  have hal5 : Below w2.heap.size w2 w5 := by rw [← hw5]; exact (Below.refl _ _).alloc (Nat.le_refl _) _
  have hz5 : w5.heap.size = w.heap.size + 3 := by rw [← hw5]; simp [hz2]
  rw [hz2] at hb5
  have q0 := hb5.cell
  have q1 := hb5.frozen
  obtain ⟨w3, hw3⟩ : ∃ w3, w5.setCell ⟨w.heap.size + 2, 0, none⟩ (.bool false) = w3 := ⟨_, rfl⟩
  have hb3 : Boxed w3 (w.heap.size + 2) 4 (.bool false) := by rw [← hw3]; exact hb5.set _
  have hal3 : Below w2.heap.size w2 w3 := by rw [← hw3]; exact hal5.setCell (p := ⟨w.heap.size + 2, 0, none⟩) (by show w2.heap.size ≤ w.heap.size + 2; omega) _
  have hz3 : w3.heap.size = w.heap.size + 3 := by rw [← hw3]; simp [hz5]
  have hbl := hbg.lt
  have hB : Below w.heap.size w w3 := hal1.trans ((hal2.trans (hal3.mono hal2.size)).mono hal1.size)
  have hr3 : Res2 w3 w.heap.size := (hr1.on hal2).on hal3
  rw [hz1] at hb2
  have hs3 : SumSt (w.heap.size + 1) (w.heap.size + 2) bn nn w3 [] := ⟨(hal3.block _ (by omega)).trans hb2, hb3, hbg.on hB, by simp [sumT], by simp [sumT]⟩
  clear hr1 hb2 hb3 hal1 hal2 hal3 hb5 hal5
  go_enter Tryz.func136, Tryz.ntmps136
  go_wp2_with fail
  refine (onlyNew_tal d (enters_of Tryz.func137 (by kernel_rfl) rfl) (sum_step B (w.heap.size + 1) (w.heap.size + 2) bn nn (by omega) (by omega) (by omega)) (sum_stable (w.heap.size + 1) (w.heap.size + 2) bn nn) w3 (by omega) hs3 (by simp; omega) (by simp; omega)).mono ?_
  rintro e w4 ⟨sg, scb, St, bs, rs, rfl, eg, hstep, hS, h0, hfin, hbs, hrs, hb4⟩
  obtain ⟨⟨x0, x1⟩, f0, f1⟩ := (hr3.on hb4).facts
  clear q0 q1
  have HB4 := Lib.hid (hB.trans (hb4.mono (by omega)))
  have HF := Lib.hid hfin
  have HS := Lib.hid hS
  have H0 := Lib.hid h0
  have HBS := Lib.hid hbs
  have HRS := Lib.hid hrs
  obtain ⟨s0, s1⟩ := store2 (v0 := .func (.func sg) #[] scb) (v1 := .func (.func 139) #[] #[.pointer (some ⟨w.heap.size + 2, 0, none⟩), .pointer (some ⟨bn, 0, none⟩), .pointer (some ⟨w.heap.size + 1, 0, none⟩)]) rfl rfl x0 x1 f0 f1
  clear hr3 hB hs3 hb4 hfin hS h0 hbs hrs hbg
  go_wp2_with fail
  refine bodyPost_ret (v := .agg #[.func (.func sg) #[] scb, .func (.func 139) #[] #[.pointer (some ⟨w.heap.size + 2, 0, none⟩), .pointer (some ⟨bn, 0, none⟩), .pointer (some ⟨w.heap.size + 1, 0, none⟩)]]) (by simp [results, Tryz.results136, go_sem, x0, x1]) rfl ?_
  refine ⟨_, _, bs, rs, rfl, ⟨sg, scb, _, _, St, rfl, rfl, eg, enters_of Tryz.func139 (by kernel_rfl) rfl, hstep, HF.out _ _ _ (sum_fin B (w.heap.size + 1) (w.heap.size + 2) bn nn), HS.out, HS.out w4 _ [] H0.out fun b hb hlt => set2_block _ _ _ _ fun e => ?_⟩, fun b hb => ?_, fun b hb => ?_, ?_⟩
  · have h := (HRS.out b hb).2
    simp only [List.mem_cons, List.mem_nil_iff, or_false] at h
    omega
  · have h := HBS.out b hb
    simp only [List.mem_cons, List.mem_nil_iff, or_false] at h
    simp only [World.size_setCell]
    omega
  · have h := HRS.out b hb
    simp only [List.mem_cons, List.mem_nil_iff, or_false] at h
    simp only [World.size_setCell, List.mem_singleton]
    omega
  · exact (HB4.out.setCell (p := ⟨w.heap.size, 0, none⟩) (Nat.le_refl _) _).setCell (p := ⟨w.heap.size, 1, none⟩) (Nat.le_refl _) _
end Go.Proofs.YtceknmibopnmhaaGreatDoor
