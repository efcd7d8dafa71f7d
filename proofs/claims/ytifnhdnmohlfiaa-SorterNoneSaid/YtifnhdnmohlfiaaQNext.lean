/-
  Layer 7, sorter: Next, Rewind, Len. Conditions: as stated.
-/
import Derived.Test.YtifnhdnmohlfiaaQSort
import Derived.Test.YtifnhdnmohlfiaaRRowM
import Derived.Deep.RegionHeld3
namespace Go.Proofs.Ytifnhdnmohlfiaa
open Go.ChangeShapes Go.WideShapes Go.ChangeAt Go.RowKit
set_option linter.unusedVariables false

/-- what a store to a cell of the sorter leaves -/
theorem Sor.setAt {w : World} {lo s : Nat} {va vr : Value} {o : So} (h : Sor w lo s va vr o) (k : Nat) :
    Sor (w.setCell ⟨s, 6, none⟩ (.int .i64 (k : Int))) lo s va vr { o with at_ := k } ∧ But (fun k => k = s) w (w.setCell ⟨s, 6, none⟩ (.int .i64 (k : Int))) := by
  have hset : But (fun k => k = s) w (w.setCell ⟨s, 6, none⟩ (.int .i64 (k : Int))) := (But.refl (fun k => k = s) w).set ⟨s, 6, none⟩ rfl _
  obtain ⟨D, dc, hs, hlo, hd, hO, hE, hr, hrb⟩ := h
  have hf : Far w (fun k => k = s) := fun k hk => by subst hk; exact ⟨_, _, _, hs, .inl rfl⟩
  refine ⟨⟨D, dc, ?_, hlo, hd.but hset hf, ownsRow_but hO hset (fun k hk e => ?_), fun e hm => (hE e hm).but hset hf, hr.but hset hf, fun r hm => (hrb r hm).but hset hf⟩, hset⟩
  · rw [heap_setCell_same _ s 6 _ _ _ hs]
    rfl
  · obtain ⟨cur, hc, _⟩ := hO.heap k hk
    rw [e, hs] at hc
    simp only [Option.some.injEq, Obj.cells.injEq] at hc
    exact absurd hc.2.1 (by decide)
set_option maxRecDepth 100000 in
set_option maxHeartbeats 1000000 in
theorem Next_some {w : World} {lo s : Nat} {va vr : Value} {o : So} (h : Sor w lo s va vr o) (hsr : o.srt = true) (r : Rw) (hr : o.R[o.at_]? = some r) (rs : List Trip) (hg : getN r.b = some rs) (hl : o.R.length ≤ 65536) :
    Calls Try.prog 18 #[.pointer (some ⟨s, 0, none⟩)] w fun e w' => ∃ v, e = .returned (.tuple #[v, .bool true]) ∧ OwnR w' w.heap.size v rs ∧ Sor w' lo s va vr { o with at_ := o.at_ + 1 } ∧ But (fun k => k = s) w w' := by
  have H0 := Lib.hid h
  obtain ⟨D, dc, _, _, _, _, _, _, c5, c6, _⟩ := h.cells
  obtain ⟨_, _, _, _, _, _, _, hrows, hrb⟩ := h
  obtain ⟨A, c, rfl, hc, hcell⟩ := hrows
  have hk := (List.getElem?_eq_some_iff.1 hr).1
  obtain ⟨g, cur, fr, rfl, hgh, hcl⟩ := hcell (by omega)
  have x0 : w.cell? ⟨g, o.at_, none⟩ = some (.slice r.A r.b.length r.c) := hcl _ _ hr
  have HRB := Lib.hid (hrb r (List.mem_of_getElem? hr))
  have HG := Lib.hid hg
  have HSR := Lib.hid hsr
  generalize o.at_ = k at *
  generalize o.R.length = n at *
  have q1 : (k : Int) < (n : Int) := by omega
  have q2 : ¬ (n : Int) ≤ (k : Int) := by omega
  have q3 : (0 : Int) ≤ (k : Int) := by omega
  have q4 : decide ((n : Int) ≤ (k : Int)) = false := decide_eq_false q2
  have q5 : decide (n ≤ k) = false := decide_eq_false (by omega)
  have HC := Lib.hid (And.intro c5 (And.intro c6 x0))
  clear hr hg hsr hcl hrb hgh hk x0
  go_enter Try.func18, Try.ntmps18
  go_wp2_with fail
  go_region_held3 (fun X => X.cell? ⟨s, 5, none⟩ = some (.slice (some ⟨g, 0, none⟩) n c) ∧ X.cell? ⟨s, 6, none⟩ = some (.int .i64 (k : Int))) (first | exact ⟨HC.out.1, HC.out.2.1⟩)
    (first
      | (go_at_call 33; refine (missing_any (w := w.drew) H0.out true).mono ?_; rintro e w1 ⟨rfl, rfl⟩; rw [HSR.out]))
  have HRD := Lib.hid (show Rd w.drew.drew w.drew.drew.heap.size r.A r.b from HRB.out.1.rd)
  have HS6 := Lib.hid (show s < w.heap.size from block_lt_of_cell HC.out.1)
  have HG6 := Lib.hid (show g < w.heap.size from block_lt_of_cell HC.out.2.2)
  go_wp2_with fail
  go_region_held3 (fun X => X.cell? ⟨s, 5, none⟩ = some (.slice (some ⟨g, 0, none⟩) n c) ∧ X.cell? ⟨s, 6, none⟩ = some (.int .i64 (k : Int)) ∧ X.cell? ⟨g, k, none⟩ = some (.slice r.A r.b.length r.c)) (first | exact HC.out | exact HC2.out)
    (first
      | (go_at_call 50; refine (Get_any r.A r.b.length r.c r.b _ rfl HRD.out HRB.out.2.1 HRB.out.2.2).mono ?_; rintro e w1 ⟨hp, hb1⟩; rw [HG.out] at hp; obtain ⟨v, rfl, hov⟩ := hp; have HB1 := Lib.hid (show Below w.heap.size w w1 from ⟨hb1.os, hb1.tape, hb1.output, hb1.size, hb1.block⟩); have HOV := Lib.hid hov; have HC2 := Lib.hid (And.intro ((HB1.out.cell (p := ⟨s, 5, none⟩) HS6.out).trans HC.out.1) (And.intro ((HB1.out.cell (p := ⟨s, 6, none⟩) HS6.out).trans HC.out.2.1) ((HB1.out.cell (p := ⟨g, k, none⟩) HG6.out).trans HC.out.2.2))); clear hb1 hov))
  have H1 := Lib.hid (H0.out.on HB1.out)
  obtain ⟨_, _, _, _, _, _, _, _, _, _, hf1⟩ := H1.out.cells
  have f6 := hf1 6
  have c61 := HC2.out.2.1
  have HST := Lib.hid (H1.out.setAt (k + 1))
  obtain ⟨A3, c3, rfl, _, _, _⟩ := HOV.out.form
  have q7 : IntKind.i64.wrap ((k : Int) + 1) = (k : Int) + 1 := IntWalk.i64_in _ (by omega)
  clear hf1
  go_wp2_with fail
  go_ret2
  exact ⟨_, rfl, ownsRow_setCell_below HOV.out (a := ⟨s, 6, none⟩) HS6.out _, HST.out.1, (But.of_below HB1.out).same HST.out.2⟩
theorem But.of_drew {P : Nat → Prop} (w : World) : But P w w.drew := ⟨rfl, rfl, rfl, Nat.le_refl _, fun _ _ _ => rfl⟩
set_option maxRecDepth 100000 in
set_option maxHeartbeats 1000000 in
theorem Next_end {w : World} {lo s : Nat} {va vr : Value} {o : So} (h : Sor w lo s va vr o) (hsr : o.srt = true) (hr : o.R.length ≤ o.at_) (hl : o.at_ ≤ 1000000) :
    Calls Try.prog 18 #[.pointer (some ⟨s, 0, none⟩)] w fun e w' => e = .returned (.tuple #[.slice none 0 0, .bool false]) ∧ But (fun _ => False) w w' := by
  have H0 := Lib.hid h
  obtain ⟨D, dc, _, _, _, _, _, _, c5, c6, _⟩ := h.cells
  obtain ⟨_, _, _, _, _, _, _, hrows, hrb⟩ := h
  obtain ⟨A, c, rfl, hc, hcell⟩ := hrows
  have HSR := Lib.hid hsr
  generalize o.at_ = k at *
  generalize o.R.length = n at *
  have q2 : (n : Int) ≤ (k : Int) := by omega
  have q4 : decide ((n : Int) ≤ (k : Int)) = true := decide_eq_true q2
  have q5 : decide (n ≤ k) = true := decide_eq_true (by omega)
  have HC := Lib.hid (And.intro c5 c6)
  clear hsr hrb hcell
  go_enter Try.func18, Try.ntmps18
  go_wp2_with fail
  go_region_held3 (fun X => X.cell? ⟨s, 5, none⟩ = some (.slice A n c) ∧ X.cell? ⟨s, 6, none⟩ = some (.int .i64 (k : Int))) (first | exact HC.out)
    (first
      | (go_at_call 33; refine (missing_any (w := w.drew) H0.out true).mono ?_; rintro e w1 ⟨rfl, rfl⟩; rw [HSR.out]))
  go_wp2_with fail
  go_ret2
  exact ⟨rfl, But.of_drew w⟩
set_option maxRecDepth 100000 in
set_option maxHeartbeats 1000000 in
theorem Next_early {w : World} {lo s : Nat} {va vr : Value} {o : So} (h : Sor w lo s va vr o) (hsr : o.srt = false) :
    Calls Try.prog 18 #[.pointer (some ⟨s, 0, none⟩)] w fun e w' => e = .returned (.tuple #[.slice none 0 0, .bool false]) ∧ But (fun _ => False) w w' := by
  have HMS := Lib.hid (show ∀ n : Nat, Calls Try.prog 33 #[.pointer (some ⟨s, 0, none⟩), .bool true] (w.drewN n) fun e w' => e = .returned (.int .i64 70) ∧ w' = w.drewN n from fun n => by
    refine (missing_any (show Sor (w.drewN n) lo s va vr o from h) true).mono ?_
    rintro e w1 ⟨rfl, rfl⟩
    rw [hsr]
    exact ⟨rfl, rfl⟩)
  clear h hsr
  go_enter Try.func18, Try.ntmps18
  go_wp2_with fail
  go_quiet ((go_at_call 33; exact quietR (HMS.out _)))
  go_wp2_with fail
  go_ret2
  exact ⟨rfl, ⟨rfl, rfl, rfl, Nat.le_refl _, fun _ _ _ => rfl⟩⟩
set_option maxRecDepth 100000 in
theorem Rewind_ok {w : World} {lo s : Nat} {va vr : Value} {o : So} (h : Sor w lo s va vr o) (hsr : o.srt = true) :
    Calls Try.prog 16 #[.pointer (some ⟨s, 0, none⟩)] w fun e w' => e = .returned (.int .i64 0) ∧ Sor w' lo s va vr { o with at_ := 0 } ∧ But (fun k => k = s) w w' := by
  have H0 := Lib.hid h
  have HSR := Lib.hid hsr
  obtain ⟨D, dc, _, _, _, _, _, _, c5, c6, hf⟩ := h.cells
  have f6 := hf 6
  have HST := Lib.hid (h.setAt 0)
  clear h hsr hf
  go_enter Try.func16, Try.ntmps16
  go_wp2_with fail
  refine (missing_any H0.out true).mono ?_
  rintro e w1 ⟨rfl, rfl⟩
  rw [HSR.out]
  go_wp2_with fail
  go_ret
  exact ⟨rfl, HST.out.1, HST.out.2⟩
set_option maxRecDepth 100000 in
theorem Rewind_early {w : World} {lo s : Nat} {va vr : Value} {o : So} (h : Sor w lo s va vr o) (hsr : o.srt = false) :
    Calls Try.prog 16 #[.pointer (some ⟨s, 0, none⟩)] w fun e w' => e = .returned (.int .i64 70) ∧ w' = w := by
  have H0 := Lib.hid h
  have HSR := Lib.hid hsr
  clear h hsr
  go_enter Try.func16, Try.ntmps16
  go_wp2_with fail
  refine (missing_any H0.out true).mono ?_
  rintro e w1 ⟨rfl, rfl⟩
  rw [HSR.out]
  go_wp2_with fail
  go_ret
  exact ⟨rfl, rfl⟩
set_option maxRecDepth 100000 in
theorem Sort_again {w : World} {lo s : Nat} {va vr : Value} {o : So} (h : Sor w lo s va vr o) (hsr : o.srt = true) :
    Calls Try.prog 17 #[.pointer (some ⟨s, 0, none⟩)] w fun e w' => e = .returned (.int .i64 70) ∧ w' = w := by
  have H0 := Lib.hid h
  have HSR := Lib.hid hsr
  clear h hsr
  go_enter Try.func17, Try.ntmps17
  go_wp2_with fail
  refine (missing_any H0.out false).mono ?_
  rintro e w1 ⟨rfl, rfl⟩
  rw [HSR.out]
  go_wp2_with fail
  go_ret
  exact ⟨rfl, rfl⟩
set_option maxRecDepth 100000 in
theorem Add_late {w : World} {lo s : Nat} {va vr : Value} {o : So} (h : Sor w lo s va vr o) (hsr : o.srt = true) (A : Option Addr) (n c : Nat) (B : Option Addr) (m d : Nat) :
    Calls Try.prog 12 #[.pointer (some ⟨s, 0, none⟩), .slice A n c, .slice B m d] w fun e w' => e = .returned (.int .i64 70) ∧ w' = w := by
  have H0 := Lib.hid h
  have HSR := Lib.hid hsr
  clear h hsr
  go_enter Try.func12, Try.ntmps12
  go_wp2_with fail
  refine (missing_any H0.out false).mono ?_
  rintro e w1 ⟨rfl, rfl⟩
  rw [HSR.out]
  go_wp2_with fail
  go_ret
  exact ⟨rfl, rfl⟩
set_option maxRecDepth 100000 in
theorem isMade_any {w : World} {lo s : Nat} {va vr : Value} {o : So} (h : Sor w lo s va vr o) :
    Calls Try.prog 43 #[.pointer (some ⟨s, 0, none⟩)] w fun e w' => e = .returned (.bool true) ∧ w' = w := by
  obtain ⟨D, dc, _, c0, _, _, c3, _⟩ := h.cells
  clear h
  obtain ⟨jz, hjz⟩ : ∃ j, Try.prog.info? 59 = some j := Option.isSome_iff_exists.1 (by kernel_rfl)
  have hpe := run_eql_ptr_same (P := Try.prog) w (⟨s, 0, none⟩ : Addr) Try.underlying22 hjz
  clear hjz
  go_enter Try.func43, Try.ntmps43
  go_wp2_with fail
  go_ret
  exact ⟨rfl, rfl⟩
set_option maxRecDepth 100000 in
set_option maxHeartbeats 1000000 in
theorem Len_any {w : World} {lo s : Nat} {va vr : Value} {o : So} (h : Sor w lo s va vr o) (hl : o.E.length + o.R.length ≤ 1000000) :
    Calls Try.prog 15 #[.pointer (some ⟨s, 0, none⟩)] w fun e w' => e = .returned (.int .i64 ((o.E.length + o.R.length : Nat) : Int)) ∧ But (fun _ => False) w w' := by
  have H0 := Lib.hid h
  obtain ⟨D, dc, _, _, _, _, _, c4, c5, c6, _⟩ := h.cells
  obtain ⟨_, _, _, _, _, ho, _, hrows, hrb⟩ := h
  obtain ⟨A, c, rfl, hc, hcell⟩ := hrows
  obtain ⟨A2, c2, rfl, _, _, _⟩ := ho.form
  generalize o.E.length = m at *
  generalize o.R.length = n at *
  have HC := Lib.hid (And.intro c4 c5)
  have q1 : IntKind.i64.wrap ((m : Int) + (n : Int)) = (m : Int) + (n : Int) := IntWalk.i64_in _ (by omega)
  clear hrb hcell ho
  go_enter Try.func15, Try.ntmps15
  go_wp2_with fail
  refine (isMade_any H0.out).mono ?_
  rintro e w1 ⟨rfl, rfl⟩
  go_wp2_with fail
  go_region_held3 (fun X => X.cell? ⟨s, 4, none⟩ = some (.slice A2 m c2) ∧ X.cell? ⟨s, 5, none⟩ = some (.slice A n c)) (first | exact HC.out) (fail)
  go_wp2_with fail
  go_ret
  exact ⟨rfl, But.of_drew _⟩
end Go.Proofs.Ytifnhdnmohlfiaa
