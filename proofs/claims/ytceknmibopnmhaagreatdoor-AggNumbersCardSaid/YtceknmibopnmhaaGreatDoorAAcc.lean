/-
  Layer 8: a total: isMade, Reset. Conditions: right values.
-/
import Derived.Test.YtceknmibopnmhaaGreatDoorAFns
import Derived.LaidEqlPtr
namespace Go.Proofs.YtceknmibopnmhaaGreatDoor
open Go.ChangeShapes Go.WideShapes Go.ChangeAt Go.RowKit Go.Maps Go.Sort Go.Shelf Go.ChangeMaps Go.Lib
set_option linter.unusedVariables false

theorem eql_nil_ptrA (w : World) (a : Addr) : (binOp .eql 42 (.pointer none) (.pointer (some a))).run Tryz.prog w = .ok (.bool false) w := by
  have h : ∀ d : Nat, (Op.equalIn (d + 1) 42 (.pointer none) (.pointer (some a))).run Tryz.prog w = .ok false w := fun d => by
    simp [Op.equalIn, run_underlying Tryz.underlying42]
  simp only [binOp]
  simp [Op.equal, Op.maxDepth, h 9999]
theorem Tryz.info_acc : (Tryz.prog.info? 108).map (fun i => (i.zero, i.size)) = some (some (.agg #[.pointer none, .bool false, .nilFunc, .bool false, .nilFunc, .nilFunc]), 6) := by kernel_rfl
set_option maxRecDepth 100000 in
theorem isMade_yes (a : Nat) (w : World) (h : w.cell? ⟨a, 0, none⟩ = some (.pointer (some ⟨a, 0, none⟩))) : Calls Tryz.prog 71 #[.pointer (some ⟨a, 0, none⟩)] w fun e w' => e = .returned (.bool true) ∧ w' = w := by
  obtain ⟨j, hj⟩ : ∃ j, Tryz.prog.info? 108 = some j := by
    have h := Tryz.info_acc
    cases hq : Tryz.prog.info? 108 with
    | none => rw [hq] at h; simp at h
    | some j => exact ⟨j, rfl⟩
  have hpe := run_eql_ptr_same (P := Tryz.prog) w (⟨a, 0, none⟩ : Addr) Tryz.underlying42 hj
  go_enter Tryz.func71, Tryz.ntmps71
  go_wp2_with fail
  go_ret
  exact ⟨rfl, rfl⟩
set_option maxRecDepth 100000 in
theorem isMade_nil (w : World) : Calls Tryz.prog 71 #[.pointer none] w fun e w' => e = .returned (.bool false) ∧ w' = w := by
  go_enter Tryz.func71, Tryz.ntmps71
  go_wp2_with fail
  go_ret
  exact ⟨rfl, rfl⟩
set_option maxRecDepth 100000 in
theorem isMade_no (a : Nat) (w : World) (h : w.cell? ⟨a, 0, none⟩ = some (.pointer none)) : Calls Tryz.prog 71 #[.pointer (some ⟨a, 0, none⟩)] w fun e w' => e = .returned (.bool false) ∧ w' = w := by
  have hpe := eql_nil_ptrA w (⟨a, 0, none⟩ : Addr)
  go_enter Tryz.func71, Tryz.ntmps71
  go_wp2_with fail
  go_ret
  exact ⟨rfl, rfl⟩
/-- a total's block -/
def AccB (w : World) (a : Nat) (all d : Bool) (gb : Nat) (cb : Array Value) (sf ff : Value) : Prop :=
  w.heap[a]? = some (.cells #[.pointer (some ⟨a, 0, none⟩), .bool all, .func (.func gb) #[] cb, .bool d, sf, ff] 108 (0, 0))
theorem AccB.lt {w : World} {a : Nat} {all d : Bool} {gb : Nat} {cb : Array Value} {sf ff : Value} (h : AccB w a all d gb cb sf ff) : a < w.heap.size := (Array.getElem?_eq_some_iff.1 h).1
theorem AccB.cells {w : World} {a : Nat} {all d : Bool} {gb : Nat} {cb : Array Value} {sf ff : Value} (h : AccB w a all d gb cb sf ff) :
    w.cell? ⟨a, 0, none⟩ = some (.pointer (some ⟨a, 0, none⟩)) ∧ w.cell? ⟨a, 1, none⟩ = some (.bool all) ∧ w.cell? ⟨a, 2, none⟩ = some (.func (.func gb) #[] cb) ∧ w.cell? ⟨a, 3, none⟩ = some (.bool d) ∧ w.cell? ⟨a, 4, none⟩ = some sf ∧ w.cell? ⟨a, 5, none⟩ = some ff := by
  unfold AccB at h
  refine ⟨?_, ?_, ?_, ?_, ?_, ?_⟩ <;> simp [World.cell?, h]
theorem AccB.frz {w : World} {a : Nat} {all d : Bool} {gb : Nat} {cb : Array Value} {sf ff : Value} (h : AccB w a all d gb cb sf ff) : w.frozen? ⟨a, 4, none⟩ = false ∧ w.frozen? ⟨a, 5, none⟩ = false := by
  unfold AccB at h
  refine ⟨?_, ?_⟩ <;> simp [World.frozen?, h]
theorem AccB.on {w w' : World} {a : Nat} {all d : Bool} {gb : Nat} {cb : Array Value} {sf ff : Value} (h : AccB w a all d gb cb sf ff) (hb : a < w.heap.size → w'.heap[a]? = w.heap[a]?) : AccB w' a all d gb cb sf ff := (hb h.lt).trans h
/-- what a total's begin needs, and that it is there -/
def AccP (B a : Nat) (all d : Bool) (fin : Bool → List Trip → Trip × Int) (w : World) (gb : Nat) (cb : Array Value) : Prop :=
  ∃ (be : List Nat) (Bg : World → Prop), (∀ args w, (callFunc gb args).run Tryz.prog w = .ok (.enter gb args) w) ∧ BegOk B gb cb be Bg fin ∧ Bg w ∧ (∀ w w', Bg w → (∀ b ∈ be, b < w.heap.size → w'.heap[b]? = w.heap[b]?) → Bg w') ∧ (∀ b ∈ be, b < a) ∧ B ≤ a
theorem AccP.on {B a : Nat} {all d : Bool} {fin : Bool → List Trip → Trip × Int} {w w' : World} {gb : Nat} {cb : Array Value} (h : AccP B a all d fin w gb cb) (hb : ∀ b, b < a → b < w.heap.size → w'.heap[b]? = w.heap[b]?) : AccP B a all d fin w' gb cb := by
  obtain ⟨be, Bg, h1, h2, h3, h4, h5, h6⟩ := h
  exact ⟨be, Bg, h1, h2, h4 w w' h3 fun b hm hl => hb b (h5 b hm) hl, h4, h5, h6⟩
/-- a total that was made, and its values -/
def AccAt (B a : Nat) (all d : Bool) (fin : Bool → List Trip → Trip × Int) (w : World) (L : List Trip) : Prop :=
  ∃ gb cb sf ff bs rs, AccB w a all d gb cb sf ff ∧ AccP B a all d fin w gb cb ∧ Tal B w bs rs sf ff (fin d) L ∧ (∀ b ∈ bs, a < b) ∧ (∀ b ∈ rs, b < w.heap.size ∧ b ≠ a)
theorem store45 {w : World} {b : Nat} {v0 v1 u0 u1 : Value} (h0 : v0.oneCell' = true) (h1 : v1.oneCell' = true) (x0 : w.cell? ⟨b, 4, none⟩ = some u0) (x1 : w.cell? ⟨b, 5, none⟩ = some u1) (f0 : w.frozen? ⟨b, 4, none⟩ = false) (f1 : w.frozen? ⟨b, 5, none⟩ = false) :
    (store ⟨b, 4, none⟩ v0 .plain).run Tryz.prog w = .ok () (w.setCell ⟨b, 4, none⟩ v0) ∧ (store ⟨b, 5, none⟩ v1 .plain).run Tryz.prog (w.setCell ⟨b, 4, none⟩ v0) = .ok () ((w.setCell ⟨b, 4, none⟩ v0).setCell ⟨b, 5, none⟩ v1) := by
  refine ⟨run_store1 h0 x0 f0, run_store1 (u := u1) h1 ?_ ?_⟩
  · simpa [go_sem] using x1
  · simpa [go_sem] using f1
theorem AccB.put {w : World} {a : Nat} {all d : Bool} {gb : Nat} {cb : Array Value} {sf ff : Value} (h : AccB w a all d gb cb sf ff) (v0 v1 : Value) : AccB ((w.setCell ⟨a, 4, none⟩ v0).setCell ⟨a, 5, none⟩ v1) a all d gb cb v0 v1 := by
  have h1 := set_box 4 v0 h
  have h2 := set_box 5 v1 h1
  exact h2
theorem put_block (w : World) (b : Nat) (v0 v1 : Value) {k : Nat} (hk : k ≠ b) : ((w.setCell ⟨b, 4, none⟩ v0).setCell ⟨b, 5, none⟩ v1).heap[k]? = w.heap[k]? :=
  (Below.heap_setCell _ ⟨b, 5, none⟩ _ k hk).trans (Below.heap_setCell _ ⟨b, 4, none⟩ _ k hk)
set_option maxRecDepth 100000 in
set_option maxHeartbeats 1000000 in
theorem Reset_ok {B a : Nat} {all d : Bool} {fin : Bool → List Trip → Trip × Int} {w : World} {gb : Nat} {cb : Array Value} {sf ff : Value} (hb : AccB w a all d gb cb sf ff) (hp : AccP B a all d fin w gb cb) :
    Calls Tryz.prog 32 #[.pointer (some ⟨a, 0, none⟩)] w fun e w' => e = .returned (.tuple #[]) ∧ AccAt B a all d fin w' [] ∧ Keep (· = a) w w' := by
  obtain ⟨be, Bg, eg, hbeg, hbg, hst, hbe, hBa⟩ := id hp
  obtain ⟨x0, x1, x2, x3, x4, x5⟩ := hb.cells
  have HBEG := Lib.hid (hbeg d w.drew (Nat.le_trans hBa (Nat.le_of_lt hb.lt)) (hst w w.drew hbg fun _ _ _ => rfl))
  have HP := Lib.hid hp
  have HB := Lib.hid hb
  have HST := Lib.hid hst
  have HBE := Lib.hid hbe
  clear hp hb hbg hst hbe
  go_enter Tryz.func32, Tryz.ntmps32
  go_wp2_with fail
  refine (isMade_yes a w x0).mono ?_
  rintro e w1 ⟨rfl, rfl⟩
  go_wp2_with fail
  go_region_law (first
    | (go_simp; refine HBEG.out.mono ?_; rintro e w2 ⟨sf2, ff2, bs, rs, rfl, ht, hbs, hrs, hb2⟩; obtain ⟨sg, scb, fg, fcb, St, rfl, rfl, e1, e2, tst, tfi, tsb, ts0⟩ := ht; have HT := Lib.hid (And.intro tst (And.intro tfi (And.intro tsb ts0))); have HBS := Lib.hid hbs; have HRS := Lib.hid hrs; have HB2 := Lib.hid (show Below w1.heap.size w1 w2 from ⟨hb2.os, hb2.tape, hb2.output, hb2.size, hb2.block⟩); have HA2 := Lib.hid (HB.out.on (HB2.out.block a)); obtain ⟨_, _, _, _, y4, y5⟩ := HA2.out.cells; obtain ⟨f4, f5⟩ := HA2.out.frz; obtain ⟨s4, s5⟩ := store45 (v0 := .func (.func sg) #[] scb) (v1 := .func (.func fg) #[] fcb) rfl rfl y4 y5 f4 f5; clear hbs hrs hb2 tst tfi tsb ts0))
  all_goals
    have hlt := HB.out.lt
    have hE1 := Lib.hid e1
    have hE2 := Lib.hid e2
    go_wp2_with fail
    go_end0
    refine ⟨rfl, ⟨gb, cb, .func (.func sg) #[] scb, .func (.func fg) #[] fcb, bs, rs, HA2.out.put _ _, HP.out.on fun b hb1 hb3 => (put_block _ _ _ _ (by omega)).trans (HB2.out.block b hb3), ⟨sg, scb, fg, fcb, St, rfl, rfl, hE1.out, hE2.out, HT.out.1, HT.out.2.1, HT.out.2.2.1, HT.out.2.2.1 w2 _ [] HT.out.2.2.2 fun b hm hl => put_block _ _ _ _ fun e => ?_⟩, fun b hm => ?_, fun b hm => ?_⟩, (Keep.of_below HB2.out).trans ((Keep.setCell (P := fun x => x = a) w2 ⟨a, 4, none⟩ _ rfl).trans (Keep.setCell (P := fun x => x = a) _ ⟨a, 5, none⟩ _ rfl))⟩
    · obtain ⟨_, h2⟩ := HRS.out b hm
      subst e
      rcases h2 with h2 | h2
      · exact absurd h2 (by show ¬ w1.heap.size ≤ b; omega)
      · exact absurd (HBE.out b h2) (Nat.lt_irrefl _)
    · have h2 := (HBS.out b hm).1
      have h3 : w1.heap.size ≤ b := h2
      omega
    · obtain ⟨h1, h2⟩ := HRS.out b hm
      refine ⟨by simp only [World.size_setCell]; exact h1, ?_⟩
      rcases h2 with h2 | h2
      · have h3 : w1.heap.size ≤ b := h2
        omega
      · have := HBE.out b h2
        omega
end Go.Proofs.YtceknmibopnmhaaGreatDoor
