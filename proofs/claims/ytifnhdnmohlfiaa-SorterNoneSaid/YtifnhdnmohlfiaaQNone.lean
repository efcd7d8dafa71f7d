/-
  SorterNone returns true for any key and row: the walk. No conditions.
-/
import Derived.Test.YtifnhdnmohlfiaaQAwk
namespace Go.Proofs.Ytifnhdnmohlfiaa
open Go.ChangeShapes Go.WideShapes Go.ChangeAt Go.RowKit
set_option linter.unusedVariables false

theorem eql_nil_ptr (w : World) (a : Addr) : (binOp .eql 22 (.pointer none) (.pointer (some a))).run Try.prog w = .ok (.bool false) w := by
  have h : ∀ d : Nat, (Op.equalIn (d + 1) 22 (.pointer none) (.pointer (some a))).run Try.prog w = .ok false w := fun d => by
    simp [Op.equalIn, run_underlying Try.underlying22]
  simp only [binOp]
  simp [Op.equal, Op.maxDepth, h 9999]
/-- a sorter that New did not make -/
def NoS (w : World) (p : Option Addr) : Prop := p = none ∨ ∃ z, p = some ⟨z, 0, none⟩ ∧ w.cell? ⟨z, 0, none⟩ = some (.pointer none)
theorem NoS.on {w w' : World} {p : Option Addr} (h : NoS w p) (hb : Below w.heap.size w w') : NoS w' p := by
  rcases h with h | ⟨z, h, hc⟩
  · exact .inl h
  · exact .inr ⟨z, h, (hb.cell (p := ⟨z, 0, none⟩) (block_lt_of_cell hc)).trans hc⟩
set_option maxRecDepth 100000 in
theorem isMade_no {w : World} {p : Option Addr} (h : NoS w p) : Calls Try.prog 43 #[.pointer p] w fun e w' => e = .returned (.bool false) ∧ w' = w := by
  rcases h with rfl | ⟨z, rfl, hc⟩
  · go_enter Try.func43, Try.ntmps43
    go_wp2_with fail
    go_ret
    exact ⟨rfl, rfl⟩
  · have hpe := eql_nil_ptr w ⟨z, 0, none⟩
    go_enter Try.func43, Try.ntmps43
    go_wp2_with fail
    go_ret
    exact ⟨rfl, rfl⟩
set_option maxRecDepth 100000 in
theorem missing_no {w : World} {p : Option Addr} (h : NoS w p) (b : Bool) : Calls Try.prog 33 #[.pointer p, .bool b] w fun e w' => e = .returned (.int .i64 1) ∧ w' = w := by
  have H := Lib.hid h
  clear h
  go_enter Try.func33, Try.ntmps33
  go_wp2_with fail
  refine (isMade_no H.out).mono ?_
  rintro e w1 ⟨rfl, rfl⟩
  go_wp2_with fail
  go_ret
  exact ⟨rfl, rfl⟩
set_option maxRecDepth 100000 in
theorem Add_no {w : World} {p : Option Addr} (h : NoS w p) (A : Option Addr) (n c : Nat) (B : Option Addr) (m d : Nat) : Calls Try.prog 12 #[.pointer p, .slice A n c, .slice B m d] w fun e w' => e = .returned (.int .i64 1) ∧ w' = w := by
  have H := Lib.hid h
  clear h
  go_enter Try.func12, Try.ntmps12
  go_wp2_with fail
  refine (missing_no H.out false).mono ?_
  rintro e w1 ⟨rfl, rfl⟩
  go_wp2_with fail
  go_ret
  exact ⟨rfl, rfl⟩
set_option maxRecDepth 100000 in
theorem Sort_no {w : World} {p : Option Addr} (h : NoS w p) : Calls Try.prog 17 #[.pointer p] w fun e w' => e = .returned (.int .i64 1) ∧ w' = w := by
  have H := Lib.hid h
  clear h
  go_enter Try.func17, Try.ntmps17
  go_wp2_with fail
  refine (missing_no H.out false).mono ?_
  rintro e w1 ⟨rfl, rfl⟩
  go_wp2_with fail
  go_ret
  exact ⟨rfl, rfl⟩
set_option maxRecDepth 100000 in
theorem Rewind_no {w : World} {p : Option Addr} (h : NoS w p) : Calls Try.prog 16 #[.pointer p] w fun e w' => e = .returned (.int .i64 1) ∧ w' = w := by
  have H := Lib.hid h
  clear h
  go_enter Try.func16, Try.ntmps16
  go_wp2_with fail
  refine (missing_no H.out true).mono ?_
  rintro e w1 ⟨rfl, rfl⟩
  go_wp2_with fail
  go_ret
  exact ⟨rfl, rfl⟩
set_option maxRecDepth 100000 in
theorem Len_no {w : World} {p : Option Addr} (h : NoS w p) : Calls Try.prog 15 #[.pointer p] w fun e w' => e = .returned (.int .i64 0) ∧ w' = w := by
  have H := Lib.hid h
  clear h
  go_enter Try.func15, Try.ntmps15
  go_wp2_with fail
  refine (isMade_no H.out).mono ?_
  rintro e w1 ⟨rfl, rfl⟩
  go_wp2_with fail
  go_ret
  exact ⟨rfl, rfl⟩
set_option maxRecDepth 100000 in
theorem Next_no {w : World} {p : Option Addr} (h : NoS w p) : Calls Try.prog 18 #[.pointer p] w fun e w' => e = .returned (.tuple #[.slice none 0 0, .bool false]) ∧ Below w.heap.size w w' := by
  have HMS := Lib.hid (fun n : Nat => missing_no (show NoS (w.drewN n) p from h) true)
  clear h
  go_enter Try.func18, Try.ntmps18
  go_wp2_with fail
  go_quiet ((go_at_call 33; exact quietR (HMS.out _)))
  go_wp2_with fail
  go_ret2
  exact ⟨rfl, ⟨rfl, rfl, rfl, Nat.le_refl _, fun _ _ => rfl⟩⟩
def NonRel (w : World) (g z : Nat) (v15 : Value) (wr : World) : Prop :=
  ∃ j : Nat, j ≤ 2 ∧ v15 = .int .i64 (j : Int) ∧ wr.cell? ⟨g, 0, none⟩ = some (.pointer none) ∧ wr.cell? ⟨g, 1, none⟩ = some (.pointer (some ⟨z, 0, none⟩)) ∧ wr.cell? ⟨z, 0, none⟩ = some (.pointer none) ∧ Below w.heap.size w wr
set_option maxRecDepth 100000 in
set_option maxHeartbeats 1000000 in
theorem none_walk (A : Option Addr) (n c : Nat) (B : Option Addr) (m d : Nat) (w : World) :
    Calls Try.prog 5 #[.slice A n c, .slice B m d] w fun e w' => e = .returned (.bool true) ∧ Below w.heap.size w w' := by
  go_enter Try.func5, Try.ntmps5
  go_wp2_with fail
  go_loopw [15] (fun v15 wr => NonRel w (w.heap.size + 1) w.heap.size v15 wr) (fun v15 _ => 2 - (intOf v15).toNat)
  case atStart =>
    refine ⟨0, by omega, rfl, ?_, ?_, ?_, below_two _ _ _⟩ <;> simp [go_sem]
  case round =>
    obtain ⟨j, hj, rfl, h0, h1, h2, hb⟩ := hrel
    by_cases hlt : j < 2
    · obtain ⟨p, hp, hno⟩ : ∃ p, wr.cell? ⟨w.heap.size + 1, j, none⟩ = some (.pointer p) ∧ NoS wr p := by
        have : j = 0 ∨ j = 1 := by omega
        rcases this with rfl | rfl
        · exact ⟨none, h0, .inl rfl⟩
        · exact ⟨_, h1, .inr ⟨_, rfl, h2⟩⟩
      have q1 : (j : Int) < 2 := by omega
      have q2 : (0 : Int) ≤ (j : Int) := by omega
      have HN := Lib.hid hno
      have HB := Lib.hid hb
      have HC := Lib.hid (And.intro h0 (And.intro h1 h2))
      clear hno hb h0 h1 h2
      go_wp2_with fail
      refine (Next_no HN.out).mono ?_
      rintro e w1 ⟨rfl, hb1⟩
      have HN1 := Lib.hid (HN.out.on hb1)
      have HB1 := Lib.hid hb1
      clear hb1
      go_wp2_with fail
      refine (Add_no HN1.out A n c B m d).mono ?_
      rintro e x1 ⟨rfl, rfl⟩
      go_wp2_with fail
      refine (Sort_no HN1.out).mono ?_
      rintro e x1 ⟨rfl, rfl⟩
      go_wp2_with fail
      refine (Rewind_no HN1.out).mono ?_
      rintro e x1 ⟨rfl, rfl⟩
      go_wp2_with fail
      refine (Len_no HN1.out).mono ?_
      rintro e x1 ⟨rfl, rfl⟩
      go_wp2_with fail
      refine ⟨⟨j + 1, by omega, by go_num, (HB1.out.cell (p := ⟨w.heap.size + 1, 0, none⟩) (block_lt_of_cell HC.out.1)).trans HC.out.1, (HB1.out.cell (p := ⟨w.heap.size + 1, 1, none⟩) (block_lt_of_cell HC.out.2.1)).trans HC.out.2.1, (HB1.out.cell (p := ⟨w.heap.size, 0, none⟩) (block_lt_of_cell HC.out.2.2)).trans HC.out.2.2, HB.out.trans (HB1.out.mono HB.out.size)⟩, by simp [intOf]; omega⟩
    · obtain rfl : j = 2 := by omega
      have HB := Lib.hid hb
      clear hb h0 h1 h2
      go_wp2_with fail
      refine (awk7_any _).mono ?_
      rintro e w1 ⟨rfl, hb1⟩
      go_wp2_with fail
      go_ret
      exact ⟨rfl, HB.out.trans (hb1.mono HB.out.size)⟩
end Go.Proofs.Ytifnhdnmohlfiaa
