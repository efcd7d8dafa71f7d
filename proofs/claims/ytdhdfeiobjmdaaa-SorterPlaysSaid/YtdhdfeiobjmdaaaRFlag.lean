/-
  The statements' helper flags (layer 3). Conditions: at most 2^20 of them.
-/
import Derived.Test.YtdhdfeiobjmdaaaRHelp
namespace Go.Proofs.Ytdhdfeiobjmdaaa
open Go.ChangeShapes Go.WideShapes Go.ChangeAt Go.RowKit
set_option linter.unusedVariables false

/-- flag j of n, of some, round and round -/
def flagAt (l : List Bool) (j : Nat) : Bool := if 0 < l.length then l.getD (j % l.length) false else false
def flagsL (l : List Bool) (n : Nat) : List Bool := (List.range n).map (flagAt l)
theorem flagsL_length (l : List Bool) (n : Nat) : (flagsL l n).length = n := by simp [flagsL]
theorem flagsL_get (l : List Bool) (n j : Nat) (h : j < n) : (flagsL l n)[j]? = some (flagAt l j) := by simp [flagsL, h]
/-- block g holds these flags, to be written -/
def FlagsAt (w : World) (g : Nat) (f : Nat → Bool) (n : Nat) : Prop := g < w.heap.size ∧ ∀ j, j < n → w.cell? ⟨g, j, none⟩ = some (.bool (f j)) ∧ w.frozen? ⟨g, j, none⟩ = false
theorem FlagsAt.below {w w' : World} {g n : Nat} {f : Nat → Bool} (h : FlagsAt w g f n) (hb : Below w.heap.size w w') : FlagsAt w' g f n :=
  ⟨Nat.lt_of_lt_of_le h.1 hb.size, fun j hj => ⟨(hb.cell (p := ⟨g, j, none⟩) h.1).trans (h.2 j hj).1, (hb.frozen (p := ⟨g, j, none⟩) h.1).trans (h.2 j hj).2⟩⟩
theorem FlagsAt.set {w : World} {g n j : Nat} {f : Nat → Bool} (h : FlagsAt w g f n) (hj : j < n) (b : Bool) : FlagsAt (w.setCell ⟨g, j, none⟩ (.bool b)) g (fun i => if i = j then b else f i) n := by
  refine ⟨by simpa using h.1, fun i hi => ⟨?_, by rw [World.frozen?_setCell]; exact (h.2 i hi).2⟩⟩
  by_cases e : i = j
  · subst e
    rw [World.cell?_setCell_same w _ _ (h.2 i hi).1]
    simp
  · rw [World.cell?_setCell_other (h := by simp), (h.2 i hi).1]
    simp [e]
theorem FlagsAt.congr {w : World} {g n : Nat} {f f' : Nat → Bool} (h : FlagsAt w g f n) (e : ∀ j, j < n → f j = f' j) : FlagsAt w g f' n :=
  ⟨h.1, fun j hj => by rw [← e j hj]; exact h.2 j hj⟩
theorem FlagsAt.rdf {w : World} {g n : Nat} {f : Nat → Bool} (h : FlagsAt w g f n) : RdF w w.heap.size (some ⟨g, 0, none⟩) ((List.range n).map f) := by
  intro _
  refine ⟨_, rfl, h.1, fun j d hj => ?_⟩
  have hj2 : j < n := by
    rcases Nat.lt_or_ge j n with h | h
    · exact h
    · rw [List.getElem?_eq_none (by simpa using h)] at hj; cases hj
  have hd : f j = d := by simpa [hj2] using hj
  have ha : ((⟨g, 0, none⟩ : Addr).add j) = ⟨g, j, none⟩ := by
    unfold Addr.add
    by_cases hj0 : j = 0 <;> simp [hj0]
  rw [ha, (h.2 j hj2).1, hd]

theorem Try.info_bool : (Try.prog.info? 4).map (fun i => (i.zero, i.size, i.bytes)) = some (some (.bool false), 1, 1) := by kernel_rfl
theorem run_makeB (n : Nat) (hn : n ≤ 1099511627776) (w : World) : (Instr.makeSlice 26 (.int .i64 (n : Int)) (.int .i64 (n : Int))).run Try.prog w = .ok (.slice (some ⟨w.heap.size, 0, none⟩) n n) (w.alloc (.cells (madeCells #[.bool false] n) 4)) := by
  obtain ⟨i0, hi, hz0, hz1, hz2⟩ := info_parts Try.info_bool
  have h := run_make (P := Try.prog) w 26 4 i0 (.bool false) Try.underlying26 hi hz0 .i64 .i64 (n : Int) (n : Int) (by omega) (by omega) (by rw [hz2]; omega) (by omega)
  rw [h, hz1]
  have e2 : ((n : Int)).toNat = n := by omega
  rw [e2, Nat.mul_one]
  rfl
theorem flags_made (w : World) (n : Nat) : FlagsAt (w.alloc (.cells (madeCells #[.bool false] n) 4)) w.heap.size (fun _ => false) n := by
  refine ⟨by simp, fun j hj => ⟨?_, ?_⟩⟩
  · simp only [World.cell?, heap_alloc_new]
    have : (madeCells #[Value.bool false] n)[j]? = some (.bool false) := by
      rw [← Array.getElem?_toList, toList_madeCells_one]
      simp [hj]
    simpa using this
  · simp only [World.frozen?, heap_alloc_new]
    simp

def FlagRel (base g : Nat) (w : World) (l : List Bool) (n : Nat) (i : Value) (wr : World) : Prop :=
  ∃ k : Nat, k ≤ n ∧ i = .int .i64 k ∧ FlagsAt wr g (fun j => if j < k then flagAt l j else false) n ∧ Below base w wr
end Go.Proofs.Ytdhdfeiobjmdaaa
