/-
  Leaf functions of layer 2 (value): what the makers of values, isNull, toInt and Right answer. No conditions.
-/
import Derived.Test.YteijijoiifbjlaaGreatDoorRows
import Derived.WalkKit
import Derived.ProofKit
import Derived.OpenShut
import Derived.Below
import Derived.Carry
import Derived.LoopTactic
import Derived.Outline
import Derived.OwnWalk
import Derived.Lib.Hide
import Derived.Laws.CopyOwn
import Derived.Laws.AppendOwnNone
import Derived.Laws.OwnMore
import Derived.WalkLawsBesides
import Derived.WalkSpells
import Derived.Deep.Draws
import Derived.Lib.ConvBytes
namespace Go.Proofs.YteijijoiifbjlaaGreatDoor
open Go.ChangeShapes Go.WideShapes Go.ChangeAt Go.RowKit
set_option linter.unusedVariables false

/-- a value of the program's: its kind, its number, its bytes -/
abbrev vv (k n : Int) (s : ByteArray) : Value := .agg #[.int .u8 k, .int .i64 n, .string s]
abbrev nul : Value := vv 0 0 ⟨#[]⟩

theorem bcell {W w1 : World} (hb : Below W.heap.size W w1) : (∀ b o, b < W.heap.size → w1.cell? ⟨b, o, none⟩ = W.cell? ⟨b, o, none⟩) ∧ (∀ b o, b < W.heap.size → w1.frozen? ⟨b, o, none⟩ = W.frozen? ⟨b, o, none⟩) :=
  ⟨fun b o h => hb.cell (p := ⟨b, o, none⟩) h, fun b o h => hb.frozen (p := ⟨b, o, none⟩) h⟩

theorem intValue_any (n : Int) (w : World) :
    Calls Tryz.prog 81 #[.int .i64 n] w fun e w' => e = .returned (vv 1 n ⟨#[]⟩) ∧ Below w.heap.size w w' := by
  go_enter Tryz.func81, Tryz.ntmps81
  go_wp2
  exact bodyPost_ret (v := vv 1 n ⟨#[]⟩) (by simp [results, Tryz.results81, go_sem]) rfl ⟨rfl, (Below.refl _ _).alloc (Nat.le_refl _) _⟩

theorem textValue_any (s : ByteArray) (w : World) :
    Calls Tryz.prog 82 #[.string s] w fun e w' => e = .returned (vv 2 0 s) ∧ Below w.heap.size w w' := by
  go_enter Tryz.func82, Tryz.ntmps82
  go_wp2
  exact bodyPost_ret (v := vv 2 0 s) (by simp [results, Tryz.results82, go_sem]) rfl ⟨rfl, (Below.refl _ _).alloc (Nat.le_refl _) _⟩

theorem isNull_any (k n : Int) (s : ByteArray) (w : World) :
    Calls Tryz.prog 34 #[vv k n s] w fun e w' => e = .returned (.bool (k == 0)) ∧ Below w.heap.size w w' := by
  go_enter Tryz.func34, Tryz.ntmps34
  go_wp2
  go_ret
  exact ⟨rfl, (Below.refl _ _).alloc (Nat.le_refl _) _⟩

theorem flagValue_any (b : Bool) (w : World) :
    Calls Tryz.prog 92 #[.bool b] w fun e w' => e = .returned (vv 1 (if b then 1 else 0) ⟨#[]⟩) ∧ Below w.heap.size w w' := by
  cases b
  · go_enter Tryz.func92, Tryz.ntmps92
    go_wp2_with (go_at_call 81; refine (intValue_any _ _).mono ?_; rintro e w1 ⟨rfl, hb⟩; obtain ⟨hc, hf⟩ := bcell hb; have hz : w.heap.size < w1.heap.size := by have := hb.size; simp at this; omega)
    exact bodyPost_ret (v := vv 1 0 ⟨#[]⟩) (by simp [results, Tryz.results92, go_sem, hc]) rfl ⟨rfl, ((((Below.refl _ _).alloc (Nat.le_refl _) _).trans (hb.mono (by simp))).setCell (by simp) _ |>.setCell (by simp) _ |>.setCell (by simp) _)⟩
  · go_enter Tryz.func92, Tryz.ntmps92
    go_wp2_with (go_at_call 81; refine (intValue_any _ _).mono ?_; rintro e w1 ⟨rfl, hb⟩; obtain ⟨hc, hf⟩ := bcell hb; have hz : w.heap.size < w1.heap.size := by have := hb.size; simp at this; omega)
    exact bodyPost_ret (v := vv 1 1 ⟨#[]⟩) (by simp [results, Tryz.results92, go_sem, hc]) rfl ⟨rfl, ((((Below.refl _ _).alloc (Nat.le_refl _) _).trans (hb.mono (by simp))).setCell (by simp) _ |>.setCell (by simp) _ |>.setCell (by simp) _)⟩

theorem toInt_no (n : Int) (w : World) :
    Calls Tryz.prog 93 #[.int .i64 n, .bool false] w fun e w' => e = .returned (.tuple #[nul, .int .i64 20]) ∧ Below w.heap.size w w' := by
  go_enter Tryz.func93, Tryz.ntmps93
  go_wp2_with fail
  exact bodyPost_ret (v := .tuple #[nul, .int .i64 20]) (by simp [results, Tryz.results93, go_sem]) rfl ⟨rfl, (Below.refl _ _).alloc (Nat.le_refl _) _⟩

theorem toInt_yes (n : Int) (w : World) :
    Calls Tryz.prog 93 #[.int .i64 n, .bool true] w fun e w' => e = .returned (.tuple #[vv 1 n ⟨#[]⟩, .int .i64 0]) ∧ Below w.heap.size w w' := by
  go_enter Tryz.func93, Tryz.ntmps93
  go_wp2_with (go_at_call 81; refine (intValue_any _ _).mono ?_; rintro e w1 ⟨rfl, hb⟩; obtain ⟨hc, hf⟩ := bcell hb; have hz : w.heap.size < w1.heap.size := by have := hb.size; simp at this; omega)
  exact bodyPost_ret (v := .tuple #[vv 1 n ⟨#[]⟩, .int .i64 0]) (by simp [results, Tryz.results93, go_sem, hc]) rfl ⟨rfl, ((((Below.refl _ _).alloc (Nat.le_refl _) _).trans (hb.mono (by simp))).setCell (by simp) _ |>.setCell (by simp) _ |>.setCell (by simp) _)⟩

/-- is it a right value? -/
def Rt (k n : Int) (s : ByteArray) : Prop := (k = 0 ∧ n = 0 ∧ s.size = 0) ∨ (k = 1 ∧ s.size = 0) ∨ ((k = 2 ∨ k = 3) ∧ n = 0 ∧ s.size ≤ 65536)
instance (k n : Int) (s : ByteArray) : Decidable (Rt k n s) := by unfold Rt; infer_instance

theorem isEmpty_iff (s : ByteArray) : s.toList.isEmpty = decide (s.size = 0) := by
  rcases s with ⟨⟨l⟩⟩
  rw [Bool.eq_iff_iff]
  simp [ByteArray.toList_eq, ByteArray.size]

theorem Right_any (k n : Int) (s : ByteArray) (w : World) (hs : s.size ≤ 9223372036854775807) :
    Calls Tryz.prog 12 #[vv k n s] w fun e w' => e = .returned (.bool (decide (Rt k n s))) ∧ Below w.heap.size w w' := by
  by_cases h0 : k = 0
  · subst h0
    go_enter Tryz.func12, Tryz.ntmps12
    go_wp2
    all_goals (go_ret; refine ⟨?_, (Below.refl _ _).alloc (Nat.le_refl _) _⟩; simp_all [Rt, isEmpty_iff])
  · by_cases h1 : k = 1
    · subst h1
      go_enter Tryz.func12, Tryz.ntmps12
      go_wp2
      all_goals (go_ret; refine ⟨?_, (Below.refl _ _).alloc (Nat.le_refl _) _⟩; simp_all [Rt, isEmpty_iff])
    · by_cases h2 : k = 2
      · subst h2
        go_enter Tryz.func12, Tryz.ntmps12
        go_wp2
        all_goals (go_ret; refine ⟨?_, (Below.refl _ _).alloc (Nat.le_refl _) _⟩; simp_all [Rt] <;> omega)
      · by_cases h3 : k = 3
        · subst h3
          go_enter Tryz.func12, Tryz.ntmps12
          go_wp2
          all_goals (go_ret; refine ⟨?_, (Below.refl _ _).alloc (Nat.le_refl _) _⟩; simp_all [Rt] <;> omega)
        · have e0 : (k == 0) = false := by simpa using h0
          have e1 : (k == 1) = false := by simpa using h1
          have e2 : (k == 2) = false := by simpa using h2
          have e3 : (k == 3) = false := by simpa using h3
          go_enter Tryz.func12, Tryz.ntmps12
          go_wp2
          all_goals (go_ret; refine ⟨?_, (Below.refl _ _).alloc (Nat.le_refl _) _⟩; simp_all [Rt])
end Go.Proofs.YteijijoiifbjlaaGreatDoor
