/-
  Arguments that are lists of bools, opened. No conditions.
-/
import Derived.Test.YtceknmibopnmhaaGreatDoorAOpn
import Derived.Test.YtceknmibopnmhaaGreatDoorAAgW
import Derived.Deep.Grids
namespace Go.Proofs.YtceknmibopnmhaaGreatDoor
open Go.ChangeShapes Go.WideShapes Go.ChangeAt Go.RowKit Go.Deep
set_option linter.unusedVariables false

section
variable {H : Type} {enc : TypeId × Value → H} {W : World} {base fuel : Nat} {held : Bool} {x : DataW H × List MemPlace}
set_option maxRecDepth 100000 in
theorem openB {a0 : Option Addr} {n0 c0 : Nat} (h : DataW.trod enc Tryz.prog W base (fun _ => true) held fuel 61 [.slice a0 n0 c0] = some x) :
    ∃ l : List Bool, n0 = l.length ∧ l.length ≤ c0 ∧ c0 ≤ maxLen ∧ RdB W a0 l ∧ True := by
  rcases open_bools Tryz.underlying61 Tryz.underlying4 (by kernel_rfl) h with ⟨h0, _⟩ | ⟨a, len, cap, B, h0, hb, hl, hm, _, hcell⟩
  · obtain ⟨rfl, rfl, rfl⟩ : a0 = none ∧ n0 = 0 ∧ c0 = 0 := by simpa using h0
    exact ⟨[], rfl, Nat.le_refl _, Nat.zero_le _, .inl rfl, trivial⟩
  · obtain ⟨rfl, rfl, rfl⟩ : a0 = some a ∧ n0 = len ∧ c0 = cap := by simpa using h0
    refine ⟨(List.range n0).map B, by simp, by simpa using hl, hm, ?_, trivial⟩
    rcases Nat.eq_zero_or_pos n0 with hn | hn
    · exact .inl (by subst hn; rfl)
    · refine .inr ⟨a, rfl, ?_, fun j d hj => ?_⟩
      · have := World.block_lt_of_cell? W _ (hcell 0 (by omega))
        rwa [addT] at this
      · have hj2 := lt_of_at hj
        simp at hj2
        have hd : B j = d := by simpa [hj2] using hj
        rw [hcell j (by omega), hd]
end
end Go.Proofs.YtceknmibopnmhaaGreatDoor
