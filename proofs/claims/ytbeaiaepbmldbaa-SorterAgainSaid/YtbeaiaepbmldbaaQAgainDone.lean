/-
  SorterAgain returns true for every input, and every argument reads behind the call as it read before. No conditions.
-/
import Derived.Test.YtbeaiaepbmldbaaQAgainW
import Derived.Test.YtbeaiaepbmldbaaQAB
namespace Go.Proofs.Ytbeaiaepbmldbaa.sorterAgain
open Go.ChangeShapes Go.WideShapes Go.ChangeAt Go.RowKit
set_option linter.unusedVariables false

set_option maxRecDepth 100000 in
theorem lifted (os : Os) (started : os.Started) (H : Type) (enc : TypeId × Value → H) :
    ReturnsInHanded {} Try.checked os 7 .any (Rows.sorterAgainSpec.pre6 enc Try.prog Try.f7 Rows.sorterAgainRow.domain false) (Rows.sorterAgainSpec.post enc Try.prog Try.f7 false true false false) := by
  refine returnsInHanded_of_change (C := Try.checked) Try.own started (by kernel_rfl) Try.func7
    (ChangeSpec.witness6 (enc := enc) (C := Try.checked) false ⟨#[], #[.slice none 0 0, .agg #[.bool false, .bool false]], []⟩ 8 (by kernel_rfl) (by kernel_rfl) (by kernel_rfl) (by kernel_rfl)) ?_
  intro W base args ds gs before hval0 hW hcnd _
  have hval : ∀ (j : Nat) t v, Try.f7.params[j]? = some t → args[j]? = some v → Value.okWide Try.prog W .any base t v := hval0
  have hW' := hW
  obtain ⟨p, q, hA0, hV, rfl, hfz, hnd⟩ := hW
  have hA : DataW.TrodAll enc Try.prog W 0 (fun _ => true) true Try.f7.params.toList args.toList ds p := hA0
  rw [Try.params7] at hA hval
  obtain ⟨v0, vs0, d0, ds0, p0, q0, hargs, rfl, rfl, h0, r0⟩ := trodAll_cons hA
  obtain ⟨v1, vs1, d1, ds1, p1, q1, rfl, rfl, rfl, h1, r1⟩ := trodAll_cons r0
  obtain ⟨rfl, rfl, rfl⟩ := trodAll_nil r1
  obtain rfl : args = #[v0, v1] := by cases args; simp_all
  obtain ⟨rfl, rfl⟩ := trodVars_none hV
  obtain ⟨a0, n0, c0, fu0, rfl, t0⟩ := arg_slice Try.underlying56 (hval 0 56 v0 rfl rfl) h0
  obtain ⟨l0, rfl, hc0, hm0, hz0, hr0, hs0⟩ := openP t0
  obtain ⟨d10, d11, rfl⟩ := open_flags2 (hval 1 57 v1 rfl rfl) h1
  clear hA0 hval0
  have key : Calls Try.prog 7 #[.slice a0 l0.length c0, .agg #[.bool d10, .bool d11]] W fun e w' => e = .returned (.bool true) ∧ Below W.heap.size W w' := by
    exact again_walk a0 c0 l0 d10 d11 W hr0 hs0 hc0 hm0
  refine key.mono fun e W' ⟨he, hb⟩ => ?_
  subst he
  exact ⟨_, rfl, law_post hW' rfl rfl (by decide +kernel) (by kernel_rfl) hb⟩

theorem over : Rows.sorterAgainRow.holds Try.pinned (OpenSpec.ofChange Rows.sorterAgainSpec) :=
  OpenClaim.holds_of_wide 7 Try.f7 rfl rfl rfl rfl rfl rfl rfl ⟨rfl, rfl, rfl, rfl, rfl⟩ rfl rfl rfl rfl rfl (by kernel_rfl) Try.func7 (by kernel_rfl)
    (of_decide_eq_true (by kernel_rfl)) (by unfold Func.isWrapper; first | (rw [if_pos (by decide +kernel)]; kernel_rfl) | (rw [if_neg (by decide +kernel)]; exact ⟨rfl, rfl⟩))
    (fun os started H enc _ => lifted os started H enc)
end Go.Proofs.Ytbeaiaepbmldbaa.sorterAgain

namespace Go.Proofs.Ytbeaiaepbmldbaa
theorem sorterAgain_holds : Rows.SorterAgainSaid := sorterAgain.over
end Go.Proofs.Ytbeaiaepbmldbaa
