/-
  RecordApart returns true for every input, and every argument reads behind the call as it read before. No conditions.
-/
import Derived.Test.YtlichbiioejpiaaRApartW
import Derived.Test.YtlichbiioejpiaaRClose
namespace Go.Proofs.Ytlichbiioejpiaa.recordApart
open Go.ChangeShapes Go.WideShapes Go.ChangeAt Go.RowKit
set_option linter.unusedVariables false

set_option maxRecDepth 100000 in
theorem lifted (os : Os) (started : os.Started) (H : Type) (enc : TypeId × Value → H) :
    ReturnsInHanded {} Try.checked os 8 .any (Rows.recordApartSpec.pre6 enc Try.prog Try.f8 Rows.recordApartRow.domain false) (Rows.recordApartSpec.post enc Try.prog Try.f8 false true false false) := by
  refine returnsInHanded_of_change (C := Try.checked) Try.own started (by kernel_rfl) Try.func8
    (ChangeSpec.witness6 (enc := enc) (C := Try.checked) false ⟨#[], #[.slice none 0 0, .slice none 0 0, .slice none 0 0, .int .u16 0], []⟩ 8 (by kernel_rfl) (by kernel_rfl) (by kernel_rfl) (by kernel_rfl)) ?_
  intro W base args ds gs before hval0 hW hcnd _
  have hval : ∀ (j : Nat) t v, Try.f8.params[j]? = some t → args[j]? = some v → Value.okWide Try.prog W .any base t v := hval0
  have hW' := hW
  obtain ⟨p, q, hA0, hV, rfl, hfz, hnd⟩ := hW
  have hA : DataW.TrodAll enc Try.prog W 0 (fun _ => true) true Try.f8.params.toList args.toList ds p := hA0
  rw [Try.params8] at hA hval
  obtain ⟨v0, vs0, d0, ds0, p0, q0, hargs, rfl, rfl, h0, r0⟩ := trodAll_cons hA
  obtain ⟨v1, vs1, d1, ds1, p1, q1, rfl, rfl, rfl, h1, r1⟩ := trodAll_cons r0
  obtain ⟨v2, vs2, d2, ds2, p2, q2, rfl, rfl, rfl, h2, r2⟩ := trodAll_cons r1
  obtain ⟨v3, vs3, d3, ds3, p3, q3, rfl, rfl, rfl, h3, r3⟩ := trodAll_cons r2
  obtain ⟨rfl, rfl, rfl⟩ := trodAll_nil r3
  obtain rfl : args = #[v0, v1, v2, v3] := by cases args; simp_all
  obtain ⟨rfl, rfl⟩ := trodVars_none hV
  obtain ⟨a0, n0, c0, fu0, rfl, t0⟩ := arg_slice Try.underlying46 (hval 0 46 v0 rfl rfl) h0
  obtain ⟨l0, rfl, hc0, hm0, hz0, hr0, hs0⟩ := openRow t0
  obtain ⟨a1, n1, c1, fu1, rfl, t1⟩ := arg_slice Try.underlying46 (hval 1 46 v1 rfl rfl) h1
  obtain ⟨l1, rfl, hc1, hm1, hz1, hr1, hs1⟩ := openRow t1
  obtain ⟨a2, n2, c2, fu2, rfl, t2⟩ := arg_slice Try.underlying49 (hval 2 49 v2 rfl rfl) h2
  obtain ⟨l2, rfl, hc2, hm2, hr2⟩ := openF t2
  obtain ⟨a3, rfl, rfl, rfl, w3⟩ := open_int Try.underlying67 (hval 3 67 v3 rfl rfl) h3
  have hw3 : 0 ≤ a3 ∧ a3 ≤ 65535 := by simpa [Lit.wf, IntKind.min, IntKind.max, IntKind.signed, IntKind.bits] using w3
  clear hA0 hval0
  have key : Calls Try.prog 8 #[.slice a0 l0.length c0, .slice a1 l1.length c1, .slice a2 l2.length c2, .int .u16 a3] W fun e w' => e = .returned (.bool true) ∧ Below W.heap.size W w' := by
    unfold maxLen at hm0 hm1 hm2 hs0 hs1
    obtain ⟨q, rfl⟩ := Int.eq_ofNat_of_zero_le hw3.1
    exact apart_walk a0 c0 l0 a1 c1 l1 a2 c2 l2 q W hr0 hr1 hr2 hc0 hc1 (by omega) (by omega) (by omega) (by omega) (fun t ht => ⟨(hs0 t ht).1, by have := (hs0 t ht).2; omega⟩) (fun t ht => ⟨(hs1 t ht).1, by have := (hs1 t ht).2; omega⟩)
  refine key.mono fun e W' ⟨he, hb⟩ => ?_
  subst he
  exact ⟨_, rfl, law_post hW' rfl rfl (by decide +kernel) (by kernel_rfl) hb⟩

theorem over : Rows.recordApartRow.holds Try.pinned (OpenSpec.ofChange Rows.recordApartSpec) :=
  OpenClaim.holds_of_wide 8 Try.f8 rfl rfl rfl rfl rfl rfl rfl ⟨rfl, rfl, rfl, rfl, rfl⟩ rfl rfl rfl rfl rfl (by kernel_rfl) Try.func8 (by kernel_rfl)
    (of_decide_eq_true (by kernel_rfl)) (by unfold Func.isWrapper; first | (rw [if_pos (by decide +kernel)]; kernel_rfl) | (rw [if_neg (by decide +kernel)]; exact ⟨rfl, rfl⟩))
    (fun os started H enc _ => lifted os started H enc)
end Go.Proofs.Ytlichbiioejpiaa.recordApart

namespace Go.Proofs.Ytlichbiioejpiaa
theorem recordApart_holds : Rows.RecordApartSaid := recordApart.over
end Go.Proofs.Ytlichbiioejpiaa
