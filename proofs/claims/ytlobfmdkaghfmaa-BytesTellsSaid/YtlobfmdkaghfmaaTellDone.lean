/-
  BytesTells returns true for every input, and every argument reads behind the call as it read before. No conditions.
-/
import Derived.Test.YtlobfmdkaghfmaaTellF
namespace Go.Proofs.Ytlobfmdkaghfmaa.bytesTells
open Go.ChangeShapes Go.WideShapes Go.ChangeAt Go.RowKit
set_option linter.unusedVariables false

set_option maxRecDepth 100000 in
theorem lifted (os : Os) (started : os.Started) (H : Type) (enc : TypeId × Value → H) :
    ReturnsInHanded {} Try.checked os 4 .any (Rows.bytesTellsSpec.pre6 enc Try.prog Try.f4 Rows.bytesTellsRow.domain false) (Rows.bytesTellsSpec.post enc Try.prog Try.f4 false true false false) := by
  refine returnsInHanded_of_change (C := Try.checked) Try.own started (by kernel_rfl) Try.func4
    (ChangeSpec.witness6 (enc := enc) (C := Try.checked) false ⟨#[], #[.int .u64 0, .slice none 0 0, .int .i64 0, .int .i64 0, .int .i64 0, .slice none 0 0], []⟩ 8 (by kernel_rfl) (by kernel_rfl) (by kernel_rfl) (by kernel_rfl)) ?_
  intro W base args ds gs before hval0 hW hcnd _
  have hval : ∀ (j : Nat) t v, Try.f4.params[j]? = some t → args[j]? = some v → Value.okWide Try.prog W .any base t v := hval0
  have hW' := hW
  obtain ⟨p, q, hA0, hV, rfl, hfz, hnd⟩ := hW
  have hA : DataW.TrodAll enc Try.prog W 0 (fun _ => true) true Try.f4.params.toList args.toList ds p := hA0
  rw [Try.params4] at hA hval
  obtain ⟨v0, vs0, d0, ds0, p0, q0, hargs, rfl, rfl, h0, r0⟩ := trodAll_cons hA
  obtain ⟨v1, vs1, d1, ds1, p1, q1, rfl, rfl, rfl, h1, r1⟩ := trodAll_cons r0
  obtain ⟨v2, vs2, d2, ds2, p2, q2, rfl, rfl, rfl, h2, r2⟩ := trodAll_cons r1
  obtain ⟨v3, vs3, d3, ds3, p3, q3, rfl, rfl, rfl, h3, r3⟩ := trodAll_cons r2
  obtain ⟨v4, vs4, d4, ds4, p4, q4, rfl, rfl, rfl, h4, r4⟩ := trodAll_cons r3
  obtain ⟨v5, vs5, d5, ds5, p5, q5, rfl, rfl, rfl, h5, r5⟩ := trodAll_cons r4
  obtain ⟨rfl, rfl, rfl⟩ := trodAll_nil r5
  obtain rfl : args = #[v0, v1, v2, v3, v4, v5] := by cases args; simp_all
  obtain ⟨rfl, rfl⟩ := trodVars_none hV
  obtain ⟨a0, rfl, rfl, rfl, w0⟩ := open_int Try.underlying23 (hval 0 23 v0 rfl rfl) h0
  have hw0 : 0 ≤ a0 ∧ a0 ≤ 18446744073709551615 := by simpa [Lit.wf, IntKind.min, IntKind.max, IntKind.signed, IntKind.bits] using w0
  obtain ⟨a1, n1, c1, fu1, rfl, t1⟩ := arg_slice Try.underlying30 (hval 1 30 v1 rfl rfl) h1
  obtain ⟨l1, rfl, hc1, hm1, hr1⟩ := openB t1
  obtain ⟨a2, rfl, rfl, rfl, w2⟩ := open_int Try.underlying3 (hval 2 3 v2 rfl rfl) h2
  have hw2 : -9223372036854775808 ≤ a2 ∧ a2 ≤ 9223372036854775807 := by simpa [Lit.wf, IntKind.min, IntKind.max, IntKind.signed, IntKind.bits] using w2
  obtain ⟨a3, rfl, rfl, rfl, w3⟩ := open_int Try.underlying3 (hval 3 3 v3 rfl rfl) h3
  have hw3 : -9223372036854775808 ≤ a3 ∧ a3 ≤ 9223372036854775807 := by simpa [Lit.wf, IntKind.min, IntKind.max, IntKind.signed, IntKind.bits] using w3
  obtain ⟨a4, rfl, rfl, rfl, w4⟩ := open_int Try.underlying3 (hval 4 3 v4 rfl rfl) h4
  have hw4 : -9223372036854775808 ≤ a4 ∧ a4 ≤ 9223372036854775807 := by simpa [Lit.wf, IntKind.min, IntKind.max, IntKind.signed, IntKind.bits] using w4
  obtain ⟨a5, n5, c5, fu5, rfl, t5⟩ := arg_slice Try.underlying34 (hval 5 34 v5 rfl rfl) h5
  obtain ⟨l5, rfl, hc5, hm5, hr5⟩ := openL t5
  clear hA0 hval0
  have key : Calls Try.prog 4 #[.int .u64 a0, .slice a1 l1.length c1, .int .i64 a2, .int .i64 a3, .int .i64 a4, .slice a5 l5.length c5] W fun e w' => e = .returned (.bool true) ∧ Below W.heap.size W w' := by
    have hm1' := hm1
    have hm5' := hm5
    unfold maxLen at hm1' hm5'
    obtain ⟨f, hf⟩ : ∃ f : Nat, a0 = f := ⟨a0.toNat, by omega⟩
    subst hf
    rcases Nat.lt_or_ge 600 l1.length with h | h
    · exact tells_far f a1 c1 l1.length a2 a3 a4 a5 c5 l5.length W (by omega) (by omega) (.inl h)
    · rcases Nat.lt_or_ge 20 l5.length with h' | h'
      · exact tells_far f a1 c1 l1.length a2 a3 a4 a5 c5 l5.length W (by omega) (by omega) (.inr h')
      · exact tells_walk f a1 c1 l1 a2 a3 a4 a5 c5 l5 W (by omega) h h' hw2.1 hw2.2 hw3.1 hw3.2 hw4.1 hw4.2 hc1 hm1 hr1 hr5
  refine key.mono fun e W' ⟨he, hb⟩ => ?_
  subst he
  exact ⟨_, rfl, law_post hW' rfl rfl (by decide +kernel) (by kernel_rfl) hb⟩

theorem over : Rows.bytesTellsRow.holds Try.pinned (OpenSpec.ofChange Rows.bytesTellsSpec) :=
  OpenClaim.holds_of_wide 4 Try.f4 rfl rfl rfl rfl rfl rfl rfl ⟨rfl, rfl, rfl, rfl, rfl⟩ rfl rfl rfl rfl rfl (by kernel_rfl) Try.func4 (by kernel_rfl)
    (of_decide_eq_true (by kernel_rfl)) (by unfold Func.isWrapper; first | (rw [if_pos (by decide +kernel)]; kernel_rfl) | (rw [if_neg (by decide +kernel)]; exact ⟨rfl, rfl⟩))
    (fun os started H enc _ => lifted os started H enc)
end Go.Proofs.Ytlobfmdkaghfmaa.bytesTells

namespace Go.Proofs.Ytlobfmdkaghfmaa
theorem bytesTells_holds : Rows.BytesTellsSaid := bytesTells.over
end Go.Proofs.Ytlobfmdkaghfmaa
