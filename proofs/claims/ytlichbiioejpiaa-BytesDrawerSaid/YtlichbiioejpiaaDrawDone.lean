/-
  BytesDrawer returns true for every input, and every argument reads behind the call as it read before. No conditions.
-/
import Derived.Test.YtlichbiioejpiaaDrawW
import Derived.Test.YtlichbiioejpiaaOpen
namespace Go.Proofs.Ytlichbiioejpiaa
open Go.ChangeShapes Go.WideShapes Go.ChangeAt Go.RowKit Go.Deep
set_option linter.unusedVariables false

section
variable {H : Type} {enc : TypeId × Value → H} {W : World} {base fuel : Nat} {held : Bool} {x : DataW H × List MemPlace}
theorem openU {a0 : Option Addr} {n0 c0 : Nat} (h : DataW.trod enc Try.prog W base (fun _ => true) held fuel 22 [.slice a0 n0 c0] = some x) :
    ∃ l : List Nat, n0 = l.length ∧ l.length ≤ c0 ∧ c0 ≤ maxLen ∧ RdN W W.heap.size a0 l := by
  rcases open_ints Try.underlying22 Try.underlying27 (by kernel_rfl) h with ⟨h0, _⟩ | ⟨a, len, cap, zs, h0, hb, hl, hm, hz, _, hcell, hwf⟩
  · obtain ⟨rfl, rfl, rfl⟩ : a0 = none ∧ n0 = 0 ∧ c0 = 0 := by simpa using h0
    exact ⟨[], rfl, Nat.le_refl _, Nat.zero_le _, fun j u hu => by simp at hu⟩
  · obtain ⟨rfl, rfl, rfl⟩ : a0 = some a ∧ n0 = len ∧ c0 = cap := by simpa using h0
    simp only [if_true] at hz
    refine ⟨(zs.take n0).map (fun z => z.toNat), by simp; omega, by simp; omega, hm, fun j u hu => ?_⟩
    rw [List.getElem?_map, Option.map_eq_some_iff] at hu
    obtain ⟨z, hz', rfl⟩ := hu
    rw [List.getElem?_take] at hz'
    split at hz'
    · have hj := getElem_lt hz'
      have hzz : zs.getD j 0 = z := by simp [List.getD, hz']
      have hw := hwf z (List.mem_of_getElem? hz')
      have hr : 0 ≤ z ∧ z ≤ 18446744073709551615 := by simpa [Lit.wf, IntKind.min, IntKind.max, IntKind.signed, IntKind.bits] using hw
      have hc := hcell j hj
      rw [hzz] at hc
      have hblk := World.block_lt_of_cell? W _ hc
      rw [blockAdd] at hblk
      refine ⟨by omega, a, rfl, hblk, ?_⟩
      rw [hc, Int.toNat_of_nonneg hr.1]
    · cases hz'

theorem openLL {a0 : Option Addr} {n0 c0 : Nat} (h : DataW.trod enc Try.prog W base (fun _ => true) held fuel 23 [.slice a0 n0 c0] = some x) :
    ∃ ls : List (List (List UInt8)), n0 = ls.length ∧ ls.length ≤ c0 ∧ c0 ≤ maxLen ∧ RdLL W W.heap.size a0 ls := by
  rcases open_slice1 Try.underlying23 (by kernel_rfl) h with ⟨h0, _⟩ | ⟨a, len, cap, m, n, V, D, Pl, h0, hb, hl, hm, hmm, _, hx⟩
  · obtain ⟨rfl, rfl, rfl⟩ : a0 = none ∧ n0 = 0 ∧ c0 = 0 := by simpa using h0
    exact ⟨[], rfl, Nat.le_refl _, Nat.zero_le _, fun h => absurd h (by simp)⟩
  · obtain ⟨rfl, rfl, rfl⟩ : a0 = some a ∧ n0 = len ∧ c0 = cap := by simpa using h0
    simp only [if_true] at hmm
    subst hmm
    obtain ⟨ls, hlen, hq⟩ := list_choice (Q := fun i (l : List (List UInt8)) => ∃ A' c', W.cell? (a.add i) = some (.slice A' l.length c') ∧ l.length ≤ c' ∧ c' ≤ maxLen ∧ RdL W W.heap.size A' l) n0 (fun i hi => by
      obtain ⟨h1, h2⟩ := hx i (by omega)
      have hsl : ∃ a1 n1 c1, V i = .slice a1 n1 c1 := by
        rcases open_slice1 Try.underlying26 (by kernel_rfl) h2 with ⟨h3, _⟩ | ⟨_, _, _, _, _, _, _, _, h3, _⟩
        · exact ⟨_, _, _, by simpa using h3⟩
        · exact ⟨_, _, _, by simpa using h3⟩
      obtain ⟨a1, n1, c1, hv⟩ := hsl
      rw [hv] at h1 h2
      obtain ⟨l, rfl, h4, h5, h6⟩ := openL h2
      exact ⟨l, a1, c1, h1, h4, h5, h6⟩)
    refine ⟨ls, hlen.symm, by omega, hm, fun hp => ⟨a, rfl, ?_, hq⟩⟩
    have := World.block_lt_of_cell? W _ (hx 0 (by omega)).1
    rwa [blockAdd] at this
end

set_option maxRecDepth 100000 in
set_option maxHeartbeats 1000000 in
theorem draw_far (An : Option Addr) (cn n0 : Nat) (Al : Option Addr) (cl n1 : Nat) (Aa : Option Addr) (ca n2 : Nat) (Ab : Option Addr) (cb n3 : Nat) (w : World)
    (h2 : n2 ≤ 9223372036854775807) (h3 : n3 ≤ 9223372036854775807) (h : 60 < n2 ∨ 60 < n3) :
    Calls Try.prog 3 #[.slice An n0 cn, .slice Al n1 cl, .slice Aa n2 ca, .slice Ab n3 cb] w fun e w' => e = .returned (.bool true) ∧ Below w.heap.size w w' := by
  have hb1 : Below w.heap.size w (w.alloc (.cells #[.slice An n0 cn] 22)) := (Below.refl _ _).alloc (Nat.le_refl _) _
  by_cases g : 60 < n2
  · have h1' : decide ((60 : Int) < n2) = true := decide_eq_true (by omega)
    go_enter Try.func3, Try.ntmps3
    go_wp2_with fail
    refine (awake_any _).mono ?_
    rintro e w9 ⟨rfl, hb9⟩
    go_wp2_with fail
    go_ret
    exact ⟨rfl, hb1.trans (hb9.mono (by simp))⟩
  · have h1' : decide ((60 : Int) < n2) = false := decide_eq_false (by omega)
    have h2' : decide ((60 : Int) < n3) = true := decide_eq_true (by omega)
    go_enter Try.func3, Try.ntmps3
    go_wp2_with fail
    refine (awake_any _).mono ?_
    rintro e w9 ⟨rfl, hb9⟩
    go_wp2_with fail
    go_ret
    exact ⟨rfl, hb1.trans (hb9.mono (by simp))⟩
end Go.Proofs.Ytlichbiioejpiaa

namespace Go.Proofs.Ytlichbiioejpiaa.bytesDrawer
open Go.ChangeShapes Go.WideShapes Go.ChangeAt Go.RowKit
set_option linter.unusedVariables false

set_option maxRecDepth 100000 in
theorem lifted (os : Os) (started : os.Started) (H : Type) (enc : TypeId × Value → H) :
    ReturnsInHanded {} Try.checked os 3 .any (Rows.bytesDrawerSpec.pre6 enc Try.prog Try.f3 Rows.bytesDrawerRow.domain false) (Rows.bytesDrawerSpec.post enc Try.prog Try.f3 false true false false) := by
  refine returnsInHanded_of_change (C := Try.checked) Try.own started (by kernel_rfl) Try.func3
    (ChangeSpec.witness6 (enc := enc) (C := Try.checked) false ⟨#[], #[.slice none 0 0, .slice none 0 0, .slice none 0 0, .slice none 0 0], []⟩ 8 (by kernel_rfl) (by kernel_rfl) (by kernel_rfl) (by kernel_rfl)) ?_
  intro W base args ds gs before hval0 hW hcnd _
  have hval : ∀ (j : Nat) t v, Try.f3.params[j]? = some t → args[j]? = some v → Value.okWide Try.prog W .any base t v := hval0
  have hW' := hW
  obtain ⟨p, q, hA0, hV, rfl, hfz, hnd⟩ := hW
  have hA : DataW.TrodAll enc Try.prog W 0 (fun _ => true) true Try.f3.params.toList args.toList ds p := hA0
  rw [Try.params3] at hA hval
  obtain ⟨v0, vs0, d0, ds0, p0, q0, hargs, rfl, rfl, h0, r0⟩ := trodAll_cons hA
  obtain ⟨v1, vs1, d1, ds1, p1, q1, rfl, rfl, rfl, h1, r1⟩ := trodAll_cons r0
  obtain ⟨v2, vs2, d2, ds2, p2, q2, rfl, rfl, rfl, h2, r2⟩ := trodAll_cons r1
  obtain ⟨v3, vs3, d3, ds3, p3, q3, rfl, rfl, rfl, h3, r3⟩ := trodAll_cons r2
  obtain ⟨rfl, rfl, rfl⟩ := trodAll_nil r3
  obtain rfl : args = #[v0, v1, v2, v3] := by cases args; simp_all
  obtain ⟨rfl, rfl⟩ := trodVars_none hV
  obtain ⟨a0, n0, c0, fu0, rfl, t0⟩ := arg_slice Try.underlying22 (hval 0 22 v0 rfl rfl) h0
  obtain ⟨l0, rfl, hc0, hm0, hr0⟩ := openU t0
  obtain ⟨a1, n1, c1, fu1, rfl, t1⟩ := arg_slice Try.underlying23 (hval 1 23 v1 rfl rfl) h1
  obtain ⟨l1, rfl, hc1, hm1, hr1⟩ := openLL t1
  obtain ⟨a2, n2, c2, fu2, rfl, t2⟩ := arg_slice Try.underlying24 (hval 2 24 v2 rfl rfl) h2
  obtain ⟨l2, rfl, hc2, hm2, hr2⟩ := openB t2
  obtain ⟨a3, n3, c3, fu3, rfl, t3⟩ := arg_slice Try.underlying24 (hval 3 24 v3 rfl rfl) h3
  obtain ⟨l3, rfl, hc3, hm3, hr3⟩ := openB t3
  clear hA0 hval0
  have key : Calls Try.prog 3 #[.slice a0 l0.length c0, .slice a1 l1.length c1, .slice a2 l2.length c2, .slice a3 l3.length c3] W fun e w' => e = .returned (.bool true) ∧ Below W.heap.size W w' := by
    have hm1' := hm1
    have hm2' := hm2
    have hm3' := hm3
    unfold maxLen at hm1' hm2' hm3'
    by_cases h : 60 < l2.length ∨ 60 < l3.length
    · exact draw_far a0 c0 l0.length a1 c1 l1.length a2 c2 l2.length a3 c3 l3.length W (by omega) (by omega) h
    · exact draw_walk a0 c0 l0 a1 c1 l1 a2 c2 l2 a3 c3 l3 W (by omega) (by omega) (by omega) hr0 hr1 hr2 hr3
  refine key.mono fun e W' ⟨he, hb⟩ => ?_
  subst he
  exact ⟨_, rfl, law_post hW' rfl rfl (by decide +kernel) (by kernel_rfl) hb⟩

theorem over : Rows.bytesDrawerRow.holds Try.pinned (OpenSpec.ofChange Rows.bytesDrawerSpec) :=
  OpenClaim.holds_of_wide 3 Try.f3 rfl rfl rfl rfl rfl rfl rfl ⟨rfl, rfl, rfl, rfl, rfl⟩ rfl rfl rfl rfl rfl (by kernel_rfl) Try.func3 (by kernel_rfl)
    (of_decide_eq_true (by kernel_rfl)) (by unfold Func.isWrapper; first | (rw [if_pos (by decide +kernel)]; kernel_rfl) | (rw [if_neg (by decide +kernel)]; exact ⟨rfl, rfl⟩))
    (fun os started H enc _ => lifted os started H enc)
end Go.Proofs.Ytlichbiioejpiaa.bytesDrawer

namespace Go.Proofs.Ytlichbiioejpiaa
theorem bytesDrawer_holds : Rows.BytesDrawerSaid := bytesDrawer.over
end Go.Proofs.Ytlichbiioejpiaa
