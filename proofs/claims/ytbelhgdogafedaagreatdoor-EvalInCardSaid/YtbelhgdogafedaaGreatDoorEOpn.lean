/-
  Arguments that are lists of values, opened. No conditions.
-/
import Derived.Test.YtbelhgdogafedaaGreatDoorEMath
import Derived.Test.YtbelhgdogafedaaGreatDoorAClose
import Derived.Deep.Slices
import Derived.Deep.Strs
namespace Go.Proofs.YtbelhgdogafedaaGreatDoor
open Go.ChangeShapes Go.WideShapes Go.ChangeAt Go.RowKit Go.Deep
set_option linter.unusedVariables false

theorem lt_of_at {α : Type} {l : List α} {i : Nat} {x : α} (h : l[i]? = some x) : i < l.length := (List.getElem?_eq_some_iff.1 h).1
theorem choice_list {α : Type} {Q : Nat → α → Prop} : ∀ (n : Nat), (∀ i, i < n → ∃ x, Q i x) → ∃ l : List α, l.length = n ∧ ∀ (i : Nat) (x : α), l[i]? = some x → Q i x
  | 0, _ => ⟨[], rfl, fun i x h => by simp at h⟩
  | n + 1, h => by
    obtain ⟨l, hl, hq⟩ := choice_list n (fun i hi => h i (by omega))
    obtain ⟨y, hy⟩ := h n (by omega)
    refine ⟨l ++ [y], by simp [hl], fun i x hx => ?_⟩
    rcases Nat.lt_or_ge i l.length with hlt | hge
    · rw [List.getElem?_append_left hlt] at hx
      exact hq i x hx
    · rw [List.getElem?_append_right hge] at hx
      have hi := lt_of_at hx
      have h0 : i = n := by simp at hi; omega
      subst h0
      rw [hl, Nat.sub_self] at hx
      obtain rfl : y = x := by simpa using hx
      exact hy
theorem spot_none {w : World} {a : Addr} {u : Value} (h : w.cell? a = some u) : a.spot = none := by
  unfold World.cell? at h
  split at h
  · split at h
    · cases h
    · rename_i hs
      simpa using hs
  · cases h
theorem add_plain (b o n : Nat) : (⟨b, o, none⟩ : Addr).add n = ⟨b, o + n, none⟩ := by
  unfold Addr.add
  by_cases hn : n = 0 <;> simp [hn]
set_option maxRecDepth 100000 in
theorem slice_arg {H : Type} {enc : TypeId × Value → H} {W : World} {r : Reach} {b0 base : Nat} {spare : Nat → Bool} {held : Bool} {t e : TypeId} {v : Value} {d : DataW H} {ps : List MemPlace} (ht : Tryz.prog.underlying t = some (.slice e))
    (hval : Value.okWide Tryz.prog W r b0 t v) (h : DataW.Trod enc Tryz.prog W base spare held t v d ps) : ∃ a n c fuel, v = .slice a n c ∧ DataW.trod enc Tryz.prog W base spare held fuel t [.slice a n c] = some (d, ps) := by
  obtain ⟨a, n, c, rfl⟩ := okWide_slice ht hval
  obtain ⟨fuel, hf⟩ := h
  exact ⟨a, n, c, fuel, rfl, hf⟩

section
variable {H : Type} {enc : TypeId × Value → H} {W : World} {base fuel : Nat} {held : Bool} {x : DataW H × List MemPlace}
set_option maxRecDepth 100000 in
theorem openT {a0 : Option Addr} {n0 c0 : Nat} (h : DataW.trod enc Tryz.prog W base (fun _ => true) held fuel 27 [.slice a0 n0 c0] = some x) :
    ∃ vs : List Trip, n0 = vs.length ∧ vs.length ≤ c0 ∧ c0 ≤ maxLen ∧ RdT W a0 vs ∧ ∀ t ∈ vs, In64 t.2.1 ∧ t.2.2.size ≤ maxLen := by
  rcases open_slice Tryz.underlying27 h with ⟨h0, _⟩ | ⟨a, len, cap, m, n, D, Pl, h0, hb, hl, hm, hmm, _, hx⟩
  · obtain ⟨rfl, rfl, rfl⟩ : a0 = none ∧ n0 = 0 ∧ c0 = 0 := by simpa using h0
    exact ⟨[], rfl, Nat.le_refl _, Nat.zero_le _, .inl rfl, fun t ht => by cases ht⟩
  · obtain ⟨rfl, rfl, rfl⟩ : a0 = some a ∧ n0 = len ∧ c0 = cap := by simpa using h0
    simp only [if_true] at hmm
    subst hmm
    have hC : Tryz.prog.cellsOf 38 = 3 := by kernel_rfl
    obtain ⟨vs, hlen, hq⟩ := choice_list (Q := fun i (t : Trip) => (W.cell? (a.add (i * 3)) = some (.int .u8 t.1) ∧ W.cell? ((a.add (i * 3)).add 1) = some (.int .i64 t.2.1) ∧ W.cell? ((a.add (i * 3)).add 2) = some (.string t.2.2)) ∧ In64 t.2.1 ∧ t.2.2.size ≤ maxLen) n0 (fun i hi => by
      obtain ⟨cs', hc, ht⟩ := hx i (by omega)
      rw [hC] at hc
      obtain ⟨_, hcl, hat⟩ := World.cells?_some hc
      obtain ⟨y0, y1, y2, n', _, _, g0, g1, g2⟩ := Go.Deep.trod_struct3 Tryz.underlying38 ht
      match cs', hcl with
      | [q0, q1, q2], _ =>
        obtain ⟨k, e0, _, w0⟩ := DataW.trod_int Tryz.underlying36 g0
        obtain ⟨z, e1, _, w1⟩ := DataW.trod_int Tryz.underlying2 g1
        obtain ⟨s, e2, _, w2⟩ := DataW.trod_string Tryz.underlying9 g2
        have b0 : q0 = .int .u8 k := by
          have : [q0] = [.int .u8 k] := e0
          injection this
        have b1 : q1 = .int .i64 z := by
          have : [q1] = [.int .i64 z] := e1
          injection this
        have b2 : q2 = .string s := by
          have : [q2] = [.string s] := e2
          injection this
        subst b0 b1 b2
        refine ⟨(k, z, s), ⟨?_, ?_, ?_⟩, ?_, w2⟩
        · have := hat 0 (by omega)
          simpa [Addr.add] using this
        · have := hat 1 (by omega)
          simpa [Addr.add] using this
        · have := hat 2 (by omega)
          simpa [Addr.add] using this
        · unfold In64
          simpa [Lit.wf, IntKind.min, IntKind.max, IntKind.signed, IntKind.bits] using w1)
    refine ⟨vs, hlen.symm, by omega, hm, ?_, fun t ht => ?_⟩
    · rcases Nat.eq_zero_or_pos vs.length with hv | hv
      · exact .inl (List.eq_nil_of_length_eq_zero hv)
      · obtain ⟨ab, ao, asp⟩ := a
        have h1 := (hq 0 _ (List.getElem?_eq_getElem hv)).1.1
        have h2 : asp = none := by
          have h3 : (⟨ab, ao, asp⟩ : Addr).add (0 * 3) = ⟨ab, ao, asp⟩ := by simp [Addr.add]
          rw [h3] at h1
          exact spot_none h1
        subst h2
        refine .inr ⟨ab, ao, rfl, ?_, fun j k n s hj => ?_⟩
        · have h4 := World.block_lt_of_cell? W _ h1
          rwa [add_plain] at h4
        · have h5 := (hq j _ hj).1
          rw [add_plain, add_plain, add_plain] at h5
          exact h5
    · obtain ⟨j, hj⟩ := List.mem_iff_getElem?.1 ht
      exact (hq j t hj).2
end
end Go.Proofs.YtbelhgdogafedaaGreatDoor
