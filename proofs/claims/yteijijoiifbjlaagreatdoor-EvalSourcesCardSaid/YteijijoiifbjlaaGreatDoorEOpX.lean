/-
  Arguments that are lists of values, opened. No conditions.
  Layer 13, eval: an argument that is an expression, opened: it reads as a tree. No conditions.
  Layer 13, eval: an argument that is an Env, and an expression by value, opened. No conditions.
  Layer 13, eval: the statements' helper Small. No conditions.
  Layer 13, eval: what is small is fit, if each call by name is. No conditions.
-/
import Derived.Test.YteijijoiifbjlaaGreatDoorEMath
import Derived.Test.YteijijoiifbjlaaGreatDoorAClose
import Derived.Deep.Slices
import Derived.Deep.Strs
import Derived.Test.YteijijoiifbjlaaGreatDoorEEv
import Derived.Test.YteijijoiifbjlaaGreatDoorEMk
import Derived.Test.YteijijoiifbjlaaGreatDoorEFew
import Derived.Lib.SmallJoins
import Derived.Deep.CutRange
namespace Go.Proofs.YteijijoiifbjlaaGreatDoor
open Go.ChangeShapes Go.WideShapes Go.ChangeAt Go.RowKit Go.Deep
set_option linter.unusedVariables false
set_option linter.unusedSimpArgs false

theorem lt_of_at {α : Type} {l : List α} {i : Nat} {x : α} (h : l[i]? = some x) : i < l.length := (List.getElem?_eq_some_iff.1 h).1
theorem choice_list {α : Type} {Q : Nat → α → Prop} : ∀ (n : Nat), (∀ i, i < n → ∃ x, Q i x) → ∃ l : List α, l.length = n ∧ ∀ (i : Nat) (x : α), l[i]? = some x → Q i x
  | 0, _ => ⟨[], rfl, fun i x h => by simp at h⟩
  | n + 1, h => by
    obtain ⟨l, hl, hq⟩ := choice_list n (fun i hi => h i (by omega))
    obtain ⟨y, hy⟩ := h n (by omega)
    refine ⟨l ++ [y], by simp [hl], fun i x hx => ?_⟩
    rcases Nat.lt_or_ge i l.length with hlt | hge
    · rw [List.getElem?_append_left hlt] at hx
      exact hq i x hx
    · rw [List.getElem?_append_right hge] at hx
      have hi := lt_of_at hx
      have h0 : i = n := by simp at hi; omega
      subst h0
      rw [hl, Nat.sub_self] at hx
      obtain rfl : y = x := by simpa using hx
      exact hy
theorem spot_none {w : World} {a : Addr} {u : Value} (h : w.cell? a = some u) : a.spot = none := by
  unfold World.cell? at h
  split at h
  · split at h
    · cases h
    · rename_i hs
      simpa using hs
  · cases h
theorem add_plain (b o n : Nat) : (⟨b, o, none⟩ : Addr).add n = ⟨b, o + n, none⟩ := by
  unfold Addr.add
  by_cases hn : n = 0 <;> simp [hn]
set_option maxRecDepth 100000 in
theorem slice_arg {H : Type} {enc : TypeId × Value → H} {W : World} {r : Reach} {b0 base : Nat} {spare : Nat → Bool} {held : Bool} {t e : TypeId} {v : Value} {d : DataW H} {ps : List MemPlace} (ht : Tryz.prog.underlying t = some (.slice e))
    (hval : Value.okWide Tryz.prog W r b0 t v) (h : DataW.Trod enc Tryz.prog W base spare held t v d ps) : ∃ a n c fuel, v = .slice a n c ∧ DataW.trod enc Tryz.prog W base spare held fuel t [.slice a n c] = some (d, ps) := by
  obtain ⟨a, n, c, rfl⟩ := okWide_slice ht hval
  obtain ⟨fuel, hf⟩ := h
  exact ⟨a, n, c, fuel, rfl, hf⟩

section
variable {H : Type} {enc : TypeId × Value → H} {W : World} {base fuel : Nat} {held : Bool} {x : DataW H × List MemPlace}
set_option maxRecDepth 100000 in
theorem openT {a0 : Option Addr} {n0 c0 : Nat} (h : DataW.trod enc Tryz.prog W base (fun _ => true) held fuel 27 [.slice a0 n0 c0] = some x) :
    ∃ vs : List Trip, n0 = vs.length ∧ vs.length ≤ c0 ∧ c0 ≤ maxLen ∧ RdT W a0 vs ∧ ∀ t ∈ vs, In64 t.2.1 ∧ t.2.2.size ≤ maxLen := by
  rcases open_slice Tryz.underlying27 h with ⟨h0, _⟩ | ⟨a, len, cap, m, n, D, Pl, h0, hb, hl, hm, hmm, _, hx⟩
  · obtain ⟨rfl, rfl, rfl⟩ : a0 = none ∧ n0 = 0 ∧ c0 = 0 := by simpa using h0
    exact ⟨[], rfl, Nat.le_refl _, Nat.zero_le _, .inl rfl, fun t ht => by cases ht⟩
  · obtain ⟨rfl, rfl, rfl⟩ : a0 = some a ∧ n0 = len ∧ c0 = cap := by simpa using h0
    simp only [if_true] at hmm
    subst hmm
    have hC : Tryz.prog.cellsOf 38 = 3 := by kernel_rfl
    obtain ⟨vs, hlen, hq⟩ := choice_list (Q := fun i (t : Trip) => (W.cell? (a.add (i * 3)) = some (.int .u8 t.1) ∧ W.cell? ((a.add (i * 3)).add 1) = some (.int .i64 t.2.1) ∧ W.cell? ((a.add (i * 3)).add 2) = some (.string t.2.2)) ∧ In64 t.2.1 ∧ t.2.2.size ≤ maxLen) n0 (fun i hi => by
      obtain ⟨cs', hc, ht⟩ := hx i (by omega)
      rw [hC] at hc
      obtain ⟨_, hcl, hat⟩ := World.cells?_some hc
      obtain ⟨y0, y1, y2, n', _, _, g0, g1, g2⟩ := Go.Deep.trod_struct3 Tryz.underlying38 ht
      match cs', hcl with
      | [q0, q1, q2], _ =>
        obtain ⟨k, e0, _, w0⟩ := DataW.trod_int Tryz.underlying36 g0
        obtain ⟨z, e1, _, w1⟩ := DataW.trod_int Tryz.underlying2 g1
        obtain ⟨s, e2, _, w2⟩ := DataW.trod_string Tryz.underlying9 g2
        have b0 : q0 = .int .u8 k := by
          have : [q0] = [.int .u8 k] := e0
          injection this
        have b1 : q1 = .int .i64 z := by
          have : [q1] = [.int .i64 z] := e1
          injection this
        have b2 : q2 = .string s := by
          have : [q2] = [.string s] := e2
          injection this
        subst b0 b1 b2
        refine ⟨(k, z, s), ⟨?_, ?_, ?_⟩, ?_, w2⟩
        · have := hat 0 (by omega)
          simpa [Addr.add] using this
        · have := hat 1 (by omega)
          simpa [Addr.add] using this
        · have := hat 2 (by omega)
          simpa [Addr.add] using this
        · unfold In64
          simpa [Lit.wf, IntKind.min, IntKind.max, IntKind.signed, IntKind.bits] using w1)
    refine ⟨vs, hlen.symm, by omega, hm, ?_, fun t ht => ?_⟩
    · rcases Nat.eq_zero_or_pos vs.length with hv | hv
      · exact .inl (List.eq_nil_of_length_eq_zero hv)
      · obtain ⟨ab, ao, asp⟩ := a
        have h1 := (hq 0 _ (List.getElem?_eq_getElem hv)).1.1
        have h2 : asp = none := by
          have h3 : (⟨ab, ao, asp⟩ : Addr).add (0 * 3) = ⟨ab, ao, asp⟩ := by simp [Addr.add]
          rw [h3] at h1
          exact spot_none h1
        subst h2
        refine .inr ⟨ab, ao, rfl, ?_, fun j k n s hj => ?_⟩
        · have h4 := World.block_lt_of_cell? W _ h1
          rwa [add_plain] at h4
        · have h5 := (hq j _ hj).1
          rw [add_plain, add_plain, add_plain] at h5
          exact h5
    · obtain ⟨j, hj⟩ := List.mem_iff_getElem?.1 ht
      exact (hq j t hj).2
end
end Go.Proofs.YteijijoiifbjlaaGreatDoor

namespace Go.Proofs.YteijijoiifbjlaaGreatDoor
open Go.ChangeShapes Go.WideShapes Go.ChangeAt Go.RowKit Go.Deep
set_option linter.unusedVariables false
set_option linter.unusedSimpArgs false
set_option maxRecDepth 100000

mutual
/-- what the types say of an expression -/
def OkE : Ee → Prop
  | .mk k s t n a kids => (0 ≤ k ∧ k ≤ 255) ∧ In64 n ∧ In64 a ∧ s.size ≤ maxLen ∧ t.size ≤ maxLen ∧ kids.length ≤ maxLen ∧ OkEL kids
def OkEL : List Ee → Prop
  | [] => True
  | e :: r => OkE e ∧ OkEL r
end
theorem okEL_of : ∀ l : List Ee, (∀ e ∈ l, OkE e) → OkEL l
  | [], _ => by simp only [OkEL]
  | e :: r, h => by
    simp only [OkEL]
    exact ⟨h e List.mem_cons_self, okEL_of r fun u hu => h u (List.mem_cons_of_mem _ hu)⟩
/-- a place in a block reads as that expression -/
def PlE (W : World) (b o : Nat) (e : Ee) : Prop := ∃ k s t n a A len cap, ECell W b o k s t n a A len cap ∧ ExV W e (exprV k s t n a A len cap)
theorem exk_of (W : World) (b : Nat) : ∀ (l : List Ee) (o : Nat), (∀ (i : Nat) (e : Ee), l[i]? = some e → PlE W b (o + i * 6) e) → ExK W l (some ⟨b, o, none⟩)
  | [], o, _ => by simp only [ExK]
  | .mk k s t n a kids :: r, o, h => by
    obtain ⟨k', s', t', n', a', A, len, cap, hc, hv⟩ := h 0 _ rfl
    simp only [ExV] at hv
    obtain ⟨A', cap', hv, hcp, hK⟩ := hv
    simp only [Value.agg.injEq, Array.mk.injEq, List.cons.injEq, Value.int.injEq, Value.string.injEq, Value.slice.injEq, true_and, and_true] at hv
    obtain ⟨rfl, rfl, rfl, rfl, rfl, rfl, rfl, rfl⟩ := hv
    simp only [ExK]
    refine ⟨b, o, rfl, ⟨A, cap, by simpa using hc, hcp, hK⟩, exk_of W b r (o + 6) fun i e he => ?_⟩
    have := h (i + 1) e (by simpa using he)
    have e1 : o + (i + 1) * 6 = o + 6 + i * 6 := by omega
    rwa [e1] at this
section
variable {H : Type} {enc : TypeId × Value → H} {W : World} {base : Nat} {held : Bool}
def OpE (enc : TypeId × Value → H) (W : World) (base : Nat) (held : Bool) (fuel : Nat) : Prop :=
  ∀ (cs : List Value) (x : DataW H × List MemPlace), DataW.trod enc Tryz.prog W base (fun _ => true) held fuel 25 cs = some x →
    ∃ (e : Ee) (k : Int) (s t : ByteArray) (n a : Int) (A : Option Addr) (len cap : Nat), cs = [.int .u8 k, .string s, .string t, .int .i64 n, .int .i64 a, .slice A len cap] ∧ ExV W e (exprV k s t n a A len cap) ∧ OkE e
def OpK (enc : TypeId × Value → H) (W : World) (base : Nat) (held : Bool) (fuel : Nat) : Prop :=
  ∀ (cs : List Value) (x : DataW H × List MemPlace), DataW.trod enc Tryz.prog W base (fun _ => true) held fuel 23 cs = some x →
    ∃ (l : List Ee) (A : Option Addr) (c : Nat), cs = [.slice A l.length c] ∧ l.length ≤ c ∧ c ≤ maxLen ∧ ExK W l A ∧ (∀ e ∈ l, OkE e)
theorem opK_step (m : Nat) (ih : ∀ f, f < m → OpE enc W base held f) : OpK enc W base held m := by
  intro cs x h
  rcases DataW.trod_slice Tryz.underlying23 h with ⟨h0, _⟩ | ⟨a, len, cap, elems, rest, n, hf, h0, _, hb, hl, hm, hlen, hel, _, _⟩
  · exact ⟨[], none, 0, h0, Nat.le_refl _, Nat.zero_le _, by simp only [ExK], fun e he => by cases he⟩
  · have hC : Tryz.prog.cellsOf 25 = 6 := by kernel_rfl
    obtain ⟨l, hll, hq⟩ := choice_list (Q := fun i (e : Ee) => (∃ k s t n a' A len cap, (W.cell? (a.add (i * 6)) = some (.int .u8 k) ∧ W.cell? ((a.add (i * 6)).add 1) = some (.string s) ∧ W.cell? ((a.add (i * 6)).add 2) = some (.string t) ∧ W.cell? ((a.add (i * 6)).add 3) = some (.int .i64 n) ∧ W.cell? ((a.add (i * 6)).add 4) = some (.int .i64 a') ∧ W.cell? ((a.add (i * 6)).add 5) = some (.slice A len cap)) ∧ ExV W e (exprV k s t n a' A len cap)) ∧ OkE e) len (fun i hi => by
      have := hel i hi
      rw [hC, List.getElem?_eq_getElem (by omega)] at this
      obtain ⟨cs', hc, ht⟩ := Option.bind_eq_some_iff.1 this
      obtain ⟨_, hcl, hat⟩ := World.cells?_some hc
      obtain ⟨e, k, s, t, n', a', A, len', cap', rfl, hv, hok⟩ := ih n (by omega) _ _ ht
      have q0 := hat 0 (by omega)
      exact ⟨e, ⟨k, s, t, n', a', A, len', cap', ⟨by simpa [Addr.add] using q0, hat 1 (by omega), hat 2 (by omega), hat 3 (by omega), hat 4 (by omega), hat 5 (by omega)⟩, hv⟩, hok⟩)
    subst hll
    refine ⟨l, some a, cap, h0, hl, hm, ?_, fun e he => ?_⟩
    · cases l with
      | nil => simp only [ExK]
      | cons e0 r0 =>
        obtain ⟨ab, ao, asp⟩ := a
        obtain ⟨⟨k, s, t, n', a', A, len', cap', ⟨c0, -⟩, -⟩, -⟩ := hq 0 _ rfl
        have h2 : asp = none := by
          have h3 : (⟨ab, ao, asp⟩ : Addr).add (0 * 6) = ⟨ab, ao, asp⟩ := by simp [Addr.add]
          rw [h3] at c0
          exact spot_none c0
        subst h2
        refine exk_of W ab (e0 :: r0) ao fun i e he => ?_
        obtain ⟨⟨k, s, t, n', a', A, len', cap', ⟨c0, c1, c2, c3, c4, c5⟩, hv⟩, -⟩ := hq i e he
        simp only [add_plain] at c0 c1 c2 c3 c4 c5
        exact ⟨k, s, t, n', a', A, len', cap', ⟨c0, c1, c2, c3, c4, c5⟩, hv⟩
    · obtain ⟨j, hj⟩ := List.mem_iff_getElem?.1 he
      exact (hq j e hj).2
theorem opE_step (m : Nat) (ih : ∀ f, f < m → OpK enc W base held f) : OpE enc W base held m := by
  intro cs x h
  obtain ⟨xs, n, hf, _, hl, hlen, hx⟩ := DataW.trod_struct Tryz.underlying25 h
  have hl6 : cs.length = 6 := hl.trans (by kernel_rfl)
  have hx6 : xs.length = 6 := hlen
  match cs, hl6, xs, hx6 with
  | [q0, q1, q2, q3, q4, q5], _, [y0, y1, y2, y3, y4, y5], _ =>
    have g0 : DataW.trod enc Tryz.prog W base (fun _ => true) held n 22 [q0] = some y0 := hx 0 _ rfl
    have g1 : DataW.trod enc Tryz.prog W base (fun _ => true) held n 9 [q1] = some y1 := hx 1 _ rfl
    have g2 : DataW.trod enc Tryz.prog W base (fun _ => true) held n 9 [q2] = some y2 := hx 2 _ rfl
    have g3 : DataW.trod enc Tryz.prog W base (fun _ => true) held n 2 [q3] = some y3 := hx 3 _ rfl
    have g4 : DataW.trod enc Tryz.prog W base (fun _ => true) held n 3 [q4] = some y4 := hx 4 _ rfl
    have g5 : DataW.trod enc Tryz.prog W base (fun _ => true) held n 23 [q5] = some y5 := hx 5 _ rfl
    obtain ⟨k, e0, _, w0⟩ := DataW.trod_int Tryz.underlying22 g0
    obtain ⟨s, e1, _, w1⟩ := DataW.trod_string Tryz.underlying9 g1
    obtain ⟨t, e2, _, w2⟩ := DataW.trod_string Tryz.underlying9 g2
    obtain ⟨z, e3, _, w3⟩ := DataW.trod_int Tryz.underlying2 g3
    obtain ⟨a, e4, _, w4⟩ := DataW.trod_int Tryz.underlying3 g4
    obtain ⟨l, A, c, e5, hlc, hcm, hK, hok⟩ := ih n (by omega) _ _ g5
    obtain rfl := (List.cons.inj e0).1
    obtain rfl := (List.cons.inj e1).1
    obtain rfl := (List.cons.inj e2).1
    obtain rfl := (List.cons.inj e3).1
    obtain rfl := (List.cons.inj e4).1
    obtain rfl := (List.cons.inj e5).1
    refine ⟨.mk k s t z a l, k, s, t, z, a, A, l.length, c, rfl, ?_, ?_⟩
    · simp only [ExV]
      exact ⟨A, c, rfl, hlc, hK⟩
    · simp only [OkE]
      refine ⟨?_, ?_, ?_, w1, w2, by omega, okEL_of l hok⟩
      · simpa [Lit.wf, IntKind.min, IntKind.max, IntKind.signed, IntKind.bits] using w0
      · unfold In64
        simpa [Lit.wf, IntKind.min, IntKind.max, IntKind.signed, IntKind.bits] using w3
      · unfold In64
        simpa [Lit.wf, IntKind.min, IntKind.max, IntKind.signed, IntKind.bits] using w4
theorem op_all : ∀ m : Nat, (∀ f, f < m → OpE enc W base held f) ∧ (∀ f, f < m → OpK enc W base held f)
  | 0 => ⟨fun f h => absurd h (Nat.not_lt_zero f), fun f h => absurd h (Nat.not_lt_zero f)⟩
  | m + 1 => by
    obtain ⟨h1, h2⟩ := op_all m
    refine ⟨fun f hf => ?_, fun f hf => ?_⟩
    · rcases Nat.lt_succ_iff_lt_or_eq.1 hf with h | rfl
      · exact h1 f h
      · exact opE_step f h2
    · rcases Nat.lt_succ_iff_lt_or_eq.1 hf with h | rfl
      · exact h2 f h
      · exact opK_step f h1
theorem openE (fuel : Nat) : OpE enc W base held fuel := (op_all (fuel + 1)).1 fuel (Nat.lt_succ_self _)
theorem openK (fuel : Nat) : OpK enc W base held fuel := (op_all (fuel + 1)).2 fuel (Nat.lt_succ_self _)
end
end Go.Proofs.YteijijoiifbjlaaGreatDoor

namespace Go.Proofs.YteijijoiifbjlaaGreatDoor
open Go.ChangeShapes Go.WideShapes Go.ChangeAt Go.RowKit Go.Deep
set_option linter.unusedVariables false
set_option linter.unusedSimpArgs false
set_option maxRecDepth 100000

theorem array6 {α : Type} {cs : Array α} (h : cs.size = 6) : ∃ c0 c1 c2 c3 c4 c5, cs = #[c0, c1, c2, c3, c4, c5] := by
  obtain ⟨l⟩ := cs
  match l, h with
  | [c0, c1, c2, c3, c4, c5], _ => exact ⟨c0, c1, c2, c3, c4, c5, rfl⟩
section
variable {H : Type} {enc : TypeId × Value → H} {W : World} {base : Nat} {held : Bool}
theorem openEv {b0 : Nat} {v : Value} {d : DataW H} {p : List MemPlace} (hv : Value.okWide Tryz.prog W .any b0 25 v) (h : DataW.Trod enc Tryz.prog W base (fun _ => true) held 25 v d p) :
    ∃ e : Ee, ExV W e v ∧ OkE e := by
  obtain ⟨cs, rfl, hsz⟩ := okWide_struct Tryz.underlying25 hv
  obtain ⟨c0, c1, c2, c3, c4, c5, rfl⟩ := array6 (hsz.trans (by kernel_rfl))
  obtain ⟨fuel, hf⟩ := h
  obtain ⟨e, k, s, t, n, a, A, len, cap, hcs, hE, hok⟩ := openE fuel [c0, c1, c2, c3, c4, c5] _ hf
  simp only [List.cons.injEq, and_true] at hcs
  obtain ⟨rfl, rfl, rfl, rfl, rfl, rfl⟩ := hcs
  exact ⟨e, hE, hok⟩
/-- what the types say of a list of values -/
def OkTs (l : List Trip) : Prop := ∀ t ∈ l, In64 t.2.1 ∧ t.2.2.size ≤ maxLen
theorem openTs {fuel : Nat} {cs : List Value} {x : DataW H × List MemPlace} (h : DataW.trod enc Tryz.prog W base (fun _ => true) held fuel 27 cs = some x) :
    ∃ (A : Option Addr) (c : Nat) (l : List Trip), cs = [.slice A l.length c] ∧ l.length ≤ c ∧ c ≤ maxLen ∧ RdT W A l ∧ OkTs l := by
  have hc : ∃ A n c, cs = [.slice A n c] := by
    rcases DataW.trod_slice Tryz.underlying27 h with ⟨h0, _⟩ | ⟨a, len, cap, elems, rest, n, hf, h0, _⟩
    · exact ⟨_, _, _, h0⟩
    · exact ⟨_, _, _, h0⟩
  obtain ⟨A, n, c, rfl⟩ := hc
  obtain ⟨l, rfl, h1, h2, h3, h4⟩ := openT h
  exact ⟨A, c, l, rfl, h1, h2, h3, h4⟩
theorem openRs {fuel : Nat} {cs : List Value} {x : DataW H × List MemPlace} (h : DataW.trod enc Tryz.prog W base (fun _ => true) held fuel 26 cs = some x) :
    ∃ (A : Option Addr) (c : Nat) (l : List (List Trip)), cs = [.slice A l.length c] ∧ l.length ≤ c ∧ c ≤ maxLen ∧ RdR W A l ∧ (A = none → c = 0) ∧ ∀ r ∈ l, r.length ≤ maxLen ∧ OkTs r := by
  rcases DataW.trod_slice Tryz.underlying26 h with ⟨h0, _⟩ | ⟨a, len, cap, elems, rest, n, hf, h0, _, hb, hl, hm, hlen, hel, _, _⟩
  · exact ⟨none, 0, [], h0, Nat.le_refl _, Nat.zero_le _, .inl rfl, fun _ => rfl, fun r hr => by cases hr⟩
  · have hC : Tryz.prog.cellsOf 27 = 1 := by kernel_rfl
    obtain ⟨l, hll, hq⟩ := choice_list (Q := fun i (r : List Trip) => (∃ A' c', W.cell? (a.add i) = some (.slice A' r.length c') ∧ r.length ≤ c' ∧ RdT W A' r) ∧ r.length ≤ maxLen ∧ OkTs r) len (fun i hi => by
      have := hel i hi
      rw [hC, List.getElem?_eq_getElem (by omega)] at this
      obtain ⟨cs', hc, ht⟩ := Option.bind_eq_some_iff.1 this
      obtain ⟨_, hcl, hat⟩ := World.cells?_some hc
      obtain ⟨A', c', r, rfl, h1, h2, h3, h4⟩ := openTs ht
      have q0 := hat 0 (by omega)
      exact ⟨r, ⟨A', c', by simpa [Addr.add] using q0, h1, h3⟩, by omega, h4⟩)
    subst hll
    refine ⟨some a, cap, l, h0, hl, hm, ?_, fun e => (by cases e), fun r hr => ?_⟩
    · cases l with
      | nil => exact .inl rfl
      | cons e0 r0 =>
        obtain ⟨ab, ao, asp⟩ := a
        obtain ⟨⟨A', c', c0, -⟩, -⟩ := hq 0 _ rfl
        have h2 : asp = none := by
          have h3 : (⟨ab, ao, asp⟩ : Addr).add 0 = ⟨ab, ao, asp⟩ := by simp [Addr.add]
          rw [h3] at c0
          exact spot_none c0
        subst h2
        refine .inr ⟨ab, ao, rfl, ?_, fun j r hj => ?_⟩
        · rw [add_plain] at c0
          exact World.block_lt_of_cell? W _ c0
        · obtain ⟨⟨A2, c2, d0, d1, d2⟩, -⟩ := hq j r hj
          rw [add_plain] at d0
          exact ⟨A2, c2, d0, d1, d2⟩
    · obtain ⟨j, hj⟩ := List.mem_iff_getElem?.1 hr
      exact (hq j r hj).2
theorem openX {b0 : Nat} {v : Value} {d : DataW H} {p : List MemPlace} (hv : Value.okWide Tryz.prog W .any b0 29 v) (h : DataW.Trod enc Tryz.prog W base (fun _ => true) held 29 v d p) :
    ∃ (x : EnvM) (Ar : Option Addr) (cr : Nat) (Ak : Option Addr) (ck : Nat) (At : Option Addr) (ct : Nat) (Ab : Option Addr) (cb : Nat), v = .agg (envC x Ar cr Ak ck At ct Ab cb) ∧ EnvW W x Ar cr Ak ck At ct Ab cb ∧
      (∀ r ∈ x.rows, OkTs r) ∧ OkTs x.keys ∧ OkTs x.totals ∧ OkTs x.binds := by
  obtain ⟨v0, v1, v2, v3, y0, y1, y2, y3, n, rfl, _, _, h0, h1, h2, h3⟩ := Go.Joins.open_agg4 Tryz.underlying29 (by kernel_rfl) (by kernel_rfl) hv h
  obtain ⟨Ar, cr, rs, e0, a0, a1, a2, a3, a4⟩ := openRs h0
  obtain ⟨Ak, ck, ks, e1, b0, b1, b2, b3⟩ := openTs h1
  obtain ⟨At, ct, ts, e2, c0, c1, c2, c3⟩ := openTs h2
  obtain ⟨Ab, cb, bs, e3, d0, d1, d2, d3⟩ := openTs h3
  obtain rfl := (List.cons.inj e0).1
  obtain rfl := (List.cons.inj e1).1
  obtain rfl := (List.cons.inj e2).1
  obtain rfl := (List.cons.inj e3).1
  exact ⟨⟨rs, ks, ts, bs⟩, Ar, cr, Ak, ck, At, ct, Ab, cb, rfl, ⟨a2, b2, c2, d2, a3⟩, fun r hr => (a4 r hr).2, b3, c3, d3⟩
end
end Go.Proofs.YteijijoiifbjlaaGreatDoor

namespace Go.Proofs.YteijijoiifbjlaaGreatDoor
open Go.ChangeShapes Go.WideShapes Go.ChangeAt Go.RowKit
set_option linter.unusedVariables false
set_option linter.unusedSimpArgs false
set_option maxRecDepth 100000

/-- how it counts: is all of it small, and what is left -/
def smL (lv : Nat) (n : Int) : List Ee → Bool × Int
  | [] => (true, n)
  | .mk _ s _ _ _ kids :: r =>
    if n - 1 < 0 ∨ lv = 0 ∨ (3000 < s.size ∧ s.size ≤ 65536) then (false, n - 1)
    else if (smL (lv - 1) (n - 1) kids).1 then smL lv (smL (lv - 1) (n - 1) kids).2 r else (false, (smL (lv - 1) (n - 1) kids).2)
theorem smL_le : ∀ (m lv : Nat) (n : Int) (l : List Ee), SizeOf.sizeOf l ≤ m → (smL lv n l).2 ≤ n ∧ ((smL lv n l).1 = true → 0 ≤ n → 0 ≤ (smL lv n l).2 ∧ (l.length : Int) ≤ n) ∧ (0 ≤ n → -1 ≤ (smL lv n l).2) := by
  intro m
  induction m with
  | zero => intro lv n l hl; cases l <;> simp at hl
  | succ m ih =>
    intro lv n l hl
    cases l with
    | nil =>
      simp only [smL, List.length_nil]
      exact ⟨Int.le_refl _, fun _ h => ⟨h, by omega⟩, fun h => by omega⟩
    | cons e r =>
      obtain ⟨k, s, t, n', a, kids⟩ := e
      simp only [List.cons.sizeOf_spec, Ee.mk.sizeOf_spec] at hl
      obtain ⟨a1, a2, a3⟩ := ih (lv - 1) (n - 1) kids (by omega)
      rw [smL]
      split
      · refine ⟨by simp; omega, fun h => by simp at h, fun h => ?_⟩
        simp only
        omega
      · rename_i hc
        simp only [not_or] at hc
        split
        · rename_i hk
          obtain ⟨b1, b2, b3⟩ := ih lv (smL (lv - 1) (n - 1) kids).2 r (by omega)
          obtain ⟨a4, a5⟩ := a2 hk (by omega)
          refine ⟨by omega, fun h h0 => ?_, fun h => b3 a4⟩
          obtain ⟨c1, c2⟩ := b2 h a4
          refine ⟨c1, ?_⟩
          simp only [List.length_cons]
          omega
        · exact ⟨by simp; omega, fun h => by simp at h, fun h => by simp only; exact a3 (by omega)⟩
/-- the count's box -/
def NB (p : Nat) (n : Int) (w : World) : Prop := w.cell? ⟨p, 0, none⟩ = some (.int .i64 n) ∧ w.frozen? ⟨p, 0, none⟩ = false
def SmallIs (W0 : World) (l : List Ee) : Prop := ∀ (A : Option Addr) (c lv : Nat) (n : Int) (p : Nat) (W : World), ExK W0 l A → Below W0.heap.size W0 W → W0.heap.size ≤ p → NB p n W → 0 ≤ n → n ≤ 500 → lv ≤ 60 → l.length ≤ maxLen →
  Calls Tryz.prog 14 #[.slice A l.length c, .int .i64 (lv : Int), .pointer (some ⟨p, 0, none⟩)] W fun e w' => e = .returned (.bool (smL lv n l).1) ∧ NB p (smL lv n l).2 w' ∧ Below W0.heap.size W0 w'
theorem enters_small : ∀ (args : Array Value) (W : World), (callFunc 14 args).run Tryz.prog W = .ok (.enter 14 args) W := enters_of Tryz.func14 (by kernel_rfl) rfl
def SmRel (W0 : World) (lv : Nat) (n : Int) (l : List Ee) (p : Nat) (i : Value) (wr : World) : Prop := ∃ (k : Nat) (n' : Int), k ≤ l.length ∧ i = .int .i64 (k : Int) ∧ Below W0.heap.size W0 wr ∧ NB p n' wr ∧ 0 ≤ n' ∧ n' ≤ 500 ∧ smL lv n l = smL lv n' (l.drop k)
set_option maxHeartbeats 4000000 in
theorem small_step (W0 : World) (l : List Ee) (hk : ∀ k s t n a kids, .mk k s t n a kids ∈ l → SmallIs W0 kids ∧ kids.length ≤ maxLen ∧ s.size ≤ maxLen) : SmallIs W0 l := by
  intro A c lv n p W hK hb hp hN h0 h500 hlv hll
  have HK := Lib.hid hK
  have HH := Lib.hid hk
  have HP := Lib.hid hp
  have hlm : l.length ≤ 9223372036854775807 := by simpa [maxLen] using hll
  clear hK hk
  go_enter Tryz.func14, Tryz.ntmps14
  go_upto_region 2 with (fail)
  go_loopw [7] (fun i wr => SmRel W0 lv n l p i wr) (fun i _ => l.length - (intOf i).toNat)
  case atStart => exact ⟨0, n, Nat.zero_le _, rfl, hb, hN, h0, h500, by simp⟩
  case round =>
    obtain ⟨i, n1, hi, rfl, hb1, ⟨hn1, hf1⟩, hz, h5, hsm⟩ := hrel
    have HSM := Lib.hid hsm
    clear hsm hN hb
    by_cases hlt : i < l.length
    · obtain ⟨⟨ek, es, et, en, ea, ekids⟩, he⟩ : ∃ e, l[i]? = some e := ⟨_, List.getElem?_eq_getElem hlt⟩
      obtain ⟨b, o, rfl, k', s', t', n', a', A', kids', cap', he0, hc, hcp, hkk⟩ := HK.out.at l _ i _ he
      simp only [Ee.mk.injEq] at he0
      obtain ⟨rfl, rfl, rfl, rfl, rfl, rfl⟩ := he0
      have hdr : l.drop i = .mk ek es et en ea ekids :: l.drop (i + 1) := by
        rw [List.drop_eq_getElem_cons hlt]
        congr 1
        exact Option.some.inj ((List.getElem?_eq_getElem hlt).symm.trans he)
      obtain ⟨hS, hkl, hsl⟩ := HH.out _ _ _ _ _ _ (List.mem_of_getElem? he)
      have q1 : (i : Int) < (l.length : Int) := by omega
      have q2 : (0 : Int) ≤ (i : Int) := by omega
      have HC0 := Lib.hid hc
      have HKK := Lib.hid hkk
      have HI := Lib.hid hlt
      have HDR := Lib.hid hdr
      have HB1 := Lib.hid hb1
      have HSS := Lib.hid hS
      clear hc hkk hdr he hlt hi hb1 hS
      have hw1 : wrap64 (n1 - 1) = n1 - 1 := by
        unfold wrap64
        omega
      go_upto_region 5 with (fail)
      obtain ⟨w2, hw2⟩ : ∃ X, wr.setCell ⟨p, 0, none⟩ (.int .i64 (n1 - 1)) = X := ⟨_, rfl⟩
      have hb2 : Below W0.heap.size W0 w2 := by rw [← hw2]; exact HB1.out.setCell HP.out _
      have hN2 : NB p (n1 - 1) w2 := by rw [← hw2]; exact ⟨by simp [go_sem, hn1], by simp [go_sem, hn1, hf1]⟩
      rw [hw2]
      obtain ⟨y0, y1, y2, y3, y4, y5⟩ := HC0.out.on hb2
      obtain ⟨m0, m1⟩ := hN2
      clear hw2 hn1 hf1 HB1
      by_cases hbad : n1 - 1 < 0 ∨ lv = 0 ∨ (3000 < es.size ∧ es.size ≤ 65536)
      · have hq : smL lv n l = (false, n1 - 1) := by rw [HSM.out, HDR.out, smL, if_pos hbad]
        have HQ := Lib.hid hq
        by_cases c1 : n1 - 1 < 0
        · go_wp2_with fail
          go_ret
          try rw [HQ.out]
          exact ⟨rfl, ⟨m0, m1⟩, hb2⟩
        · by_cases c2 : lv = 0
          · subst c2
            go_wp2_with fail
            go_ret
            try rw [HQ.out]
            exact ⟨rfl, ⟨m0, m1⟩, hb2⟩
          · have c3 : 3000 < es.size ∧ es.size ≤ 65536 := by
              rcases hbad with h | h | h
              · exact absurd h c1
              · exact absurd h c2
              · exact h
            have c4 : (3000 : Int) < (es.size : Int) := by omega
            have c5 : (es.size : Int) ≤ 65536 := by omega
            have c6 : ((lv : Int) == 0) = false := by simpa using c2
            clear hq hbad
            go_wp2_with fail
            go_ret
            try rw [HQ.out]
            exact ⟨rfl, ⟨m0, m1⟩, hb2⟩
      · simp only [not_or] at hbad
        obtain ⟨c1, c2, c3⟩ := hbad
        have c6 : ((lv : Int) == 0) = false := by simpa using c2
        have e1 : ((lv - 1 : Nat) : Int) = (lv : Int) - 1 := by omega
        have HC := Lib.hid (HSS.out _ cap' (lv - 1) (n1 - 1) p w2 HKK.out hb2 HP.out ⟨m0, m1⟩ (by omega) (by omega) (by omega) hkl)
        rw [e1] at HC
        have hle := smL_le _ (lv - 1) (n1 - 1) ekids (Nat.le_refl _)
        obtain ⟨⟨qb, qn⟩, hqq⟩ : ∃ q, smL (lv - 1) (n1 - 1) ekids = q := ⟨_, rfl⟩
        rw [hqq] at HC hle
        have hw2' : wrap64 ((lv : Int) - 1) = (lv : Int) - 1 := by
          unfold wrap64
          omega
        have hstep : smL lv n l = if qb = true then smL lv qn (l.drop (i + 1)) else (false, qn) := by rw [HSM.out, HDR.out, smL, if_neg (by simp only [not_or]; exact ⟨c1, c2, c3⟩), hqq]
        have HST := Lib.hid hstep
        have HLE := Lib.hid hle
        clear hqq hstep hle
        cases qb with
        | true =>
          by_cases c4 : 3000 < es.size
          · have c5 : ¬ (es.size : Int) ≤ 65536 := by omega
            have c7 : (3000 : Int) < (es.size : Int) := by omega
            clear c3
            go_wp2_with ((with_reducible refine HC.out.mono ?_); rintro e wb ⟨rfl, hNB, bb⟩)
            exact ⟨⟨i + 1, qn, HI.out, rfl, bb, hNB, (HLE.out.2.1 (by trivial) (by omega)).1, by have := HLE.out.1; omega, by rw [HST.out]; simp⟩, by have := HI.out; simp [intOf]; omega⟩
          · have c7 : ¬ (3000 : Int) < (es.size : Int) := by omega
            clear c3
            go_wp2_with ((with_reducible refine HC.out.mono ?_); rintro e wb ⟨rfl, hNB, bb⟩)
            exact ⟨⟨i + 1, qn, HI.out, rfl, bb, hNB, (HLE.out.2.1 (by trivial) (by omega)).1, by have := HLE.out.1; omega, by rw [HST.out]; simp⟩, by have := HI.out; simp [intOf]; omega⟩
        | false =>
          have hq : Hid (smL lv n l = (false, qn)) := Lib.hid (by rw [HST.out, if_neg (by simp)])
          by_cases c4 : 3000 < es.size
          · have c5 : ¬ (es.size : Int) ≤ 65536 := by omega
            have c7 : (3000 : Int) < (es.size : Int) := by omega
            clear c3
            go_wp2_with ((with_reducible refine HC.out.mono ?_); rintro e wb ⟨rfl, hNB, bb⟩)
            go_ret
            rw [hq.out]
            exact ⟨rfl, hNB, bb⟩
          · have c7 : ¬ (3000 : Int) < (es.size : Int) := by omega
            clear c3
            go_wp2_with ((with_reducible refine HC.out.mono ?_); rintro e wb ⟨rfl, hNB, bb⟩)
            go_ret
            rw [hq.out]
            exact ⟨rfl, hNB, bb⟩
    · have q1 : ¬ (i : Int) < (l.length : Int) := by omega
      have hd : l.drop i = [] := List.drop_eq_nil_of_le (by omega)
      have hq : smL lv n l = (true, n1) := by rw [HSM.out, hd, smL]
      go_wp2_with fail
      go_ret
      try rw [hq]
      exact ⟨rfl, ⟨hn1, hf1⟩, hb1⟩
theorem okEL_at : ∀ (l : List Ee), OkEL l → ∀ k s t n a kids, .mk k s t n a kids ∈ l → OkEL kids ∧ kids.length ≤ maxLen ∧ s.size ≤ maxLen
  | [], _, _, _, _, _, _, _, hm => by cases hm
  | e :: r, h, k, s, t, n, a, kids, hm => by
    simp only [OkEL] at h
    rcases List.mem_cons.1 hm with rfl | hm
    · have h1 := h.1
      simp only [OkE] at h1
      exact ⟨h1.2.2.2.2.2.2, h1.2.2.2.2.2.1, h1.2.2.2.1⟩
    · exact okEL_at r h.2 k s t n a kids hm
theorem small_all (W0 : World) : ∀ (m : Nat) (l : List Ee), SizeOf.sizeOf l ≤ m → OkEL l → SmallIs W0 l := by
  intro m
  induction m with
  | zero => intro l hl; cases l <;> simp at hl
  | succ m ih =>
    intro l hl ho
    refine small_step W0 l fun k s t n a kids hm => ?_
    obtain ⟨h1, h2, h3⟩ := okEL_at l ho k s t n a kids hm
    have hs := List.sizeOf_lt_of_mem hm
    simp only [Ee.mk.sizeOf_spec] at hs
    exact ⟨ih kids (by omega) h1, h2, h3⟩
def smallB (l : List Ee) : Bool := (smL 60 500 l).1
theorem Small_any (l : List Ee) (A : Option Addr) (c : Nat) (w : World) (hK : ExK w l A) (ho : OkEL l) (hl : l.length ≤ maxLen) :
    Calls Tryz.prog 6 #[.slice A l.length c] w fun e w' => e = .returned (.bool (smallB l)) ∧ Below w.heap.size w w' := by
  have HS := Lib.hid (small_all w _ l (Nat.le_refl _) ho)
  have HK := Lib.hid hK
  have hE := enters_small
  clear hK
  go_enter Tryz.func6, Tryz.ntmps6
  go_upto_region 2 with (fail)
  obtain ⟨w1, hw1⟩ : ∃ X, w.alloc (.cells #[.int .i64 500] 3) = X := ⟨_, rfl⟩
  have hb : Below w.heap.size w w1 := by rw [← hw1]; exact (Below.refl _ _).alloc (Nat.le_refl _) _
  have hN : NB w.heap.size 500 w1 := by rw [← hw1]; exact ⟨by simp [go_sem], by simp [go_sem]⟩
  rw [hw1]
  have HC := Lib.hid (HS.out A c 60 500 w.heap.size w1 HK.out hb (Nat.le_refl _) hN (by omega) (by omega) (by omega) hl)
  clear hw1 hb hN
  rw [show ((60 : Nat) : Int) = 60 from rfl] at HC
  go_wp2_with ((with_reducible refine HC.out.mono ?_); rintro e wb ⟨rfl, -, bb⟩)
  go_ret
  exact ⟨rfl, bb⟩
end Go.Proofs.YteijijoiifbjlaaGreatDoor

namespace Go.Proofs.YteijijoiifbjlaaGreatDoor
open Go.ChangeShapes Go.WideShapes Go.ChangeAt Go.RowKit
set_option linter.unusedVariables false
set_option linter.unusedSimpArgs false
set_option maxRecDepth 100000

theorem fit_small (hC : ∀ (s : ByteArray) (m : Nat), m ≤ 500 → (s.size ≤ 3000 ∨ 65536 < s.size) → CallOk s m) : ∀ (m lv : Nat) (n : Int) (l : List Ee), SizeOf.sizeOf l ≤ m → OkEL l → (smL lv n l).1 = true → 0 ≤ n → n ≤ 500 → FitL l ∧ l.length ≤ 500 := by
  intro m
  induction m with
  | zero => intro lv n l hl; cases l <;> simp at hl
  | succ m ih =>
    intro lv n l hl ho hs h0 h5
    cases l with
    | nil => simp only [FitL, List.length_nil]; exact ⟨trivial, by omega⟩
    | cons e r =>
      have hlen := ((smL_le _ lv n (e :: r) (Nat.le_refl _)).2.1 hs h0).2
      obtain ⟨k, s, t, n', a, kids⟩ := e
      simp only [List.cons.sizeOf_spec, Ee.mk.sizeOf_spec] at hl
      simp only [OkEL, OkE] at ho
      rw [smL] at hs
      split at hs
      · simp at hs
      · rename_i hc
        simp only [not_or] at hc
        split at hs
        · rename_i hk
          obtain ⟨a1, a2, a3⟩ := smL_le _ (lv - 1) (n - 1) kids (Nat.le_refl _)
          obtain ⟨a4, a5⟩ := a2 hk (by omega)
          obtain ⟨b1, b2⟩ := ih (lv - 1) (n - 1) kids (by omega) ho.1.2.2.2.2.2.2 hk (by omega) (by omega)
          obtain ⟨c1, c2⟩ := ih lv _ r (by omega) ho.2 hs a4 (by omega)
          simp only [FitL, Fit]
          exact ⟨⟨⟨ho.1.2.1, by omega, fun _ => hC s _ b2 (by omega), b1⟩, c1⟩, by omega⟩
        · simp at hs
end Go.Proofs.YteijijoiifbjlaaGreatDoor
