/-
  Arguments of layer 3, opened; and what a law's row asks behind its walk: it came back with true, and what was there is as it was. No conditions.
-/
import Derived.Test.YtdhdfeiobjmdaaaRJoinW
import Derived.Lib.SmallJoins
import Derived.Deep.Slices
import Derived.Deep.Grids
import Derived.Deep.Strs
namespace Go.Proofs.Ytdhdfeiobjmdaaa
open Go.ChangeShapes Go.WideShapes Go.ChangeAt Go.RowKit Go.Deep
set_option linter.unusedVariables false

theorem getElem_lt {α : Type} {l : List α} {j : Nat} {u : α} (h : l[j]? = some u) : j < l.length := by
  rcases Nat.lt_or_ge j l.length with h' | h'
  · exact h'
  · rw [List.getElem?_eq_none h'] at h
    cases h
theorem list_choice {α : Type} {Q : Nat → α → Prop} : ∀ (n : Nat), (∀ i, i < n → ∃ x, Q i x) → ∃ l : List α, l.length = n ∧ ∀ (i : Nat) (x : α), l[i]? = some x → Q i x
  | 0, _ => ⟨[], rfl, fun i x h => by simp at h⟩
  | n + 1, h => by
    obtain ⟨l, hl, hq⟩ := list_choice n (fun i hi => h i (by omega))
    obtain ⟨y, hy⟩ := h n (by omega)
    refine ⟨l ++ [y], by simp [hl], fun i x hx => ?_⟩
    rcases Nat.lt_or_ge i l.length with hlt | hge
    · rw [List.getElem?_append_left hlt] at hx
      exact hq i x hx
    · rw [List.getElem?_append_right hge] at hx
      have hi := getElem_lt hx
      have h0 : i = n := by simp at hi; omega
      subst h0
      rw [hl, Nat.sub_self] at hx
      obtain rfl : y = x := by simpa using hx
      exact hy

set_option maxRecDepth 100000 in
theorem arg_slice {H : Type} {enc : TypeId × Value → H} {W : World} {r : Reach} {b0 base : Nat} {spare : Nat → Bool} {held : Bool} {t e : TypeId} {v : Value} {d : DataW H} {ps : List MemPlace} (ht : Try.prog.underlying t = some (.slice e))
    (hval : Value.okWide Try.prog W r b0 t v) (h : DataW.Trod enc Try.prog W base spare held t v d ps) : ∃ a n c fuel, v = .slice a n c ∧ DataW.trod enc Try.prog W base spare held fuel t [.slice a n c] = some (d, ps) := by
  obtain ⟨a, n, c, rfl⟩ := okWide_slice ht hval
  obtain ⟨fuel, hf⟩ := h
  exact ⟨a, n, c, fuel, rfl, hf⟩

section
variable {H : Type} {enc : TypeId × Value → H} {W : World} {base fuel : Nat} {held : Bool} {x : DataW H × List MemPlace}
set_option maxRecDepth 100000 in
theorem openRow {a0 : Option Addr} {n0 c0 : Nat} (h : DataW.trod enc Try.prog W base (fun _ => true) held fuel 31 [.slice a0 n0 c0] = some x) :
    ∃ vs : List Trip, n0 = vs.length ∧ vs.length ≤ c0 ∧ c0 ≤ maxLen ∧ (a0 = none → vs = [] ∧ c0 = 0) ∧ RdR W W.heap.size a0 vs ∧ ∀ t ∈ vs, In64 t.2.1 ∧ t.2.2.size ≤ maxLen := by
  rcases open_slice Try.underlying31 h with ⟨h0, _⟩ | ⟨a, len, cap, m, n, D, Pl, h0, hb, hl, hm, hmm, _, hx⟩
  · obtain ⟨rfl, rfl, rfl⟩ : a0 = none ∧ n0 = 0 ∧ c0 = 0 := by simpa using h0
    exact ⟨[], rfl, Nat.le_refl _, Nat.zero_le _, fun _ => ⟨rfl, rfl⟩, fun hp => absurd hp (by simp), fun t ht => by cases ht⟩
  · obtain ⟨rfl, rfl, rfl⟩ : a0 = some a ∧ n0 = len ∧ c0 = cap := by simpa using h0
    simp only [if_true] at hmm
    subst hmm
    have hC : Try.prog.cellsOf 29 = 3 := by kernel_rfl
    obtain ⟨vs, hlen, hq⟩ := list_choice (Q := fun i (t : Trip) => RowAt W (a.add (i * 3)) t.1 t.2.1 t.2.2 ∧ In64 t.2.1 ∧ t.2.2.size ≤ maxLen) n0 (fun i hi => by
      obtain ⟨cs', hc, ht⟩ := hx i (by omega)
      rw [hC] at hc
      obtain ⟨_, hcl, hat⟩ := World.cells?_some hc
      obtain ⟨y0, y1, y2, n', _, _, g0, g1, g2⟩ := Go.Deep.trod_struct3 Try.underlying29 ht
      match cs', hcl with
      | [q0, q1, q2], _ =>
        obtain ⟨k, e0, _, w0⟩ := DataW.trod_int Try.underlying27 g0
        obtain ⟨z, e1, _, w1⟩ := DataW.trod_int Try.underlying2 g1
        obtain ⟨s, e2, _, w2⟩ := DataW.trod_string Try.underlying9 g2
        have b0 : q0 = .int .u8 k := by
          have : [q0] = [.int .u8 k] := e0
          injection this
        have b1 : q1 = .int .i64 z := by
          have : [q1] = [.int .i64 z] := e1
          injection this
        have b2 : q2 = .string s := by
          have : [q2] = [.string s] := e2
          injection this
        subst b0 b1 b2
        refine ⟨(k, z, s), ⟨?_, ?_, ?_⟩, ?_, w2⟩
        · have := hat 0 (by omega)
          simpa [Addr.add] using this
        · have := hat 1 (by omega)
          simpa [Addr.add] using this
        · have := hat 2 (by omega)
          simpa [Addr.add] using this
        · simpa [Lit.wf, IntKind.min, IntKind.max, IntKind.signed, IntKind.bits] using w1)
    refine ⟨vs, hlen.symm, by omega, hm, (fun e => by cases e), fun hp => ⟨a, rfl, ?_, fun j k n s hj => (hq j _ hj).1⟩, fun t ht => ?_⟩
    · have h1 := (hq 0 _ (List.getElem?_eq_getElem hp)).1.1
      have := World.block_lt_of_cell? W _ h1
      rwa [blockAdd] at this
    · obtain ⟨j, hj⟩ := List.mem_iff_getElem?.1 ht
      exact (hq j t hj).2
theorem openF {a0 : Option Addr} {n0 c0 : Nat} (h : DataW.trod enc Try.prog W base (fun _ => true) held fuel 26 [.slice a0 n0 c0] = some x) :
    ∃ l : List Bool, n0 = l.length ∧ l.length ≤ c0 ∧ c0 ≤ maxLen ∧ RdF W W.heap.size a0 l := by
  rcases open_bools Try.underlying26 Try.underlying4 (by kernel_rfl) h with ⟨h0, _⟩ | ⟨a, len, cap, B, h0, hb, hl, hm, _, hcell⟩
  · obtain ⟨rfl, rfl, rfl⟩ : a0 = none ∧ n0 = 0 ∧ c0 = 0 := by simpa using h0
    exact ⟨[], rfl, Nat.le_refl _, Nat.zero_le _, fun hp => absurd hp (by simp)⟩
  · obtain ⟨rfl, rfl, rfl⟩ : a0 = some a ∧ n0 = len ∧ c0 = cap := by simpa using h0
    refine ⟨(List.range n0).map B, by simp, by simpa using hl, hm, fun hp => ⟨a, rfl, ?_, fun j d hj => ?_⟩⟩
    · have hn : 0 < c0 := by simp at hp; omega
      have := World.block_lt_of_cell? W _ (hcell 0 hn)
      rwa [blockAdd] at this
    · have hj2 := getElem_lt hj
      simp at hj2
      have hd : B j = d := by simpa [hj2] using hj
      rw [hcell j (by omega), hd]
end

theorem Try.laidOut : laidOutB Try.prog = true := by kernel_rfl

/-- arguments read behind the call as they read before -/
theorem args_stay {H : Type} {enc : TypeId × Value → H} {W W' : World} (hb : Below W.heap.size W W') :
    ∀ (ts : List TypeId) (vs : List Value) (ds : List (DataW H)) (ps : List MemPlace), (∀ t ∈ ts, Try.prog.readableRec t = true ∧ t < Try.prog.types.size) →
      DataW.TrodAll enc Try.prog W 0 (fun _ => true) true ts vs ds ps → (∀ x ∈ ps, x.block < W.heap.size) → DataW.TrodAll enc Try.prog W' 0 (fun b => decide (b < W.heap.size)) true ts vs ds ps
  | [], vs, ds, ps, _, h, _ => by
    obtain ⟨rfl, rfl, rfl⟩ := trodAll_nil h
    rfl
  | t :: ts, vs, ds, ps, ht, h, hlt => by
    obtain ⟨v, vs', d, ds', p, q, rfl, rfl, rfl, h1, h2⟩ := trodAll_cons h
    obtain ⟨hr, hs⟩ := ht t (by simp)
    exact ⟨p, q, Below.trod Try.laidOut hr hs h1 hb (fun x hx => hlt x (by simp [hx])), args_stay hb ts vs' ds' q (fun t' ht' => ht t' (by simp [ht'])) h2 (fun x hx => hlt x (by simp [hx])), rfl⟩

theorem law_post {H : Type} {enc : TypeId × Value → H} {f : Func} {s : ChangeSpec} {W W' : World} {args : Array Value} {ds gs : List (DataW H)} {before : List MemPlace}
    (hW : DataW.Whole enc Try.prog f.params.toList s.vars false W args.toList ds gs before) (hv : s.vars = []) (hfn : s.fn H (ds ++ gs) = { results := [.lit (.bool true)], args := ds })
    (hts : ∀ t ∈ f.params.toList, Try.prog.readableRec t = true ∧ t < Try.prog.types.size) (hrt : f.resultTypes = #[4]) (hb : Below W.heap.size W W') :
    s.post enc Try.prog f false true false false W args (.bool true) W' := by
  have hlt : ∀ p ∈ before, p.block < W.heap.size := fun p hp => hW.lt p hp
  have hW2 := hW
  obtain ⟨p, q, hA, hV, rfl, _, _⟩ := hW
  rw [hv] at hV
  obtain ⟨rfl, rfl⟩ := trodVars_none hV
  refine ⟨ds, [], p ++ [], [], p, [], hW2, ?_, ?_, ?_, hb.frame _ |> World.keptBut_mono (fun x hx => ⟨hx, .inr (.inl (by simpa using hx))⟩), fun h => by cases h⟩
  · rw [hfn, hrt]
    exact trodAll_cons_mk (shut_bool Try.underlying4 _) trodAll_mk0
  · rw [hfn]
    exact args_stay hb _ _ _ _ hts hA (fun x hx => hlt x (by simpa using hx))
  · rw [hfn, hv]
    rfl
end Go.Proofs.Ytdhdfeiobjmdaaa
