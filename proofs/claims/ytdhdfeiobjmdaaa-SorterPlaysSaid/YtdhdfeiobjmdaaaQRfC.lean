/-
  Layer 7: the document's sorter: what it holds: entries (a key's bytes, a row's values), in a slice that reads as a list, or that the call owns. No conditions.
  Layer 7: what the document's sorter calls: Compare of bytes (layer 4), Key and Put that refuse. Conditions: as stated.
  Layer 7: the document's sorter: New, Add, Next, Rewind. Conditions: as stated.
  Layer 7: the document's sorter: Add, Next of what is there. Conditions: as stated.
-/
import Derived.Test.YtdhdfeiobjmdaaaQHelp
import Derived.Test.YtdhdfeiobjmdaaaRRefP
import Derived.BigQuiet
namespace Go.Proofs.Ytdhdfeiobjmdaaa
open Go.ChangeShapes Go.WideShapes Go.ChangeAt Go.RowKit
set_option linter.unusedVariables false

/-- an entry as it lies: two slices, and the bytes that they read -/
structure On where
  kA : Option Addr
  kc : Nat
  kb : List UInt8
  rA : Option Addr
  rc : Nat
  rs : List Trip
def On.kv (e : On) : Value := .slice e.kA e.kb.length e.kc
def On.rv (e : On) : Value := .slice e.rA e.rs.length e.rc
def On.v (e : On) : Value := .agg #[e.kv, e.rv]
/-- entries, as cells -/
def cellsO : List On → List Value
  | [] => []
  | e :: r => e.kv :: e.rv :: cellsO r
theorem cellsO_length : ∀ l : List On, (cellsO l).length = l.length * 2
  | [] => rfl
  | e :: r => by simp [cellsO, cellsO_length r]; omega
theorem cellsO_append : ∀ a b : List On, cellsO (a ++ b) = cellsO a ++ cellsO b
  | [], b => rfl
  | e :: r, b => by simp [cellsO, cellsO_append r b]
theorem cellsO_one : ∀ (l : List On), ∀ u ∈ cellsO l, u.oneCell' = true
  | [], u, h => by cases h
  | e :: r, u, h => by
    simp only [cellsO, List.mem_cons] at h
    rcases h with rfl | rfl | h
    · rfl
    · rfl
    · exact cellsO_one r u h
theorem cellsO_get : ∀ (l : List On) (j : Nat) (e : On), l[j]? = some e → (cellsO l)[j * 2]? = some e.kv ∧ (cellsO l)[j * 2 + 1]? = some e.rv
  | [], j, e, h => by simp at h
  | x :: r, 0, e, h => by
    obtain rfl : x = e := by simpa using h
    exact ⟨rfl, rfl⟩
  | x :: r, j + 1, e, h => by
    have ih := cellsO_get r j e (by simpa using h)
    have e1 : (j + 1) * 2 = j * 2 + 1 + 1 := by omega
    rw [e1]
    simpa [cellsO] using ih
theorem cellsO_drop : ∀ (l : List On) (k : Nat), (cellsO l).drop (k * 2) = cellsO (l.drop k)
  | [], k => by simp [cellsO]
  | x :: r, 0 => by simp
  | x :: r, k + 1 => by
    have e : (k + 1) * 2 = k * 2 + 1 + 1 := by omega
    rw [e]
    simpa [cellsO] using cellsO_drop r k

/-- at this address lies that entry -/
def OnAt (w : World) (a : Addr) (e : On) : Prop := w.cell? a = some e.kv ∧ w.cell? ⟨a.block, a.off + 1, none⟩ = some e.rv
/-- the pointer A leads to these entries, all of them below block number B -/
def RdO (w : World) (B : Nat) (A : Option Addr) (l : List On) : Prop :=
  0 < l.length → ∃ ad, A = some ad ∧ ad.block < B ∧ ∀ j e, l[j]? = some e → OnAt w (ad.add (j * 2)) e
theorem RdO.below {w w' : World} {B : Nat} {A : Option Addr} {l : List On} (h : RdO w B A l) (hb : Below B w w') : RdO w' B A l := by
  intro hp
  obtain ⟨ad, e, hl, hc⟩ := h hp
  refine ⟨ad, e, hl, fun j x hj => ?_⟩
  obtain ⟨a, b⟩ := hc j x hj
  have hq : (ad.add (j * 2)).block < B := by rw [blockAdd]; exact hl
  exact ⟨(hb.cell hq).trans a, (hb.cell (p := ⟨_, _, none⟩) hq).trans b⟩
theorem RdO.more {w : World} {B B' : Nat} {A : Option Addr} {l : List On} (h : RdO w B A l) (hB : B ≤ B') : RdO w B' A l := by
  intro hp
  obtain ⟨ad, e, hl, hc⟩ := h hp
  exact ⟨ad, e, by omega, hc⟩
theorem RdO.on {w w' : World} {A : Option Addr} {l : List On} (h : RdO w w.heap.size A l) (hb : Below w.heap.size w w') : RdO w' w'.heap.size A l := (h.below hb).more hb.size
theorem RdO.nil {w : World} {B : Nat} {A : Option Addr} : RdO w B A [] := fun h => absurd h (by simp)
theorem RdO.cells {w : World} {B : Nat} {ad : Addr} {l : List On} (h : RdO w B (some ad) l) : ∀ j u, (cellsO l)[j]? = some u → w.cell? (ad.add j) = some u := by
  intro j u hj
  have hjl : j < l.length * 2 := by
    rcases Nat.lt_or_ge j (l.length * 2) with h | h
    · exact h
    · rw [List.getElem?_eq_none (by rw [cellsO_length]; exact h)] at hj; cases hj
  obtain ⟨ad', e, hl, hc⟩ := h (by omega)
  injection e with e
  subst e
  obtain ⟨x, hi⟩ : ∃ t, l[j / 2]? = some t := ⟨l[j / 2]'(by omega), List.getElem?_eq_getElem _⟩
  obtain ⟨g0, g1⟩ := cellsO_get l (j / 2) x hi
  obtain ⟨c0, c1⟩ := hc (j / 2) x hi
  have hr : j = j / 2 * 2 ∨ j = j / 2 * 2 + 1 := by omega
  rcases hr with hr | hr
  · rw [hr, g0] at hj
    obtain rfl := Option.some.inj hj
    rw [hr]; exact c0
  · rw [hr, g1] at hj
    obtain rfl := Option.some.inj hj
    rw [hr, ← addAdd]
    have : ((ad.add (j / 2 * 2)).add 1) = ⟨(ad.add (j / 2 * 2)).block, (ad.add (j / 2 * 2)).off + 1, none⟩ := by simp [Addr.add]
    rw [this]; exact c1
theorem RdO.post {w : World} {B : Nat} {ad : Addr} {l : List On} (h : RdO w B (some ad) l) (k : Nat) : RdO w B (some (ad.add (k * 2))) (l.drop k) := by
  intro hp
  rw [List.length_drop] at hp
  obtain ⟨ad', e, hl, hc⟩ := h (by omega)
  injection e with e
  subst e
  refine ⟨_, rfl, by rw [blockAdd]; exact hl, fun j x hj => ?_⟩
  rw [List.getElem?_drop] at hj
  have := hc (k + j) x hj
  rw [addAdd]
  have e : k * 2 + j * 2 = (k + j) * 2 := by omega
  rw [e]; exact this
theorem RdO.pre {w : World} {B : Nat} {A : Option Addr} {l : List On} (h : RdO w B A l) (k : Nat) : RdO w B A (l.take k) := by
  intro hp
  rw [List.length_take] at hp
  obtain ⟨ad, e, hl, hc⟩ := h (by omega)
  refine ⟨ad, e, hl, fun j x hj => hc j x ?_⟩
  rw [List.getElem?_take] at hj
  split at hj
  · exact hj
  · cases hj
/-- the slice v is the call's own and holds these entries -/
def OwnO (w : World) (base : Nat) (v : Value) (l : List On) : Prop := w.ownsRow base 91 2 v l.length (cellsO l)
theorem OwnO.form {w : World} {base : Nat} {v : Value} {l : List On} (h : OwnO w base v l) : ∃ A c, v = .slice A l.length c ∧ l.length ≤ c ∧ c ≤ maxLen ∧ RdO w w.heap.size A l := by
  obtain ⟨h1, h2⟩ := h
  rcases h2 with ⟨rfl, h0⟩ | ⟨g, cap, cur, rfl, hg, hh, hc, hm, hs, ht⟩
  · exact ⟨none, 0, by rw [h0], by omega, by simp [maxLen], fun hp => by omega⟩
  · have hlt : g < w.heap.size := by
      rcases Nat.lt_or_ge g w.heap.size with hlt | hge
      · exact hlt
      · rw [Array.getElem?_eq_none hge] at hh; cases hh
    refine ⟨_, cap, rfl, hc, hm, fun _ => ⟨_, rfl, hlt, fun j x hj => ?_⟩⟩
    obtain ⟨g0, g1⟩ := cellsO_get l j x hj
    have ha : ((⟨g, 0, none⟩ : Addr).add (j * 2)) = ⟨g, j * 2, none⟩ := by
      unfold Addr.add
      by_cases hj0 : j * 2 = 0 <;> simp [hj0]
    have key : ∀ o v, (cellsO l)[o]? = some v → w.cell? ⟨g, o, none⟩ = some v := by
      intro o v hv
      rw [← ht, List.getElem?_take] at hv
      split at hv
      · simp only [World.cell?, hh]
        simpa using hv
      · cases hv
    rw [ha]
    exact ⟨key _ _ g0, key _ _ g1⟩

theorem Try.info_O : (Try.prog.info? 91).map (fun i => (i.zero, i.size, i.bytes)) = some (some (.agg #[.slice none 0 0, .slice none 0 0]), 2, 48) := by kernel_rfl
set_option maxRecDepth 100000 in
/-- append of entries onto a slice of the call's own -/
theorem wpList_appO {w : World} {ops : Array Oper} {rest : List Oper} {o : Oper} {a : Act} {Q : Exit → Act → World → Prop} (hgd : o.guard = none) (s x : Operand)
    (ho : o.op = .call { callee := .builtin .append, args := #[s, x], argTypes := #[41, 41] })
    (base : Nat) (v : Value) (l : List On) (hs : a.eval s = v) (hown : OwnO w base v l) (A : Option Addr) (c : Nat) (m : List On) (n : Nat) (hn : n = m.length) (hx : a.eval x = .slice A n c) (hr : RdO w w.heap.size A m)
    (hlen : l.length + m.length ≤ 1099511627776) (hbase : base ≤ w.heap.size)
    (h : ∀ v' w', OwnO w' base v' (l ++ m) → Below base w w' → wpList Try.prog ops Q rest (a.put o.dst v') w') : wpList Try.prog ops Q (o :: rest) a w := by
  subst hn
  obtain ⟨i0, hi, hz0, hz1, hz2⟩ := info_parts Try.info_O
  have fin : ∀ v' w', w'.ownsRow base 91 2 v' (l.length + m.length) (cellsO l ++ cellsO m) → w.grownBy w' v.ownBlock → wpList Try.prog ops Q rest (a.put o.dst v') w' := fun v' w' h1 h2 => by
    refine h v' w' ?_ ((Below.refl _ _).grown h2 hbase fun k hk => (World.ownsRow.lt hown k hk).1)
    unfold OwnO
    rw [List.length_append, cellsO_append]
    exact h1
  rcases A with _ | ad
  · have h0 : m = [] := by
      cases m with
      | nil => rfl
      | cons u r =>
        obtain ⟨ad, e, _⟩ := hr (by simp)
        cases e
    subst h0
    have hs2 : w.ownsRow base 91 2 v l.length (cellsO l) := hown
    have hrun : (Builtin.append_ #[41, 41] o.type #[v, .slice none 0 c]).run Try.prog w = .ok v w := by
      rcases hs2.2 with ⟨rfl, _⟩ | ⟨g, cap, cur, rfl, _, _, hnc, _⟩ <;>
        simp [Builtin.append_, run_underlying Try.underlying41, sizeOf, typeInfo, hi, Builtin.lenOf, Builtin.firstCells]
      simp [hnc, storeCells]
    refine wpList_plain hgd fun K hK => ?_
    unfold Oper.wp
    simp only [execOp, ho, resolve, invoke, builtin, Sem.run_bind, Sem.run_pure, Result.andThen_ok, List.map_toArray, List.map_cons, List.map_nil, hs, hx]
    have hx0 : (Value.slice none ([] : List On).length c) = .slice none 0 c := rfl
    rw [hx0, hrun]
    exact hK _ _ (fin v w (by simpa [cellsO] using hs2) (World.grownBy.refl w _))
  · refine wpList_append_own w hgd s x 41 ho base 91 i0 _ 2 48 Try.underlying41 hi hz0 hz1 hz2 rfl (by decide) v l.length (cellsO l) hs hown ad m.length c (cellsO m) hx (cellsO_length m) hr.cells (cellsO_one m) (by simp only [maxLen]; omega) (by omega) hbase ?_
    · intro v' w' h1 h2 _
      exact fin v' w' h1 h2
theorem OwnO.below {w w' : World} {base : Nat} {v : Value} {l : List On} (h : OwnO w base v l) (hb : Below w.heap.size w w') : OwnO w' base v l := by
  obtain ⟨h1, h2⟩ := h
  refine ⟨h1, ?_⟩
  rcases h2 with h2 | ⟨g, cap, cur, hv, hg, hh, r⟩
  · exact .inl h2
  · have hlt : g < w.heap.size := by
      rcases Nat.lt_or_ge g w.heap.size with hlt | hge
      · exact hlt
      · rw [Array.getElem?_eq_none hge] at hh; cases hh
    exact .inr ⟨g, cap, cur, hv, hg, (hb.block g hlt).trans hh, r⟩
theorem RdO.post2 {w : World} {B : Nat} {ad : Addr} {l : List On} (h : RdO w B (some ad) l) (k cap : Nat) (hc : l.length ≤ cap) : RdO w B (if cap = k then some ad else some (ad.add (k * 2))) (l.drop k) := by
  by_cases e : cap = k
  · intro hp
    rw [List.length_drop] at hp
    omega
  · rw [if_neg e]
    exact h.post k
set_option maxRecDepth 100000 in
/-- 'append(added, entry)': its cells have just been made -/
theorem wpList_app1O {W : World} {ops : Array Oper} {rest : List Oper} {o : Oper} {a : Act} {Q : Exit → Act → World → Prop} (hgd : o.guard = none) (s x : Operand)
    (ho : o.op = .call { callee := .builtin .append, args := #[s, x], argTypes := #[41, 41] })
    (base : Nat) (v : Value) (l : List On) (hs : a.eval s = v) (hown : OwnO W base v l) (z1 z2 : Value) (e : On) (e1 : z1 = e.kv) (e2 : z2 = e.rv) (hx : a.eval x = .slice (some ⟨W.heap.size, 0, none⟩) 1 1)
    (hlen : l.length + 1 ≤ 1099511627776) (hbase : base ≤ W.heap.size)
    (h : ∀ v' w', OwnO w' base v' (l ++ [e]) → But (fun k => some k = v.ownBlock) W w' → (v'.ownBlock = v.ownBlock ∨ ∃ g, v'.ownBlock = some g ∧ W.heap.size ≤ g) →
      wpList Try.prog ops Q rest (a.put o.dst v') w') : wpList Try.prog ops Q (o :: rest) a (W.alloc (.cells #[z1, z2] 91)) := by
  subst e1 e2
  obtain ⟨i0, hi, hz0, hz1, hz2⟩ := info_parts Try.info_O
  refine wpList_append_own_at (W.alloc (.cells #[e.kv, e.rv] 91)) hgd s x 41 ho base 91 i0 _ 2 48 Try.underlying41 hi hz0 hz1 hz2 rfl (by decide) v l.length (cellsO l) hs (World.ownsRow.alloc hown _) ⟨W.heap.size, 0, none⟩ 1 1 (cellsO [e]) hx rfl ?_ (cellsO_one [e]) (by simp only [maxLen]; omega) (by omega) (by simp; omega) ?_
  · intro j u hu
    have hb : (W.alloc (.cells #[e.kv, e.rv] 91)).heap[W.heap.size]? = some (.cells #[e.kv, e.rv] 91 (0, 0)) := heap_alloc_new _ _
    exact World.news_of_block hb j u hu
  · intro v' w' h1 h2 _ h4
    have hO : OwnO w' base v' (l ++ [e]) := by
      unfold OwnO
      rw [List.length_append, cellsO_append]
      exact h1
    have hal : Below W.heap.size W (W.alloc (.cells #[e.kv, e.rv] 91)) := (Below.refl _ _).alloc (Nat.le_refl _) _
    refine h v' w' hO ((But.of_below hal).same (But.of_grown h2)) ?_
    rcases h4 with h4 | h4
    · exact .inl h4
    · exact .inr ⟨_, h4, by simp⟩
theorem OwnO.mono {w : World} {base base' : Nat} {v : Value} {l : List On} (h : OwnO w base v l) (hb : base' ≤ base) : OwnO w base' v l := by
  obtain ⟨h1, h2⟩ := h
  refine ⟨h1, ?_⟩
  rcases h2 with h2 | ⟨g, cap, cur, hv, hg, r⟩
  · exact .inl h2
  · exact .inr ⟨g, cap, cur, hv, Nat.le_trans hb hg, r⟩
/-- values in a block of values -/
def OkR (w : World) (A : Option Addr) (l : List Trip) : Prop := 0 < l.length → ∃ g cur fr, A = some ⟨g, 0, none⟩ ∧ w.heap[g]? = some (.cells cur 29 fr) ∧ ∀ j k n s, l[j]? = some (k, n, s) → RowAt w ⟨g, j * 3, none⟩ k n s
theorem OkR.but {P : Nat → Prop} {w w' : World} {A : Option Addr} {l : List Trip} (h : OkR w A l) (hb : But P w w') (hf : Far w P) : OkR w' A l := by
  intro hp
  obtain ⟨g, cur, fr, e, hg, hc⟩ := h hp
  have hn := hf.not hg (by decide) (by decide) (by decide)
  refine ⟨g, cur, fr, e, (hb.block g (heap_lt hg) hn).trans hg, fun j k n s hj => ?_⟩
  obtain ⟨a, b, c⟩ := hc j k n s hj
  exact ⟨(hb.cell hn (heap_lt hg)).trans a, (hb.cell hn (heap_lt hg)).trans b, (hb.cell hn (heap_lt hg)).trans c⟩
theorem OkR.rd {w : World} {A : Option Addr} {l : List Trip} (h : OkR w A l) : RdR w w.heap.size A l := by
  intro hp
  obtain ⟨g, cur, fr, e, hg, hc⟩ := h hp
  refine ⟨_, e, heap_lt hg, fun j k n s hj => ?_⟩
  rw [add0]
  exact hc j k n s hj
theorem OkR.of_own {w : World} {base : Nat} {A : Option Addr} {n c : Nat} {l : List Trip} (h : OwnR w base (.slice A n c) l) : OkR w A l := by
  intro hp
  have h' := h
  obtain ⟨h1, h2⟩ := h
  rcases h2 with ⟨hv, h0⟩ | ⟨g, cap, cur, hv, hg, hh, hc, hm, hs, ht⟩
  · omega
  · simp only [Value.slice.injEq] at hv
    obtain ⟨rfl, rfl, rfl⟩ := hv
    obtain ⟨A', c', e, _, _, hr⟩ := h'.form
    obtain ⟨ad, e2, _, hc2⟩ := hr hp
    injection e with e e' e''
    subst e
    injection e2 with e2
    subst e2
    refine ⟨g, cur, _, rfl, hh, fun j k n s hj => ?_⟩
    have := hc2 j k n s hj
    rwa [add0] at this
/-- entries in a block of entries -/
def OkO (w : World) (A : Option Addr) (l : List On) : Prop := 0 < l.length → ∃ g cur fr, A = some ⟨g, 0, none⟩ ∧ w.heap[g]? = some (.cells cur 91 fr) ∧ ∀ j e, l[j]? = some e → OnAt w ⟨g, j * 2, none⟩ e
theorem OkO.but {P : Nat → Prop} {w w' : World} {A : Option Addr} {l : List On} (h : OkO w A l) (hb : But P w w') (hf : Far w P) : OkO w' A l := by
  intro hp
  obtain ⟨g, cur, fr, e, hg, hc⟩ := h hp
  have hn := hf.not hg (by decide) (by decide) (by decide)
  refine ⟨g, cur, fr, e, (hb.block g (heap_lt hg) hn).trans hg, fun j x hj => ?_⟩
  obtain ⟨a, b⟩ := hc j x hj
  exact ⟨(hb.cell hn (heap_lt hg)).trans a, (hb.cell hn (heap_lt hg)).trans b⟩
theorem OkO.rd {w : World} {A : Option Addr} {l : List On} (h : OkO w A l) : RdO w w.heap.size A l := by
  intro hp
  obtain ⟨g, cur, fr, e, hg, hc⟩ := h hp
  refine ⟨_, e, heap_lt hg, fun j x hj => ?_⟩
  rw [add0]
  exact hc j x hj
theorem OkO.of_own {w : World} {base : Nat} {A : Option Addr} {n c : Nat} {l : List On} (h : OwnO w base (.slice A n c) l) : OkO w A l := by
  intro hp
  have h' := h
  obtain ⟨h1, h2⟩ := h
  rcases h2 with ⟨hv, h0⟩ | ⟨g, cap, cur, hv, hg, hh, hc, hm, hs, ht⟩
  · omega
  · simp only [Value.slice.injEq] at hv
    obtain ⟨rfl, rfl, rfl⟩ := hv
    obtain ⟨A', c', e, _, _, hr⟩ := h'.form
    obtain ⟨ad, e2, _, hc2⟩ := hr hp
    injection e with e e' e''
    subst e
    injection e2 with e2
    subst e2
    refine ⟨g, cur, _, rfl, hh, fun j x hj => ?_⟩
    have := hc2 j x hj
    rwa [add0] at this
/-- what an entry reads -/
def OnB (w : World) (e : On) : Prop := OkB w e.kA e.kb ∧ e.kb.length ≤ e.kc ∧ e.kc ≤ 9223372036854775807 ∧ OkR w e.rA e.rs ∧ e.rs.length ≤ e.rc ∧ e.rc ≤ 9223372036854775807
theorem OnB.but {P : Nat → Prop} {w w' : World} {e : On} (h : OnB w e) (hb : But P w w') (hf : Far w P) : OnB w' e := ⟨h.1.but hb hf, h.2.1, h.2.2.1, h.2.2.2.1.but hb hf, h.2.2.2.2⟩
theorem OnB.on {w w' : World} {e : On} (h : OnB w e) (hb : Below w.heap.size w w') : OnB w' e := h.but (P := fun _ => False) (But.of_below hb) (far_none _)
theorem OkO.on {w w' : World} {A : Option Addr} {l : List On} (h : OkO w A l) (hb : Below w.heap.size w w') : OkO w' A l := h.but (P := fun _ => False) (But.of_below hb) (far_none _)
/-- the document's sorter as a value -/
def refV (D : Option Addr) (dn dc : Nat) (dist : Bool) (A : Option Addr) (n c : Nat) (srt : Bool) (at_ : Nat) : Value := .agg #[.slice D dn dc, .bool dist, .slice A n c, .bool srt, .int .i64 (at_ : Int)]
end Go.Proofs.Ytdhdfeiobjmdaaa

namespace Go.Proofs.Ytdhdfeiobjmdaaa
open Go.ChangeShapes Go.WideShapes Go.ChangeAt Go.RowKit
set_option linter.unusedVariables false

def CbRel (w : World) (a b : List UInt8) (v : Value) (wr : World) : Prop := ∃ i : Nat, i ≤ a.length ∧ i ≤ b.length ∧ v = .int .i64 (i : Int) ∧ Lib.compareBytes (a.drop i) (b.drop i) = Lib.compareBytes a b ∧ ∃ n, wr = w.drewN n
theorem cb_cons (x y : UInt8) (r s : List UInt8) : Lib.compareBytes (x :: r) (y :: s) = if x < y then -1 else if y < x then 1 else Lib.compareBytes r s := by
  rw [Lib.compareBytes]
theorem drop_at {α : Type} {l : List α} {i : Nat} {x : α} (h : l[i]? = some x) : l.drop i = x :: l.drop (i + 1) := by
  obtain ⟨h1, h2⟩ := List.getElem?_eq_some_iff.1 h
  rw [List.drop_eq_getElem_cons h1, h2]
theorem bdN {n : Nat} {w wr : World} (h : Below n w wr) (k : Nat) : Below n w (wr.drewN k) := ⟨h.os, h.tape, h.output, h.size, h.block⟩
theorem dN1 (w : World) (n a : Nat) : ∃ m, (w.drewN n).drewN a = w.drewN m := ⟨_, World.drewN_drewN _ _ _⟩
theorem dN2 (w : World) (n a b : Nat) : ∃ m, ((w.drewN n).drewN a).drewN b = w.drewN m := by
  rw [World.drewN_drewN]
  exact dN1 w n _
set_option maxRecDepth 100000 in
set_option maxHeartbeats 1000000 in
theorem refCompare_q (A : Option Addr) (c : Nat) (a : List UInt8) (B : Option Addr) (c' : Nat) (b : List UInt8) (w : World) (hA : Rd w w.heap.size A a) (hB : Rd w w.heap.size B b) (hla : a.length ≤ 1000000000) (hlb : b.length ≤ 1000000000) :
    Calls Try.prog 47 #[.slice A a.length c, .slice B b.length c'] w fun e w' => e = .returned (.int .i64 (Lib.compareBytes a b)) ∧ ∃ n, w' = w.drewN n := by
  have HA := Lib.hid hA
  have HB := Lib.hid hB
  clear hA hB
  go_enter Try.func47, Try.ntmps47
  go_wp2_with fail
  go_loopw [5] (fun v wr => CbRel w a b v wr) (fun v _ => a.length - (intOf v).toNat)
  case atStart => exact ⟨0, by omega, by omega, rfl, rfl, 0, rfl⟩
  case round =>
    obtain ⟨i, hi, hi', rfl, hc, nn, hnn⟩ := hrel
    have HC := Lib.hid hc
    have HNN := Lib.hid hnn
    have hb : Below w.heap.size w wr := by rw [hnn]; exact bdN (Below.refl _ _) nn
    clear hnn
    clear hc
    by_cases h1 : i < a.length
    · by_cases h2 : i < b.length
      · have g1 : a[i]? = some a[i] := List.getElem?_eq_getElem h1
        have g2 : b[i]? = some b[i] := List.getElem?_eq_getElem h2
        obtain ⟨ad, rfl, _, c1⟩ := (HA.out.below hb) (by omega)
        obtain ⟨bd, rfl, _, c2⟩ := (HB.out.below hb) (by omega)
        have e1 := drop_at g1
        have e2 := drop_at g2
        generalize a[i] = x at *
        generalize b[i] = y at *
        have d1 : wr.cell? (ad.add i) = some (.int .u8 (x.toNat : Int)) := c1 i x g1
        have d2 : wr.cell? (bd.add i) = some (.int .u8 (y.toNat : Int)) := c2 i y g2
        have hcc := HC.out
        rw [e1, e2, cb_cons] at hcc
        have HCC := Lib.hid hcc
        have q1 : (i : Int) < a.length := by omega
        have q2 : (i : Int) < b.length := by omega
        have n1 := UInt8.lt_iff_toNat_lt (a := x) (b := y)
        have n2 := UInt8.lt_iff_toNat_lt (a := y) (b := x)
        clear hcc e1 e2 g1 g2 c1 c2 hb
        by_cases hxy : x.toNat < y.toNat
        · have HR := Lib.hid (show Lib.compareBytes a b = -1 by rw [← HCC.out, if_pos (n1.2 hxy)])
          have p1 : decide ((x.toNat : Int) < y.toNat) = true := decide_eq_true (by omega)
          clear n1 n2 HCC HC
          go_upto_region 4 with (fail)
          go_quiet (fail)
          go_wp2_with fail
          go_ret
          exact ⟨by rw [HR.out]; rfl, by rw [HNN.out]; exact dN1 _ _ _⟩
        · by_cases hyx : y.toNat < x.toNat
          · have HR := Lib.hid (show Lib.compareBytes a b = 1 by rw [← HCC.out, if_neg (fun h => hxy (n1.1 h)), if_pos (n2.2 hyx)])
            have p1 : decide ((x.toNat : Int) < y.toNat) = false := decide_eq_false (by omega)
            have p2 : decide ((y.toNat : Int) < x.toNat) = true := decide_eq_true (by omega)
            clear n1 n2 HCC HC
            go_upto_region 4 with (fail)
            go_quiet (fail)
            go_upto_region 6 with (fail)
            go_quiet (fail)
            go_wp2_with fail
            go_ret
            exact ⟨by rw [HR.out]; rfl, by rw [HNN.out]; first | exact dN1 _ _ _ | exact dN2 _ _ _ _⟩
          · have HR := Lib.hid (show Lib.compareBytes (a.drop (i + 1)) (b.drop (i + 1)) = Lib.compareBytes a b by rw [← HCC.out, if_neg (fun h => hxy (n1.1 h)), if_neg (fun h => hyx (n2.1 h))])
            have p1 : decide ((x.toNat : Int) < y.toNat) = false := decide_eq_false (by omega)
            have p2 : decide ((y.toNat : Int) < x.toNat) = false := decide_eq_false (by omega)
            clear n1 n2 HCC HC
            go_upto_region 4 with (fail)
            go_quiet (fail)
            go_upto_region 6 with (fail)
            go_quiet (fail)
            go_wp2_with fail
            exact ⟨⟨i + 1, by omega, by omega, by go_num, HR.out, by rw [HNN.out]; first | exact dN1 _ _ _ | exact dN2 _ _ _ _⟩, by simp [intOf]; omega⟩
      · obtain rfl : i = b.length := by omega
        have g1 : a[b.length]? = some a[b.length] := List.getElem?_eq_getElem h1
        have hcc := HC.out
        rw [drop_at g1, List.drop_length] at hcc
        have HR := Lib.hid (show Lib.compareBytes a b = 1 by rw [← hcc]; rfl)
        clear hcc g1 HC
        go_wp2_with fail
        go_ret
        exact ⟨by rw [HR.out]; rfl, _, HNN.out⟩
    · obtain rfl : i = a.length := by omega
      by_cases h2 : a.length < b.length
      · have g1 : b[a.length]? = some b[a.length] := List.getElem?_eq_getElem h2
        have hcc := HC.out
        rw [drop_at g1, List.drop_length] at hcc
        have HR := Lib.hid (show Lib.compareBytes a b = -1 by rw [← hcc]; rfl)
        clear hcc g1 HC
        go_wp2_with fail
        go_ret
        exact ⟨by rw [HR.out]; rfl, _, HNN.out⟩
      · have hl : a.length = b.length := by omega
        have hcc := HC.out
        rw [List.drop_length, hl, List.drop_length] at hcc
        have HR := Lib.hid (show Lib.compareBytes a b = 0 by rw [← hcc]; rfl)
        have q1 : (a.length : Int) = b.length := by omega
        clear hcc HC
        go_wp2_with fail
        go_ret
        exact ⟨by rw [HR.out]; rfl, _, HNN.out⟩
theorem refCompare_any (A : Option Addr) (c : Nat) (a : List UInt8) (B : Option Addr) (c' : Nat) (b : List UInt8) (w : World) (hA : Rd w w.heap.size A a) (hB : Rd w w.heap.size B b) (hla : a.length ≤ 1000000000) (hlb : b.length ≤ 1000000000) :
    Calls Try.prog 47 #[.slice A a.length c, .slice B b.length c'] w fun e w' => e = .returned (.int .i64 (Lib.compareBytes a b)) ∧ Below w.heap.size w w' := by
  refine (refCompare_q A c a B c' b w hA hB hla hlb).mono ?_
  rintro e w' ⟨rfl, n, rfl⟩
  exact ⟨rfl, bdN (Below.refl _ _) n⟩
set_option maxRecDepth 100000 in
theorem refKey_bad (A : Option Addr) (cap : Nat) (vs : List Trip) (F : Option Addr) (m fcap : Nat) (w : World) (hR : RdR w w.heap.size A vs) (hl : vs.length ≤ 200) (hs : ∀ t ∈ vs, t.2.2.size ≤ 300) (hb : vs.any pBad = true) :
    Calls Try.prog 45 #[.slice A vs.length cap, .slice F m fcap] w fun e w' => NoRet 2 w e w' := by
  have hE := Lib.hid (show 2 = if 200 < vs.length then 3 else if vs.any pBad then 2 else 0 by rw [if_neg (by omega), hb]; rfl)
  clear hb
  go_enter Try.func45, Try.ntmps45
  go_wp2_with fail
  refine (refRow_any A cap vs w hR (by omega) (fun t ht => by have := hs t ht; omega) 2 hE).mono ?_
  rintro e w1 ⟨rfl, hb1⟩
  go_wp2_with fail
  go_ret2
  exact ⟨rfl, hb1⟩
set_option maxRecDepth 100000 in
theorem refKey_uneven (A : Option Addr) (cap : Nat) (vs : List Trip) (F : Option Addr) (m fcap : Nat) (w : World) (hR : RdR w w.heap.size A vs) (hl : vs.length ≤ 200) (hd : ¬ m = vs.length) (hs : ∀ t ∈ vs, t.2.2.size ≤ 300) (hb : vs.any pBad = false) :
    Calls Try.prog 45 #[.slice A vs.length cap, .slice F m fcap] w fun e w' => NoRet 2 w e w' := by
  have hE := Lib.hid (show 0 = if 200 < vs.length then 3 else if vs.any pBad then 2 else 0 by rw [if_neg (by omega), hb]; rfl)
  have hdi : ((m : Int) != vs.length) = true := by
    have : ¬ (m : Int) = vs.length := by omega
    simpa using this
  clear hb hd
  go_enter Try.func45, Try.ntmps45
  go_wp2_with fail
  refine (refRow_any A cap vs w hR (by omega) (fun t ht => by have := hs t ht; omega) 0 hE).mono ?_
  rintro e w1 ⟨rfl, hb1⟩
  go_wp2_with fail
  go_ret2
  exact ⟨rfl, hb1⟩
set_option maxRecDepth 100000 in
theorem refPut_bad (A : Option Addr) (cap : Nat) (vs : List Trip) (w : World) (hR : RdR w w.heap.size A vs) (hl : vs.length ≤ 200) (hs : ∀ t ∈ vs, t.2.2.size ≤ 300) (hb : vs.any pBad = true) :
    Calls Try.prog 46 #[.slice A vs.length cap] w fun e w' => NoRet 2 w e w' := by
  have hE := Lib.hid (show 2 = if 200 < vs.length then 3 else if vs.any pBad then 2 else 0 by rw [if_neg (by omega), hb]; rfl)
  clear hb
  go_enter Try.func46, Try.ntmps46
  go_wp2_with fail
  refine (refRow_any A cap vs w hR (by omega) (fun t ht => by have := hs t ht; omega) 2 hE).mono ?_
  rintro e w1 ⟨rfl, hb1⟩
  go_wp2_with fail
  go_ret2
  exact ⟨rfl, hb1⟩
end Go.Proofs.Ytdhdfeiobjmdaaa

namespace Go.Proofs.Ytdhdfeiobjmdaaa
open Go.ChangeShapes Go.WideShapes Go.ChangeAt Go.RowKit
set_option linter.unusedVariables false

set_option maxRecDepth 100000 in
/-- append of entries onto a slice of the call's own -/
theorem wpList_appRX {w : World} {ops : Array Oper} {rest : List Oper} {o : Oper} {a : Act} {Q : Exit → Act → World → Prop} (hgd : o.guard = none) (s x : Operand)
    (ho : o.op = .call { callee := .builtin .append, args := #[s, x], argTypes := #[31, 31] })
    (base : Nat) (v : Value) (l : List Trip) (hs : a.eval s = v) (hown : OwnR w base v l) (A : Option Addr) (c : Nat) (m : List Trip) (n : Nat) (hn : n = m.length) (hx : a.eval x = .slice A n c) (hr : RdR w w.heap.size A m)
    (hlen : l.length + m.length ≤ 1099511627776) (hbase : base ≤ w.heap.size)
    (h : ∀ v' w', OwnR w' base v' (l ++ m) → Below base w w' → wpList Try.prog ops Q rest (a.put o.dst v') w') : wpList Try.prog ops Q (o :: rest) a w := by
  subst hn
  obtain ⟨i0, hi, hz0, hz1, hz2⟩ := info_parts Try.info_V
  have fin : ∀ v' w', w'.ownsRow base 29 3 v' (l.length + m.length) (cellsL l ++ cellsL m) → w.grownBy w' v.ownBlock → wpList Try.prog ops Q rest (a.put o.dst v') w' := fun v' w' h1 h2 => by
    refine h v' w' ?_ ((Below.refl _ _).grown h2 hbase fun k hk => (World.ownsRow.lt hown k hk).1)
    unfold OwnR
    rw [List.length_append, cellsL_append]
    exact h1
  rcases A with _ | ad
  · have h0 : m = [] := by
      cases m with
      | nil => rfl
      | cons u r =>
        obtain ⟨ad, e, _⟩ := hr (by simp)
        cases e
    subst h0
    have hs2 : w.ownsRow base 29 3 v l.length (cellsL l) := hown
    have hrun : (Builtin.append_ #[31, 31] o.type #[v, .slice none 0 c]).run Try.prog w = .ok v w := by
      rcases hs2.2 with ⟨rfl, _⟩ | ⟨g, cap, cur, rfl, _, _, hnc, _⟩ <;>
        simp [Builtin.append_, run_underlying Try.underlying31, sizeOf, typeInfo, hi, Builtin.lenOf, Builtin.firstCells]
      simp [hnc, storeCells]
    refine wpList_plain hgd fun K hK => ?_
    unfold Oper.wp
    simp only [execOp, ho, resolve, invoke, builtin, Sem.run_bind, Sem.run_pure, Result.andThen_ok, List.map_toArray, List.map_cons, List.map_nil, hs, hx]
    have hx0 : (Value.slice none ([] : List Trip).length c) = .slice none 0 c := rfl
    rw [hx0, hrun]
    exact hK _ _ (fin v w (by simpa [cellsL] using hs2) (World.grownBy.refl w _))
  · refine wpList_append_own w hgd s x 31 ho base 29 i0 _ 3 32 Try.underlying31 hi hz0 hz1 hz2 rfl (by decide) v l.length (cellsL l) hs hown ad m.length c (cellsL m) hx (cellsL_length m) hr.cells (cellsL_one m) (by simp only [maxLen]; omega) (by omega) hbase ?_
    · intro v' w' h1 h2 _
      exact fin v' w' h1 h2
/-- the document's sorter in a block -/
def BoxO (X : World) (p : Nat) (D : Option Addr) (dn dc : Nat) (dist : Bool) (A : Option Addr) (n c : Nat) (srt : Bool) (k : Nat) : Prop :=
  X.heap[p]? = some (.cells #[.slice D dn dc, .bool dist, .slice A n c, .bool srt, .int .i64 (k : Int)] 43 (0, 0))
section
variable {X Y : World} {p : Nat} {D : Option Addr} {dn dc : Nat} {dist : Bool} {A : Option Addr} {n c : Nat} {srt : Bool} {k : Nat}
theorem BoxO.below {m : Nat} (h : BoxO X p D dn dc dist A n c srt k) (hb : Below m X Y) (hp : p < m) : BoxO Y p D dn dc dist A n c srt k := (hb.block p hp).trans h
theorem BoxO.on (h : BoxO X p D dn dc dist A n c srt k) (hb : Below X.heap.size X Y) : BoxO Y p D dn dc dist A n c srt k := h.below hb (heap_lt h)
theorem BoxO.but {P : Nat → Prop} (h : BoxO X p D dn dc dist A n c srt k) (hb : But P X Y) (hf : Far X P) : BoxO Y p D dn dc dist A n c srt k :=
  (hb.block p (heap_lt h) (hf.not h (by decide) (by decide) (by decide))).trans h
theorem BoxO.cells (h : BoxO X p D dn dc dist A n c srt k) : X.cell? ⟨p, 0, none⟩ = some (.slice D dn dc) ∧ X.cell? ⟨p, 1, none⟩ = some (.bool dist) ∧ X.cell? ⟨p, 2, none⟩ = some (.slice A n c) ∧ X.cell? ⟨p, 3, none⟩ = some (.bool srt) ∧ X.cell? ⟨p, 4, none⟩ = some (.int .i64 (k : Int)) :=
  ⟨(cell_of_row X p 0 _ _ _ h).trans rfl, (cell_of_row X p 1 _ _ _ h).trans rfl, (cell_of_row X p 2 _ _ _ h).trans rfl, (cell_of_row X p 3 _ _ _ h).trans rfl, (cell_of_row X p 4 _ _ _ h).trans rfl⟩
theorem BoxO.frz (h : BoxO X p D dn dc dist A n c srt k) (j : Nat) : X.frozen? ⟨p, j, none⟩ = false := frozen_of_row X p j _ _ h
end
theorem BoxO.new (W : World) (D : Option Addr) (dn dc : Nat) (dist : Bool) (A : Option Addr) (n c : Nat) (srt : Bool) (k : Nat) : BoxO (W.alloc (.cells #[.slice D dn dc, .bool dist, .slice A n c, .bool srt, .int .i64 (k : Int)] 43)) W.heap.size D dn dc dist A n c srt k := heap_alloc_new _ _

set_option maxRecDepth 100000 in
theorem refNew_ok (D : Option Addr) (n c : Nat) (dist : Bool) (w : World) (hn : n ≤ 200) : Calls Try.prog 15 #[.slice D n c, .bool dist] w fun e w' => e = .returned (.tuple #[refV D n c dist none 0 0 false 0, .int .i64 0]) ∧ Below w.heap.size w w' := by
  have q1 : ¬ (200 : Int) < (n : Int) := by omega
  go_enter Try.func15, Try.ntmps15
  go_wp2_with fail
  refine bodyPost_ret (v := .tuple #[refV D n c dist none 0 0 false 0, .int .i64 0]) (by simp [refV, results, Try.results15, go_sem]) rfl ⟨rfl, ?_⟩
  exact (Below.refl _ _).alloc (Nat.le_refl _) _
set_option maxRecDepth 100000 in
theorem refNew_many (D : Option Addr) (n c : Nat) (dist : Bool) (w : World) (hn : 200 < n) : Calls Try.prog 15 #[.slice D n c, .bool dist] w fun e w' => e = .returned (.tuple #[refV none 0 0 false none 0 0 false 0, .int .i64 2]) ∧ Below w.heap.size w w' := by
  have q1 : (200 : Int) < (n : Int) := by omega
  go_enter Try.func15, Try.ntmps15
  go_wp2_with fail
  refine bodyPost_ret (v := .tuple #[refV none 0 0 false none 0 0 false 0, .int .i64 2]) (by simp [refV, results, Try.results15, go_sem]) rfl ⟨rfl, ?_⟩
  exact (Below.refl _ _).alloc (Nat.le_refl _) _
set_option maxRecDepth 100000 in
theorem refAdd_late (D : Option Addr) (dn dc : Nat) (dist : Bool) (A : Option Addr) (n c k : Nat) (K : Value) (R : Value) (w : World) (hK : ∃ a b d, K = .slice a b d) (hR : ∃ a b d, R = .slice a b d) :
    Calls Try.prog 18 #[refV D dn dc dist A n c true k, K, R] w fun e w' => e = .returned (.tuple #[refV D dn dc dist A n c true k, .int .i64 70]) ∧ Below w.heap.size w w' := by
  obtain ⟨_, _, _, rfl⟩ := hK
  obtain ⟨_, _, _, rfl⟩ := hR
  unfold refV
  go_enter Try.func18, Try.ntmps18
  go_wp2_with fail
  refine bodyPost_ret (v := .tuple #[refV D dn dc dist A n c true k, .int .i64 70]) (by simp [refV, results, Try.results18, go_sem]) rfl ⟨rfl, ?_⟩
  exact below_two _ _ _
set_option maxRecDepth 100000 in
theorem refRewind_ok (D : Option Addr) (dn dc : Nat) (dist : Bool) (A : Option Addr) (n c k : Nat) (w : World) :
    Calls Try.prog 22 #[refV D dn dc dist A n c true k] w fun e w' => e = .returned (.tuple #[refV D dn dc dist A n c true 0, .int .i64 0]) ∧ Below w.heap.size w w' := by
  unfold refV
  go_enter Try.func22, Try.ntmps22
  go_wp2_with fail
  refine bodyPost_ret (v := .tuple #[refV D dn dc dist A n c true 0, .int .i64 0]) (by simp [refV, results, Try.results22, go_sem]) rfl ⟨rfl, ?_⟩
  exact below_two _ _ _
set_option maxRecDepth 100000 in
theorem refRewind_early (D : Option Addr) (dn dc : Nat) (dist : Bool) (A : Option Addr) (n c k : Nat) (w : World) :
    Calls Try.prog 22 #[refV D dn dc dist A n c false k] w fun e w' => e = .returned (.tuple #[refV D dn dc dist A n c false k, .int .i64 70]) ∧ Below w.heap.size w w' := by
  unfold refV
  go_enter Try.func22, Try.ntmps22
  go_wp2_with fail
  refine bodyPost_ret (v := .tuple #[refV D dn dc dist A n c false k, .int .i64 70]) (by simp [refV, results, Try.results22, go_sem]) rfl ⟨rfl, ?_⟩
  exact below_two _ _ _
set_option maxRecDepth 100000 in
theorem refSort_late (D : Option Addr) (dn dc : Nat) (dist : Bool) (A : Option Addr) (n c k : Nat) (w : World) :
    Calls Try.prog 20 #[refV D dn dc dist A n c true k] w fun e w' => e = .returned (.tuple #[refV D dn dc dist A n c true k, .int .i64 70]) ∧ Below w.heap.size w w' := by
  unfold refV
  go_enter Try.func20, Try.ntmps20
  go_wp2_with fail
  refine bodyPost_ret (v := .tuple #[refV D dn dc dist A n c true k, .int .i64 70]) (by simp [refV, results, Try.results20, go_sem]) rfl ⟨rfl, ?_⟩
  exact below_two _ _ _
set_option maxRecDepth 100000 in
theorem refNext_early (D : Option Addr) (dn dc : Nat) (dist : Bool) (A : Option Addr) (n c k : Nat) (w : World) :
    Calls Try.prog 21 #[refV D dn dc dist A n c false k] w fun e w' => e = .returned (.tuple #[refV D dn dc dist A n c false k, .slice none 0 0, .bool false]) ∧ Below w.heap.size w w' := by
  unfold refV
  go_enter Try.func21, Try.ntmps21
  go_wp2_with fail
  refine bodyPost_ret (v := .tuple #[refV D dn dc dist A n c false k, .slice none 0 0, .bool false]) (by simp [refV, results, Try.results21, go_sem]) rfl ⟨rfl, ?_⟩
  exact below_two _ _ _
set_option maxRecDepth 100000 in
theorem refNext_end (D : Option Addr) (dn dc : Nat) (dist : Bool) (A : Option Addr) (n c k : Nat) (w : World) (hk : n ≤ k) :
    Calls Try.prog 21 #[refV D dn dc dist A n c true k] w fun e w' => e = .returned (.tuple #[refV D dn dc dist A n c true k, .slice none 0 0, .bool false]) ∧ Below w.heap.size w w' := by
  have q1 : (n : Int) ≤ (k : Int) := by omega
  unfold refV
  go_enter Try.func21, Try.ntmps21
  go_wp2_with fail
  refine bodyPost_ret (v := .tuple #[refV D dn dc dist A n c true k, .slice none 0 0, .bool false]) (by simp [refV, results, Try.results21, go_sem]) rfl ⟨rfl, ?_⟩
  exact below_two _ _ _
abbrev refO (D : Option Addr) (dn dc : Nat) (dist : Bool) (A : Option Addr) (n c : Nat) (srt : Bool) (k : Nat) : Obj := .cells #[.slice D dn dc, .bool dist, .slice A n c, .bool srt, .int .i64 (k : Int)] 43
theorem two_boxes {w w2 : World} {D : Option Addr} {dn dc : Nat} {dist : Bool} {A : Option Addr} {n c : Nat} {srt : Bool} {k : Nat} (hb : Below ((w.alloc (refO D dn dc dist A n c srt k)).alloc (refO none 0 0 false none 0 0 false 0)).heap.size ((w.alloc (refO D dn dc dist A n c srt k)).alloc (refO none 0 0 false none 0 0 false 0)) w2) :
    BoxO w2 w.heap.size D dn dc dist A n c srt k ∧ BoxO w2 (w.heap.size + 1) none 0 0 false none 0 0 false 0 ∧ Below w.heap.size w w2 ∧ w.heap.size + 2 ≤ w2.heap.size := by
  refine ⟨?_, ?_, (below_two w _ _).trans (hb.mono (by simp; omega)), by have := hb.size; simp at this; omega⟩
  · exact ((BoxO.new w D dn dc dist A n c srt k).on ((Below.refl _ _).alloc (Nat.le_refl _) _)).on hb
  · have h := BoxO.new (w.alloc (refO D dn dc dist A n c srt k)) none 0 0 false none 0 0 false 0
    rw [show (w.alloc (refO D dn dc dist A n c srt k)).heap.size = w.heap.size + 1 by simp] at h
    exact h.on hb
/-- five cells stored -/
def set5 (W : World) (q : Nat) (a b c d e : Value) : World := ((((W.setCell ⟨q, 0, none⟩ a).setCell ⟨q, 1, none⟩ b).setCell ⟨q, 2, none⟩ c).setCell ⟨q, 3, none⟩ d).setCell ⟨q, 4, none⟩ e
theorem below_set5 {n : Nat} {w W : World} (h : Below n w W) {q : Nat} (hq : n ≤ q) (a b c d e : Value) : Below n w (set5 W q a b c d e) :=
  ((((h.setCell (p := ⟨q, 0, none⟩) hq a).setCell (p := ⟨q, 1, none⟩) hq b).setCell (p := ⟨q, 2, none⟩) hq c).setCell (p := ⟨q, 3, none⟩) hq d).setCell (p := ⟨q, 4, none⟩) hq e
def RKeyNo (E : Int) (w : World) (D : Option Addr) (dn dc : Nat) (A : Option Addr) (n c : Nat) : Prop := ∀ X, Below w.heap.size w X → Calls Try.prog 45 #[.slice A n c, .slice D dn dc] X fun e w' => NoRet E X e w'
def RPutNo (E : Int) (w : World) (A : Option Addr) (n c : Nat) : Prop := ∀ X, Below w.heap.size w X → Calls Try.prog 46 #[.slice A n c] X fun e w' => NoRet E X e w'
set_option maxRecDepth 100000 in
set_option maxHeartbeats 1000000 in
theorem refAdd_key (D : Option Addr) (dn dc : Nat) (dist : Bool) (A : Option Addr) (n c k : Nat) (K : Option Addr) (kn kc : Nat) (R : Option Addr) (rn rc : Nat) (w : World) (E : Int) (hE : (0 != E) = true) (hE2 : (E != 0) = true) (hK : RKeyNo E w D dn dc K kn kc) :
    Calls Try.prog 18 #[refV D dn dc dist A n c false k, .slice K kn kc, .slice R rn rc] w fun e w' => e = .returned (.tuple #[refV D dn dc dist A n c false k, .int .i64 E]) ∧ Below w.heap.size w w' := by
  have HK := Lib.hid hK
  obtain ⟨w1, hw1⟩ : ∃ w1, w.alloc (.cells #[.slice D dn dc, .bool dist, .slice A n c, .bool false, .int .i64 (k : Int)] 43) = w1 := ⟨_, rfl⟩
  clear hK hw1 w1
  unfold refV
  go_enter Try.func18, Try.ntmps18
  go_wp2_with fail
  refine (HK.out _ (below_two _ _ _)).mono ?_
  rintro e w2 ⟨rfl, hb⟩
  obtain ⟨hp, hq, hw2, hz⟩ := two_boxes hb
  obtain ⟨c0, c1, c2, c3, c4⟩ := hp.cells
  obtain ⟨z0, z1, z2, z3, z4⟩ := hq.cells
  have f0 := hq.frz 0
  have f1 := hq.frz 1
  have f2 := hq.frz 2
  have f3 := hq.frz 3
  have f4 := hq.frz 4
  have HW2 := Lib.hid hw2
  clear hp hq hb hw2 hz
  obtain ⟨p, hp⟩ : ∃ n, w.heap.size = n := ⟨_, rfl⟩
  obtain ⟨q, hq⟩ : ∃ n, w.heap.size + 1 = n := ⟨_, rfl⟩
  rw [hq] at z0 z1 z2 z3 z4 f0 f1 f2 f3 f4
  rw [hp] at c0 c1 c2 c3 c4
  rw [hq, hp]
  have HQ := Lib.hid (show w.heap.size ≤ q by omega)
  clear hp hq
  go_wp2_with fail
  refine bodyPost_ret (v := .tuple #[refV D dn dc dist A n c false k, .int .i64 E]) (by simp [refV, results, Try.results18, go_sem, z0, z1, z2, z3, z4]) rfl ⟨rfl, ?_⟩
  exact below_set5 HW2.out HQ.out _ _ _ _ _
end Go.Proofs.Ytdhdfeiobjmdaaa

namespace Go.Proofs.Ytdhdfeiobjmdaaa
open Go.ChangeShapes Go.WideShapes Go.ChangeAt Go.RowKit
set_option linter.unusedVariables false

/-- blocks of one type -/
def FarT (t : TypeId) (w : World) (P : Nat → Prop) : Prop := ∀ k, P k → ∃ cur fr, w.heap[k]? = some (.cells cur t fr)
theorem FarT.not {t : TypeId} {w : World} {P : Nat → Prop} (h : FarT t w P) {g : Nat} {cur : Array Value} {t' : TypeId} {fr : Nat × Nat} (hg : w.heap[g]? = some (.cells cur t' fr)) (h1 : t ≠ t') : ¬ P g := by
  intro hp
  obtain ⟨cur', fr', hg'⟩ := h g hp
  have e := hg.symm.trans hg'
  simp only [Option.some.injEq, Obj.cells.injEq] at e
  exact h1 e.2.1.symm
theorem OkB.butT {t : TypeId} {P : Nat → Prop} {w w' : World} {A : Option Addr} {l : List UInt8} (h : OkB w A l) (hb : But P w w') (hf : FarT t w P) (ht : t ≠ 5) : OkB w' A l := by
  intro hp
  obtain ⟨g, cur, fr, e, hg, hc⟩ := h hp
  have hn := hf.not hg ht
  exact ⟨g, cur, fr, e, (hb.block g (heap_lt hg) hn).trans hg, fun j u hj => (hb.cell hn (heap_lt hg)).trans (hc j u hj)⟩
theorem OkR.butT {t : TypeId} {P : Nat → Prop} {w w' : World} {A : Option Addr} {l : List Trip} (h : OkR w A l) (hb : But P w w') (hf : FarT t w P) (ht : t ≠ 29) : OkR w' A l := by
  intro hp
  obtain ⟨g, cur, fr, e, hg, hc⟩ := h hp
  have hn := hf.not hg ht
  refine ⟨g, cur, fr, e, (hb.block g (heap_lt hg) hn).trans hg, fun j k n s hj => ?_⟩
  obtain ⟨a, b, c⟩ := hc j k n s hj
  exact ⟨(hb.cell hn (heap_lt hg)).trans a, (hb.cell hn (heap_lt hg)).trans b, (hb.cell hn (heap_lt hg)).trans c⟩
theorem OkO.butT {t : TypeId} {P : Nat → Prop} {w w' : World} {A : Option Addr} {l : List On} (h : OkO w A l) (hb : But P w w') (hf : FarT t w P) (ht : t ≠ 91) : OkO w' A l := by
  intro hp
  obtain ⟨g, cur, fr, e, hg, hc⟩ := h hp
  have hn := hf.not hg ht
  refine ⟨g, cur, fr, e, (hb.block g (heap_lt hg) hn).trans hg, fun j x hj => ?_⟩
  obtain ⟨a, b⟩ := hc j x hj
  exact ⟨(hb.cell hn (heap_lt hg)).trans a, (hb.cell hn (heap_lt hg)).trans b⟩
theorem OnB.butT {t : TypeId} {P : Nat → Prop} {w w' : World} {e : On} (h : OnB w e) (hb : But P w w') (hf : FarT t w P) (h1 : t ≠ 5) (h2 : t ≠ 29) : OnB w' e := ⟨h.1.butT hb hf h1, h.2.1, h.2.2.1, h.2.2.2.1.butT hb hf h2, h.2.2.2.2⟩
theorem OwnO.heap {w : World} {base : Nat} {v : Value} {l : List On} (h : OwnO w base v l) : FarT 91 w (fun k => some k = v.ownBlock) ∧ ∀ k, some k = v.ownBlock → base ≤ k := by
  obtain ⟨h1, h2⟩ := h
  rcases h2 with ⟨hv, _⟩ | ⟨g, cap, cur, hv, hg, hh, _⟩
  · rw [hv]; exact ⟨fun k hk => (by cases hk), fun k hk => (by cases hk)⟩
  · rw [hv]
    refine ⟨fun k hk => ?_, fun k hk => ?_⟩
    · obtain rfl : k = g := by simpa [Value.ownBlock] using hk
      exact ⟨_, _, hh⟩
    · obtain rfl : k = g := by simpa [Value.ownBlock] using hk
      exact hg
theorem but_set5 (W : World) (q : Nat) (a b c d e : Value) : But (fun i => i = q) W (set5 W q a b c d e) :=
  (((((But.refl (fun i => i = q) W).set ⟨q, 0, none⟩ rfl a).set ⟨q, 1, none⟩ rfl b).set ⟨q, 2, none⟩ rfl c).set ⟨q, 3, none⟩ rfl d).set ⟨q, 4, none⟩ rfl e
theorem but_six (W : World) (p q : Nat) (v a b c d e : Value) : But (fun i => i = p ∨ i = q) W (set5 (W.setCell ⟨p, 2, none⟩ v) q a b c d e) :=
  ((((((But.refl (fun i => i = p ∨ i = q) W).set ⟨p, 2, none⟩ (.inl rfl) v).set ⟨q, 0, none⟩ (.inr rfl) a).set ⟨q, 1, none⟩ (.inr rfl) b).set ⟨q, 2, none⟩ (.inr rfl) c).set ⟨q, 3, none⟩ (.inr rfl) d).set ⟨q, 4, none⟩ (.inr rfl) e
theorem rdf_on {w w' : World} {A : Option Addr} {ds : List Bool} (h : RdF w w.heap.size A ds) (hb : Below w.heap.size w w') : RdF w' w'.heap.size A ds := by
  intro hp
  obtain ⟨ad, e, hl, hc⟩ := (h.below hb) hp
  exact ⟨ad, e, Nat.lt_of_lt_of_le hl hb.size, hc⟩
theorem key_small {vs : List Trip} {ds : List Bool} (h : GoodR vs) (hd : ds.length = vs.length) (hl : vs.length ≤ 10) : (keyL vs ds).length ≤ 1048576 := by
  have h1 := sumP_good vs h
  rw [key_len vs ds h.fine hd.symm]
  omega
theorem put_small {vs : List Trip} (h : GoodR vs) (hl : vs.length ≤ 10) : (putL vs).length ≤ 1048576 := by
  have h1 := headL_len vs (by omega) (fun t ht => by have := (h t ht).2.1; omega)
  have h2 := sumB_good vs h
  have h3 := bodies_len vs fun v hv => ⟨(h v hv).1, (h v hv).2.2⟩
  rw [putL, List.length_append, h3]
  omega
set_option maxRecDepth 100000 in
set_option maxHeartbeats 1000000 in
theorem refAdd_put (D : Option Addr) (ds : List Bool) (dc : Nat) (dist : Bool) (A : Option Addr) (n c k : Nat) (K : Option Addr) (ks : List Trip) (kc : Nat) (R : Option Addr) (rn rc : Nat) (w : World) (E : Int) (hE : (0 != E) = true) (hE2 : (E != 0) = true) (hF : RdF w w.heap.size D ds) (hK : RdR w w.heap.size K ks) (hd : ds.length = ks.length) (hg : GoodR ks) (hl : ks.length ≤ 10) (hP : RPutNo E w R rn rc) :
    Calls Try.prog 18 #[refV D ds.length dc dist A n c false k, .slice K ks.length kc, .slice R rn rc] w fun e w' => e = .returned (.tuple #[refV D ds.length dc dist A n c false k, .int .i64 E]) ∧ Below w.heap.size w w' := by
  have HP := Lib.hid hP
  have HFF := Lib.hid hF
  have HKK := Lib.hid hK
  have HG := Lib.hid (show FineR ks ∧ (keyL ks ds).length ≤ 1048576 from ⟨hg.fine, key_small hg hd hl⟩)
  have HD := Lib.hid hd
  have HL := Lib.hid (show ks.length ≤ 200 by omega)
  clear hP hF hK hg hd hl
  unfold refV
  go_enter Try.func18, Try.ntmps18
  go_wp2_with fail
  refine (refKey_ok K kc ks D dc ds _ (HKK.out.on (below_two _ _ _)) (rdf_on HFF.out (below_two _ _ _)) HL.out HD.out HG.out.1 HG.out.2).mono ?_
  rintro e w2 ⟨vk, rfl, hok, hb⟩
  obtain ⟨kA, kcc, rfl, _, _, _⟩ := hok.form
  obtain ⟨hp, hq, hw2, hz⟩ := two_boxes hb
  have HW2 := Lib.hid hw2
  have HBP := Lib.hid hp
  have HBQ := Lib.hid hq
  clear hp hq hw2 hz hb hok
  obtain ⟨c0, c1, c2, c3, c4⟩ := HBP.out.cells
  go_wp2_with fail
  refine (HP.out _ HW2.out).mono ?_
  rintro e w3 ⟨rfl, hb⟩
  clear c0 c1 c2 c3 c4
  obtain ⟨c0, c1, c2, c3, c4⟩ := (HBP.out.on hb).cells
  obtain ⟨z0, z1, z2, z3, z4⟩ := (HBQ.out.on hb).cells
  have f0 := (HBQ.out.on hb).frz 0
  have f1 := (HBQ.out.on hb).frz 1
  have f2 := (HBQ.out.on hb).frz 2
  have f3 := (HBQ.out.on hb).frz 3
  have f4 := (HBQ.out.on hb).frz 4
  have HW3 := Lib.hid (HW2.out.trans (hb.mono HW2.out.size))
  clear hb HBP HBQ
  obtain ⟨p, hp⟩ : ∃ n, w.heap.size = n := ⟨_, rfl⟩
  obtain ⟨q, hq⟩ : ∃ n, w.heap.size + 1 = n := ⟨_, rfl⟩
  rw [hq] at z0 z1 z2 z3 z4 f0 f1 f2 f3 f4
  rw [hp] at c0 c1 c2 c3 c4
  rw [hq, hp]
  have HQ := Lib.hid (show w.heap.size ≤ q by omega)
  clear hp hq
  go_wp2_with fail
  refine bodyPost_ret (v := .tuple #[refV D ds.length dc dist A n c false k, .int .i64 E]) (by simp [refV, results, Try.results18, go_sem, z0, z1, z2, z3, z4]) rfl ⟨rfl, ?_⟩
  exact below_set5 HW3.out HQ.out _ _ _ _ _
set_option maxRecDepth 100000 in
set_option maxHeartbeats 1000000 in
theorem refAdd_ok (D : Option Addr) (ds : List Bool) (dc : Nat) (dist : Bool) (A : Option Addr) (l : List On) (c k : Nat) (K : Option Addr) (ks : List Trip) (kc : Nat) (R : Option Addr) (rs : List Trip) (rc : Nat) (w : World) (hF : RdF w w.heap.size D ds) (hO : OkO w A l) (hln : l.length < 1000) (hK : RdR w w.heap.size K ks) (hR : RdR w w.heap.size R rs) (hd : ds.length = ks.length) (hg : GoodR ks) (hl : ks.length ≤ 10) (hgr : GoodR rs) (hlr : rs.length ≤ 10) :
    Calls Try.prog 18 #[refV D ds.length dc dist A l.length c false k, .slice K ks.length kc, .slice R rs.length rc] w fun e w' => ∃ A' c' en, e = .returned (.tuple #[refV D ds.length dc dist A' (l.length + 1) c' false k, .int .i64 0]) ∧ l.length + 1 ≤ c' ∧ OkO w' A' (l ++ [en]) ∧ OnB w' en ∧ en.kb = keyL ks ds ∧ en.rs = rs ∧ Below w.heap.size w w' := by
  have HFF := Lib.hid hF
  have HKK := Lib.hid hK
  have HRR := Lib.hid hR
  have HOO := Lib.hid hO
  have HG := Lib.hid (show (FineR ks ∧ (keyL ks ds).length ≤ 1048576) ∧ FineR rs ∧ (putL rs).length ≤ 1048576 from ⟨⟨hg.fine, key_small hg hd hl⟩, hgr.fine, put_small hgr hlr⟩)
  have HD := Lib.hid hd
  have HL := Lib.hid (show ks.length ≤ 200 ∧ rs.length ≤ 200 from ⟨by omega, by omega⟩)
  have HLN := Lib.hid hln
  have q1 : decide ((65536 : Int) ≤ (l.length : Int)) = false := decide_eq_false (by omega)
  clear hF hK hg hR hgr hO hd hl hlr hln
  unfold refV
  go_enter Try.func18, Try.ntmps18
  go_wp2_with fail
  refine (refKey_ok K kc ks D dc ds _ (HKK.out.on (below_two _ _ _)) (rdf_on HFF.out (below_two _ _ _)) HL.out.1 HD.out HG.out.1.1 HG.out.1.2).mono ?_
  rintro e w2 ⟨vk, rfl, hok, hb⟩
  obtain ⟨kA, kcc, rfl, hk1, hk2, _⟩ := hok.form
  obtain ⟨hp, hq, hw2, hz⟩ := two_boxes hb
  have HW2 := Lib.hid hw2
  have HBP := Lib.hid hp
  have HBQ := Lib.hid hq
  have HKB := Lib.hid (show OkB w2 kA (keyL ks ds) ∧ (keyL ks ds).length ≤ kcc ∧ kcc ≤ 9223372036854775807 from ⟨OkB.of_own hok, hk1, by unfold maxLen at hk2; omega⟩)
  clear hp hq hw2 hz hb hok hk1 hk2
  obtain ⟨c0, c1, c2, c3, c4⟩ := HBP.out.cells
  go_wp2_with fail
  refine (refPut_ok R rc rs _ (HRR.out.on HW2.out) HL.out.2 HG.out.2.1 HG.out.2.2).mono ?_
  rintro e w3 ⟨vr, rfl, hor, hb⟩
  obtain ⟨rA0, rc0, rfl, _, _, _⟩ := hor.form
  clear c0 c1 c2 c3 c4 hor
  have HBP3 := Lib.hid (HBP.out.on hb)
  have HBQ3 := Lib.hid (HBQ.out.on hb)
  have HW3 := Lib.hid (HW2.out.trans (hb.mono HW2.out.size))
  have HKB3 := Lib.hid (HKB.out.1.but (P := fun _ => False) (But.of_below hb) (far_none _))
  have HKB := Lib.hid HKB.out.2
  clear hb HBP HBQ HW2
  obtain ⟨c0, c1, c2, c3, c4⟩ := HBP3.out.cells
  have HO3 := Lib.hid (HOO.out.on HW3.out).rd
  go_upto_region 13 with (fail)
  go_upto_region 14 with (at_builtin; refine wpList_appO rfl (.tmp 40) (.tmp 42) rfl w3.heap.size (.slice none 0 0) [] rfl (World.ownsRow_nil _ _ _ _) A c l l.length rfl rfl HO3.out (by simp; have := HLN.out; omega) (Nat.le_refl _) ?_; intro v4 w4 ho4 hb4; rw [List.nil_append] at ho4; have HO4 := Lib.hid ho4; have HB4 := Lib.hid hb4; obtain ⟨A4, c4', rfl, _, _, _⟩ := ho4.form; clear ho4 hb4)
  clear c0 c1 c2 c3 c4
  have HW4 := Lib.hid (HW3.out.trans (HB4.out.mono HW3.out.size))
  have HRR4 := Lib.hid (HRR.out.on HW4.out)
  go_wp2_with (first
    | (at_builtin; refine wpList_appRX rfl (.tmp 46) (.tmp 47) rfl w4.heap.size (.slice none 0 0) [] rfl (World.ownsRow_nil _ _ _ _) R rc rs rs.length rfl rfl HRR4.out (by simp; have := HL.out.2; omega) (Nat.le_refl _) ?_; intro v5 w5 ho5 hb5; rw [List.nil_append] at ho5; have HO5 := Lib.hid ho5; have HB5 := Lib.hid hb5; obtain ⟨A5, c5, rfl, h51, h52, _⟩ := ho5.form; have HC5 := Lib.hid (And.intro h51 h52); clear ho5 hb5 h51 h52)
    | (at_builtin; refine wpList_app1O rfl (.tmp 44) (.tmp 50) rfl w3.heap.size (.slice A4 l.length c4') l rfl (HO4.out.below HB5.out) _ _ ⟨kA, kcc, keyL ks ds, A5, c5, rs⟩ rfl rfl rfl (by have := HLN.out; omega) (Nat.le_trans HB4.out.size HB5.out.size) ?_; intro v6 w6 ho6 hb6 hv6; have hlen : (l ++ [(⟨kA, kcc, keyL ks ds, A5, c5, rs⟩ : On)]).length = l.length + 1 := (by simp); obtain ⟨A6, c6, rfl, h61, h62, _⟩ := ho6.form; have HO6 := Lib.hid ho6; have HC6 := Lib.hid h61; clear h61 h62 ho6 hv6; have hbl := hb6.below (Nat.le_trans HB4.out.size HB5.out.size) (HO4.out.below HB5.out).heap.2; have HB6 := Lib.hid hb6; have HL6 := Lib.hid ((HB4.out.trans (HB5.out.mono HB4.out.size)).trans hbl); clear hb6 hbl; obtain ⟨c0, c1, c2, c3, c4⟩ := (HBP3.out.on HL6.out).cells; have g2 := (HBP3.out.on HL6.out).frz 2; obtain ⟨z0, z1, z2, z3, z4⟩ := (HBQ3.out.on HL6.out).cells; have f0 := (HBQ3.out.on HL6.out).frz 0; have f1 := (HBQ3.out.on HL6.out).frz 1; have f2 := (HBQ3.out.on HL6.out).frz 2; have f3 := (HBQ3.out.on HL6.out).frz 3; have f4 := (HBQ3.out.on HL6.out).frz 4))
  have hW6 := HW3.out.trans (HL6.out.mono HW3.out.size)
  have hbp := HBP3.out.on HL6.out
  have hbq := HBQ3.out.on HL6.out
  have hFT : FarT 43 w6 (fun i => i = w.heap.size ∨ i = w.heap.size + 1) := fun i hi => by
    rcases hi with rfl | rfl
    · exact ⟨_, _, hbp⟩
    · exact ⟨_, _, hbq⟩
  have hBT := but_six w6 w.heap.size (w.heap.size + 1) (.slice A6 (l.length + 1) c6) (.slice D ds.length dc) (.bool dist) (.slice A6 (l.length + 1) c6) (.bool false) (.int .i64 (k : Int))
  have hOnB : OnB w6 ⟨kA, kcc, keyL ks ds, A5, c5, rs⟩ := ⟨HKB3.out.but (P := fun _ => False) (But.of_below HL6.out) (far_none _), HKB.out.1, HKB.out.2, (OkR.of_own HO5.out).butT HB6.out (HO4.out.below HB5.out).heap.1 (by decide), HC5.out.1, by have := HC5.out.2; unfold maxLen at this; exact Nat.le_trans this (by decide)⟩
  refine bodyPost_ret (v := .tuple #[refV D ds.length dc dist A6 (l.length + 1) c6 false k, .int .i64 0]) (by simp [refV, results, Try.results18, go_sem, z0, z1, z2, z3, z4]) rfl ⟨A6, c6, ⟨kA, kcc, keyL ks ds, A5, c5, rs⟩, rfl, by have := HC6.out; simpa using this, (OkO.of_own HO6.out).butT hBT hFT (by decide), hOnB.butT hBT hFT (by decide) (by decide), rfl, rfl, ?_⟩
  exact hW6.trans (hBT.below hW6.size fun i hi => by rcases hi with rfl | rfl <;> omega)
set_option maxRecDepth 100000 in
set_option maxHeartbeats 1000000 in
theorem refNext_ok (D : Option Addr) (dn dc : Nat) (dist : Bool) (A : Option Addr) (l : List On) (c k : Nat) (en : On) (w : World) (hO : OkO w A l) (hk : l[k]? = some en) (hl : l.length ≤ 1000000) :
    Calls Try.prog 21 #[refV D dn dc dist A l.length c true k] w fun e w' => e = .returned (.tuple #[refV D dn dc dist A l.length c true (k + 1), en.rv, .bool true]) ∧ Below w.heap.size w w' := by
  have hlt : k < l.length := (List.getElem?_eq_some_iff.1 hk).1
  obtain ⟨g, cur, fr, rfl, hg, hc⟩ := hO (by omega)
  obtain ⟨e0, e1⟩ := hc k en hk
  have hgl := heap_lt hg
  have q1 : ¬ (l.length : Int) ≤ (k : Int) := by omega
  have HQ2 := Lib.hid (show wrap64 (k : Int) = (k : Int) from IntWalk.wrap64_in (k : Int) (by omega))
  have HW := Lib.hid (below_two w (refO D dn dc dist (some ⟨g, 0, none⟩) l.length c true k) (refO none 0 0 false none 0 0 false 0))
  have q3 : (k : Int) < l.length := by omega
  clear hO hk hc hg
  unfold refV
  go_enter Try.func21, Try.ntmps21
  go_upto_region 4 with (fail)
  obtain ⟨w4, hw4⟩ : ∃ w4, (w.alloc (refO D dn dc dist (some ⟨g, 0, none⟩) l.length c true (k + 1))).alloc (refO none 0 0 false none 0 0 false 0) = w4 := ⟨_, rfl⟩
  rw [show (w.alloc (.cells #[.slice D dn dc, .bool dist, .slice (some ⟨g, 0, none⟩) l.length c, .bool true, .int .i64 ((k : Int) + 1)] 43)).alloc (.cells #[.slice none 0 0, .bool false, .slice none 0 0, .bool false, .int .i64 0] 43) = w4 from hw4]
  obtain ⟨hp, hq, hw, hz⟩ := two_boxes (w := w) (w2 := w4) (D := D) (dn := dn) (dc := dc) (dist := dist) (A := some ⟨g, 0, none⟩) (n := l.length) (c := c) (srt := true) (k := k + 1) (by rw [hw4]; exact Below.refl _ _)
  have HW4 := Lib.hid hw
  have e3 : w4.cell? ⟨g, k * 2 + 1, none⟩ = some en.rv := (hw.cell (p := ⟨g, k * 2 + 1, none⟩) hgl).trans e1
  obtain ⟨c0, c1, c2, c3, c4⟩ := hp.cells
  obtain ⟨z0, z1, z2, z3, z4⟩ := hq.cells
  have f0 := hq.frz 0
  have f1 := hq.frz 1
  have f2 := hq.frz 2
  have f3 := hq.frz 3
  have f4 := hq.frz 4
  rw [show ((k + 1 : Nat) : Int) = (k : Int) + 1 from rfl] at c4
  have hne : g ≠ w.heap.size + 1 := by omega
  obtain ⟨p, hpp⟩ : ∃ n, w.heap.size = n := ⟨_, rfl⟩
  obtain ⟨q, hqq⟩ : ∃ n, w.heap.size + 1 = n := ⟨_, rfl⟩
  rw [hqq] at z0 z1 z2 z3 z4 f0 f1 f2 f3 f4
  rw [hpp] at c0 c1 c2 c3 c4
  rw [hqq, hpp]
  have HQ := Lib.hid (show w.heap.size ≤ q by omega)
  have hpq : ¬ p = q := by omega
  have hqp : ¬ q = p := by omega
  have hgq : ¬ g = q := by omega
  have hqg : ¬ q = g := by omega
  clear e0 e1 hp hq hw hz hw4 HW hpp hqq hne hgl hlt hl
  obtain ⟨rv, hrv⟩ : ∃ v, en.rv = v := ⟨_, rfl⟩
  have hone : rv.oneCell' = true := by rw [← hrv]; rfl
  rw [hrv] at e3
  have q2 := HQ2.out
  go_region
  go_wp2_with fail
  refine bodyPost_ret (v := .tuple #[refV D dn dc dist (some ⟨g, 0, none⟩) l.length c true (k + 1), rv, .bool true]) (by simp [refV, results, Try.results21, go_sem, z0, z1, z2, z3, z4]) rfl ⟨by first | rfl | (rw [hrv]; rfl), ?_⟩
  exact (below_set5 HW4.out HQ.out _ _ _ _ _).drew
end Go.Proofs.Ytdhdfeiobjmdaaa
