/-
  BytesJoin returns true for all lists, and changes nothing that was there. No conditions.
-/
import Derived.Test.YtlichbiioejpiaaGoods
namespace Go.Proofs.Ytlichbiioejpiaa
open Go.ChangeShapes Go.WideShapes Go.ChangeAt Go.RowKit
set_option linter.unusedVariables false

/-- slices in a row: each is the pointer to one of ls -/
def Slots (w : World) (B : Nat) (us : List Value) (ls : List (List UInt8)) : Prop :=
  us.length = ls.length ∧ ∀ (j : Nat) (m : List UInt8), ls[j]? = some m → ∃ A' c', us[j]? = some (.slice A' m.length c') ∧ m.length ≤ c' ∧ c' ≤ maxLen ∧ Rd w B A' m

theorem Slots.below {w w' : World} {B : Nat} {us : List Value} {ls : List (List UInt8)} (h : Slots w B us ls) (hb : Below B w w') : Slots w' B us ls :=
  ⟨h.1, fun j m hm => by
    obtain ⟨A', c', h1, h2, h3, h4⟩ := h.2 j m hm
    exact ⟨A', c', h1, h2, h3, h4.below hb⟩⟩
theorem Slots.append {w : World} {B : Nat} {us vs : List Value} {ls ms : List (List UInt8)} (h : Slots w B us ls) (k : Slots w B vs ms) : Slots w B (us ++ vs) (ls ++ ms) := by
  refine ⟨by rw [List.length_append, List.length_append, h.1, k.1], fun j m hm => ?_⟩
  rcases Nat.lt_or_ge j ls.length with hlt | hge
  · rw [List.getElem?_append_left hlt] at hm
    rw [List.getElem?_append_left (by rw [h.1]; exact hlt)]
    exact h.2 j m hm
  · rw [List.getElem?_append_right hge] at hm
    rw [List.getElem?_append_right (by rw [h.1]; exact hge), h.1]
    exact k.2 _ m hm
theorem Slots.of_rd {w : World} {B : Nat} {A : Option Addr} {ls : List (List UInt8)} (h : RdL w B A ls) : ∃ us, Slots w B us ls ∧ (0 < ls.length → ∃ ad, A = some ad ∧ ∀ (j : Nat) (u : Value), us[j]? = some u → w.cell? (ad.add j) = some u) := by
  rcases Nat.eq_zero_or_pos ls.length with h0 | h0
  · rw [List.eq_nil_of_length_eq_zero h0]
    exact ⟨[], ⟨rfl, fun j m hm => by simp at hm⟩, fun h => by simp at h⟩
  · obtain ⟨ad, e, hb, hc⟩ := h h0
    obtain ⟨us, hl, hq⟩ := list_choice (Q := fun i (u : Value) => w.cell? (ad.add i) = some u ∧ ∀ m, ls[i]? = some m → ∃ A' c', u = .slice A' m.length c' ∧ m.length ≤ c' ∧ c' ≤ maxLen ∧ Rd w B A' m) ls.length (fun i hi => by
      obtain ⟨A', c', h1, h2, h3, h4⟩ := hc i _ (List.getElem?_eq_getElem hi)
      refine ⟨_, h1, fun m hm => ?_⟩
      rw [List.getElem?_eq_getElem hi] at hm
      injection hm with hm
      subst hm
      exact ⟨A', c', rfl, h2, h3, h4⟩)
    refine ⟨us, ⟨hl, fun j m hm => ?_⟩, fun _ => ⟨ad, e, fun j u hu => (hq j u hu).1⟩⟩
    have hj : j < us.length := by rw [hl]; exact getElem_lt hm
    obtain ⟨A', c', h1, h2⟩ := (hq j _ (List.getElem?_eq_getElem hj)).2 m hm
    exact ⟨A', c', by rw [List.getElem?_eq_getElem hj, h1], h2⟩
theorem Slots.rd {w : World} {base B : Nat} {v : Value} {us : List Value} {ls : List (List UInt8)} (h : Slots w B us ls) (hB : B ≤ w.heap.size) (ho : w.ownsRow base 24 1 v ls.length us) :
    ∃ A c, v = .slice A ls.length c ∧ ls.length ≤ c ∧ c ≤ maxLen ∧ RdL w w.heap.size A ls := by
  have ho' := ho
  obtain ⟨h1, h2⟩ := ho
  rcases h2 with ⟨rfl, h0⟩ | ⟨g, cap, cur, rfl, hg, hh, hc, hm, hs, ht⟩
  · exact ⟨none, 0, by rw [h0], by omega, by simp [maxLen], fun hp => by omega⟩
  · have hlt : g < w.heap.size := by
      rcases Nat.lt_or_ge g w.heap.size with hlt | hge
      · exact hlt
      · rw [Array.getElem?_eq_none hge] at hh; cases hh
    refine ⟨_, cap, rfl, hc, hm, fun _ => ⟨_, rfl, hlt, fun j m hj => ?_⟩⟩
    obtain ⟨A', c', hu, q1, q2, q3⟩ := h.2 j m hj
    exact ⟨A', c', World.ownsRow.cells ho' (g := g) rfl j _ hu, q1, q2, q3.more hB⟩

theorem oneCell_slots {w : World} {B : Nat} {us : List Value} {ls : List (List UInt8)} (h : Slots w B us ls) : ∀ u ∈ us, u.oneCell' = true := by
  intro u hu
  obtain ⟨j, hj, rfl⟩ := List.getElem_of_mem hu
  obtain ⟨A', c', h1, _⟩ := h.2 j _ (List.getElem?_eq_getElem (show j < ls.length by rw [← h.1]; exact hj))
  rw [List.getElem?_eq_getElem hj] at h1
  injection h1 with h1
  rw [h1]
  rfl

set_option maxRecDepth 100000 in
/-- append of a list of slices onto a row of the call's own -/
theorem wpList_appRows {w : World} {ops : Array Oper} {rest : List Oper} {o : Oper} {a : Act} {Q : Exit → Act → World → Prop} (hgd : o.guard = none) (s x : Operand)
    (ho : o.op = .call { callee := .builtin .append, args := #[s, x], argTypes := #[26, 26] })
    (base : Nat) (v : Value) (n : Nat) (vs : List Value) (hs : a.eval s = v) (hown : w.ownsRow base 24 1 v n vs) (hvs : ∀ u ∈ vs, u.oneCell' = true) (A : Option Addr) (c : Nat) (ls : List (List UInt8)) (hx : a.eval x = .slice A ls.length c) (hr : RdL w base A ls)
    (hlen : n + ls.length ≤ 2199023255552) (hbase : base ≤ w.heap.size)
    (h : ∀ v' w' us, w'.ownsRow base 24 1 v' (n + ls.length) (vs ++ us) → Slots w' base us ls → Below base w w' → wpList Try.prog ops Q rest (a.put o.dst v') w') : wpList Try.prog ops Q (o :: rest) a w := by
  obtain ⟨i0, hi, hz0, hz1, hz2⟩ := info_parts Try.info_bytes
  obtain ⟨us, hsl, hcl⟩ := Slots.of_rd hr
  rcases A with _ | ad
  · have h0 : ls = [] := by
      cases ls with
      | nil => rfl
      | cons u r =>
        obtain ⟨ad, e, _⟩ := hcl (by simp)
        cases e
    subst h0
    have hu : us = [] := List.eq_nil_of_length_eq_zero hsl.1
    subst hu
    have hrun : (Builtin.append_ #[26, 26] o.type #[v, .slice none 0 c]).run Try.prog w = .ok v w := by
      rcases hown.2 with ⟨rfl, _⟩ | ⟨g, cap, cur, rfl, _, _, hnc, _⟩ <;>
        simp [Builtin.append_, run_underlying Try.underlying26, sizeOf, typeInfo, hi, Builtin.lenOf, Builtin.firstCells]
      simp [hnc, storeCells]
    refine wpList_plain hgd fun K hK => ?_
    unfold Oper.wp
    simp only [execOp, ho, resolve, invoke, builtin, Sem.run_bind, Sem.run_pure, Result.andThen_ok, List.map_toArray, List.map_cons, List.map_nil, hs, hx]
    have hx0 : (Value.slice none ([] : List (List UInt8)).length c) = .slice none 0 c := rfl
    rw [hx0, hrun]
    exact hK _ _ (h v w [] (by simpa using hown) hsl (Below.refl _ _))
  · refine wpList_append_own w hgd s x 26 ho base 24 i0 (.slice none 0 0) 1 24 Try.underlying26 hi hz0 hz1 hz2 rfl (by decide) v n vs hs hown ad ls.length c us hx (by rw [hsl.1, Nat.mul_one]) ?_ (oneCell_slots hsl) (by simp only [maxLen]; omega) (by omega) hbase ?_
    · intro j u hu
      have hp : 0 < ls.length := by have := getElem_lt hu; rw [hsl.1] at this; omega
      obtain ⟨ad', e, hc⟩ := hcl hp
      injection e with e
      subst e
      exact hc j u hu
    · intro v' w' h1 h2 _
      have hb : Below base w w' := (Below.refl _ _).grown h2 hbase fun k hk => (hown.lt k hk).1
      exact h v' w' us h1 (hsl.below hb) hb

/-- a list of one that has just been made -/
theorem RdL.one (w : World) (A : Option Addr) (l : List UInt8) (c : Nat) (h : Rd w w.heap.size A l) (hc : l.length ≤ c) (hm : c ≤ maxLen) :
    RdL (w.alloc (.cells #[.slice A l.length c] 24)) (w.alloc (.cells #[.slice A l.length c] 24)).heap.size (some ⟨w.heap.size, 0, none⟩) [l] := by
  intro _
  refine ⟨_, rfl, by simp, fun j m hm' => ?_⟩
  have hj := getElem_lt hm'
  have hj0 : j = 0 := by simpa using hj
  subst hj0
  obtain rfl : l = m := by simpa using hm'
  have ha : ((⟨w.heap.size, 0, none⟩ : Addr).add 0) = ⟨w.heap.size, 0, none⟩ := by simp [Addr.add]
  rw [ha, World.cell?_alloc_mark]
  exact ⟨A, c, rfl, hc, hm, (h.alloc _).more (by simp)⟩

theorem one_enc (m : List UInt8) : ([] : List UInt8) ++ (Lib.uvarint [m].length ++ blobsE [m]) = 1 :: blobE m := by
  show Lib.uvarint 1 ++ blobsE [m] = _
  rw [Lib.uvarint_small (by omega)]
  simp [blobsE]
end Go.Proofs.Ytlichbiioejpiaa
