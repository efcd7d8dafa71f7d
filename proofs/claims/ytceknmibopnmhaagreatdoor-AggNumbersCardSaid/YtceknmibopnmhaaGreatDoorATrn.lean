/-
  Layer 8: values in another order: turned. Conditions: sizes.
-/
import Derived.Test.YtceknmibopnmhaaGreatDoorAOf
import Derived.Deep.AppendLies
import Derived.IntWalk
namespace Go.Proofs.YtceknmibopnmhaaGreatDoor
open Go.ChangeShapes Go.WideShapes Go.ChangeAt Go.RowKit Go.Maps Go.Sort Go.Shelf Go.ChangeMaps Go.Lib
set_option linter.unusedVariables false
set_option linter.unusedSimpArgs false

theorem addT (a : Addr) (n : Nat) : (a.add n).block = a.block := by
  unfold Addr.add
  split <;> rfl
/-- values, cell by cell -/
def SrcT (w : World) (A : Option Addr) (l : List Trip) : Prop := l = [] ∨ ∃ ad, A = some ad ∧ ad.block < w.heap.size ∧ ∀ (j : Nat) (u : Value), (cellsT l)[j]? = some u → w.cell? (ad.add j) = some u
theorem SrcT.on {w w' : World} {A : Option Addr} {l : List Trip} (h : SrcT w A l) (hb : Below w.heap.size w w') : SrcT w' A l := by
  rcases h with h | ⟨ad, h1, h2, h3⟩
  · exact .inl h
  · exact .inr ⟨ad, h1, Nat.lt_of_lt_of_le h2 hb.size, fun j u hu => (hb.cell (p := ad.add j) (by rw [addT]; exact h2)).trans (h3 j u hu)⟩
theorem cellsT_one (l : List Trip) : ∀ u ∈ cellsT l, u.oneCell' = true := by
  induction l with
  | nil => intro u hu; cases hu
  | cons t r ih =>
    intro u hu
    simp only [cellsT, List.mem_cons] at hu
    rcases hu with rfl | rfl | rfl | hu
    · rfl
    · rfl
    · rfl
    · exact ih u hu
theorem OwnT.alloc {w : World} {base : Nat} {v : Value} {l : List Trip} (h : OwnT w base v l) (o : Obj) : OwnT (w.alloc o) base v l := World.ownsRow.alloc h o
theorem OwnT.nil (w : World) (base : Nat) : OwnT w base (.slice none 0 0) [] := World.ownsRow_nil w base _ _
theorem OwnT.monoB {w : World} {base base' : Nat} {v : Value} {l : List Trip} (h : OwnT w base v l) (hb : base' ≤ base) : OwnT w base' v l := by
  obtain ⟨h1, h2⟩ := h
  refine ⟨h1, ?_⟩
  rcases h2 with h2 | ⟨g, cap, cur, hv, hg, r⟩
  · exact .inl h2
  · exact .inr ⟨g, cap, cur, hv, Nat.le_trans hb hg, r⟩
theorem OwnT.onB {w w' : World} {base : Nat} {v : Value} {l : List Trip} (h : OwnT w base v l) (hb : Below w.heap.size w w') : OwnT w' base v l := by
  obtain ⟨h1, h2⟩ := h
  refine ⟨h1, ?_⟩
  rcases h2 with h2 | ⟨g, cap, cur, hv, hg, hh, r⟩
  · exact .inl h2
  · have hlt : g < w.heap.size := by
      rcases Nat.lt_or_ge g w.heap.size with hlt | hge
      · exact hlt
      · rw [Array.getElem?_eq_none hge] at hh; cases hh
    exact .inr ⟨g, cap, cur, hv, hg, (hb.block g hlt).trans hh, r⟩
/-- what it is: nil, or a slice of a block -/
theorem OwnT.form {w : World} {base : Nat} {v : Value} {l : List Trip} (h : OwnT w base v l) : ∃ A c, v = .slice A l.length c ∧ l.length ≤ c ∧ c ≤ maxLen ∧ SrcT w A l ∧ (A = none → l = []) ∧ ∀ ad, A = some ad → ∃ g, ad = ⟨g, 0, none⟩ := by
  obtain ⟨h1, h2⟩ := h
  rcases h2 with ⟨rfl, h0⟩ | ⟨g, cap, cur, rfl, hg, hh, hc, hm, hs, ht⟩
  · have : l = [] := List.eq_nil_of_length_eq_zero h0
    subst this
    exact ⟨none, 0, rfl, Nat.le_refl _, Nat.zero_le _, .inl rfl, fun _ => rfl, fun ad h => by cases h⟩
  · have hlt : g < w.heap.size := by
      rcases Nat.lt_or_ge g w.heap.size with hlt | hge
      · exact hlt
      · rw [Array.getElem?_eq_none hge] at hh; cases hh
    refine ⟨_, cap, rfl, hc, hm, .inr ⟨_, rfl, hlt, fun j u hu => ?_⟩, (fun h => by cases h), fun ad h => ⟨g, (Option.some.inj h).symm⟩⟩
    have hx : cur.toList[j]? = some u := by
      have hj : j < l.length * 3 := by
        rcases Nat.lt_or_ge j (l.length * 3) with hlt | hge
        · exact hlt
        · rw [List.getElem?_eq_none (by rw [cellsT_length]; exact hge)] at hu; cases hu
      rw [← ht] at hu
      rwa [List.getElem?_take, if_pos hj] at hu
    have ha : ((⟨g, 0, none⟩ : Addr).add j) = ⟨g, j, none⟩ := by
      unfold Addr.add
      by_cases hj0 : j = 0 <;> simp [hj0]
    rw [ha]
    simp only [World.cell?, hh]
    simpa using hx

section
variable {ops : Array Oper} {o : Oper} {a : Act} {K : Act → World → Prop} {Q : Exit → Act → World → Prop} {E : Prop}
/-- append onto a slice of the call's own, whatever the source is -/
theorem step_appT {w3 w5 : World} {s1 : Nat} {v : Value} {l l5 : List Trip} {A5 : Option Addr} {n5 c5 : Nat} (hgd : o.guard = none) (s x : Operand)
    (hop : o.op = .call { callee := .builtin .append, args := #[s, x], argTypes := #[27, 27] }) (hv : a.eval s = v) (hx : a.eval x = .slice A5 n5 c5) (hn : n5 = l5.length)
    (hb : Below s1 w3 w5) (ho : OwnT w5 s1 v l) (hs : s1 ≤ w5.heap.size) (h5 : SrcT w5 A5 l5) (hlen : l.length + l5.length ≤ 100000)
    (h : ∀ v6 w6, Hid (OwnT w6 s1 v6 (l ++ l5)) → Hid (Below s1 w3 w6) → K (a.put o.dst v6) w6) :
    if Region.wanted o (yielded ops a.tmps) = true then Oper.wp Tryz.prog o a w5 K Q else E := by
  subst hn
  have hw : Region.wanted o (yielded ops a.tmps) = true := by simp [Region.wanted, hgd]
  rw [if_pos hw]
  obtain ⟨i0, hi, hz0, hz1, hz2⟩ := info_parts Tryz.info_trip
  rcases A5 with _ | ad
  · obtain rfl : l5 = [] := by
      rcases h5 with h5 | ⟨ad, h, _⟩
      · exact h5
      · cases h
    have hrun : (Builtin.append_ #[27, 27] o.type #[v, .slice none 0 c5]).run Tryz.prog w5 = .ok v w5 := by
      have hs2 : w5.ownsRow s1 24 3 v l.length (cellsT l) := ho
      rcases hs2.2 with ⟨rfl, _⟩ | ⟨g, cap, cur, rfl, _, _, hnc, _⟩
      · simp [Builtin.append_, run_underlying Tryz.underlying27, sizeOf, typeInfo, hi, Builtin.lenOf, Builtin.firstCells]
      · simp [Builtin.append_, run_underlying Tryz.underlying27, sizeOf, typeInfo, hi, Builtin.lenOf, Builtin.firstCells, hnc, storeCells]
    unfold Oper.wp
    simp only [execOp, hop, resolve, invoke, builtin, Sem.run_bind, Sem.run_pure, Result.andThen_ok, List.map_toArray, List.map_cons, List.map_nil, hv, hx]
    have hx0 : (Value.slice none ([] : List Trip).length c5) = .slice none 0 c5 := rfl
    rw [hx0, hrun]
    exact h v w5 (Lib.hid (by rw [List.append_nil]; exact ho)) (Lib.hid hb)
  · have hcells : ∀ (j : Nat) (u : Value), (cellsT l5)[j]? = some u → w5.cell? (ad.add j) = some u := by
      rcases h5 with rfl | ⟨ad', h, _, hc⟩
      · intro j u hu
        simp [cellsT] at hu
      · obtain rfl := Option.some.inj h
        exact hc
    refine wp_append_own _ s x 27 hop s1 24 i0 (.agg #[.int .u8 0, .int .i64 0, .string ⟨#[]⟩]) 3 32 Tryz.underlying27 hi hz0 hz1 hz2 rfl (by decide) v l.length (cellsT l) hv ho ad l5.length c5 (cellsT l5) hx (cellsT_length l5)
      hcells (cellsT_one l5) (by simp only [maxLen]; omega) (by omega) hs ?_
    intro v6 w6 h1 h2 _
    refine h v6 w6 (Lib.hid ?_) (Lib.hid (hb.grown h2 hs fun k hk => (World.ownsRow.lt ho k hk).1))
    unfold OwnT
    rw [List.length_append, cellsT_append]
    exact h1
end
theorem SrcT.take {w : World} {A : Option Addr} {l : List Trip} (h : SrcT w A l) (m : Nat) : SrcT w A (l.take m) := by
  rcases h with rfl | ⟨ad, h1, h2, h3⟩
  · exact .inl (by simp)
  · refine .inr ⟨ad, h1, h2, fun j u hu => h3 j u ?_⟩
    have hj : j < (cellsT (l.take m)).length := (List.getElem?_eq_some_iff.1 hu).1
    conv => lhs; rw [← List.take_append_drop m l, cellsT_append]
    rw [List.getElem?_append_left hj]
    exact hu
theorem SrcT.dropT {w : World} {g : Nat} {l : List Trip} (h : SrcT w (some ⟨g, 0, none⟩) l) (m : Nat) (hm : m ≤ l.length) : SrcT w (some ⟨g, m * 3, none⟩) (l.drop m) := by
  rcases h with rfl | ⟨ad, h1, h2, h3⟩
  · exact .inl (by simp)
  · obtain rfl := Option.some.inj h1
    refine .inr ⟨_, rfl, h2, fun j u hu => ?_⟩
    have ha : ∀ (o : Nat), ((⟨g, o, none⟩ : Addr).add j) = ⟨g, o + j, none⟩ := by
      intro o
      unfold Addr.add
      by_cases hj0 : j = 0 <;> simp [hj0]
    have hb : ∀ (j : Nat), ((⟨g, 0, none⟩ : Addr).add j) = ⟨g, j, none⟩ := by
      intro j
      unfold Addr.add
      by_cases hj0 : j = 0 <;> simp [hj0]
    have h4 := h3 (m * 3 + j) u (by
      conv => lhs; rw [← List.take_append_drop m l, cellsT_append]
      have hl : (cellsT (l.take m)).length = m * 3 := by rw [cellsT_length, List.length_take]; omega
      rw [List.getElem?_append_right (by omega), hl, show m * 3 + j - m * 3 = j by omega]
      exact hu)
    rw [hb] at h4
    rw [ha]
    exact h4
theorem SrcT.one (W : World) (k z : Int) (t : ByteArray) : SrcT (W.alloc (.cells #[.int .u8 k, .int .i64 z, .string t] 24)) (some ⟨W.heap.size, 0, none⟩) [(k, z, t)] :=
  .inr ⟨_, rfl, by simp, three_new W k z t⟩
/-- bytes, as numbers -/
def RdZ (w : World) (A : Option Addr) (zs : List Int) : Prop := zs = [] ∨ ∃ ad, A = some ad ∧ ad.block < w.heap.size ∧ ∀ (j : Nat) (z : Int), zs[j]? = some z → w.cell? (ad.add j) = some (.int .u8 z)
theorem RdZ.on {w w' : World} {A : Option Addr} {l : List Int} (h : RdZ w A l) (hb : Below w.heap.size w w') : RdZ w' A l := by
  rcases h with h | ⟨ad, h1, h2, h3⟩
  · exact .inl h
  · exact .inr ⟨ad, h1, Nat.lt_of_lt_of_le h2 hb.size, fun j u hu => (hb.cell (p := ad.add j) (by rw [addT]; exact h2)).trans (h3 j u hu)⟩
def TrnRel8 (vs : List Trip) (w : World) (v5 v6 : Value) (wr : World) : Prop :=
  ∃ (i : Nat) (out : List Trip), i ≤ vs.length ∧ v6 = .int .i64 (i : Int) ∧ OwnT wr w.heap.size v5 out ∧ out.Perm (vs.take i) ∧ Below w.heap.size w wr
theorem perm_ins (out : List Trip) (m : Nat) (t : Trip) (vs : List Trip) (i : Nat) (h : out.Perm (vs.take i)) (ht : vs[i]? = some t) : ((([] ++ out.take m) ++ [t]) ++ out.drop m).Perm (vs.take (i + 1)) := by
  rw [List.take_add_one, ht, Option.toList_some, List.nil_append]
  have h1 : ((out.take m ++ [t]) ++ out.drop m).Perm (out ++ [t]) := by
    rw [List.append_assoc]
    refine (List.perm_append_comm (l₁ := out.take m) (l₂ := [t] ++ out.drop m)).trans ?_
    rw [List.append_assoc]
    refine (List.perm_append_comm (l₁ := [t])).trans ?_
    refine List.Perm.append_right [t] ?_
    refine (List.perm_append_comm (l₁ := out.drop m) (l₂ := out.take m)).trans ?_
    rw [List.take_append_drop]
  exact h1.trans (h.append_right [t])
end Go.Proofs.YtceknmibopnmhaaGreatDoor
