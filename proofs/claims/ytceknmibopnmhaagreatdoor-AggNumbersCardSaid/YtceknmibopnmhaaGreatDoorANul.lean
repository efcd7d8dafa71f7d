/-
  Layer 8: AggNulls: values with NULLs between; append as an operation of its own. Conditions: sizes.
-/
import Derived.Test.YtceknmibopnmhaaGreatDoorAOrd
namespace Go.Proofs.YtceknmibopnmhaaGreatDoor
open Go.ChangeShapes Go.WideShapes Go.ChangeAt Go.RowKit Go.Maps Go.Sort Go.Shelf Go.ChangeMaps Go.Lib
set_option linter.unusedVariables false

def nullT : Trip := (0, 0, ⟨#[]⟩)
def moreT : List Trip → List Trip
  | [] => []
  | t :: r => nullT :: t :: moreT r
theorem moreT_snoc : ∀ (l : List Trip) (t : Trip), moreT (l ++ [t]) = moreT l ++ [nullT, t]
  | [], t => rfl
  | a :: r, t => by simp [moreT, moreT_snoc r t]
theorem moreT_length : ∀ l : List Trip, (moreT l).length = 2 * l.length
  | [] => rfl
  | t :: r => by simp [moreT, moreT_length r]; omega
theorem moreT_mem : ∀ (l : List Trip) (t : Trip), t ∈ moreT l → t = nullT ∨ t ∈ l
  | [], t, h => by cases h
  | a :: r, t, h => by
    simp only [moreT, List.mem_cons] at h
    rcases h with h | h | h
    · exact .inl h
    · exact .inr (by simp [h])
    · rcases moreT_mem r t h with h | h
      · exact .inl h
      · exact .inr (by simp [h])
theorem moreT_filter : ∀ l : List Trip, (moreT l).filter (fun t => decide (t.1 ≠ 0)) = l.filter fun t => decide (t.1 ≠ 0)
  | [] => rfl
  | t :: r => by
    have h := moreT_filter r
    have h0 : decide (nullT.1 ≠ 0) = false := by simp [nullT]
    simp only [moreT, List.filter_cons, h0, h]
    rfl
/-- NULLs between say nothing, but to count* -/
theorem vals_more (l : List Trip) : valsOf false (moreT l ++ [nullT]) = valsOf false l := by
  rw [valsOf_filter, valsOf_filter]
  simp only [Bool.false_or]
  have h0 : decide (nullT.1 ≠ 0) = false := by simp [nullT]
  rw [List.filter_append, moreT_filter, List.filter_cons, h0]
  simp
theorem good_null : GoodT nullT := by
  refine ⟨.inl ⟨rfl, rfl, rfl⟩, ?_⟩
  unfold In64 nullT
  decide
theorem SrcT.two (W : World) (k z k' z' : Int) (t t' : ByteArray) : SrcT (W.alloc (.cells #[.int .u8 k, .int .i64 z, .string t, .int .u8 k', .int .i64 z', .string t'] 24)) (some ⟨W.heap.size, 0, none⟩) [(k, z, t), (k', z', t')] := by
  refine .inr ⟨_, rfl, by simp, fun j u hu => ?_⟩
  have hb := World.alloc_heap_new W (.cells #[.int .u8 k, .int .i64 z, .string t, .int .u8 k', .int .i64 z', .string t'] 24)
  have ha : ((⟨W.heap.size, 0, none⟩ : Addr).add j) = ⟨W.heap.size, j, none⟩ := by
    unfold Addr.add
    by_cases hj0 : j = 0 <;> simp [hj0]
  rw [ha]
  simp only [World.cell?, hb]
  simpa [cellsT] using hu
/-- the sixth name's list: all names but count* -/
def names6 : List ByteArray := [⟨#[99, 111, 117, 110, 116]⟩, ⟨#[115, 117, 109]⟩, ⟨#[116, 111, 116, 97, 108]⟩, ⟨#[109, 105, 110]⟩, ⟨#[109, 97, 120]⟩, ⟨#[103, 114, 111, 117, 112, 95, 99, 111, 110, 99, 97, 116]⟩]
theorem named_at6 (i : Nat) (hi : i < 6) : ∃ name fin, names6[i]? = some name ∧ Named name false fin := by
  match i, hi with
  | 0, _ => exact ⟨_, _, rfl, named_count⟩
  | 1, _ => exact ⟨_, _, rfl, named_sum⟩
  | 2, _ => exact ⟨_, _, rfl, named_total⟩
  | 3, _ => exact ⟨_, _, rfl, named_min⟩
  | 4, _ => exact ⟨_, _, rfl, named_max⟩
  | 5, _ => exact ⟨_, _, rfl, named_join⟩
theorem ded_one (t : Trip) : ded [t] = [t] := by simp [ded]
theorem dsel_one (d : Bool) (t : Trip) : dsel d [t] = [t] := by
  unfold dsel
  cases d
  · rfl
  · exact ded_one t
theorem bestMn_one (t : Trip) : bestMn [t] = t := by simp [bestMn, utMn]
theorem bestMx_one (t : Trip) : bestMx [t] = t := by simp [bestMx, utMx]
theorem finSum_one (n t : Trip) (h : In64 (intV t.1 t.2.1 t.2.2)) : finSum n [t] = ((1, intV t.1 t.2.1 t.2.2, ⟨#[]⟩), 0) := by
  have hs : sumT [t] = intV t.1 t.2.1 t.2.2 := by simp [sumT]
  unfold finSum
  rw [hs, if_pos h]
  rfl
theorem finJoin_one (d : Bool) (t : Trip) (hg : GoodT t) (h : (textV t.1 t.2.1 t.2.2).size ≤ 65536) : finJoin d [t] = ((2, 0, textV t.1 t.2.1 t.2.2), 0) := by
  have hj : jst d [t] = (((textV t.1 t.2.1 t.2.2).size : Int), [t]) := by
    simp [jst, jstep]
    omega
  have hs : sortT [t] = [t] := sortT_is (by intro u hu; obtain rfl : u = t := by simpa using hu
                                            exact hg) (List.Perm.refl _) (by unfold OrdT; simp)
  unfold finJoin
  rw [hj, if_neg (by omega), hs]
  simp [joinV, textB, Lib.join]
def NulRel (vs : List Trip) (w : World) (v8 v9 : Value) (wr : World) : Prop :=
  ∃ i : Nat, i ≤ vs.length ∧ v9 = .int .i64 (i : Int) ∧ OwnT wr w.heap.size v8 (moreT (vs.take i)) ∧ Below w.heap.size w wr
section
variable {ops : Array Oper} {rest : List Oper} {o : Oper} {a : Act} {Q : Exit → Act → World → Prop}
/-- append onto a slice of the call's own, as an operation of its own -/
theorem wpList_appT {W : World} (hgd : o.guard = none) (s x : Operand)
    (hop : o.op = .call { callee := .builtin .append, args := #[s, x], argTypes := #[27, 27] })
    (base : Nat) (v : Value) (l l5 : List Trip) (hs : a.eval s = v) (ho : OwnT W base v l) (ad : Addr) (c5 : Nat) (hx : a.eval x = .slice (some ad) l5.length c5)
    (h5 : SrcT W (some ad) l5) (hlen : l.length + l5.length ≤ 100000) (hbase : base ≤ W.heap.size)
    (h : ∀ v' w', Hid (OwnT w' base v' (l ++ l5)) → Hid (Below base W w') → Hid (∀ b, b < W.heap.size → v.ownBlock ≠ some b → w'.heap[b]? = W.heap[b]?) → wpList Tryz.prog ops Q rest (a.put o.dst v') w') : wpList Tryz.prog ops Q (o :: rest) a W := by
  obtain ⟨i0, hi, hz0, hz1, hz2⟩ := info_parts Tryz.info_trip
  have hcells : ∀ (j : Nat) (u : Value), (cellsT l5)[j]? = some u → W.cell? (ad.add j) = some u := by
    rcases h5 with rfl | ⟨ad', h, _, hc⟩
    · intro j u hu
      simp [cellsT] at hu
    · obtain rfl := Option.some.inj h
      exact hc
  refine wpList_append_own _ hgd s x 27 hop base 24 i0 (.agg #[.int .u8 0, .int .i64 0, .string ⟨#[]⟩]) 3 32 Tryz.underlying27 hi hz0 hz1 hz2 rfl (by decide) v l.length (cellsT l) hs ho ad l5.length c5 (cellsT l5) hx (cellsT_length l5)
    hcells (cellsT_one l5) (by simp only [maxLen]; omega) (by omega) hbase ?_
  intro v' w' h1 h2 _
  refine h v' w' (Lib.hid ?_) (Lib.hid ((Below.refl base W).grown h2 hbase fun k hk => (World.ownsRow.lt ho k hk).1)) (Lib.hid fun b hb hne => h2.block b hb fun e => hne e.symm)
  unfold OwnT
  rw [List.length_append, cellsT_append]
  exact h1
end
theorem own_ne {w : World} {base b : Nat} {v : Value} {l : List Trip} (h : OwnT w base v l) (hb : w.heap.size ≤ b) : v.ownBlock ≠ some b := fun e => by
  have := (World.ownsRow.lt h _ e).2
  omega
theorem al1 {w X : World} (h : Below w.heap.size w X) (o : Obj) : Below w.heap.size w (X.alloc o) := h.alloc h.size o
theorem names6_cell (w : World) (i : Nat) (name : ByteArray) (h : names6[i]? = some name) : (w.alloc (.cells (names6.map Value.string).toArray 9)).cell? ⟨w.heap.size, i, none⟩ = some (.string name) := by
  have h2 := World.alloc_heap_new w (.cells (names6.map Value.string).toArray 9)
  simp only [World.cell?, h2]
  simp [h]
end Go.Proofs.YtceknmibopnmhaaGreatDoor
