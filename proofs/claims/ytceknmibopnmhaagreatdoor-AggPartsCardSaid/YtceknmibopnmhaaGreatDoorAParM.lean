/-
  Layer 8: AggParts: totals of two lists; append as an operation of its own, from any source. Conditions: right values.
-/
import Derived.Test.YtceknmibopnmhaaGreatDoorAOnM
import Derived.Test.YtceknmibopnmhaaGreatDoorVOp
namespace Go.Proofs.YtceknmibopnmhaaGreatDoor
open Go.ChangeShapes Go.WideShapes Go.ChangeAt Go.RowKit Go.Maps Go.Sort Go.Shelf Go.ChangeMaps Go.Lib
set_option linter.unusedVariables false

def OneSum (T1 T2 T3 : Trip × Int) : Prop := T1.2 = 0 → T2.2 = 0 → ∃ a b : Int, T1.1 = (1, a, ⟨#[]⟩) ∧ T2.1 = (1, b, ⟨#[]⟩) ∧ In64 a ∧ In64 b ∧ T3 = if In64 (a + b) then ((1, a + b, ⟨#[]⟩), 0) else ((0, 0, ⟨#[]⟩), 20)
def PartsAdd (all : Bool) (fin : Bool → List Trip → Trip × Int) : Prop := ∀ l m : List Trip, l.length ≤ 60 → m.length ≤ 60 → OneSum (fin false (valsOf all l)) (fin false (valsOf all m)) (fin false (valsOf all (l ++ m)))
theorem cnt_parts (all : Bool) : PartsAdd all (fun d L => finCnt (dsel d L)) := fun l m hl hm _ _ => by
  have h1 := valsOf_len all l
  have h2 := valsOf_len all m
  refine ⟨((valsOf all l).length : Int), ((valsOf all m).length : Int), rfl, rfl, by unfold In64; omega, by unfold In64; omega, ?_⟩
  rw [if_pos (by unfold In64; omega), vals_append]
  show finCnt (valsOf all l ++ valsOf all m) = _
  unfold finCnt
  rw [List.length_append]
  simp
theorem finSum_ok (L : List Trip) (h : (finSum (1, 0, ⟨#[]⟩) L).2 = 0) : (finSum (1, 0, ⟨#[]⟩) L).1 = (1, sumT L, ⟨#[]⟩) ∧ In64 (sumT L) := by
  unfold finSum at h ⊢
  by_cases he : L.isEmpty = true
  · rw [if_pos he]
    rw [List.isEmpty_iff] at he
    subst he
    exact ⟨rfl, by unfold In64; show -9223372036854775808 ≤ (0 : Int) ∧ (0 : Int) ≤ 9223372036854775807; omega⟩
  · rw [if_neg he] at h ⊢
    by_cases hi : In64 (sumT L)
    · rw [if_pos hi]
      exact ⟨rfl, hi⟩
    · rw [if_neg hi] at h
      cases h
theorem finSum_tot (L : List Trip) : finSum (1, 0, ⟨#[]⟩) L = if In64 (sumT L) then ((1, sumT L, ⟨#[]⟩), 0) else ((0, 0, ⟨#[]⟩), 20) := by
  unfold finSum
  by_cases he : L.isEmpty = true
  · rw [if_pos he]
    rw [List.isEmpty_iff] at he
    subst he
    rw [if_pos (by unfold In64; show -9223372036854775808 ≤ (0 : Int) ∧ (0 : Int) ≤ 9223372036854775807; omega)]
    rfl
  · rw [if_neg he]
theorem tot_parts : PartsAdd false (fun d L => finSum (1, 0, ⟨#[]⟩) (dsel d L)) := fun l m hl hm h1 h2 => by
  obtain ⟨e1, i1⟩ := finSum_ok (valsOf false l) h1
  obtain ⟨e2, i2⟩ := finSum_ok (valsOf false m) h2
  refine ⟨_, _, e1, e2, i1, i2, ?_⟩
  rw [← sumT_append, ← vals_append]
  exact finSum_tot _
def names3 : List ByteArray := [⟨#[99, 111, 117, 110, 116]⟩, ⟨#[99, 111, 117, 110, 116, 42]⟩, ⟨#[116, 111, 116, 97, 108]⟩]
def names2 : List ByteArray := [⟨#[109, 105, 110]⟩, ⟨#[109, 97, 120]⟩]
theorem parts_at3 (j : Nat) (hj : j < 3) : ∃ name all fin, names3[j]? = some name ∧ Named name all fin ∧ PartsAdd all fin := by
  match j, hj with
  | 0, _ => exact ⟨_, _, _, rfl, named_count, cnt_parts false⟩
  | 1, _ => exact ⟨_, _, _, rfl, named_countAll, cnt_parts true⟩
  | 2, _ => exact ⟨_, _, _, rfl, named_total, tot_parts⟩
def BestFin (fin : Bool → List Trip → Trip × Int) : Prop := (∀ L, (fin false L).2 = 0) ∧ (∀ L, (∀ t ∈ L, GoodT t) → GoodT (fin false L).1) ∧ ∀ l m, fin false (valsOf false [(fin false (valsOf false l)).1, (fin false (valsOf false m)).1]) = fin false (valsOf false (l ++ m))
theorem bestMn_good (L : List Trip) : (∀ t ∈ L, GoodT t) → GoodT (bestMn L) := by
  induction L using snoc_ind with
  | h0 => intro _; exact ⟨.inl ⟨rfl, rfl, rfl⟩, by show In64 0; unfold In64; omega⟩
  | h1 M u ih =>
    intro h
    rw [bestMn_snoc]
    unfold utMn
    split
    · exact h u (by simp)
    · exact ih fun t ht => h t (List.mem_append_left _ ht)
theorem bestMx_good (L : List Trip) : (∀ t ∈ L, GoodT t) → GoodT (bestMx L) := by
  induction L using snoc_ind with
  | h0 => intro _; exact ⟨.inl ⟨rfl, rfl, rfl⟩, by show In64 0; unfold In64; omega⟩
  | h1 M u ih =>
    intro h
    rw [bestMx_snoc]
    unfold utMx
    split
    · exact h u (by simp)
    · exact ih fun t ht => h t (List.mem_append_left _ ht)
theorem parts_at2 (j : Nat) (hj : j < 2) : ∃ name fin, names2[j]? = some name ∧ Named name false fin ∧ BestFin fin := by
  match j, hj with
  | 0, _ => exact ⟨_, _, rfl, named_min, fun _ => rfl, bestMn_good, fun l m => by dsimp only; rw [mn_parts]⟩
  | 1, _ => exact ⟨_, _, rfl, named_max, fun _ => rfl, bestMx_good, fun l m => by dsimp only; rw [mx_parts]⟩
/-- names that lie in memory -/
def NmsAt (w : World) (g : Nat) (ls : List ByteArray) : Prop := g < w.heap.size ∧ ∀ i nm, ls[i]? = some nm → w.cell? ⟨g, i, none⟩ = some (.string nm)
theorem NmsAt.on {w w' : World} {g : Nat} {ls : List ByteArray} (h : NmsAt w g ls) (hb : Below w.heap.size w w') : NmsAt w' g ls :=
  ⟨Nat.lt_of_lt_of_le h.1 hb.size, fun i nm hi => (hb.cell (p := ⟨g, i, none⟩) h.1).trans (h.2 i nm hi)⟩
theorem NmsAt.new (w : World) (ls : List ByteArray) : NmsAt (w.alloc (.cells (ls.map Value.string).toArray 9)) w.heap.size ls := by
  refine ⟨by simp, fun i nm h => ?_⟩
  have h2 := World.alloc_heap_new w (.cells (ls.map Value.string).toArray 9)
  simp only [World.cell?, h2]
  simp [h]
theorem opAdd_any (a b : Int) (ha : In64 a) (hb : In64 b) (T3 : Trip × Int) (hT : T3 = if In64 (a + b) then ((1, a + b, ⟨#[]⟩), 0) else ((0, 0, ⟨#[]⟩), 20)) (w : World) :
    Calls Tryz.prog 12 #[.string ⟨#[43]⟩, vv 1 a ⟨#[]⟩, vv 1 b ⟨#[]⟩] w fun e w' => e = .returned (.tuple #[vvT T3.1, .int .i64 T3.2]) ∧ Below w.heap.size w w' := by
  have hr : ∀ n, Rt 1 n (⟨#[]⟩ : ByteArray) := fun n => .inr (.inl ⟨rfl, rfl⟩)
  have hi : ∀ n, intV 1 n (⟨#[]⟩ : ByteArray) = n := fun n => rfl
  by_cases h : In64 (a + b)
  · rw [if_pos h] at hT
    subst hT
    exact Op_add 1 a ⟨#[]⟩ 1 b ⟨#[]⟩ w (hr a) (hr b) (by omega) (by omega) 1 (a + b) ⟨#[]⟩ 0 fun W hW => ofTwo_add 1 a ⟨#[]⟩ 1 b ⟨#[]⟩ W (by show 0 ≤ 4611686018427387904; omega) (by show 0 ≤ 4611686018427387904; omega) (by rw [hi]; exact ha) (by rw [hi]; exact hb) (by rw [hi, hi]; exact h)
  · rw [if_neg h] at hT
    subst hT
    exact Op_add 1 a ⟨#[]⟩ 1 b ⟨#[]⟩ w (hr a) (hr b) (by omega) (by omega) 0 0 ⟨#[]⟩ 20 fun W hW => ofTwo_add_no 1 a ⟨#[]⟩ 1 b ⟨#[]⟩ W (by show 0 ≤ 4611686018427387904; omega) (by show 0 ≤ 4611686018427387904; omega) (by rw [hi]; exact ha) (by rw [hi]; exact hb) (by rw [hi, hi]; exact h)
theorem cellsT_inv : ∀ (vs : List Trip) (j : Nat) (u : Value), (cellsT vs)[j]? = some u → ∃ i k z s, vs[i]? = some (k, z, s) ∧ ((j = i * 3 ∧ u = .int .u8 k) ∨ (j = i * 3 + 1 ∧ u = .int .i64 z) ∨ (j = i * 3 + 2 ∧ u = .string s))
  | [], j, u, h => by simp [cellsT] at h
  | (k, z, s) :: r, 0, u, h => ⟨0, k, z, s, rfl, .inl ⟨rfl, by simpa [cellsT] using h.symm⟩⟩
  | (k, z, s) :: r, 1, u, h => ⟨0, k, z, s, rfl, .inr (.inl ⟨rfl, by simpa [cellsT] using h.symm⟩)⟩
  | (k, z, s) :: r, 2, u, h => ⟨0, k, z, s, rfl, .inr (.inr ⟨rfl, by simpa [cellsT] using h.symm⟩)⟩
  | (k, z, s) :: r, j + 3, u, h => by
    obtain ⟨i, k', z', s', h1, h2⟩ := cellsT_inv r j u (by simpa [cellsT] using h)
    refine ⟨i + 1, k', z', s', by simpa using h1, ?_⟩
    rcases h2 with ⟨h2, h3⟩ | ⟨h2, h3⟩ | ⟨h2, h3⟩
    · exact .inl ⟨by omega, h3⟩
    · exact .inr (.inl ⟨by omega, h3⟩)
    · exact .inr (.inr ⟨by omega, h3⟩)
theorem RdT.src {w : World} {A : Option Addr} {vs : List Trip} (h : RdT w A vs) : SrcT w A vs := by
  rcases h with h | ⟨b, o, rfl, h1, h2⟩
  · exact .inl h
  · refine .inr ⟨_, rfl, h1, fun j u hu => ?_⟩
    obtain ⟨i, k, z, s, hi, hh⟩ := cellsT_inv vs j u hu
    obtain ⟨y0, y1, y2⟩ := h2 i k z s hi
    have ha : ((⟨b, o, none⟩ : Addr).add j) = ⟨b, o + j, none⟩ := by
      unfold Addr.add
      by_cases hj0 : j = 0 <;> simp [hj0]
    rw [ha]
    rcases hh with ⟨rfl, rfl⟩ | ⟨rfl, rfl⟩ | ⟨rfl, rfl⟩
    · exact y0
    · exact y1
    · exact y2
section
variable {ops : Array Oper} {rest : List Oper} {o : Oper} {a : Act} {Q : Exit → Act → World → Prop}
/-- append onto a slice of the call's own, whatever the source is, as an operation of its own -/
theorem wpList_appA {W : World} (hgd : o.guard = none) (s x : Operand)
    (hop : o.op = .call { callee := .builtin .append, args := #[s, x], argTypes := #[27, 27] })
    (base : Nat) (v : Value) (l l5 : List Trip) (hs : a.eval s = v) (ho : OwnT W base v l) (A5 : Option Addr) (n5 c5 : Nat) (hn : n5 = l5.length) (hx : a.eval x = .slice A5 n5 c5)
    (h5 : SrcT W A5 l5) (hlen : l.length + l5.length ≤ 100000) (hbase : base ≤ W.heap.size)
    (h : ∀ v' w', Hid (OwnT w' base v' (l ++ l5)) → Hid (Below base W w') → wpList Tryz.prog ops Q rest (a.put o.dst v') w') : wpList Tryz.prog ops Q (o :: rest) a W := by
  subst hn
  obtain ⟨i0, hi, hz0, hz1, hz2⟩ := info_parts Tryz.info_trip
  rcases A5 with _ | ad
  · obtain rfl : l5 = [] := by
      rcases h5 with h5 | ⟨ad, h, _⟩
      · exact h5
      · cases h
    have hrun : (Builtin.append_ #[27, 27] o.type #[v, .slice none 0 c5]).run Tryz.prog W = .ok v W := by
      have hs2 : W.ownsRow base 24 3 v l.length (cellsT l) := ho
      rcases hs2.2 with ⟨rfl, _⟩ | ⟨g, cap, cur, rfl, _, _, hnc, _⟩
      · simp [Builtin.append_, run_underlying Tryz.underlying27, sizeOf, typeInfo, hi, Builtin.lenOf, Builtin.firstCells]
      · simp [Builtin.append_, run_underlying Tryz.underlying27, sizeOf, typeInfo, hi, Builtin.lenOf, Builtin.firstCells, hnc, storeCells]
    refine wpList_plain hgd fun K hK => ?_
    unfold Oper.wp
    simp only [execOp, hop, resolve, invoke, builtin, Sem.run_bind, Sem.run_pure, Result.andThen_ok, List.map_toArray, List.map_cons, List.map_nil, hs, hx]
    have hx0 : (Value.slice none ([] : List Trip).length c5) = .slice none 0 c5 := rfl
    rw [hx0, hrun]
    exact hK _ _ (h v W (Lib.hid (by rw [List.append_nil]; exact ho)) (Lib.hid (Below.refl _ _)))
  · exact wpList_appT hgd s x hop base v l l5 hs ho ad c5 hx h5 hlen hbase fun v' w' h1 h2 _ => h v' w' h1 h2
end
end Go.Proofs.YtceknmibopnmhaaGreatDoor
