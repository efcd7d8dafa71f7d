/-
  maps.Keys of a map whose keys are values: its iterator gives each key once. No conditions.
-/
import Derived.Test.YtceknmibopnmhaaGreatDoorVArgs
import Derived.RangeFuncNested
import Derived.RangeFuncBound
import Derived.RangeFuncCalls
import Derived.RangeFuncLeaves
import Derived.RangeFuncStops
import Derived.RangeFuncBox
import Derived.Shelf.Abstract
import Derived.Shelf.RegionOpen
import Derived.OwnWalkIn
import Derived.TacticsInMore
import Derived.LoopNIn
import Derived.LoopIn
import Derived.Maps.AppendAt
import Derived.Maps.Range
import Derived.Sort.MapsRangeIn
import Derived.Sort.KeysCollected
namespace Go.Proofs.YtceknmibopnmhaaGreatDoor
open Go.ChangeShapes Go.WideShapes Go.ChangeAt Go.RowKit Go.Maps Go.Sort Go.Shelf Go.ChangeMaps
set_option linter.unusedVariables false
attribute [local go_sem] Oper.semAt_some

abbrev vvT (t : Trip) : Value := vv t.1 t.2.1 t.2.2
/-- an entry: its key, when it was born; what stands there is told by f -/
def ent (f : Trip → Value) (p : Trip × Nat) : MapEntry := { key := vvT p.1, val := f p.1, born := p.2 }
structure Ents (E : List (Trip × Nat)) (ck : Nat) : Prop where
  born : ∀ p ∈ E, p.2 < ck
  borns : (E.map Prod.snd).Nodup
  keys : (E.map Prod.fst).Nodup
def MapT (w : World) (b : Nat) (E : List (Trip × Nat)) (f : Trip → Value) : Prop :=
  ∃ ck, w.heap[b]? = some (.map (E.map (ent f)).toArray ck) ∧ Ents E ck
/-- a walk through it: ys have come -/
def WalkT (w : World) (b r : Nat) (E : List (Trip × Nat)) (f : Trip → Value) (ys : List (Trip × Nat)) : Prop :=
  ∃ ck, w.heap[b]? = some (.map (E.map (ent f)).toArray ck) ∧ Ents E ck ∧ w.heap[r]? = some (.mapIter (some b) ck (ys.map Prod.snd).toArray ck) ∧ ys.Nodup ∧ ∀ y ∈ ys, y ∈ E
theorem WalkT.of_walks {w w' : World} {b r : Nat} {E : List (Trip × Nat)} {f : Trip → Value} {ys : List (Trip × Nat)} (h : WalkT w b r E f ys) (hk : KeepsWalks w w') : WalkT w' b r E f ys := by
  obtain ⟨ck, h1, h2, h3, h4⟩ := h
  exact ⟨ck, hk.same b _ h1 rfl, h2, hk.same r _ h3 rfl, h4⟩
theorem sub_perm {α : Type} : ∀ (l m : List α), l.Nodup → (∀ x ∈ l, x ∈ m) → ∃ r, m.Perm (l ++ r)
  | [], m, _, _ => ⟨m, List.Perm.refl _⟩
  | x :: l, m, hn, hin => by
    obtain ⟨a, b, rfl⟩ := List.append_of_mem (hin x List.mem_cons_self)
    obtain ⟨hx, hl⟩ := List.nodup_cons.1 hn
    obtain ⟨r, hr⟩ := sub_perm l (a ++ b) hl (fun y hy => by
      have h1 := hin y (List.mem_cons_of_mem _ hy)
      simp only [List.mem_append, List.mem_cons] at h1 ⊢
      rcases h1 with h1 | rfl | h1
      · exact .inl h1
      · exact (hx hy).elim
      · exact .inr h1)
    exact ⟨r, List.perm_middle.trans (List.Perm.cons x hr)⟩
theorem sub_len {α : Type} {l m : List α} (hn : l.Nodup) (hin : ∀ x ∈ l, x ∈ m) : l.length ≤ m.length := by
  obtain ⟨r, hr⟩ := sub_perm l m hn hin
  rw [hr.length_eq, List.length_append]
  omega
theorem sub_all {α : Type} {l m : List α} (hn : l.Nodup) (hin : ∀ x ∈ l, x ∈ m) (h : m.length ≤ l.length) : l.Perm m := by
  obtain ⟨r, hr⟩ := sub_perm l m hn hin
  have h1 := hr.length_eq
  rw [List.length_append] at h1
  obtain rfl : r = [] := List.length_eq_zero_iff.1 (by omega)
  rw [List.append_nil] at hr
  exact hr.symm
theorem nodup_of_snd {E : List (Trip × Nat)} (h : (E.map Prod.snd).Nodup) : E.Nodup := (List.pairwise_map.1 h).imp fun h e => h (by rw [e])
theorem WalkT.all {w : World} {b r : Nat} {E : List (Trip × Nat)} {f : Trip → Value} {ys : List (Trip × Nat)} (h : WalkT w b r E f ys) (hl : E.length ≤ ys.length) : (ys.map Prod.fst).Perm (E.map Prod.fst) := by
  obtain ⟨ck, h1, h2, h3, h4, h5⟩ := h
  exact (sub_all h4 h5 hl).map _
theorem nodup_snd {E : List (Trip × Nat)} (h : (E.map Prod.snd).Nodup) {x y : Trip × Nat} (hx : x ∈ E) (hy : y ∈ E) (e : x.2 = y.2) : x = y := by
  have h1 : E.Pairwise (fun a b => a.2 ≠ b.2) := List.pairwise_map.1 h
  rw [List.pairwise_iff_getElem] at h1
  obtain ⟨i, hi, rfl⟩ := List.mem_iff_getElem.1 hx
  obtain ⟨j, hj, rfl⟩ := List.mem_iff_getElem.1 hy
  rcases Nat.lt_trichotomy i j with hij | rfl | hij
  · exact (h1 i j hi hj hij e).elim
  · rfl
  · exact (h1 j i hj hi hij e.symm).elim
theorem MapT.on {w w' : World} {b : Nat} {E : List (Trip × Nat)} {f : Trip → Value} (h : MapT w b E f) (hb : Below w.heap.size w w') : MapT w' b E f := by
  obtain ⟨ck, h1, h2⟩ := h
  exact ⟨ck, (hb.block b (Array.getElem?_eq_some_iff.1 h1).1).trans h1, h2⟩
/-- how many are still to come -/
def walkLeft (w : World) (b r : Nat) : Nat :=
  match w.heap[b]?, w.heap[r]? with
  | some (.map es _), some (.mapIter _ _ seen _) => es.size - seen.size
  | _, _ => 0
theorem WalkT.left_eq {w : World} {b r : Nat} {E : List (Trip × Nat)} {f : Trip → Value} {ys : List (Trip × Nat)} (h : WalkT w b r E f ys) : walkLeft w b r = E.length - ys.length := by
  obtain ⟨ck, hb, hE, hr, hnd, hin⟩ := h
  unfold walkLeft
  rw [hb, hr]
  simp
theorem WalkT.next {w : World} {b r : Nat} {E : List (Trip × Nat)} {f : Trip → Value} {ys : List (Trip × Nat)} (h : WalkT w b r E f ys) (ty : TypeId) :
    (E.length ≤ ys.length ∧ (Instr.next (.pointer (some ⟨r, 0, none⟩)) false ty).run Tryz.prog w = .ok (.tuple #[.bool false]) w) ∨
    ∃ (y : Trip × Nat) (w' : World), ys.length < E.length ∧ (Instr.next (.pointer (some ⟨r, 0, none⟩)) false ty).run Tryz.prog w = .ok (.tuple #[.bool true, vvT y.1, f y.1]) w' ∧ WalkT w' b r E f (ys ++ [y]) ∧ w.grownBy w' (some r) ∧ w'.heap.size = w.heap.size ∧
      (Instr.entry (.pointer (some ⟨r, 0, none⟩))).run Tryz.prog w' = .ok (.tuple #[vvT y.1, f y.1]) w' := by
  obtain ⟨ck, hb, hE, hr, hnd, hin⟩ := h
  have hne : r ≠ b := fun e => by rw [e, hb] at hr; cases hr
  have hold : ∀ x ∈ (E.map (ent f)).toArray.toList, x.born < ck := fun x hx => by
    obtain ⟨p, hp, rfl⟩ := List.mem_map.1 hx
    exact hE.born p hp
  have hseen : ∀ y ∈ E, ((ys.map Prod.snd).toArray.contains y.2 = true ↔ y ∈ ys) := fun y hy => by
    simp only [List.contains_toArray, List.contains_eq_mem, decide_eq_true_eq]
    refine ⟨fun hc => ?_, fun hm => List.mem_map_of_mem hm⟩
    obtain ⟨z, hz, e⟩ := List.mem_map.1 hc
    exact nodup_snd hE.borns (hin z hz) hy e ▸ hz
  rcases run_next_at (P := Tryz.prog) w ty r b ck ck (ys.map Prod.snd).toArray (E.map (ent f)).toArray ck hr hb hold (Nat.le_refl _) with ⟨h0, hrun⟩ | ⟨e, he, w1, hal, hrun⟩
  · refine .inl ⟨?_, hrun⟩
    have hall : ∀ y ∈ E, y ∈ ys := fun y hy => by
      have h1 := all_seen _ _ h0 (ent f y) (by simpa using List.mem_map_of_mem hy)
      exact (hseen y hy).1 h1
    exact sub_len (nodup_of_snd hE.borns) hall
  · obtain ⟨hem, hes⟩ := mem_left he
    obtain ⟨y, hy, rfl⟩ := List.mem_map.1 hem
    have hny : y ∉ ys := fun hm => by
      have h1 : (ys.map Prod.snd).toArray.contains y.2 = true := (hseen y hy).2 hm
      rw [show (ys.map Prod.snd).toArray.contains y.2 = false from hes] at h1
      cases h1
    have hr1 : w1.heap[r]? = some (.mapIter (some b) ck (ys.map Prod.snd).toArray ck) := by rcases hal with rfl | rfl <;> exact hr
    have hb1 : w1.heap[b]? = some (.map (E.map (ent f)).toArray ck) := by rcases hal with rfl | rfl <;> exact hb
    have hset := MapKept.heap_set (o' := .mapIter (some b) ck ((ys.map Prod.snd).toArray.push (ent f y).born) ck) hr1
    have hb' := (hset.2 b (fun e1 => hne e1.symm)).trans hb1
    have hys : (ys ++ [y]).Nodup := List.nodup_append.2 ⟨hnd, by simp, fun a ha c hc e => by
      rw [List.mem_singleton] at hc
      subst hc e
      exact hny ha⟩
    have hin' : ∀ z ∈ ys ++ [y], z ∈ E := fun z hz => by
      rcases List.mem_append.1 hz with hz | hz
      · exact hin z hz
      · rw [List.mem_singleton] at hz; subst hz; exact hy
    refine .inr ⟨y, _, ?_, hrun, ⟨ck, hb', hE, ?_, hys, hin'⟩, ?_, ?_, ?_⟩
    · have := sub_len hys hin'
      simp at this
      omega
    · exact (show (setBlock w1 r _).heap[r]? = _ from hset.1).trans (by rw [List.map_append, List.push_toArray]; rfl)
    · rcases hal with rfl | rfl <;> exact ⟨rfl, rfl, rfl, by simp [setBlock], fun i _ hi => hset.2 i (fun e1 => hi (by rw [e1]))⟩
    · rcases hal with rfl | rfl <;> simp [setBlock]
    · exact run_entry_at _ r b ck (ys.map Prod.snd).toArray (E.map (ent f)).toArray ck (ent f y) hset.1 hb' (by simpa using List.mem_map_of_mem hy) (by simpa [ent, Function.comp_def] using hE.borns)
section
variable {F : Fence} {n : Nat} {ops : Array Oper} {rest : List Oper} {o : Oper} {a : Act} {Q : Exit → Act → World → Prop}
theorem wpListIn_rangeT (hg : o.guard = none) (m : Operand) (t k e : TypeId) (hop : o.op = Op.range t m) (ht : Tryz.prog.underlying t = some (.map k e)) (w : World) (b : Nat) (E : List (Trip × Nat)) (f : Trip → Value) (hm : a.eval m = .map (some b)) (hmap : MapT w b E f)
    (hK : ∀ w', WalkT w' b w.heap.size E f [] → w.grownBy w' none → w'.heap.size = w.heap.size + 1 → wpListIn F n Tryz.prog ops Q rest (a.put o.dst (.pointer (some ⟨w.heap.size, 0, none⟩))) w') :
    wpListIn F n Tryz.prog ops Q (o :: rest) a w := by
  refine wpListIn_plain hg fun K' hK' => ?_
  obtain ⟨ck, hb, hE⟩ := hmap
  have hrun := run_range_map (P := Tryz.prog) w t k e b _ ck ht hb
  unfold Oper.wpIn
  refine ⟨by simp [Oper.about, hop], ?_⟩
  rw [Oper.semAt_plain F _ _ (by rw [hop]; intro c hc'; cases hc')]
  simp [execOp, hop, hm, hrun, Result.andThen]
  exact hK' _ _ (hK _ ⟨ck, (Below.heap_alloc w _ b (Array.getElem?_eq_some_iff.1 hb).1).trans hb, hE, World.alloc_heap_new w _, List.nodup_nil, fun y hy => by cases hy⟩ (World.grownBy_alloc w _ none) (by simp))
theorem wpListIn_nextT (hg : o.guard = none) (it : Operand) (hop : o.op = Op.next it false) (w : World) (b r : Nat) (E : List (Trip × Nat)) (f : Trip → Value) (ys : List (Trip × Nat)) (hit : a.eval it = .pointer (some ⟨r, 0, none⟩)) (h : WalkT w b r E f ys)
    (hDone : E.length ≤ ys.length → wpListIn F n Tryz.prog ops Q rest (a.put o.dst (.tuple #[.bool false])) w)
    (hMore : ∀ (y : Trip × Nat) (w' : World), ys.length < E.length → WalkT w' b r E f (ys ++ [y]) → w.grownBy w' (some r) → w'.heap.size = w.heap.size → (Instr.entry (.pointer (some ⟨r, 0, none⟩))).run Tryz.prog w' = .ok (.tuple #[vvT y.1, f y.1]) w' →
      wpListIn F n Tryz.prog ops Q rest (a.put o.dst (.tuple #[.bool true, vvT y.1, f y.1])) w') :
    wpListIn F n Tryz.prog ops Q (o :: rest) a w := by
  refine wpListIn_plain hg fun K' hK' => ?_
  unfold Oper.wpIn
  refine ⟨by simp [Oper.about, hop], ?_⟩
  rw [Oper.semAt_plain F _ _ (by rw [hop]; intro c hc'; cases hc')]
  rcases h.next o.type with ⟨hl, hrun⟩ | ⟨y, w', hl, hrun, h1, h2, h3, h4⟩
  · simp [execOp, hop, hit, hrun, Result.andThen]
    exact hK' _ _ (hDone hl)
  · simp [execOp, hop, hit, hrun, Result.andThen]
    exact hK' _ _ (hMore y w' hl h1 h2 h3 h4)
end
set_option maxRecDepth 100000 in
set_option maxHeartbeats 1000000 in
theorem keys1_in (F : Fence) (n : Nat) (hf : F.fn 183) (hro : F.round = none) (hn : 1 ≤ n) (l Bm b : Nat) (E : List (Trip × Nat)) (f : Trip → Value) (J Jx : List Trip → World → Prop)
    (hY : ∀ pre x W, J pre W → pre.length < E.length → YieldAt F (n - 1) Tryz.prog l #[vvT x] W fun e W' =>
      (e = .returned (.bool true) ∧ J (pre ++ [x]) W' ∧ KeepsWalks W W') ∨ (e = .returned (.bool false) ∧ Jx (pre ++ [x]) W'))
    (W : World) (hJ : AbidesFrom W.heap.size J) (hm : W.cell? ⟨Bm, 0, none⟩ = some (.map (some b))) (hmap : MapT W b E f) (h0 : J [] W) :
    CallsIn F n Tryz.prog 183 #[.func (.yield l) #[] #[], .pointer (some ⟨Bm, 0, none⟩)] W fun e W' => (∃ v, e = .returned v) ∧
      ((∃ ss : List Trip, ss.Perm (E.map Prod.fst) ∧ J ss W') ∨ (∃ pre : List Trip, True ∧ Jx pre W')) := by
  refine callsIn_of_wp Tryz.func183 rfl hf ?_ hro
  simp only [Tryz.ntmps183, List.size_toArray, List.length_cons, List.length_nil, Nat.reduceAdd, Nat.reduceSub, Array.replicate_succ, Array.replicate_zero, List.push_toArray, List.append_toArray, List.nil_append, List.cons_append]
  gi_wp2_with (first
    | (gi_at_range; refine wpListIn_rangeT rfl _ _ _ _ rfl Tryz.underlying157 _ b E f rfl hmap ?_; intro w0 hrg0 hg0 hs0)
    | gi_in)
  go_frame
  gi_loopw [6] (fun _ wr => ∃ ys : List (Trip × Nat), WalkT wr b W.heap.size E f ys ∧ J (ys.map Prod.fst) wr) (fun _ wr => walkLeft wr b W.heap.size)
  case atStart =>
    exact ⟨[], hrg0, hJ [] W w0 none h0 hg0 (fun r e => by cases e)⟩
  case round =>
    obtain ⟨ys, hrg, hJs⟩ := hrel
    gi_wp2_with (first
      | (gi_at_next; refine wpListIn_nextT rfl _ rfl _ b W.heap.size E f ys rfl hrg (fun hl => ?_) ?_)
      | gi_in)
    · gi_wp2
      go_end0
      exact ⟨⟨_, rfl⟩, .inl ⟨ys.map Prod.fst, hrg.all hl, hJs⟩⟩
    · intro k z t bo w2 hlt hrg2 hg2 hs2 hen
      have hJ2 : J (ys.map Prod.fst) w2 := hJ _ wr w2 (some W.heap.size) hJs hg2 (fun r e => by cases e; obtain ⟨_, _, _, h, _⟩ := hrg; exact ⟨Nat.le_refl _, _, h, rfl⟩)
      dsimp only [vvT] at hen ⊢
      have hJ3 : J (ys.map Prod.fst) (w2.alloc (.cells #[.int .u8 k, .int .i64 z, .string t] 24)) := hJ _ w2 _ none hJ2 (World.grownBy_alloc w2 _ none) (fun r e => by cases e)
      have hrg3 : WalkT (w2.alloc (.cells #[.int .u8 k, .int .i64 z, .string t] 24)) b W.heap.size E f (ys ++ [((k, z, t), bo)]) := by
        obtain ⟨ck, h1, h2, h3, h4⟩ := hrg2
        exact ⟨ck, (Below.heap_alloc w2 _ b (Array.getElem?_eq_some_iff.1 h1).1).trans h1, h2, (Below.heap_alloc w2 _ _ (Array.getElem?_eq_some_iff.1 h3).1).trans h3, h4⟩
      obtain ⟨fn, tmps, assign, body, hy, hR⟩ := hY (ys.map Prod.fst) (k, z, t) _ hJ3 (by rw [List.length_map]; exact hlt)
      dsimp only [vvT] at hy
      clear hs2
      gi_wp2
      refine hR.mono ?_
      rintro e W3 (⟨rfl, hJ4, hk4⟩ | ⟨rfl, hJx4⟩)
      · gi_wp2
        have hrg4 := hrg3.of_walks hk4
        go_roundw
        case rel => exact ⟨ys ++ [((k, z, t), bo)], hrg4, by rw [List.map_append]; exact hJ4⟩
        case measure => rw [hrg4.left_eq, hrg.left_eq]; simp; omega
      · gi_wp2
        refine bodyPost_ret (results_none rfl _ _ _) rfl ?_
        exact ⟨⟨_, rfl⟩, .inr ⟨_, trivial, hJx4⟩⟩
theorem keys_stops (F : Fence) (n : Nat) (hf : F.fn 183) (hro : F.round = none) (hn : 1 ≤ n) (Bm b : Nat) (E : List (Trip × Nat)) (f : Trip → Value) (w : World) (hBm : Bm < w.heap.size)
    (hm : w.cell? ⟨Bm, 0, none⟩ = some (.map (some b))) (hmap : MapT w b E f) :
    SeqStops F n Tryz.prog 183 #[.pointer (some ⟨Bm, 0, none⟩)] vvT (fun ss => ss.Perm (E.map Prod.fst)) (fun _ => True) E.length w := fun l J Jx W hW hJ _ hY h0 =>
  keys1_in F n hf hro hn l Bm b E f J Jx hY W hJ ((hW.cell (p := ⟨Bm, 0, none⟩) hBm).trans hm) (hmap.on hW) h0
theorem keys_in (F : Fence) (n : Nat) (hf : F.fn 164) (hro : F.round = none) (mb : Option Nat) (w : World) :
    CallsIn F n Tryz.prog 164 #[.map mb] w fun e w' => e = .returned (.func (.func 183) #[] #[.pointer (some ⟨w.heap.size, 0, none⟩)]) ∧ w' = w.alloc (.cells #[.map mb] 157) := by
  refine callsIn_of_wp Tryz.func164 rfl hf ?_ hro
  simp only [Tryz.ntmps164, List.size_toArray, List.length_cons, List.length_nil, Nat.reduceAdd, Nat.reduceSub, Array.replicate_succ, Array.replicate_zero, List.push_toArray, List.append_toArray, List.nil_append, List.cons_append]
  gi_wp2
  go_ret
  exact ⟨rfl, rfl⟩
end Go.Proofs.YtceknmibopnmhaaGreatDoor
