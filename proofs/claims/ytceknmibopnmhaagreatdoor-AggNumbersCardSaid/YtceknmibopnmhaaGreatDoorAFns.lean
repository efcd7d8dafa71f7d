/-
  Layer 8: the map of the totals: what functions() answers. No conditions.
-/
import Derived.Test.YtceknmibopnmhaaGreatDoorAJFn
import Derived.Maps.Own
import Derived.MapKept
namespace Go.Proofs.YtceknmibopnmhaaGreatDoor
open Go.ChangeShapes Go.WideShapes Go.ChangeAt Go.RowKit Go.Maps Go.Sort Go.Shelf Go.ChangeMaps Go.Lib
set_option linter.unusedVariables false

/-- one block is another one, all else is as it was -/
def PutA (w w' : World) (B : Nat) (o : Obj) : Prop := w' = { w with heap := w.heap.setIfInBounds B o }
theorem PutA.size {w w' : World} {B : Nat} {o : Obj} (h : PutA w w' B o) : w'.heap.size = w.heap.size := by
  unfold PutA at h
  subst h
  simp
theorem PutA.same {w w' : World} {B : Nat} {o : Obj} (h : PutA w w' B o) (hB : B < w.heap.size) : w'.heap[B]? = some o := by
  unfold PutA at h
  subst h
  simp [hB]
theorem PutA.other {w w' : World} {B j : Nat} {o : Obj} (h : PutA w w' B o) (hj : j ≠ B) : w'.heap[j]? = w.heap[j]? := by
  unfold PutA at h
  subst h
  simp [Ne.symm hj]
theorem PutA.below {w w' : World} {B n : Nat} {o : Obj} (h : PutA w w' B o) (hn : n ≤ B) : Below n w w' := by
  refine ⟨?_, ?_, ?_, Nat.le_of_eq h.size.symm, fun k hk => h.other (by omega)⟩ <;> (unfold PutA at h; subst h; rfl)
theorem run_insA (w : World) (B : Nat) (es : Array MapEntry) (ck : Nat) (k : ByteArray) (v : Value) (hb : w.heap[B]? = some (.map es ck)) (hf : Instr.findNow .string (.string k) es.toList 0 = some none) :
    (Instr.mapUpdate 102 (.map (some B)) (.string k) v).run Tryz.prog w = .ok () { w with heap := w.heap.setIfInBounds B (.map (es.push ⟨.string k, v, ck⟩) (ck + 1)) } := by
  have hm := Tryz.underlying102
  have hd := Tryz.underlying9
  simp [Instr.mapUpdate, run_underlying hm, MapKept.run_getObj_map hb, MapKept.run_checkKey hd (show MapKept.IsKey .string (.string k) from trivial), MapKept.run_findKey hd hf, MapKept.run_setObj_map _ hb, Result.andThen]
theorem wpList_insA (w : World) {ops : Array Oper} {rest : List Oper} {o : Oper} {a : Act} {Q : Exit → Act → World → Prop}
    (hg : o.guard = none) (m v : Operand) (k : ByteArray) (hop : o.op = Op.insert 102 m (.const (.string k)) v) (B : Nat) (es : Array MapEntry) (ck : Nat)
    (hm : a.eval m = .map (some B)) (val : Value) (hv : a.eval v = val) (hb : w.heap[B]? = some (.map es ck)) (hf : Instr.findNow .string (.string k) es.toList 0 = some none)
    (hK : ∀ w', PutA w w' B (.map (es.push ⟨.string k, val, ck⟩) (ck + 1)) → wpList Tryz.prog ops Q rest (a.put o.dst undef) w') :
    wpList Tryz.prog ops Q (o :: rest) a w := by
  refine wpList_plain hg fun K' hK' => ?_
  have hrun := run_insA w B es ck k val hb hf
  have hk : a.eval (.const (.string k)) = .string k := rfl
  unfold Oper.wp
  simp [execOp, hop, hm, hk, hv, hrun, Result.andThen]
  exact hK' _ _ (hK _ rfl)
theorem summing_any (k n : Int) (s : ByteArray) (w : World) : Calls Tryz.prog 99 #[vv k n s] w fun e w' =>
    e = .returned (.func (.func 136) #[] #[.pointer (some ⟨w.heap.size, 0, none⟩)]) ∧ w' = w.alloc (.cells #[.int .u8 k, .int .i64 n, .string s] 24) := by
  go_enter Tryz.func99, Tryz.ntmps99
  go_wp2
  go_ret
  exact ⟨rfl, rfl⟩
theorem utmost_any (g : Nat) (w : World) : Calls Tryz.prog 101 #[.func (.func g) #[] #[]] w fun e w' =>
    e = .returned (.func (.func 141) #[] #[.pointer (some ⟨w.heap.size, 0, none⟩)]) ∧ w' = w.alloc (.cells #[.func (.func g) #[] #[]] 134) := by
  go_enter Tryz.func101, Tryz.ntmps101
  go_wp2
  go_ret
  exact ⟨rfl, rfl⟩
/-- what is known while the map is filled: its block, what was there, the boxes that were laid -/
def FInvA (w W : World) (es : Array MapEntry) (ck : Nat) (L : List (Nat × Obj)) : Prop :=
  W.heap[w.heap.size]? = some (.map es ck) ∧ Below w.heap.size w W ∧ ∀ c o, (c, o) ∈ L → w.heap.size < c ∧ W.heap[c]? = some o
theorem mapA_made (w : World) : (w.alloc (.map #[] 0)).heap[w.heap.size]? = some (.map #[] 0) := by
  show (w.heap.push _)[w.heap.size]? = _
  simp
theorem FInvA.made (w : World) : FInvA w (w.alloc (.map #[] 0)) #[] 0 [] := ⟨mapA_made w, (Below.refl _ _).alloc (Nat.le_refl _) _, by simp⟩
theorem FInvA.lt {w W : World} {es : Array MapEntry} {ck : Nat} {L : List (Nat × Obj)} (h : FInvA w W es ck L) : w.heap.size < W.heap.size :=
  (Array.getElem?_eq_some_iff.1 h.1).1
theorem FInvA.ins {w W W' : World} {es : Array MapEntry} {ck : Nat} {L : List (Nat × Obj)} {es' : Array MapEntry} {ck' : Nat} (h : FInvA w W es ck L) (p : PutA W W' w.heap.size (.map es' ck')) : FInvA w W' es' ck' L :=
  ⟨p.same h.lt, h.2.1.trans (p.below (Nat.le_refl _)), fun c v hc => ⟨(h.2.2 c v hc).1, by rw [p.other (by have := (h.2.2 c v hc).1; omega)]; exact (h.2.2 c v hc).2⟩⟩
theorem FInvA.on {w W W' : World} {es : Array MapEntry} {ck : Nat} {L : List (Nat × Obj)} (h : FInvA w W es ck L) (hb : Below W.heap.size W W') : FInvA w W' es ck L :=
  ⟨(hb.block _ h.lt).trans h.1, h.2.1.trans (hb.mono (Nat.le_of_lt h.lt)), fun c o hc => ⟨(h.2.2 c o hc).1, (hb.block c (Array.getElem?_eq_some_iff.1 (h.2.2 c o hc).2).1).trans (h.2.2 c o hc).2⟩⟩
theorem FInvA.box {w W : World} {es : Array MapEntry} {ck : Nat} {L : List (Nat × Obj)} (h : FInvA w W es ck L) (t : TypeId) (cs : Array Value) : FInvA w (W.alloc (.cells cs t)) es ck ((W.heap.size, .cells cs t) :: L) := by
  have h2 := h.on ((Below.refl _ _).alloc (Nat.le_refl _) (.cells cs t))
  refine ⟨h2.1, h2.2.1, fun c x hc => ?_⟩
  rcases List.mem_cons.1 hc with hc | hc
  · obtain ⟨rfl, rfl⟩ := Prod.mk.inj hc
    exact ⟨h.lt, World.alloc_heap_new W _⟩
  · exact h2.2.2 c x hc
abbrev fnA (all : Bool) (f : Value) : Value := .agg #[.bool all, f]
/-- the totals, by their names -/
def aEnts (c1 c2 c3 c4 : Nat) : List MapEntry :=
  [⟨.string ⟨#[99, 111, 117, 110, 116, 42]⟩, fnA true (.func (.func 98) #[] #[]), 0⟩,
   ⟨.string ⟨#[99, 111, 117, 110, 116]⟩, fnA false (.func (.func 98) #[] #[]), 1⟩,
   ⟨.string ⟨#[115, 117, 109]⟩, fnA false (.func (.func 136) #[] #[.pointer (some ⟨c1, 0, none⟩)]), 2⟩,
   ⟨.string ⟨#[116, 111, 116, 97, 108]⟩, fnA false (.func (.func 136) #[] #[.pointer (some ⟨c2, 0, none⟩)]), 3⟩,
   ⟨.string ⟨#[109, 105, 110]⟩, fnA false (.func (.func 141) #[] #[.pointer (some ⟨c3, 0, none⟩)]), 4⟩,
   ⟨.string ⟨#[109, 97, 120]⟩, fnA false (.func (.func 141) #[] #[.pointer (some ⟨c4, 0, none⟩)]), 5⟩,
   ⟨.string ⟨#[103, 114, 111, 117, 112, 95, 99, 111, 110, 99, 97, 116]⟩, fnA false (.func (.func 104) #[] #[]), 6⟩]
def FnsA (w : World) (e : Ending) (w' : World) : Prop :=
  ∃ c1 c2 c3 c4 : Nat, e = .returned (.map (some w.heap.size)) ∧ FInvA w w' (aEnts c1 c2 c3 c4).toArray 7
    [(c4, .cells #[.func (.func 103) #[] #[]] 134), (c3, .cells #[.func (.func 102) #[] #[]] 134), (c2, .cells #[.int .u8 1, .int .i64 0, .string ⟨#[]⟩] 24), (c1, .cells #[.int .u8 0, .int .i64 0, .string ⟨#[]⟩] 24)]
set_option maxRecDepth 100000 in
set_option maxHeartbeats 400000 in
theorem aggFns_any (w : World) : Calls Tryz.prog 70 #[] w (FnsA w) := by
  have hmm := @run_makeMap Tryz.prog
  have hI := FInvA.made w
  go_enter Tryz.func70, Tryz.ntmps70
  go_wp2_with (first
    | (refine wpList_insA _ rfl _ _ _ rfl _ _ _ rfl _ rfl hI.1 (by rfl) ?_; intro w1 p1; have hI := hI.ins p1; clear p1)
    | (go_at_call 99; (with_reducible refine (summing_any 0 0 ⟨#[]⟩ _).mono ?_); rintro e wa ⟨rfl, rfl⟩; have hI := hI.box 24 #[.int .u8 0, .int .i64 0, .string ⟨#[]⟩])
    | (go_at_call 99; (with_reducible refine (summing_any 1 0 ⟨#[]⟩ _).mono ?_); rintro e wa ⟨rfl, rfl⟩; have hI := hI.box 24 #[.int .u8 1, .int .i64 0, .string ⟨#[]⟩])
    | (go_at_call 100; refine (aggInt_any 0 _).mono ?_; rintro e wa ⟨rfl, hba⟩; have hI := hI.on hba; clear hba)
    | (go_at_call 101; (with_reducible refine (utmost_any 102 _).mono ?_); rintro e wa ⟨rfl, rfl⟩; have hI := hI.box 134 #[.func (.func 102) #[] #[]])
    | (go_at_call 101; (with_reducible refine (utmost_any 103 _).mono ?_); rintro e wa ⟨rfl, rfl⟩; have hI := hI.box 134 #[.func (.func 103) #[] #[]]))
  go_ret
  exact ⟨_, _, _, _, rfl, hI⟩
theorem run_lookA (w : World) (B : Nat) (es : Array MapEntry) (ck : Nat) (k : ByteArray) (i : Nat) (v : Value) (hb : w.heap[B]? = some (.map es ck)) (hf : Instr.findNow .string (.string k) es.toList 0 = some (some (i, v))) :
    (Instr.lookup 102 (.map (some B)) (.string k) true).run Tryz.prog w = .ok (.tuple #[v, .bool true]) w := by
  have hm := Tryz.underlying102
  have hd := Tryz.underlying9
  simp [Instr.lookup, run_underlying hm, MapKept.run_getObj_map hb, MapKept.run_checkKey hd (show MapKept.IsKey .string (.string k) from trivial), MapKept.run_findKey hd hf, Result.andThen]
end Go.Proofs.YtceknmibopnmhaaGreatDoor
