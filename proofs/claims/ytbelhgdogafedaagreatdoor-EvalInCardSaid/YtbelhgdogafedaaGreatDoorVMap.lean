/-
  The map of the functions (layer 2, value): what functions() answers. No conditions.
-/
import Derived.Test.YtbelhgdogafedaaGreatDoorVBase
import Derived.Maps.Own
import Derived.MapKept
namespace Go.Proofs.YtbelhgdogafedaaGreatDoor
open Go.ChangeShapes Go.WideShapes Go.ChangeAt Go.RowKit
set_option linter.unusedVariables false

/-- an insert into a map whose block is known, of a key that is new -/
theorem run_ins (w : World) (B : Nat) (es : Array MapEntry) (ck : Nat) (k : ByteArray) (v : Value) (hb : w.heap[B]? = some (.map es ck)) (hf : Instr.findNow .string (.string k) es.toList 0 = some none) :
    (Instr.mapUpdate 134 (.map (some B)) (.string k) v).run Tryz.prog w = .ok () { w with heap := w.heap.setIfInBounds B (.map (es.push ⟨.string k, v, ck⟩) (ck + 1)) } := by
  have hm := Tryz.underlying134
  have hd := Tryz.underlying9
  simp [Instr.mapUpdate, run_underlying hm, MapKept.run_getObj_map hb, MapKept.run_checkKey hd (show MapKept.IsKey .string (.string k) from trivial), MapKept.run_findKey hd hf, MapKept.run_setObj_map _ hb, Result.andThen]

/-- one block is another one, all else is as it was -/
def PutB (w w' : World) (B : Nat) (o : Obj) : Prop := w' = { w with heap := w.heap.setIfInBounds B o }
theorem PutB.size {w w' : World} {B : Nat} {o : Obj} (h : PutB w w' B o) : w'.heap.size = w.heap.size := by
  unfold PutB at h
  subst h
  simp
theorem PutB.same {w w' : World} {B : Nat} {o : Obj} (h : PutB w w' B o) (hB : B < w.heap.size) : w'.heap[B]? = some o := by
  unfold PutB at h
  subst h
  simp [hB]
theorem PutB.other {w w' : World} {B j : Nat} {o : Obj} (h : PutB w w' B o) (hj : j ≠ B) : w'.heap[j]? = w.heap[j]? := by
  unfold PutB at h
  subst h
  simp [Ne.symm hj]
theorem PutB.below {w w' : World} {B n : Nat} {o : Obj} (h : PutB w w' B o) (hn : n ≤ B) : Below n w w' := by
  refine ⟨?_, ?_, ?_, Nat.le_of_eq h.size.symm, fun k hk => h.other (by omega)⟩ <;> (unfold PutB at h; subst h; rfl)

theorem wpList_ins (w : World) {ops : Array Oper} {rest : List Oper} {o : Oper} {a : Act} {Q : Exit → Act → World → Prop}
    (hg : o.guard = none) (m v : Operand) (k : ByteArray) (hop : o.op = Op.insert 134 m (.const (.string k)) v) (B : Nat) (es : Array MapEntry) (ck : Nat)
    (hm : a.eval m = .map (some B)) (val : Value) (hv : a.eval v = val) (hb : w.heap[B]? = some (.map es ck)) (hf : Instr.findNow .string (.string k) es.toList 0 = some none)
    (hK : ∀ w', PutB w w' B (.map (es.push ⟨.string k, val, ck⟩) (ck + 1)) → wpList Tryz.prog ops Q rest (a.put o.dst undef) w') :
    wpList Tryz.prog ops Q (o :: rest) a w := by
  refine wpList_plain hg fun K' hK' => ?_
  have hrun := run_ins w B es ck k val hb hf
  have hk : a.eval (.const (.string k)) = .string k := rfl
  unfold Oper.wp
  simp [execOp, hop, hm, hk, hv, hrun, Result.andThen]
  exact hK' _ _ (hK _ rfl)

theorem byteByByte_any (g : Nat) (w : World) :
    Calls Tryz.prog 117 #[.func (.func g) #[] #[]] w fun e w' => e = .returned (.func (.func 137) #[] #[.pointer (some ⟨w.heap.size, 0, none⟩)]) ∧ w' = w.alloc (.cells #[.func (.func g) #[] #[]] 146) := by
  go_enter Tryz.func117, Tryz.ntmps117
  go_wp2
  go_ret
  exact ⟨rfl, rfl⟩
theorem firstNotNull_any (w : World) :
    Calls Tryz.prog 126 #[] w fun e w' => e = .returned (.func (.func 139) #[] #[]) ∧ w = w' := by
  go_enter Tryz.func126, Tryz.ntmps126
  go_wp2
  go_ret
  exact ⟨rfl, rfl⟩

theorem map_made (w : World) : (w.alloc (.map #[] 0)).heap[w.heap.size]? = some (.map #[] 0) := by
  show (w.heap.push _)[w.heap.size]? = _
  simp
/-- what is known while the map is filled: its block, what was there, the boxes that were laid -/
def FInv (w W : World) (es : Array MapEntry) (ck : Nat) (L : List (Nat × Value)) : Prop :=
  W.heap[w.heap.size]? = some (.map es ck) ∧ Below w.heap.size w W ∧ ∀ c v, (c, v) ∈ L → w.heap.size < c ∧ W.heap[c]? = some (.cells #[v] 146)
theorem FInv.made (w : World) : FInv w (w.alloc (.map #[] 0)) #[] 0 [] := ⟨map_made w, (Below.refl _ _).alloc (Nat.le_refl _) _, by simp⟩
theorem FInv.lt {w W : World} {es : Array MapEntry} {ck : Nat} {L : List (Nat × Value)} (h : FInv w W es ck L) : w.heap.size < W.heap.size :=
  (Array.getElem?_eq_some_iff.1 h.1).1
theorem FInv.ins {w W W' : World} {es : Array MapEntry} {ck : Nat} {L : List (Nat × Value)} {es' : Array MapEntry} {ck' : Nat} (h : FInv w W es ck L) (p : PutB W W' w.heap.size (.map es' ck')) : FInv w W' es' ck' L :=
  ⟨p.same h.lt, h.2.1.trans (p.below (Nat.le_refl _)), fun c v hc => ⟨(h.2.2 c v hc).1, by rw [p.other (by have := (h.2.2 c v hc).1; omega)]; exact (h.2.2 c v hc).2⟩⟩
theorem FInv.box {w W : World} {es : Array MapEntry} {ck : Nat} {L : List (Nat × Value)} (h : FInv w W es ck L) (v : Value) : FInv w (W.alloc (.cells #[v] 146)) es ck ((W.heap.size, v) :: L) := by
  have e : ∀ (j : Nat) (o : Obj), W.heap[j]? = some o → (W.alloc (.cells #[v] 146)).heap[j]? = some o := fun j o hj => by
    show (W.heap.push _)[j]? = _
    rw [Array.getElem?_push_lt (Array.getElem?_eq_some_iff.1 hj).1]
    exact Option.some_inj.2 (Array.getElem?_eq_some_iff.1 hj).2
  refine ⟨e _ _ h.1, h.2.1.alloc (Nat.le_of_lt h.lt) _, fun c x hc => ?_⟩
  rcases List.mem_cons.1 hc with hc | hc
  · obtain ⟨rfl, rfl⟩ := Prod.mk.inj hc
    exact ⟨h.lt, by show (W.heap.push _)[W.heap.size]? = _; simp⟩
  · exact ⟨(h.2.2 c x hc).1, e _ _ (h.2.2 c x hc).2⟩

abbrev fnV (least most : Int) (tn : Bool) (f : Value) : Value := .agg #[.int .i64 least, .int .i64 most, .bool tn, f]
/-- the functions, by their names -/
def fnEnts (c1 c2 : Nat) : List MapEntry :=
  [⟨.string ⟨#[108, 101, 110, 103, 116, 104]⟩, fnV 1 1 false (.func (.func 116) #[] #[]), 0⟩,
   ⟨.string ⟨#[117, 112, 112, 101, 114]⟩, fnV 1 1 false (.func (.func 137) #[] #[.pointer (some ⟨c1, 0, none⟩)]), 1⟩,
   ⟨.string ⟨#[108, 111, 119, 101, 114]⟩, fnV 1 1 false (.func (.func 137) #[] #[.pointer (some ⟨c2, 0, none⟩)]), 2⟩,
   ⟨.string ⟨#[97, 98, 115]⟩, fnV 1 1 false (.func (.func 120) #[] #[]), 3⟩,
   ⟨.string ⟨#[116, 121, 112, 101, 111, 102]⟩, fnV 1 1 true (.func (.func 122) #[] #[]), 4⟩,
   ⟨.string ⟨#[104, 101, 120]⟩, fnV 1 1 true (.func (.func 124) #[] #[]), 5⟩,
   ⟨.string ⟨#[105, 102, 110, 117, 108, 108]⟩, fnV 2 2 true (.func (.func 139) #[] #[]), 6⟩,
   ⟨.string ⟨#[99, 111, 97, 108, 101, 115, 99, 101]⟩, fnV 2 100 true (.func (.func 139) #[] #[]), 7⟩,
   ⟨.string ⟨#[105, 110, 115, 116, 114]⟩, fnV 2 2 false (.func (.func 127) #[] #[]), 8⟩,
   ⟨.string ⟨#[115, 117, 98, 115, 116, 114]⟩, fnV 2 3 false (.func (.func 129) #[] #[]), 9⟩]
def FnsRet (w : World) (e : Ending) (w' : World) : Prop :=
  ∃ c1 c2 : Nat, e = .returned (.map (some w.heap.size)) ∧ FInv w w' (fnEnts c1 c2).toArray 10 [(c2, .func (.func 119) #[] #[]), (c1, .func (.func 118) #[] #[])]

set_option maxRecDepth 100000 in
set_option maxHeartbeats 400000 in
theorem functions_any (w : World) : Calls Tryz.prog 104 #[] w (FnsRet w) := by
  have hmm := @run_makeMap Tryz.prog
  have hI := FInv.made w
  go_enter Tryz.func104, Tryz.ntmps104
  go_wp2_with (first
    | (refine wpList_ins _ rfl _ _ _ rfl _ _ _ rfl _ rfl hI.1 (by rfl) ?_; intro w1 p1; have hI := hI.ins p1; clear p1)
    | (go_at_call 117; (with_reducible refine (byteByByte_any 118 _).mono ?_); rintro e wa ⟨rfl, rfl⟩; have hI := hI.box (.func (.func 118) #[] #[]))
    | (go_at_call 117; (with_reducible refine (byteByByte_any 119 _).mono ?_); rintro e wa ⟨rfl, rfl⟩; have hI := hI.box (.func (.func 119) #[] #[]))
    | (go_at_call 126; refine (firstNotNull_any _).mono ?_; rintro e wa ⟨rfl, rfl⟩))
  go_ret
  exact ⟨_, _, rfl, hI⟩
end Go.Proofs.YtbelhgdogafedaaGreatDoor
