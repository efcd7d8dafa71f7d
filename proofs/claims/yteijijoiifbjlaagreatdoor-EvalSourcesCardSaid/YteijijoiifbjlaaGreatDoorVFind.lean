/-
  The map of the functions (layer 2, value): what functions() answers. No conditions.
  Which function a name tells (layer 2, value): find. No conditions.
-/
import Derived.Test.YteijijoiifbjlaaGreatDoorVBase
import Derived.Maps.Own
import Derived.MapKept
import Derived.Laws.EntriesVeiled
import Derived.Deep.RegionHeld
namespace Go.Proofs.YteijijoiifbjlaaGreatDoor
open Go.ChangeShapes Go.WideShapes Go.ChangeAt Go.RowKit
set_option linter.unusedVariables false

/-- an insert into a map whose block is known, of a key that is new -/
theorem run_ins (w : World) (B : Nat) (es : Array MapEntry) (ck : Nat) (k : ByteArray) (v : Value) (hb : w.heap[B]? = some (.map es ck)) (hf : Instr.findNow .string (.string k) es.toList 0 = some none) :
    (Instr.mapUpdate 128 (.map (some B)) (.string k) v).run Tryz.prog w = .ok () { w with heap := w.heap.setIfInBounds B (.map (es.push ⟨.string k, v, ck⟩) (ck + 1)) } := by
  have hm := Tryz.underlying128
  have hd := Tryz.underlying9
  simp [Instr.mapUpdate, run_underlying hm, MapKept.run_getObj_map hb, MapKept.run_checkKey hd (show MapKept.IsKey .string (.string k) from trivial), MapKept.run_findKey hd hf, MapKept.run_setObj_map _ hb, Result.andThen]

/-- one block is another one, all else is as it was -/
def PutB (w w' : World) (B : Nat) (o : Obj) : Prop := w' = { w with heap := w.heap.setIfInBounds B o }
theorem PutB.size {w w' : World} {B : Nat} {o : Obj} (h : PutB w w' B o) : w'.heap.size = w.heap.size := by
  unfold PutB at h
  subst h
  simp
theorem PutB.same {w w' : World} {B : Nat} {o : Obj} (h : PutB w w' B o) (hB : B < w.heap.size) : w'.heap[B]? = some o := by
  unfold PutB at h
  subst h
  simp [hB]
theorem PutB.other {w w' : World} {B j : Nat} {o : Obj} (h : PutB w w' B o) (hj : j ≠ B) : w'.heap[j]? = w.heap[j]? := by
  unfold PutB at h
  subst h
  simp [Ne.symm hj]
theorem PutB.below {w w' : World} {B n : Nat} {o : Obj} (h : PutB w w' B o) (hn : n ≤ B) : Below n w w' := by
  refine ⟨?_, ?_, ?_, Nat.le_of_eq h.size.symm, fun k hk => h.other (by omega)⟩ <;> (unfold PutB at h; subst h; rfl)

theorem wpList_ins (w : World) {ops : Array Oper} {rest : List Oper} {o : Oper} {a : Act} {Q : Exit → Act → World → Prop}
    (hg : o.guard = none) (m v : Operand) (k : ByteArray) (hop : o.op = Op.insert 128 m (.const (.string k)) v) (B : Nat) (es : Array MapEntry) (ck : Nat)
    (hm : a.eval m = .map (some B)) (val : Value) (hv : a.eval v = val) (hb : w.heap[B]? = some (.map es ck)) (hf : Instr.findNow .string (.string k) es.toList 0 = some none)
    (hK : ∀ w', PutB w w' B (.map (es.push ⟨.string k, val, ck⟩) (ck + 1)) → wpList Tryz.prog ops Q rest (a.put o.dst undef) w') :
    wpList Tryz.prog ops Q (o :: rest) a w := by
  refine wpList_plain hg fun K' hK' => ?_
  have hrun := run_ins w B es ck k val hb hf
  have hk : a.eval (.const (.string k)) = .string k := rfl
  unfold Oper.wp
  simp [execOp, hop, hm, hk, hv, hrun, Result.andThen]
  exact hK' _ _ (hK _ rfl)

theorem byteByByte_any (g : Nat) (w : World) :
    Calls Tryz.prog 111 #[.func (.func g) #[] #[]] w fun e w' => e = .returned (.func (.func 131) #[] #[.pointer (some ⟨w.heap.size, 0, none⟩)]) ∧ w' = w.alloc (.cells #[.func (.func g) #[] #[]] 140) := by
  go_enter Tryz.func111, Tryz.ntmps111
  go_wp2
  go_ret
  exact ⟨rfl, rfl⟩
theorem firstNotNull_any (w : World) :
    Calls Tryz.prog 120 #[] w fun e w' => e = .returned (.func (.func 133) #[] #[]) ∧ w = w' := by
  go_enter Tryz.func120, Tryz.ntmps120
  go_wp2
  go_ret
  exact ⟨rfl, rfl⟩

theorem map_made (w : World) : (w.alloc (.map #[] 0)).heap[w.heap.size]? = some (.map #[] 0) := by
  show (w.heap.push _)[w.heap.size]? = _
  simp
/-- what is known while the map is filled: its block, what was there, the boxes that were laid -/
def FInv (w W : World) (es : Array MapEntry) (ck : Nat) (L : List (Nat × Value)) : Prop :=
  W.heap[w.heap.size]? = some (.map es ck) ∧ Below w.heap.size w W ∧ ∀ c v, (c, v) ∈ L → w.heap.size < c ∧ W.heap[c]? = some (.cells #[v] 140)
theorem FInv.made (w : World) : FInv w (w.alloc (.map #[] 0)) #[] 0 [] := ⟨map_made w, (Below.refl _ _).alloc (Nat.le_refl _) _, by simp⟩
theorem FInv.lt {w W : World} {es : Array MapEntry} {ck : Nat} {L : List (Nat × Value)} (h : FInv w W es ck L) : w.heap.size < W.heap.size :=
  (Array.getElem?_eq_some_iff.1 h.1).1
theorem FInv.ins {w W W' : World} {es : Array MapEntry} {ck : Nat} {L : List (Nat × Value)} {es' : Array MapEntry} {ck' : Nat} (h : FInv w W es ck L) (p : PutB W W' w.heap.size (.map es' ck')) : FInv w W' es' ck' L :=
  ⟨p.same h.lt, h.2.1.trans (p.below (Nat.le_refl _)), fun c v hc => ⟨(h.2.2 c v hc).1, by rw [p.other (by have := (h.2.2 c v hc).1; omega)]; exact (h.2.2 c v hc).2⟩⟩
theorem FInv.box {w W : World} {es : Array MapEntry} {ck : Nat} {L : List (Nat × Value)} (h : FInv w W es ck L) (v : Value) : FInv w (W.alloc (.cells #[v] 140)) es ck ((W.heap.size, v) :: L) := by
  have e : ∀ (j : Nat) (o : Obj), W.heap[j]? = some o → (W.alloc (.cells #[v] 140)).heap[j]? = some o := fun j o hj => by
    show (W.heap.push _)[j]? = _
    rw [Array.getElem?_push_lt (Array.getElem?_eq_some_iff.1 hj).1]
    exact Option.some_inj.2 (Array.getElem?_eq_some_iff.1 hj).2
  refine ⟨e _ _ h.1, h.2.1.alloc (Nat.le_of_lt h.lt) _, fun c x hc => ?_⟩
  rcases List.mem_cons.1 hc with hc | hc
  · obtain ⟨rfl, rfl⟩ := Prod.mk.inj hc
    exact ⟨h.lt, by show (W.heap.push _)[W.heap.size]? = _; simp⟩
  · exact ⟨(h.2.2 c x hc).1, e _ _ (h.2.2 c x hc).2⟩

abbrev fnV (least most : Int) (tn : Bool) (f : Value) : Value := .agg #[.int .i64 least, .int .i64 most, .bool tn, f]
/-- the functions, by their names -/
def fnEnts (c1 c2 : Nat) : List MapEntry :=
  [⟨.string ⟨#[108, 101, 110, 103, 116, 104]⟩, fnV 1 1 false (.func (.func 110) #[] #[]), 0⟩,
   ⟨.string ⟨#[117, 112, 112, 101, 114]⟩, fnV 1 1 false (.func (.func 131) #[] #[.pointer (some ⟨c1, 0, none⟩)]), 1⟩,
   ⟨.string ⟨#[108, 111, 119, 101, 114]⟩, fnV 1 1 false (.func (.func 131) #[] #[.pointer (some ⟨c2, 0, none⟩)]), 2⟩,
   ⟨.string ⟨#[97, 98, 115]⟩, fnV 1 1 false (.func (.func 114) #[] #[]), 3⟩,
   ⟨.string ⟨#[116, 121, 112, 101, 111, 102]⟩, fnV 1 1 true (.func (.func 116) #[] #[]), 4⟩,
   ⟨.string ⟨#[104, 101, 120]⟩, fnV 1 1 true (.func (.func 118) #[] #[]), 5⟩,
   ⟨.string ⟨#[105, 102, 110, 117, 108, 108]⟩, fnV 2 2 true (.func (.func 133) #[] #[]), 6⟩,
   ⟨.string ⟨#[99, 111, 97, 108, 101, 115, 99, 101]⟩, fnV 2 100 true (.func (.func 133) #[] #[]), 7⟩,
   ⟨.string ⟨#[105, 110, 115, 116, 114]⟩, fnV 2 2 false (.func (.func 121) #[] #[]), 8⟩,
   ⟨.string ⟨#[115, 117, 98, 115, 116, 114]⟩, fnV 2 3 false (.func (.func 123) #[] #[]), 9⟩]
def FnsRet (w : World) (e : Ending) (w' : World) : Prop :=
  ∃ c1 c2 : Nat, e = .returned (.map (some w.heap.size)) ∧ FInv w w' (fnEnts c1 c2).toArray 10 [(c2, .func (.func 113) #[] #[]), (c1, .func (.func 112) #[] #[])]

set_option maxRecDepth 100000 in
set_option maxHeartbeats 400000 in
theorem functions_any (w : World) : Calls Tryz.prog 98 #[] w (FnsRet w) := by
  have hmm := @run_makeMap Tryz.prog
  have hI := FInv.made w
  go_enter Tryz.func98, Tryz.ntmps98
  go_wp2_with (first
    | (refine wpList_ins _ rfl _ _ _ rfl _ _ _ rfl _ rfl hI.1 (by rfl) ?_; intro w1 p1; have hI := hI.ins p1; clear p1)
    | (go_at_call 111; (with_reducible refine (byteByByte_any 112 _).mono ?_); rintro e wa ⟨rfl, rfl⟩; have hI := hI.box (.func (.func 112) #[] #[]))
    | (go_at_call 111; (with_reducible refine (byteByByte_any 113 _).mono ?_); rintro e wa ⟨rfl, rfl⟩; have hI := hI.box (.func (.func 113) #[] #[]))
    | (go_at_call 120; refine (firstNotNull_any _).mono ?_; rintro e wa ⟨rfl, rfl⟩))
  go_ret
  exact ⟨_, _, rfl, hI⟩
end Go.Proofs.YteijijoiifbjlaaGreatDoor

namespace Go.Proofs.YteijijoiifbjlaaGreatDoor
open Go.ChangeShapes Go.WideShapes Go.ChangeAt Go.RowKit
set_option linter.unusedVariables false

theorem run_look (w : World) (B : Nat) (es : Array MapEntry) (ck : Nat) (k : ByteArray) (i : Nat) (v : Value) (hb : w.heap[B]? = some (.map es ck)) (hf : Instr.findNow .string (.string k) es.toList 0 = some (some (i, v))) :
    (Instr.lookup 128 (.map (some B)) (.string k) true).run Tryz.prog w = .ok (.tuple #[v, .bool true]) w := by
  have hm := Tryz.underlying128
  have hd := Tryz.underlying9
  simp [Instr.lookup, run_underlying hm, MapKept.run_getObj_map hb, MapKept.run_checkKey hd (show MapKept.IsKey .string (.string k) from trivial), MapKept.run_findKey hd hf, Result.andThen]

theorem wpList_look (w : World) {ops : Array Oper} {rest : List Oper} {o : Oper} {a : Act} {Q : Exit → Act → World → Prop}
    (hg : o.guard = none) (m x : Operand) (hop : o.op = Op.lookup 128 m x true) (B : Nat) (es : Array MapEntry) (ck : Nat) (k : ByteArray) (i : Nat) (v : Value)
    (hm : a.eval m = .map (some B)) (hx : a.eval x = .string k) (hb : w.heap[B]? = some (.map es ck)) (hf : Instr.findNow .string (.string k) es.toList 0 = some (some (i, v)))
    (hK : wpList Tryz.prog ops Q rest (a.put o.dst (.tuple #[v, .bool true])) w) :
    wpList Tryz.prog ops Q (o :: rest) a w := by
  refine wpList_plain hg fun K' hK' => ?_
  have hrun := run_look w B es ck k i v hb hf
  unfold Oper.wp
  simp [execOp, hop, hm, hx, hrun, Result.andThen]
  exact hK' _ _ hK

/-- the name tells this function -/
def Named (name : ByteArray) (least most : Int) (tn : Bool) (g : Nat) (lb : Nat → Nat → Array Value) : Prop :=
  ∀ c1 c2, ∃ i, Instr.findNow .string (.string name) (fnEnts c1 c2) 0 = some (some (i, fnV least most tn (.func (.func g) #[] (lb c1 c2))))

def boxes (w : World) (c1 c2 : Nat) : Prop := w.cell? ⟨c1, 0, none⟩ = some (.func (.func 112) #[] #[]) ∧ w.cell? ⟨c2, 0, none⟩ = some (.func (.func 113) #[] #[])
theorem boxes.on {w w' : World} {c1 c2 : Nat} (h : boxes w c1 c2) (hb : Below w.heap.size w w') : boxes w' c1 c2 :=
  ⟨(hb.cell (block_lt_of_cell h.1)).trans h.1, (hb.cell (block_lt_of_cell h.2)).trans h.2⟩
theorem boxes.of {w W : World} {es : Array MapEntry} {ck c1 c2 : Nat} (h : FInv w W es ck [(c2, .func (.func 113) #[] #[]), (c1, .func (.func 112) #[] #[])]) : boxes W c1 c2 := by
  constructor
  · have := (h.2.2 c1 (.func (.func 112) #[] #[]) (by simp)).2
    simp [World.cell?, this]
  · have := (h.2.2 c2 (.func (.func 113) #[] #[]) (by simp)).2
    simp [World.cell?, this]

theorem boxes.lt {w W : World} {o : Obj} {es : Array MapEntry} {ck c1 c2 : Nat} (h : FInv (w.alloc o) W es ck [(c2, .func (.func 113) #[] #[]), (c1, .func (.func 112) #[] #[])]) : w.heap.size < c1 ∧ w.heap.size < c2 := by
  have h1 := (h.2.2 c1 (.func (.func 112) #[] #[]) (by simp)).1
  have h2 := (h.2.2 c2 (.func (.func 113) #[] #[]) (by simp)).1
  simp at h1 h2
  omega
theorem boxes.set {w : World} {c1 c2 b o : Nat} {v : Value} (h : boxes w c1 c2) (h1 : b < c1 ∧ b < c2) : boxes (w.setCell ⟨b, o, none⟩ v) c1 c2 :=
  ⟨(World.cell?_setCell_far w ⟨b, o, none⟩ ⟨c1, 0, none⟩ v (by show b ≠ c1; omega)).trans h.1, (World.cell?_setCell_far w ⟨b, o, none⟩ ⟨c2, 0, none⟩ v (by show b ≠ c2; omega)).trans h.2⟩
theorem boxes.alloc {w : World} {c1 c2 : Nat} (h : boxes w c1 c2) (o : Obj) : boxes (w.alloc o) c1 c2 := h.on ((Below.refl _ _).alloc (Nat.le_refl _) _)

def FindRet (w : World) (least most : Int) (tn : Bool) (g : Nat) (lb : Nat → Nat → Array Value) (e : Ending) (w' : World) : Prop :=
  ∃ c1 c2, e = .returned (.tuple #[fnV least most tn (.func (.func g) #[] (lb c1 c2)), .bool true]) ∧ boxes w' c1 c2 ∧ Below w.heap.size w w'

abbrev fbox (least most : Int) (tn : Bool) (f : Value) : Obj := .cells #[.int .i64 least, .int .i64 most, .bool tn, f] 110

theorem FInv.at1 {w W : World} {o : Obj} {es : Array MapEntry} {ck : Nat} {L : List (Nat × Value)} (h : FInv (w.alloc o) W es ck L) : W.heap[w.heap.size + 1]? = some (.map es ck) := by
  have := h.1
  simpa using this
theorem FInv.below1 {w W : World} {o : Obj} {es : Array MapEntry} {ck : Nat} {L : List (Nat × Value)} (h : FInv (w.alloc o) W es ck L) : Below (w.alloc o).heap.size (w.alloc o) W := h.2.1
theorem fbox_in {w W : World} (h : Below (w.alloc (fbox 0 0 false .nilFunc)).heap.size (w.alloc (fbox 0 0 false .nilFunc)) W) :
    W.cell? ⟨w.heap.size, 0, none⟩ = some (.int .i64 0) ∧ W.cell? ⟨w.heap.size, 1, none⟩ = some (.int .i64 0) ∧ W.cell? ⟨w.heap.size, 2, none⟩ = some (.bool false) ∧ W.cell? ⟨w.heap.size, 3, none⟩ = some .nilFunc ∧
    W.frozen? ⟨w.heap.size, 0, none⟩ = false ∧ W.frozen? ⟨w.heap.size, 1, none⟩ = false ∧ W.frozen? ⟨w.heap.size, 2, none⟩ = false ∧ W.frozen? ⟨w.heap.size, 3, none⟩ = false := by
  obtain ⟨hc, hf⟩ := bcell h
  refine ⟨?_, ?_, ?_, ?_, ?_, ?_, ?_, ?_⟩
  · rw [hc _ _ (by simp)]; simp [go_sem]
  · rw [hc _ _ (by simp)]; simp [go_sem]
  · rw [hc _ _ (by simp)]; simp [go_sem]
  · rw [hc _ _ (by simp)]; simp [go_sem]
  · rw [hf _ _ (by simp)]; simp [go_sem]
  · rw [hf _ _ (by simp)]; simp [go_sem]
  · rw [hf _ _ (by simp)]; simp [go_sem]
  · rw [hf _ _ (by simp)]; simp [go_sem]

set_option maxRecDepth 100000 in
set_option maxHeartbeats 400000 in
theorem find_yes (name : ByteArray) (least most n : Int) (tn : Bool) (g : Nat) (lb : Nat → Nat → Array Value) (hN : Named name least most tn g lb) (h1 : least ≤ n) (h2 : n ≤ most) (w : World) :
    Calls Tryz.prog 78 #[.string name, .int .i64 n] w (FindRet w least most tn g lb) := by
  have d1 : decide (n < least) = false := decide_eq_false (by omega)
  have d2 : decide (most < n) = false := decide_eq_false (by omega)
  have HN := Lib.hid hN
  clear hN
  go_enter Tryz.func78, Tryz.ntmps78
  go_wp2_with (first
    | (go_at_call 98; refine (functions_any _).mono ?_; rintro e wa ⟨c1, c2, rfl, hI⟩; obtain ⟨i, hi⟩ := HN.out c1 c2; have HM := Lib.hid (FInv.at1 hI); have HI := Lib.hid (FInv.below1 hI); have HX := Lib.hid (boxes.of hI); have HXn := Lib.hid (boxes.lt hI); have HF := Lib.hid hi; clear hI hi; obtain ⟨g0, g1, g2, g3, f0, f1, f2, f3⟩ := fbox_in HI.out; have hz : w.heap.size < wa.heap.size := (by have := HI.out.size; simp at this; omega))
    | (refine wpList_look _ rfl _ _ rfl _ _ _ _ _ _ rfl rfl HM.out HF.out ?_))
  refine bodyPost_ret (v := .tuple #[fnV least most tn (.func (.func g) #[] (lb c1 c2)), .bool true]) (by simp [results, Tryz.results78, go_sem, g0, g1, g2, g3, hz]) rfl ⟨c1, c2, rfl, ?_, ?_⟩
  · exact ((((HX.out.set HXn.out).set HXn.out).set HXn.out).set HXn.out).alloc _
  · exact (((((((Below.refl w.heap.size w).alloc (Nat.le_refl _) _).trans (HI.out.mono (by simp))).setCell (by simp) _).setCell (by simp) _).setCell (by simp) _).setCell (by simp) _).alloc (by simp; omega) _
end Go.Proofs.YteijijoiifbjlaaGreatDoor
