/-
  Which function a name tells (layer 2, value): find. No conditions.
-/
import Derived.Test.YtbelhgdogafedaaGreatDoorVMap
import Derived.Laws.EntriesVeiled
import Derived.Deep.RegionHeld
namespace Go.Proofs.YtbelhgdogafedaaGreatDoor
open Go.ChangeShapes Go.WideShapes Go.ChangeAt Go.RowKit
set_option linter.unusedVariables false

theorem run_look (w : World) (B : Nat) (es : Array MapEntry) (ck : Nat) (k : ByteArray) (i : Nat) (v : Value) (hb : w.heap[B]? = some (.map es ck)) (hf : Instr.findNow .string (.string k) es.toList 0 = some (some (i, v))) :
    (Instr.lookup 134 (.map (some B)) (.string k) true).run Tryz.prog w = .ok (.tuple #[v, .bool true]) w := by
  have hm := Tryz.underlying134
  have hd := Tryz.underlying9
  simp [Instr.lookup, run_underlying hm, MapKept.run_getObj_map hb, MapKept.run_checkKey hd (show MapKept.IsKey .string (.string k) from trivial), MapKept.run_findKey hd hf, Result.andThen]

theorem wpList_look (w : World) {ops : Array Oper} {rest : List Oper} {o : Oper} {a : Act} {Q : Exit → Act → World → Prop}
    (hg : o.guard = none) (m x : Operand) (hop : o.op = Op.lookup 134 m x true) (B : Nat) (es : Array MapEntry) (ck : Nat) (k : ByteArray) (i : Nat) (v : Value)
    (hm : a.eval m = .map (some B)) (hx : a.eval x = .string k) (hb : w.heap[B]? = some (.map es ck)) (hf : Instr.findNow .string (.string k) es.toList 0 = some (some (i, v)))
    (hK : wpList Tryz.prog ops Q rest (a.put o.dst (.tuple #[v, .bool true])) w) :
    wpList Tryz.prog ops Q (o :: rest) a w := by
  refine wpList_plain hg fun K' hK' => ?_
  have hrun := run_look w B es ck k i v hb hf
  unfold Oper.wp
  simp [execOp, hop, hm, hx, hrun, Result.andThen]
  exact hK' _ _ hK

/-- the name tells this function -/
def Named (name : ByteArray) (least most : Int) (tn : Bool) (g : Nat) (lb : Nat → Nat → Array Value) : Prop :=
  ∀ c1 c2, ∃ i, Instr.findNow .string (.string name) (fnEnts c1 c2) 0 = some (some (i, fnV least most tn (.func (.func g) #[] (lb c1 c2))))

def boxes (w : World) (c1 c2 : Nat) : Prop := w.cell? ⟨c1, 0, none⟩ = some (.func (.func 118) #[] #[]) ∧ w.cell? ⟨c2, 0, none⟩ = some (.func (.func 119) #[] #[])
theorem boxes.on {w w' : World} {c1 c2 : Nat} (h : boxes w c1 c2) (hb : Below w.heap.size w w') : boxes w' c1 c2 :=
  ⟨(hb.cell (block_lt_of_cell h.1)).trans h.1, (hb.cell (block_lt_of_cell h.2)).trans h.2⟩
theorem boxes.of {w W : World} {es : Array MapEntry} {ck c1 c2 : Nat} (h : FInv w W es ck [(c2, .func (.func 119) #[] #[]), (c1, .func (.func 118) #[] #[])]) : boxes W c1 c2 := by
  constructor
  · have := (h.2.2 c1 (.func (.func 118) #[] #[]) (by simp)).2
    simp [World.cell?, this]
  · have := (h.2.2 c2 (.func (.func 119) #[] #[]) (by simp)).2
    simp [World.cell?, this]

theorem boxes.lt {w W : World} {o : Obj} {es : Array MapEntry} {ck c1 c2 : Nat} (h : FInv (w.alloc o) W es ck [(c2, .func (.func 119) #[] #[]), (c1, .func (.func 118) #[] #[])]) : w.heap.size < c1 ∧ w.heap.size < c2 := by
  have h1 := (h.2.2 c1 (.func (.func 118) #[] #[]) (by simp)).1
  have h2 := (h.2.2 c2 (.func (.func 119) #[] #[]) (by simp)).1
  simp at h1 h2
  omega
theorem boxes.set {w : World} {c1 c2 b o : Nat} {v : Value} (h : boxes w c1 c2) (h1 : b < c1 ∧ b < c2) : boxes (w.setCell ⟨b, o, none⟩ v) c1 c2 :=
  ⟨(World.cell?_setCell_far w ⟨b, o, none⟩ ⟨c1, 0, none⟩ v (by show b ≠ c1; omega)).trans h.1, (World.cell?_setCell_far w ⟨b, o, none⟩ ⟨c2, 0, none⟩ v (by show b ≠ c2; omega)).trans h.2⟩
theorem boxes.alloc {w : World} {c1 c2 : Nat} (h : boxes w c1 c2) (o : Obj) : boxes (w.alloc o) c1 c2 := h.on ((Below.refl _ _).alloc (Nat.le_refl _) _)

def FindRet (w : World) (least most : Int) (tn : Bool) (g : Nat) (lb : Nat → Nat → Array Value) (e : Ending) (w' : World) : Prop :=
  ∃ c1 c2, e = .returned (.tuple #[fnV least most tn (.func (.func g) #[] (lb c1 c2)), .bool true]) ∧ boxes w' c1 c2 ∧ Below w.heap.size w w'

abbrev fbox (least most : Int) (tn : Bool) (f : Value) : Obj := .cells #[.int .i64 least, .int .i64 most, .bool tn, f] 116

theorem FInv.at1 {w W : World} {o : Obj} {es : Array MapEntry} {ck : Nat} {L : List (Nat × Value)} (h : FInv (w.alloc o) W es ck L) : W.heap[w.heap.size + 1]? = some (.map es ck) := by
  have := h.1
  simpa using this
theorem FInv.below1 {w W : World} {o : Obj} {es : Array MapEntry} {ck : Nat} {L : List (Nat × Value)} (h : FInv (w.alloc o) W es ck L) : Below (w.alloc o).heap.size (w.alloc o) W := h.2.1
theorem fbox_in {w W : World} (h : Below (w.alloc (fbox 0 0 false .nilFunc)).heap.size (w.alloc (fbox 0 0 false .nilFunc)) W) :
    W.cell? ⟨w.heap.size, 0, none⟩ = some (.int .i64 0) ∧ W.cell? ⟨w.heap.size, 1, none⟩ = some (.int .i64 0) ∧ W.cell? ⟨w.heap.size, 2, none⟩ = some (.bool false) ∧ W.cell? ⟨w.heap.size, 3, none⟩ = some .nilFunc ∧
    W.frozen? ⟨w.heap.size, 0, none⟩ = false ∧ W.frozen? ⟨w.heap.size, 1, none⟩ = false ∧ W.frozen? ⟨w.heap.size, 2, none⟩ = false ∧ W.frozen? ⟨w.heap.size, 3, none⟩ = false := by
  obtain ⟨hc, hf⟩ := bcell h
  refine ⟨?_, ?_, ?_, ?_, ?_, ?_, ?_, ?_⟩
  · rw [hc _ _ (by simp)]; simp [go_sem]
  · rw [hc _ _ (by simp)]; simp [go_sem]
  · rw [hc _ _ (by simp)]; simp [go_sem]
  · rw [hc _ _ (by simp)]; simp [go_sem]
  · rw [hf _ _ (by simp)]; simp [go_sem]
  · rw [hf _ _ (by simp)]; simp [go_sem]
  · rw [hf _ _ (by simp)]; simp [go_sem]
  · rw [hf _ _ (by simp)]; simp [go_sem]

set_option maxRecDepth 100000 in
set_option maxHeartbeats 400000 in
theorem find_yes (name : ByteArray) (least most n : Int) (tn : Bool) (g : Nat) (lb : Nat → Nat → Array Value) (hN : Named name least most tn g lb) (h1 : least ≤ n) (h2 : n ≤ most) (w : World) :
    Calls Tryz.prog 84 #[.string name, .int .i64 n] w (FindRet w least most tn g lb) := by
  have d1 : decide (n < least) = false := decide_eq_false (by omega)
  have d2 : decide (most < n) = false := decide_eq_false (by omega)
  have HN := Lib.hid hN
  clear hN
  go_enter Tryz.func84, Tryz.ntmps84
  go_wp2_with (first
    | (go_at_call 104; refine (functions_any _).mono ?_; rintro e wa ⟨c1, c2, rfl, hI⟩; obtain ⟨i, hi⟩ := HN.out c1 c2; have HM := Lib.hid (FInv.at1 hI); have HI := Lib.hid (FInv.below1 hI); have HX := Lib.hid (boxes.of hI); have HXn := Lib.hid (boxes.lt hI); have HF := Lib.hid hi; clear hI hi; obtain ⟨g0, g1, g2, g3, f0, f1, f2, f3⟩ := fbox_in HI.out; have hz : w.heap.size < wa.heap.size := (by have := HI.out.size; simp at this; omega))
    | (refine wpList_look _ rfl _ _ rfl _ _ _ _ _ _ rfl rfl HM.out HF.out ?_))
  refine bodyPost_ret (v := .tuple #[fnV least most tn (.func (.func g) #[] (lb c1 c2)), .bool true]) (by simp [results, Tryz.results84, go_sem, g0, g1, g2, g3, hz]) rfl ⟨c1, c2, rfl, ?_, ?_⟩
  · exact ((((HX.out.set HXn.out).set HXn.out).set HXn.out).set HXn.out).alloc _
  · exact (((((((Below.refl w.heap.size w).alloc (Nat.le_refl _) _).trans (HI.out.mono (by simp))).setCell (by simp) _).setCell (by simp) _).setCell (by simp) _).setCell (by simp) _).alloc (by simp; omega) _
end Go.Proofs.YtbelhgdogafedaaGreatDoor
