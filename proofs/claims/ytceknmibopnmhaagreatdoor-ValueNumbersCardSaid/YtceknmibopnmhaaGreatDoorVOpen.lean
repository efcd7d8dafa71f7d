/-
  An argument of type api.Value: its kind, its number, its bytes; and the statements' helper right. No conditions.
-/
import Derived.Test.YtceknmibopnmhaaGreatDoorVClose
import Derived.Test.YtceknmibopnmhaaGreatDoorVArgs
import Derived.Lib.SmallJoins
namespace Go.Proofs.YtceknmibopnmhaaGreatDoor
open Go.ChangeShapes Go.WideShapes Go.ChangeAt Go.RowKit
set_option linter.unusedVariables false

set_option maxRecDepth 100000 in
theorem openV {H : Type} {enc : TypeId × Value → H} {W : World} {b0 base : Nat} {sp : Nat → Bool} {held : Bool} {v : Value} {d : DataW H} {p : List MemPlace}
    (hv : Value.okWide Tryz.prog W .any b0 24 v) (h : DataW.Trod enc Tryz.prog W base sp held 24 v d p) :
    ∃ (k n : Int) (s : ByteArray), v = vv k n s ∧ (0 ≤ k ∧ k ≤ 255) ∧ In64 n ∧ s.size ≤ maxLen := by
  obtain ⟨v0, v1, v2, y0, y1, y2, m, rfl, _, _, h0, h1, h2⟩ := Go.Joins.open_agg3 Tryz.underlying24 (by kernel_rfl) (by kernel_rfl) hv h
  obtain ⟨k, e0, _, w0⟩ := DataW.trod_int Tryz.underlying22 h0
  obtain ⟨n, e1, _, w1⟩ := DataW.trod_int Tryz.underlying2 h1
  obtain ⟨s, e2, _, w2⟩ := DataW.trod_string Tryz.underlying9 h2
  simp only [List.cons.injEq, and_true] at e0 e1 e2
  subst e0 e1 e2
  refine ⟨k, n, s, rfl, ?_, ?_, w2⟩
  · simpa [Lit.wf, IntKind.min, IntKind.max, IntKind.signed, IntKind.bits] using w0
  · unfold In64
    simpa [Lit.wf, IntKind.min, IntKind.max, IntKind.signed, IntKind.bits] using w1

/-- are all right, and short? -/
def shortR (t : Trip) : Bool := decide (Rt t.1 t.2.1 t.2.2) && decide (t.2.2.size ≤ 300)
def RightRel (w : World) (vs : List Trip) (i : Value) (wr : World) : Prop :=
  ∃ k : Nat, k ≤ vs.length ∧ i = .int .i64 k ∧ (vs.take k).all shortR = true ∧ Below w.heap.size w wr
theorem all_take_succ {vs : List Trip} {p : Trip → Bool} {k : Nat} {t : Trip} (h : vs[k]? = some t) (h0 : (vs.take k).all p = true) : (vs.take (k + 1)).all p = p t := by
  rw [List.take_add_one, h]
  simp [h0]
theorem all_not_at {vs : List Trip} {p : Trip → Bool} {k : Nat} {t : Trip} (h : vs[k]? = some t) (hp : p t = false) : vs.all p = false := by
  rw [Bool.eq_false_iff]
  intro ha
  have := List.all_eq_true.1 ha t (List.mem_of_getElem? h)
  rw [hp] at this
  cases this

end Go.Proofs.YtceknmibopnmhaaGreatDoor
