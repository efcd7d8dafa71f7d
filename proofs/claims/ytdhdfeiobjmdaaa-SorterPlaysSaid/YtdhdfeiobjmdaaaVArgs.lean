/-
  Lists of values as arguments (layer 2, value): what slices.IndexFunc and slices.ContainsFunc answer of them. Conditions: sizes.
-/
import Derived.Test.YtdhdfeiobjmdaaaVBase
namespace Go.Proofs.Ytdhdfeiobjmdaaa
open Go.ChangeShapes Go.WideShapes Go.ChangeAt Go.RowKit
set_option linter.unusedVariables false

abbrev Trip := Int × Int × ByteArray
/-- the cells from a place on hold these values -/
def RdV (w : World) (b off : Nat) (vs : List Trip) : Prop :=
  b < w.heap.size ∧ ∀ j k n s, vs[j]? = some (k, n, s) → w.cell? ⟨b, off + j * 3, none⟩ = some (.int .u8 k) ∧ w.cell? ⟨b, off + j * 3 + 1, none⟩ = some (.int .i64 n) ∧ w.cell? ⟨b, off + j * 3 + 2, none⟩ = some (.string s)
theorem RdV.on {w w' : World} {b off : Nat} {vs : List Trip} (h : RdV w b off vs) (hb : Below w.heap.size w w') : RdV w' b off vs := by
  have e : ∀ o v, w.cell? ⟨b, o, none⟩ = some v → w'.cell? ⟨b, o, none⟩ = some v := fun o v hv => (hb.cell (p := ⟨b, o, none⟩) h.1).trans hv
  exact ⟨Nat.lt_of_lt_of_le h.1 hb.size, fun j k n s hj => ⟨e _ _ (h.2 j k n s hj).1, e _ _ (h.2 j k n s hj).2.1, e _ _ (h.2 j k n s hj).2.2⟩⟩

def IdxRel (w : World) (vs : List Trip) (p : Trip → Bool) (i : Value) (wr : World) : Prop :=
  ∃ k : Nat, k ≤ vs.length ∧ i = .int .i64 k ∧ (vs.take k).any p = false ∧ Below w.heap.size w wr
def IdxRet (w : World) (vs : List Trip) (p : Trip → Bool) (e : Ending) (w' : World) : Prop :=
  ∃ z : Int, e = .returned (.int .i64 z) ∧ decide (0 ≤ z) = vs.any p ∧ Below w.heap.size w w'
theorem any_take_succ {vs : List Trip} {p : Trip → Bool} {k : Nat} {t : Trip} (h : vs[k]? = some t) (h0 : (vs.take k).any p = false) : (vs.take (k + 1)).any p = p t := by
  rw [List.take_add_one, h]
  simp [h0]
theorem any_of_at {vs : List Trip} {p : Trip → Bool} {k : Nat} {t : Trip} (h : vs[k]? = some t) (hp : p t = true) : vs.any p = true :=
  List.any_eq_true.2 ⟨t, List.mem_of_getElem? h, hp⟩

/-- is it not right? -/
def pBad (t : Trip) : Bool := !decide (Rt t.1 t.2.1 t.2.2)
/-- is it NULL? -/
def pNul (t : Trip) : Bool := t.1 == 0

end Go.Proofs.Ytdhdfeiobjmdaaa
