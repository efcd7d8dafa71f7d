/-
  record.Unkey, of any bytes and flags: the row whose key they are, or ErrBytes. Conditions: sizes.
-/
import Derived.Test.YtdhdfeiobjmdaaaRCutP
import Derived.Test.YtdhdfeiobjmdaaaRShortW
namespace Go.Proofs.Ytdhdfeiobjmdaaa
open Go.ChangeShapes Go.WideShapes Go.ChangeAt Go.RowKit
set_option linter.unusedVariables false

/-- the row whose key by these flags this is -/
def getK : List Bool → List UInt8 → Option (List Trip)
  | [], b => if b = [] then some [] else none
  | d :: ds, b => (getP (turnU d) b).bind fun p => (getK ds p.2).map (p.1 :: ·)
def addK (vs : List Trip) (o : Option (List Trip)) : Option (List Trip) := o.map (vs ++ ·)
theorem getK_end {ds : List Bool} {b : List UInt8} {vs : List Trip} {i : Nat} (h : ds.length ≤ i) : addK vs (getK (ds.drop i) b) = if b = [] then some vs else none := by
  rw [List.drop_eq_nil_of_le h, getK]
  by_cases hb : b = []
  · simp [hb, addK]
  · simp [hb, addK]
theorem getK_no {ds : List Bool} {b : List UInt8} {vs : List Trip} {i : Nat} {d : Bool} (h : ds[i]? = some d) (hp : getP (turnU d) b = none) : addK vs (getK (ds.drop i) b) = none := by
  rw [List.drop_eq_getElem_cons (List.getElem?_eq_some_iff.1 h).1, (List.getElem?_eq_some_iff.1 h).2, getK, hp]
  rfl
theorem getK_step {ds : List Bool} {b r : List UInt8} {vs : List Trip} {i : Nat} {d : Bool} {t : Trip} (h : ds[i]? = some d) (hp : getP (turnU d) b = some (t, r)) : addK vs (getK (ds.drop i) b) = addK (vs ++ [t]) (getK (ds.drop (i + 1)) r) := by
  rw [List.drop_eq_getElem_cons (List.getElem?_eq_some_iff.1 h).1, (List.getElem?_eq_some_iff.1 h).2, getK, hp]
  show addK vs ((getK (ds.drop (i + 1)) r).map (t :: ·)) = _
  cases getK (ds.drop (i + 1)) r <;> simp [addK]
def UnkPost (w : World) (o : Option (List Trip)) (e : Ending) (w' : World) : Prop :=
  (match o with
    | none => e = .returned (.tuple #[.slice none 0 0, .int .i64 10])
    | some vs => ∃ v, e = .returned (.tuple #[v, .int .i64 0]) ∧ OwnR w' w.heap.size v vs) ∧ Below w.heap.size w w'
theorem run_makeR (n : Nat) (hn : n ≤ 1000000) (w : World) : (Instr.makeSlice 31 (.int .i64 0) (.int .i64 (n : Int))).run Try.prog w = .ok (.slice (some ⟨w.heap.size, 0, none⟩) 0 n) (w.alloc (.cells (madeCells (vv 0 0 ⟨#[]⟩).cells (n * 3)) 29)) := by
  obtain ⟨i0, hi, hz0, hz1, hz2⟩ := info_parts Try.info_V
  have h := run_make (P := Try.prog) w 31 29 i0 (vv 0 0 ⟨#[]⟩) Try.underlying31 hi hz0 .i64 .i64 0 (n : Int) (by omega) (by omega) (by rw [hz2]; omega) (by omega)
  rw [h, hz1]
  have e2 : ((n : Int)).toNat = n := by omega
  rw [e2]
  rfl
theorem ownR_below {w w' : World} {base : Nat} {v : Value} {l : List Trip} (h : OwnR w base v l) (hb : Below w.heap.size w w') : OwnR w' base v l := by
  obtain ⟨h1, h2⟩ := h
  refine ⟨h1, ?_⟩
  rcases h2 with h2 | ⟨g, cap, cur, hv, hg, hh, r⟩
  · exact .inl h2
  · have hlt : g < w.heap.size := by
      rcases Nat.lt_or_ge g w.heap.size with hlt | hge
      · exact hlt
      · rw [Array.getElem?_eq_none hge] at hh; cases hh
    exact .inr ⟨g, cap, cur, hv, hg, (hb.block g hlt).trans hh, r⟩
abbrev cell3 (k n : Int) (s : ByteArray) : Obj := .cells #[.int .u8 k, .int .i64 n, .string s] 29
theorem row_cells (X : World) (k n : Int) (s : ByteArray) : ∀ j u, (cellsL [(k, n, s)])[j]? = some u → ((X.alloc (cell3 k n s)).alloc (cell3 k n s)).cell? ((⟨X.heap.size + 1, 0, none⟩ : Addr).add j) = some u := by
  intro j u h
  rcases j with _ | _ | _ | j
  · simp [cellsL] at h; subst h; simp [Addr.add, go_sem]
  · simp [cellsL] at h; subst h; simp [Addr.add, go_sem]
  · simp [cellsL] at h; subst h; simp [Addr.add, go_sem]
  · simp [cellsL] at h
def UnkRel (w : World) (A : Option Addr) (b : List UInt8) (cap : Nat) (ds : List Bool) (R : Option (List Trip)) (row rest i : Value) (wr : World) : Prop :=
  ∃ (k : Nat) (vs : List Trip) (r : List UInt8) (A1 : Option Addr) (c1 : Nat), i = .int .i64 k ∧ k ≤ ds.length ∧ vs.length = k ∧ rest = .slice A1 r.length c1 ∧ Tail A b A1 r ∧ r.length ≤ c1 ∧ c1 ≤ cap ∧ addK vs (getK (ds.drop k) r) = R ∧ OwnR wr w.heap.size row vs ∧ Below w.heap.size w wr
end Go.Proofs.Ytdhdfeiobjmdaaa
