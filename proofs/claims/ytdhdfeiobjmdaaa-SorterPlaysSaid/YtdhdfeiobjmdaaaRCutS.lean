/-
  record.cutString: the text or blob whose bytes b begins with, and what is behind its end. Conditions: sizes.
-/
import Derived.Test.YtdhdfeiobjmdaaaRCut
namespace Go.Proofs.Ytdhdfeiobjmdaaa
open Go.ChangeShapes Go.WideShapes Go.ChangeAt Go.RowKit
set_option linter.unusedVariables false

/-- the string that begins here, when so many bytes of it are told, and what is behind its end -/
def getS (t : UInt8) : List UInt8 → Nat → Option (List UInt8 × List UInt8)
  | c :: d :: l, n => if 65536 < n then none else if (c ^^^ t).toNat ≠ 0 then (getS t (d :: l) (n + 1)).map (fun p => ((c ^^^ t) :: p.1, p.2))
      else if (d ^^^ t).toNat = 255 then (getS t l (n + 1)).map (fun p => (0 :: p.1, p.2))
      else if (d ^^^ t).toNat = 0 then some ([], l) else none
  | _, _ => none
def addS (xs : List UInt8) (o : Option (List UInt8 × List UInt8)) : Option (List UInt8 × List UInt8) := o.map fun p => (xs ++ p.1, p.2)
theorem getS_long (t : UInt8) (l : List UInt8) (n : Nat) (h : 65536 < n) : getS t l n = none := by
  rcases l with _ | ⟨c, _ | ⟨d, l⟩⟩
  · rfl
  · rfl
  · rw [getS, if_pos h]
theorem addS_push (xs : List UInt8) (c : UInt8) (o : Option (List UInt8 × List UInt8)) : addS xs (o.map fun p => (c :: p.1, p.2)) = addS (xs ++ [c]) o := by
  cases o <;> simp [addS]
theorem getS_other {t : UInt8} {b xs : List UInt8} {k : Nat} {c : UInt8} (h : b[k]? = some c) (hn : xs.length ≤ 65536) (h0 : (c ^^^ t).toNat ≠ 0) :
    addS xs (getS t (b.drop k) xs.length) = addS (xs ++ [c ^^^ t]) (getS t (b.drop (k + 1)) (xs ++ [c ^^^ t]).length) := by
  have e : b.drop k = c :: b.drop (k + 1) := by
    rw [List.drop_eq_getElem_cons (List.getElem?_eq_some_iff.1 h).1, (List.getElem?_eq_some_iff.1 h).2]
  rw [e, List.length_append]
  cases h2 : b.drop (k + 1) with
  | nil => simp [getS, addS]
  | cons d l =>
    rw [getS, if_neg (by omega), if_pos h0, addS_push]
    rfl
theorem getS_zero {t : UInt8} {b xs : List UInt8} {k : Nat} {c d : UInt8} (h : b[k]? = some c) (h2 : b[k + 1]? = some d) (hn : xs.length ≤ 65536) (h0 : (c ^^^ t).toNat = 0) (hd : (d ^^^ t).toNat = 255) :
    addS xs (getS t (b.drop k) xs.length) = addS (xs ++ [0]) (getS t (b.drop (k + 2)) (xs ++ [0]).length) := by
  have e : b.drop k = c :: b.drop (k + 1) := by
    rw [List.drop_eq_getElem_cons (List.getElem?_eq_some_iff.1 h).1, (List.getElem?_eq_some_iff.1 h).2]
  have e2 : b.drop (k + 1) = d :: b.drop (k + 2) := by
    rw [List.drop_eq_getElem_cons (List.getElem?_eq_some_iff.1 h2).1, (List.getElem?_eq_some_iff.1 h2).2]
  rw [e, e2, getS, if_neg (by omega), if_neg (by omega), if_pos hd, addS_push, List.length_append]
  rfl
theorem getS_end {t : UInt8} {b xs : List UInt8} {k : Nat} {c d : UInt8} (h : b[k]? = some c) (h2 : b[k + 1]? = some d) (hn : xs.length ≤ 65536) (h0 : (c ^^^ t).toNat = 0) (hd : (d ^^^ t).toNat = 0) :
    addS xs (getS t (b.drop k) xs.length) = some (xs, b.drop (k + 2)) := by
  have e : b.drop k = c :: b.drop (k + 1) := by
    rw [List.drop_eq_getElem_cons (List.getElem?_eq_some_iff.1 h).1, (List.getElem?_eq_some_iff.1 h).2]
  have e2 : b.drop (k + 1) = d :: b.drop (k + 2) := by
    rw [List.drop_eq_getElem_cons (List.getElem?_eq_some_iff.1 h2).1, (List.getElem?_eq_some_iff.1 h2).2]
  rw [e, e2, getS, if_neg (by omega), if_neg (by omega), if_neg (by omega), if_pos hd]
  simp [addS]
theorem getS_wrong {t : UInt8} {b xs : List UInt8} {k : Nat} {c d : UInt8} (h : b[k]? = some c) (h2 : b[k + 1]? = some d) (hn : xs.length ≤ 65536) (h0 : (c ^^^ t).toNat = 0) (hd : (d ^^^ t).toNat ≠ 255) (hd0 : (d ^^^ t).toNat ≠ 0) :
    addS xs (getS t (b.drop k) xs.length) = none := by
  have e : b.drop k = c :: b.drop (k + 1) := by
    rw [List.drop_eq_getElem_cons (List.getElem?_eq_some_iff.1 h).1, (List.getElem?_eq_some_iff.1 h).2]
  have e2 : b.drop (k + 1) = d :: b.drop (k + 2) := by
    rw [List.drop_eq_getElem_cons (List.getElem?_eq_some_iff.1 h2).1, (List.getElem?_eq_some_iff.1 h2).2]
  rw [e, e2, getS, if_neg (by omega), if_neg (by omega), if_neg hd, if_neg hd0]
  rfl
theorem getS_cut {t : UInt8} {b xs : List UInt8} {k : Nat} (h : b.length ≤ k + 1) : addS xs (getS t (b.drop k) xs.length) = none := by
  have hl : (b.drop k).length ≤ 1 := by rw [List.length_drop]; omega
  generalize b.drop k = l at *
  rcases l with _ | ⟨c, _ | ⟨d, l⟩⟩
  · rfl
  · rfl
  · exact absurd hl (by simp)

/-- what is told of a string's bytes: the value, what is behind it, and whether it is one -/
def CutPost (w : World) (A : Option Addr) (b : List UInt8) (kd : Int) (cap : Nat) (o : Option (List UInt8 × List UInt8)) (e : Ending) (w' : World) : Prop :=
  (match o with
    | none => e = .returned (.tuple #[vv 0 0 ⟨#[]⟩, .slice none 0 0, .bool false])
    | some (x, r) => ∃ A' c', e = .returned (.tuple #[vv kd 0 ⟨x.toArray⟩, .slice A' r.length c', .bool true]) ∧ (r.length ≤ c' ∧ c' ≤ cap) ∧ Tail A b A' r) ∧ Below w.heap.size w w'

abbrev boxC (w : World) : World := w.alloc (.cells #[.int .u8 0, .int .i64 0, .string ⟨#[]⟩] 29)
theorem cut_end (w wx : World) (hb : Below (boxC w).heap.size (boxC w) wx) (x y z : Value) :
    Below w.heap.size w (((wx.setCell ⟨w.heap.size, 0, none⟩ x).setCell ⟨w.heap.size, 1, none⟩ y).setCell ⟨w.heap.size, 2, none⟩ z) := by
  have h0 : Below w.heap.size w (boxC w) := (Below.refl w.heap.size w).alloc (Nat.le_refl _) _
  have h1 : Below w.heap.size w wx := h0.trans (hb.mono (by simp))
  exact ((h1.setCell (by simp) x).setCell (by simp) y).setCell (by simp) z
theorem cut_kept (w wx : World) {A1 : Option Addr} {n c1 : Nat} {xs : List UInt8} (h : Own wx (boxC w).heap.size (.slice A1 n c1) xs) (x y z : Value) :
    Own (((wx.setCell ⟨w.heap.size, 0, none⟩ x).setCell ⟨w.heap.size, 1, none⟩ y).setCell ⟨w.heap.size, 2, none⟩ z) (boxC w).heap.size (.slice A1 n c1) xs :=
  ownsRow_setCell_below (ownsRow_setCell_below (ownsRow_setCell_below h (by simp) x) (by simp) y) (by simp) z
def CutRel (w : World) (t : UInt8) (b : List UInt8) (R : Option (List UInt8 × List UInt8)) (s i : Value) (wr : World) : Prop :=
  ∃ (k : Nat) (xs : List UInt8), i = .int .i64 k ∧ k ≤ b.length ∧ addS xs (getS t (b.drop k) xs.length) = R ∧ Own wr (boxC w).heap.size s xs ∧ Below (boxC w).heap.size (boxC w) wr
end Go.Proofs.Ytdhdfeiobjmdaaa
