/-
  Layer 9: the mathematics of the document's own tokens: what is passed over, texts, blobs, numbers, signs, step by step. No conditions.
-/
import Derived.Test.YtceknmibopnmhaaDoorWMath
set_option linter.unusedVariables false
namespace Go.Proofs.YtceknmibopnmhaaDoor.M
theorem pass_blank {c : UInt8} (r : List UInt8) (h : blk c = true) : pass (c :: r) false = 1 + pass r false := by simp only [pass, h, if_true]
theorem pass_open (r : List UInt8) : pass (45 :: 45 :: r) false = pass (45 :: 45 :: r) true := by simp [pass, blk, nln]
theorem pass_in {c : UInt8} (r : List UInt8) (h : c ≠ 10) : pass (c :: r) true = 1 + pass r true := by
  have hn : nln c = true := by simp [nln, h]
  simp only [pass, hn]
theorem pass_out (r : List UInt8) : pass (10 :: r) true = pass (10 :: r) false := by simp [pass, blk, nln]
theorem pass_stop {c : UInt8} (r : List UInt8) (h : blk c = false) (h2 : ¬ (c = 45 ∧ r.head? = some 45)) : pass (c :: r) false = 0 := by
  simp only [pass, h]
  rw [if_neg (by simp), if_neg]
  intro hh
  simp only [Bool.and_eq_true, beq_iff_eq] at hh
  exact h2 hh
/-- a quoted text, byte by byte -/
theorem qt_byte {c : UInt8} (r : List UInt8) (h : c ≠ 39) : qt (c :: r) = (qt r).map (fun x => (c :: x.1, x.2 + 1)) := by
  cases r with
  | nil => simp [qt, h]
  | cons d r => simp [qt, h]
theorem qt_two (r : List UInt8) : qt (39 :: 39 :: r) = (qt r).map (fun x => (39 :: x.1, x.2 + 2)) := by simp [qt]
theorem qt_end (r : List UInt8) (h : r.head? ≠ some 39) : qt (39 :: r) = some ([], 1) := by
  cases r with
  | nil => simp [qt]
  | cons d r =>
    have hd : d ≠ 39 := by simpa using h
    simp [qt, hd]
theorem opt_map2 {o : Option (List UInt8 × Nat)} (a b : List UInt8) (m n : Nat) : ((o.map (fun x => (b ++ x.1, x.2 + n))).map (fun x => (a ++ x.1, x.2 + m))) = o.map (fun x => ((a ++ b) ++ x.1, x.2 + (n + m))) := by
  cases o with
  | none => rfl
  | some x => simp [Nat.add_assoc]
/-- a blob from behind its quote on: its bytes, and how many bytes it takes with its end -/
def blobR (w : List UInt8) : Option (List UInt8 × Nat) :=
  let n := (w.takeWhile hxd).length
  if n % 2 = 0 ∧ (w.drop n).head? = some 39 then some (pairs (w.take n), n + 1) else none
theorem blobT_R (w : List UInt8) : blobT w = match blobR w with | some (s, n) => (5, s, 0, n + 2) | none => no := by
  unfold blobT blobR
  dsimp only
  by_cases h : (w.takeWhile hxd).length % 2 = 0 ∧ (w.drop (w.takeWhile hxd).length).head? = some 39
  · rw [if_pos h, if_pos h]
  · rw [if_neg h, if_neg h]
theorem blobR_two {a b : UInt8} (w : List UInt8) (ha : hxd a = true) (hb : hxd b = true) : blobR (a :: b :: w) = (blobR w).map (fun x => ((16 * hxN a.toNat + hxN b.toNat).toNat.toUInt8 :: x.1, x.2 + 2)) := by
  unfold blobR
  have e : (a :: b :: w).takeWhile hxd = a :: b :: w.takeWhile hxd := by rw [List.takeWhile_cons_of_pos ha, List.takeWhile_cons_of_pos hb]
  rw [e]
  simp only [List.length_cons, List.drop_succ_cons, List.take_succ_cons, pairs]
  by_cases h : (w.takeWhile hxd).length % 2 = 0 ∧ (w.drop (w.takeWhile hxd).length).head? = some 39
  · rw [if_pos ⟨by omega, h.2⟩, if_pos h]
    simp
  · rw [if_neg (fun h2 => h ⟨by omega, h2.2⟩), if_neg h]
    rfl
theorem blobR_end {w : List UInt8} (h : w.head? = some 39) : blobR w = some ([], 1) := by
  cases w with
  | nil => cases h
  | cons c r =>
    obtain rfl : c = 39 := by simpa using h
    unfold blobR
    rw [List.takeWhile_cons_of_neg (by rw [hxd_39]; simp)]
    simp [pairs]
theorem blobR_none {w : List UInt8} (h : w.head? ≠ some 39) (h2 : ∀ a b r, w = a :: b :: r → hxd a = true → hxd b = true → False) : blobR w = none := by
  unfold blobR
  dsimp only
  rw [if_neg]
  rintro ⟨h3, h4⟩
  cases w with
  | nil => cases h4
  | cons a r =>
    by_cases ha : hxd a = true
    · cases r with
      | nil =>
        rw [List.takeWhile_cons_of_pos ha] at h3
        simp at h3
      | cons b r =>
        have hb : ¬ hxd b = true := fun hb => h2 a b r rfl ha hb
        rw [List.takeWhile_cons_of_pos ha, List.takeWhile_cons_of_neg hb] at h3
        simp at h3
    · rw [List.takeWhile_cons_of_neg ha] at h4
      exact h h4
/-- a number, digit by digit: within 63 bits or not -/
theorem valF_snoc (a : Nat) (l : List UInt8) (c : UInt8) : valF a (l ++ [c]) = valF a l * 10 + (c.toNat - 48) := by
  unfold valF
  rw [List.foldl_append]
  rfl
theorem valD_F (l : List UInt8) : valD l = valF 0 l := rfl
theorem valF_append (a : Nat) (l m : List UInt8) : valF a (l ++ m) = valF (valF a l) m := by
  unfold valF
  rw [List.foldl_append]
theorem numT_far {l : List UInt8} {k : Nat} (h : (l.take k).all dg = true) (hk : k ≤ l.length) (hv : 9223372036854775808 ≤ valD (l.take k)) : numT l = no := by
  have hp : l.takeWhile dg = l.take k ++ (l.drop k).takeWhile dg := by
    conv => lhs; arg 2; rw [← List.take_append_drop k l]
    generalize l.take k = u at h
    generalize l.drop k = v
    clear hk hv
    induction u with
    | nil => rfl
    | cons c u ih =>
      rw [List.all_cons, Bool.and_eq_true] at h
      rw [List.cons_append, List.takeWhile_cons_of_pos h.1, ih h.2]
      rfl
  unfold numT
  dsimp only
  rw [if_neg]
  rw [hp, valD_F, valF_append]
  have := valF_ge ((l.drop k).takeWhile dg) (valF 0 (l.take k))
  rw [valD_F] at hv
  omega
/-- the first sign of a list that stands first -/
theorem find_len (n : Nat) (l : List UInt8) : ∀ X : List (List UInt8), (∀ s ∈ X, s.length = n) → X.find? (fun s => s.isPrefixOf l) = if l.take n ∈ X then some (l.take n) else none
  | [], _ => by simp
  | s :: X, h => by
    have hs := h s (by simp)
    have ih := find_len n l X (fun t ht => h t (by simp [ht]))
    rw [List.find?_cons]
    cases hp : s.isPrefixOf l with
    | true =>
      obtain ⟨r, hr⟩ := List.isPrefixOf_iff_prefix.1 hp
      have e : l.take n = s := by rw [← hr, ← hs]; exact List.take_left
      rw [e]
      simp
    | false =>
      have hne : l.take n ≠ s := fun e => by
        have : s.isPrefixOf l = true := List.isPrefixOf_iff_prefix.2 ⟨l.drop n, by rw [← e]; exact List.take_append_drop n l⟩
        rw [hp] at this
        cases this
      dsimp only
      rw [ih]
      simp only [List.mem_cons, hne, false_or]
def sgL : List (List UInt8) := sg2 ++ sg1
theorem sgT_find (l : List UInt8) : sgT l = match sgL.find? (fun s => s.isPrefixOf l) with | some s => (6, s, 0, s.length) | none => no := by
  have h2 : ∀ s ∈ sg2, s.length = 2 := by decide
  have h1 : ∀ s ∈ sg1, s.length = 1 := by decide
  unfold sgL sgT
  rw [List.find?_append, find_len 2 l sg2 h2, find_len 1 l sg1 h1]
  unfold in2 in1
  by_cases e2 : l.take 2 ∈ sg2
  · rw [if_pos e2, if_pos (decide_eq_true e2)]
    simp only [Option.some_or, h2 _ e2]
  · rw [if_neg e2, if_neg (by simpa using e2)]
    by_cases e1 : l.take 1 ∈ sg1
    · rw [if_pos e1, if_pos (decide_eq_true e1)]
      simp only [Option.none_or, h1 _ e1]
    · rw [if_neg e1, if_neg (by simpa using e1)]
      rfl
end Go.Proofs.YtceknmibopnmhaaDoor.M
