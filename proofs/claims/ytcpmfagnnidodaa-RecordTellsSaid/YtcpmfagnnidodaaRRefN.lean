/-
  Mathematics of the document's own Unkey (layer 3, record): what it reads of bytes that are a key's. No conditions.
-/
import Derived.Test.YtcpmfagnnidodaaRRefM
import Derived.Test.YtcpmfagnnidodaaRRefA
import Derived.Test.YtcpmfagnnidodaaRUnkL
import Derived.Test.YtcpmfagnnidodaaRBackM
namespace Go.Proofs.Ytcpmfagnnidodaa
open Go.Lib Go.ChangeShapes Go.WideShapes Go.ChangeAt Go.RowKit
set_option linter.unusedVariables false

def FormK (b : List UInt8) (ds : List Bool) (vs : List Trip) : Prop := FineR vs ∧ vs.length = ds.length ∧ b = keyL vs ds
theorem noneK_of {b : List UInt8} {ds : List Bool} (h : ∀ vs, ¬ FormK b ds vs) : unkN ds b = none := by
  unfold unkN
  split
  · cases e : getK ds b with
    | none => rfl
    | some vs =>
      obtain ⟨h1, h2, h3⟩ := getK_inv _ _ _ e
      exact absurd ⟨h2, h3, h1⟩ (h vs)
  · rfl
theorem someK_of {b : List UInt8} {ds : List Bool} {rs : List Trip} (h : FormK b ds rs) (hd : ds.length ≤ 200) (hb : b.length ≤ 1048576) : unkN ds b = some rs := by
  obtain ⟨h1, h2, rfl⟩ := h
  unfold unkN
  rw [if_pos ⟨hd, hb⟩]
  have := getK_key rs ds [] h1 h2
  simpa using this

/-- a text behind its kind, as the document reads it -/
def unR : List UInt8 → List UInt8
  | c :: d :: l => if c.toNat = 0 then (if d.toNat = 0 then [] else 0 :: unR l) else c :: unR (d :: l)
  | _ => []
theorem unR_len : ∀ (m : Nat) (l : List UInt8), l.length ≤ m → (unR l).length ≤ l.length
  | _, [], _ => by simp [unR]
  | _, [c], _ => by simp [unR]
  | 0, c :: d :: l, h => by simp at h
  | m + 1, c :: d :: l, h => by
    have h1 := unR_len m (d :: l) (by simp at h ⊢; omega)
    have h2 := unR_len m l (by simp at h ⊢; omega)
    unfold unR
    split
    · split <;> simp <;> omega
    · simp at h1 ⊢; omega
theorem unR_str (r : List UInt8) : ∀ s : List UInt8, unR (strN s ++ r) = s
  | [] => by simp [strN, escL, unR]
  | c :: s => by
    have ih := unR_str r s
    have hne : ∃ d l, strN s ++ r = d :: l := by
      unfold strN
      cases h : escL s with
      | nil => exact ⟨_, _, rfl⟩
      | cons d l => exact ⟨_, _, rfl⟩
    obtain ⟨d, l, hdl⟩ := hne
    have e : strN (c :: s) ++ r = esc c ++ (strN s ++ r) := by simp [strN, escL]
    rw [e]
    by_cases h0 : c = 0
    · subst h0
      have e1 : esc 0 = [0, 255] := rfl
      rw [e1]
      show unR (0 :: 255 :: (strN s ++ r)) = _
      unfold unR
      rw [if_pos (show (0 : UInt8).toNat = 0 from rfl), if_neg (show ¬ (255 : UInt8).toNat = 0 by decide), ih]
    · have e1 : esc c = [c] := by unfold esc; rw [if_neg]; intro h; exact h0 (by simpa using h)
      rw [e1]
      show unR (c :: (strN s ++ r)) = _
      rw [hdl] at ih ⊢
      unfold unR
      rw [if_neg, ih]
      intro h
      exact h0 (UInt8.toNat_inj.1 h)

theorem step_wrap (a : Nat) (c : UInt8) : stepR (wrap64 (a : Int)) c = wrap64 ((a * 256 + c.toNat : Nat) : Int) := by
  have hc := c.toNat_lt
  unfold stepR
  generalize c.toNat = d at *
  unfold wrap64
  omega
def foldU (l : List UInt8) (a : Nat) : Nat := l.foldl (fun n c => n * 256 + c.toNat) a
theorem foldU_cons (c : UInt8) (l : List UInt8) (a : Nat) : foldU (c :: l) a = foldU l (a * 256 + c.toNat) := rfl
theorem fold_gen (F : Nat → Int) (S : Int → UInt8 → Int) (h : ∀ (a : Nat) (c : UInt8), S (F a) c = F (a * 256 + c.toNat)) : ∀ (l : List UInt8) (a : Nat), l.foldl S (F a) = F (foldU l a)
  | [], a => rfl
  | c :: l, a => by
    have ih := fold_gen F S h l (a * 256 + c.toNat)
    rw [List.foldl_cons, h, ih, foldU_cons]
def wrapN (a : Nat) : Int := wrap64 (a : Int)
theorem fold_wrap (l : List UInt8) (a : Nat) : l.foldl stepR (wrapN a) = wrapN (foldU l a) := fold_gen wrapN stepR (fun a c => by unfold wrapN; exact step_wrap a c) l a
theorem wrap_zero : wrapN 0 = 0 := by unfold wrapN wrap64; omega
def xminR (m : Int) : Int := if m < 0 then m + 9223372036854775808 else m - 9223372036854775808
def numK (l : List UInt8) : Int := xminR ((l.take 8).foldl stepR 0)
theorem numK_be {n : Int} (h : In64 n) (r : List UInt8) : numK (beN (intN n) 8 ++ r) = n := by
  have h0 := fold_wrap ((beN (intN n) 8 ++ r).take 8) 0
  have h1 := numN_be 0 (intN n) r 8 0
  rw [turn0] at h1
  have e : (fun (n : Nat) (c : UInt8) => n * 256 + (c ^^^ 0).toNat) = fun n c => n * 256 + c.toNat := by funext n c; simp
  rw [e] at h1
  change foldU ((beN (intN n) 8 ++ r).take 8) 0 = _ at h1
  have hw := wrap_zero
  rw [h1, hw] at h0
  unfold numK
  rw [h0]
  obtain ⟨h2, h3⟩ := h
  unfold xminR wrapN wrap64 intN
  have hp : (256 : Nat) ^ 8 = 18446744073709551616 := by decide
  rw [hp]
  split <;> omega

/-- a part, turned back, as the document reads it -/
def refKVal : List UInt8 → Trip
  | [] => (0, 0, ⟨#[]⟩)
  | c :: l => if c.toNat = 1 then (0, 0, ⟨#[]⟩) else if c.toNat = 2 then (1, numK l, ⟨#[]⟩) else if c.toNat = 3 then (2, 0, ⟨(unR l).toArray⟩) else (3, 0, ⟨(unR l).toArray⟩)
theorem refKVal_part (k n : Int) (s : ByteArray) (r : List UInt8) (hr : Rt k n s) (hn : In64 n) : refKVal (partL k n s ++ r) = (k, n, s) := by
  have hsa : (⟨s.data.toList.toArray⟩ : ByteArray) = s := by rcases s with ⟨⟨l⟩⟩; rfl
  rcases hr with ⟨rfl, rfl, hz⟩ | ⟨rfl, hz⟩ | ⟨rfl | rfl, rfl, hz⟩
  · rw [none_bytes s hz]
    rfl
  · have e : partL 1 n s ++ r = 2 :: (beN (intN n) 8 ++ r) := rfl
    rw [e, none_bytes s hz]
    show (1, numK (beN (intN n) 8 ++ r), (⟨#[]⟩ : ByteArray)) = _
    rw [numK_be hn]
  · have e : partL 2 0 s ++ r = 3 :: (strN s.data.toList ++ r) := rfl
    rw [e]
    show (2, 0, (⟨(unR (strN s.data.toList ++ r)).toArray⟩ : ByteArray)) = _
    rw [unR_str, hsa]
  · have e : partL 3 0 s ++ r = 4 :: (strN s.data.toList ++ r) := rfl
    rw [e]
    show (3, 0, (⟨(unR (strN s.data.toList ++ r)).toArray⟩ : ByteArray)) = _
    rw [unR_str, hsa]
theorem part_first (k n : Int) (s : ByteArray) (hr : Rt k n s) : ∃ c l, partL k n s = c :: l ∧ 1 ≤ c.toNat ∧ c.toNat ≤ 4 ∧ (c.toNat = 2 → l.length = 8) := by
  rcases hr with ⟨rfl, _, _⟩ | ⟨rfl, _⟩ | ⟨rfl | rfl, _, _⟩
  · exact ⟨1, [], rfl, by decide, by decide, by decide⟩
  · exact ⟨2, beN (intN n) 8, rfl, by decide, by decide, fun _ => beN_length _ _⟩
  · exact ⟨3, _, rfl, by decide, by decide, fun h => absurd h (by decide)⟩
  · exact ⟨4, _, rfl, by decide, by decide, fun h => absurd h (by decide)⟩
theorem wrap_64 (a : Nat) : In64 (wrapN a) := by unfold wrapN wrap64 In64; omega
theorem xmin_64 {a : Int} (h : In64 a) : In64 (xminR a) := by
  obtain ⟨h1, h2⟩ := h
  unfold xminR In64
  split <;> omega
theorem refKVal_fine (x : List UInt8) (h : x.length ≤ 65000) : Rt (refKVal x).1 (refKVal x).2.1 (refKVal x).2.2 ∧ In64 (refKVal x).2.1 := by
  have z64 : In64 0 := ⟨by decide, by decide⟩
  cases x with
  | nil => exact ⟨.inl ⟨rfl, rfl, rfl⟩, z64⟩
  | cons c l =>
    have hl := unR_len l.length l (Nat.le_refl _)
    simp only [List.length_cons] at h
    have hs : (⟨(unR l).toArray⟩ : ByteArray).size ≤ 65536 := by simp [ByteArray.size]; omega
    by_cases h1 : c.toNat = 1
    · have e : refKVal (c :: l) = (0, 0, ⟨#[]⟩) := by rw [refKVal, if_pos h1]
      rw [e]
      exact ⟨.inl ⟨rfl, rfl, rfl⟩, z64⟩
    · by_cases h2 : c.toNat = 2
      · have e : refKVal (c :: l) = (1, numK l, ⟨#[]⟩) := by rw [refKVal, if_neg h1, if_pos h2]
        rw [e]
        refine ⟨.inr (.inl ⟨rfl, rfl⟩), ?_⟩
        have h0 := fold_wrap (l.take 8) 0
        have hw := wrap_zero
        rw [hw] at h0
        show In64 (numK l)
        unfold numK
        rw [h0]
        exact xmin_64 (wrap_64 _)
      · by_cases h3 : c.toNat = 3
        · have e : refKVal (c :: l) = (2, 0, ⟨(unR l).toArray⟩) := by rw [refKVal, if_neg h1, if_neg h2, if_pos h3]
          rw [e]
          exact ⟨.inr (.inr ⟨.inl rfl, rfl, hs⟩), z64⟩
        · have e : refKVal (c :: l) = (3, 0, ⟨(unR l).toArray⟩) := by rw [refKVal, if_neg h1, if_neg h2, if_neg h3]
          rw [e]
          exact ⟨.inr (.inr ⟨.inr rfl, rfl, hs⟩), z64⟩

def C3 (b : List UInt8) (ds : List Bool) (rs : List Trip) (p : Nat) : Prop := ∀ vs, FormK b ds vs → rs = vs.take rs.length ∧ p = (keyL rs (ds.take rs.length)).length
theorem C3_zero (b : List UInt8) (ds : List Bool) : C3 b ds [] 0 := fun vs _ => ⟨by simp, by simp [keyL]⟩
theorem turn_back (t : UInt8) (l : List UInt8) : turnL t (turnL t l) = l := by
  unfold turnL
  rw [List.map_map]
  have : ((fun x => x ^^^ t) ∘ fun x => x ^^^ t) = id := by funext c; exact xor_back c t
  rw [this, List.map_id]
theorem C3_at {b : List UInt8} {ds : List Bool} {rs : List Trip} {p : Nat} {d : Bool} (h : C3 b ds rs p) (hd : ds[rs.length]? = some d) {vs : List Trip} (hf : FormK b ds vs) :
    ∃ v r, vs[rs.length]? = some v ∧ turnL (turnU d) (b.drop p) = partL v.1 v.2.1 v.2.2 ++ r ∧ Rt v.1 v.2.1 v.2.2 ∧ In64 v.2.1 := by
  obtain ⟨h1, h2⟩ := h vs hf
  obtain ⟨g1, g2, g3⟩ := hf
  have hlt : rs.length < ds.length := (List.getElem?_eq_some_iff.1 hd).1
  have hlv : rs.length < vs.length := by omega
  have hv : vs[rs.length]? = some vs[rs.length] := List.getElem?_eq_getElem hlv
  obtain ⟨hr, h64⟩ := g1 _ (List.mem_of_getElem? hv)
  generalize vs[rs.length] = v at *
  obtain ⟨k, n, s⟩ := v
  have ev : vs = rs ++ ((k, n, s) :: vs.drop (rs.length + 1)) := by
    have := List.take_append_drop rs.length vs
    rw [← h1, List.drop_eq_getElem_cons hlv] at this
    rw [(List.getElem?_eq_some_iff.1 hv).2] at this
    exact this.symm
  have ed : ds = ds.take rs.length ++ (d :: ds.drop (rs.length + 1)) := by
    have := List.take_append_drop rs.length ds
    rw [List.drop_eq_getElem_cons hlt, (List.getElem?_eq_some_iff.1 hd).2] at this
    exact this.symm
  have ek : keyL vs ds = keyL rs (ds.take rs.length) ++ (turnL (turnU d) (partL k n s) ++ keyL (vs.drop (rs.length + 1)) (ds.drop (rs.length + 1))) := by
    conv => lhs; rw [ev, ed]
    rw [keyL_append _ _ _ _ (by rw [List.length_take]; omega)]
    rfl
  refine ⟨(k, n, s), turnL (turnU d) (keyL (vs.drop (rs.length + 1)) (ds.drop (rs.length + 1))), hv, ?_, hr, h64⟩
  rw [g3, ek, h2, List.drop_left, turnL_append, turn_back]
theorem C3_step {b : List UInt8} {ds : List Bool} {rs : List Trip} {p : Nat} {d : Bool} {k n : Int} {s : ByteArray} (h : C3 b ds rs p) (hd : ds[rs.length]? = some d) (hv : refKVal (turnL (turnU d) (b.drop p)) = (k, n, s)) : C3 b ds (rs ++ [(k, n, s)]) (p + (turnL (turnU d) (partL k n s)).length) := by
  intro vs hf
  obtain ⟨h1, h2⟩ := h vs hf
  obtain ⟨v, r, g1, g2, g3, g4⟩ := C3_at h hd hf
  have hlt : rs.length < ds.length := (List.getElem?_eq_some_iff.1 hd).1
  rw [g2, refKVal_part _ _ _ _ g3 g4] at hv
  obtain rfl : v = (k, n, s) := hv
  constructor
  · rw [List.length_append, List.length_singleton, List.take_add_one, g1, ← h1]
    rfl
  · have hl : (rs ++ [((k, n, s) : Trip)]).length = rs.length + 1 := by simp
    rw [hl, List.take_add_one, hd]
    show _ = (keyL (rs ++ [(k, n, s)]) (ds.take rs.length ++ [d])).length
    rw [keyL_append _ _ _ _ (by rw [List.length_take]; omega), List.length_append, ← h2]
    simp [keyL]
theorem C3_bad {b : List UInt8} {ds : List Bool} {rs : List Trip} {p : Nat} {d : Bool} (h : C3 b ds rs p) (hd : ds[rs.length]? = some d)
    (hbad : ∀ c l, turnL (turnU d) (b.drop p) = c :: l → c.toNat < 1 ∨ 4 < c.toNat ∨ (c.toNat = 2 ∧ l.length < 8)) : ∀ vs, ¬ FormK b ds vs := by
  intro vs hf
  obtain ⟨v, r, _, g2, g3, g4⟩ := C3_at h hd hf
  obtain ⟨c, l, e, e1, e2, e3⟩ := part_first _ _ _ g3
  rw [e] at g2
  have := hbad c (l ++ r) g2
  rw [List.length_append] at this
  omega
theorem C3_end {b : List UInt8} {ds : List Bool} {rs : List Trip} {p : Nat} (h : C3 b ds rs p) (hl : rs.length = ds.length) {vs : List Trip} (hf : FormK b ds vs) : rs = vs := by
  obtain ⟨h1, _⟩ := h vs hf
  obtain ⟨_, g2, _⟩ := hf
  rw [h1, hl, ← g2, List.take_length]
end Go.Proofs.Ytcpmfagnnidodaa
