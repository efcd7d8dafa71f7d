/-
  Mathematics of the document's own Get (layer 3, record): what it reads of bytes that are a row's. No conditions.
-/
import Derived.Test.YtcpmfagnnidodaaRBackW
import Derived.Test.YtcpmfagnnidodaaPowMath
namespace Go.Proofs.Ytcpmfagnnidodaa
open Go.Lib Go.ChangeShapes Go.WideShapes Go.ChangeAt Go.RowKit
set_option linter.unusedVariables false

def Form (b : List UInt8) (vs : List Trip) : Prop := FineR vs ∧ vs.length ≤ 200 ∧ b = putL vs
theorem none_of {b : List UInt8} (h : ∀ vs, ¬ Form b vs) : getN b = none := by
  cases e : getN b with
  | none => rfl
  | some vs =>
    obtain ⟨h1, h2, h3, _⟩ := getN_inv e
    exact absurd ⟨h2, h3, h1⟩ (h vs)
theorem some_of {b : List UInt8} {rs : List Trip} (h : Form b rs) (hb : b.length ≤ 1048576) : getN b = some rs := by
  obtain ⟨h1, h2, rfl⟩ := h
  have := getN_put rs [] h1 h2 (by simpa using hb)
  simpa using this

abbrev srt (v : Trip) : Nat := sortN v.1 v.2.1 v.2.2
theorem sortsL_split (vs : List Trip) (i : Nat) (h : i < vs.length) : sortsL vs = sortsL (vs.take i) ++ (uvarint (srt vs[i]) ++ sortsL (vs.drop (i + 1))) := by
  have e : vs = vs.take i ++ (vs[i] :: vs.drop (i + 1)) := by rw [← List.drop_eq_getElem_cons h, List.take_append_drop]
  conv => lhs; rw [e, sortsL_append]
  rfl
theorem bodiesL_split (vs : List Trip) (i : Nat) (h : i < vs.length) : bodiesL vs = bodiesL (vs.take i) ++ (bodyL vs[i].1 vs[i].2.1 vs[i].2.2 ++ bodiesL (vs.drop (i + 1))) := by
  have e : vs = vs.take i ++ (vs[i] :: vs.drop (i + 1)) := by rw [← List.drop_eq_getElem_cons h, List.take_append_drop]
  conv => lhs; rw [e, bodiesL_append]
  rfl

def C1 (b : List UInt8) (n : Nat) (zs : List Nat) (p : Nat) : Prop := ∀ vs, Form b vs → n = vs.length ∧ zs = (vs.take zs.length).map srt ∧ p = (uvarint vs.length ++ sortsL (vs.take zs.length)).length
theorem first_at {b : List UInt8} {vs : List Trip} (h : Form b vs) : uintAt b 0 = (vs.length, (uvarint vs.length).length, 0) := by
  obtain ⟨_, h2, rfl⟩ := h
  have := uintAt_enc [] (sortsL vs ++ bodiesL vs) vs.length 0 rfl (by omega)
  rw [List.nil_append] at this
  rw [putL, headL, List.append_assoc, this]
  simp
theorem C1_zero {b : List UInt8} {n p : Nat} (h : uintAt b 0 = (n, p, 0)) : C1 b n [] p := by
  intro vs hf
  have := first_at hf
  rw [h] at this
  simp only [Prod.mk.injEq] at this
  exact ⟨this.1, by simp, by simp [sortsL, this.2.1]⟩
theorem first_bad {b : List UInt8} (h : (uintAt b 0).2.2 ≠ 0 ∨ 200 < (uintAt b 0).1) : ∀ vs, ¬ Form b vs := by
  intro vs hf
  have e := first_at hf
  rw [e] at h
  have := hf.2.1
  simp at h
  omega
theorem C1_at {b : List UInt8} {n p : Nat} {zs : List Nat} (h : C1 b n zs p) (hn : zs.length < n) {vs : List Trip} (hf : Form b vs) : ∃ h : zs.length < vs.length, uintAt b p = (srt vs[zs.length], (uvarint vs.length ++ sortsL (vs.take (zs.length + 1))).length, 0) ∧ srt vs[zs.length] ≤ 2 * b.length + 11 := by
  obtain ⟨h1, h2, h3⟩ := h vs hf
  obtain ⟨g1, g2, g3⟩ := hf
  have hlt : zs.length < vs.length := by omega
  refine ⟨hlt, ?_⟩
  have hs := sortsL_split vs zs.length hlt
  obtain ⟨hr, h64⟩ := g1 _ (List.getElem_mem hlt)
  have hsz := rt_size hr
  have hsn := sortN_lt vs[zs.length].1 vs[zs.length].2.1 vs[zs.length].2.2 hsz
  have e : b = (uvarint vs.length ++ sortsL (vs.take zs.length)) ++ (uvarint (srt vs[zs.length]) ++ (sortsL (vs.drop (zs.length + 1)) ++ bodiesL vs)) := by
    rw [g3, putL, headL, hs]
    simp only [List.append_assoc]
  constructor
  · rw [e, uintAt_enc _ _ _ _ (by rw [h3]) (by simp only [srt]; omega)]
    have ht := sortsL_take (vs := vs) (j := zs.length) (k := vs[zs.length].1) (n := vs[zs.length].2.1) (s := vs[zs.length].2.2) (by rw [List.getElem?_eq_getElem hlt])
    rw [ht]
    simp only [List.length_append, srt]
    congr 2
    omega
  · have hb := bodiesL_split vs zs.length hlt
    have hlb : (bodyL vs[zs.length].1 vs[zs.length].2.1 vs[zs.length].2.2).length ≤ b.length := by
      rw [g3, putL, hb]
      simp only [List.length_append]
      omega
    have hbn := sort_body _ _ _ hr h64
    unfold bodyN at hbn
    simp only [srt]
    split at hbn <;> omega
theorem C1_step {b : List UInt8} {n p k q : Nat} {zs : List Nat} (h : C1 b n zs p) (hn : zs.length < n) (hu : uintAt b p = (k, q, 0)) : C1 b n (zs ++ [k]) q := by
  intro vs hf
  obtain ⟨h1, h2, h3⟩ := h vs hf
  obtain ⟨hlt, e, _⟩ := C1_at h hn hf
  rw [hu] at e
  simp only [Prod.mk.injEq] at e
  refine ⟨h1, ?_, ?_⟩
  · rw [List.length_append, List.length_singleton, List.take_add_one, List.getElem?_eq_getElem hlt, List.map_append, ← h2, e.1]
    rfl
  · have hl : (zs ++ [k]).length = zs.length + 1 := by simp
    rw [hl]
    exact e.2.1
theorem C1_bad {b : List UInt8} {n p : Nat} {zs : List Nat} (h : C1 b n zs p) (hn : zs.length < n) (hu : (uintAt b p).2.2 ≠ 0 ∨ 2 * b.length + 11 < (uintAt b p).1) : ∀ vs, ¬ Form b vs := by
  intro vs hf
  obtain ⟨hlt, e, h2⟩ := C1_at h hn hf
  rw [e] at hu
  simp at hu
  omega

/-- a number as the document reads it -/
def stepR (n : Int) (d : UInt8) : Int := wrap64 (wrap64 (n * 256) + d.toNat)
def startR (l : List UInt8) : Int := match l with | c :: _ => (if 128 ≤ c.toNat then -1 else 0) | [] => 0
def numR (l : List UInt8) : Int := l.foldl stepR (startR l)
theorem stepR_fold : ∀ (l : List UInt8) (j : Nat) (n : Int), j + l.length ≤ 7 → -128 * 256 ^ j ≤ n → n ≤ 128 * 256 ^ j - 1 → l.foldl stepR n = l.foldl (fun n d => wrap64 (n * 256) + (d.toNat : Int)) n
  | [], j, n, hj, h1, h2 => rfl
  | c :: l, j, n, hj, h1, h2 => by
    simp only [List.length_cons] at hj
    have hc := c.toNat_lt
    have hle : (256 : Int) ^ j ≤ 256 ^ 6 := by
      have : (256 : Nat) ^ j ≤ 256 ^ 6 := Nat.pow_le_pow_right (by omega) (by omega)
      have h2 := Int.ofNat_le.2 this
      rw [pc, pc] at h2
      exact h2
    have hp : (256 : Int) ^ (j + 1) = 256 ^ j * 256 := Int.pow_succ _ _
    have hw : wrap64 (n * 256) = n * 256 := by unfold wrap64; omega
    have hw2 : wrap64 (n * 256 + (c.toNat : Int)) = n * 256 + (c.toNat : Int) := by unfold wrap64; omega
    have ih := stepR_fold l (j + 1) (n * 256 + (c.toNat : Int)) (by omega) (by rw [hp]; omega) (by rw [hp]; omega)
    rw [List.foldl_cons, List.foldl_cons]
    have e : stepR n c = n * 256 + (c.toNat : Int) := by unfold stepR; rw [hw, hw2]
    rw [e, hw]
    exact ih
theorem numR_sig (c : UInt8) (l : List UInt8) (h : l.length ≤ 7) : numR (c :: l) = sigN c l := by
  have hc := c.toNat_lt
  have hf := sig_first c
  unfold numR sigN
  rw [List.foldl_cons, hf]
  have e : stepR (startR (c :: l)) c = if c.toNat < 128 then (c.toNat : Int) else (c.toNat : Int) - 256 := by
    unfold stepR startR wrap64
    simp only
    by_cases h1 : c.toNat < 128
    · rw [if_neg (by omega), if_pos h1]; omega
    · rw [if_pos (by omega), if_neg h1]; omega
  rw [e]
  refine stepR_fold l 0 _ (by omega) ?_ ?_ <;> split <;> simp <;> omega
theorem numR_be {n : Int} (h : In64 n) : numR (beN (u64N n) (lenI n)) = n := by
  obtain ⟨h1, h2, _⟩ := lenI_fits h
  have hl := beN_length (u64N n) (lenI n)
  cases e : beN (u64N n) (lenI n) with
  | nil => rw [e] at hl; simp at hl; omega
  | cons c l =>
    rw [e] at hl
    simp only [List.length_cons] at hl
    rw [numR_sig c l (by omega)]
    exact sig_be h e

def refVal (k : Nat) (l : List UInt8) : Trip := if k = 0 then (0, 0, ⟨#[]⟩) else if k < 10 then (1, numR (l.take k), ⟨#[]⟩) else ((if k % 2 = 1 then 2 else 3), 0, ⟨(l.take ((k - 10) / 2)).toArray⟩)
theorem refVal_body (k n : Int) (s : ByteArray) (r : List UInt8) (hr : Rt k n s) (hn : In64 n) : refVal (sortN k n s) (bodyL k n s ++ r) = (k, n, s) := by
  have hb := sort_body k n s hr hn
  have ht : (bodyL k n s ++ r).take (bodyN (sortN k n s)) = bodyL k n s := by rw [hb, List.take_left]
  rcases hr with ⟨rfl, rfl, hz⟩ | ⟨rfl, hz⟩ | ⟨h23, rfl, hz⟩
  · rw [none_bytes s hz]
    rfl
  · obtain ⟨h1, h2, _⟩ := lenI_fits hn
    have e : sortN 1 n s = lenI n := rfl
    rw [e] at ht ⊢
    unfold bodyN at ht
    rw [if_pos (by omega)] at ht
    unfold refVal
    rw [if_neg (by omega), if_pos (by omega), ht, none_bytes s hz]
    simp [bodyL, numR_be hn]
  · have hsa : (⟨s.data.toList.toArray⟩ : ByteArray) = s := by rcases s with ⟨⟨l⟩⟩; rfl
    rcases h23 with rfl | rfl
    · have e : sortN 2 0 s = 11 + 2 * s.size := rfl
      rw [e] at ht ⊢
      unfold bodyN at ht
      rw [if_neg (by omega)] at ht
      unfold refVal
      rw [if_neg (by omega), if_neg (by omega), ht, if_pos (by omega)]
      simp [bodyL]
    · have e : sortN 3 0 s = 10 + 2 * s.size := rfl
      rw [e] at ht ⊢
      unfold bodyN at ht
      rw [if_neg (by omega)] at ht
      unfold refVal
      rw [if_neg (by omega), if_neg (by omega), ht, if_neg (by omega)]
      simp [bodyL]

def C2 (b : List UInt8) (zs : List Nat) (rs : List Trip) (p : Nat) : Prop := ∀ vs, Form b vs → zs = vs.map srt ∧ rs = vs.take rs.length ∧ p = (headL vs ++ bodiesL (vs.take rs.length)).length
theorem C2_zero {b : List UInt8} {n p : Nat} {zs : List Nat} (h : C1 b n zs p) (hn : zs.length = n) : C2 b zs [] p := by
  intro vs hf
  obtain ⟨h1, h2, h3⟩ := h vs hf
  rw [hn, h1, List.take_length] at h2 h3
  refine ⟨h2, by simp, ?_⟩
  rw [h3]
  simp [headL, bodiesL]
theorem C2_at {b : List UInt8} {zs : List Nat} {rs : List Trip} {p k : Nat} (h : C2 b zs rs p) (hk : zs[rs.length]? = some k) {vs : List Trip} (hf : Form b vs) : ∃ hl : rs.length < vs.length, k = srt vs[rs.length] ∧ (∃ r, b.drop p = bodyL vs[rs.length].1 vs[rs.length].2.1 vs[rs.length].2.2 ++ r) ∧ k ≠ 9 ∧ p + bodyN k ≤ b.length ∧ p + bodyN k = (headL vs ++ bodiesL (vs.take (rs.length + 1))).length := by
  obtain ⟨h1, h2, h3⟩ := h vs hf
  obtain ⟨g1, g2, g3⟩ := hf
  have hlt : rs.length < vs.length := by
    rw [h1, List.getElem?_map] at hk
    rcases Nat.lt_or_ge rs.length vs.length with hlt | hge
    · exact hlt
    · rw [List.getElem?_eq_none hge] at hk; cases hk
  have hk' : k = srt vs[rs.length] := by
    rw [h1, List.getElem?_map, List.getElem?_eq_getElem hlt] at hk
    simpa using hk.symm
  have hb := bodiesL_split vs rs.length hlt
  obtain ⟨hr, h64⟩ := g1 _ (List.getElem_mem hlt)
  have hbn := sort_body _ _ _ hr h64
  have hbk : bodyN k = (bodyL vs[rs.length].1 vs[rs.length].2.1 vs[rs.length].2.2).length := by rw [hk']; exact hbn
  have e : b = (headL vs ++ bodiesL (vs.take rs.length)) ++ (bodyL vs[rs.length].1 vs[rs.length].2.1 vs[rs.length].2.2 ++ bodiesL (vs.drop (rs.length + 1))) := by
    rw [g3, putL, hb]
    simp only [List.append_assoc]
  have ht := bodiesL_take (vs := vs) (j := rs.length) (k := vs[rs.length].1) (n := vs[rs.length].2.1) (s := vs[rs.length].2.2) (by rw [List.getElem?_eq_getElem hlt])
  refine ⟨hlt, hk', ⟨bodiesL (vs.drop (rs.length + 1)), ?_⟩, ?_, ?_, ?_⟩
  · conv => lhs; rw [e, h3]
    exact List.drop_left
  · rw [hk']
    unfold srt sortN
    have := lenI_fits h64
    (repeat' split) <;> omega
  · rw [hbk]
    conv => rhs; rw [e]
    rw [h3]
    simp only [List.length_append]
    omega
  · rw [hbk, h3, ht]
    simp only [List.length_append]
    omega
theorem C2_step {b : List UInt8} {zs : List Nat} {rs : List Trip} {p k : Nat} (h : C2 b zs rs p) (hk : zs[rs.length]? = some k) : C2 b zs (rs ++ [refVal k (b.drop p)]) (p + bodyN k) := by
  intro vs hf
  obtain ⟨h1, h2, h3⟩ := h vs hf
  obtain ⟨hlt, e, ⟨r, hr⟩, _, _, hp⟩ := C2_at h hk hf
  obtain ⟨g1, _, _⟩ := hf
  obtain ⟨hrt, h64⟩ := g1 _ (List.getElem_mem hlt)
  refine ⟨h1, ?_, ?_⟩
  · rw [List.length_append, List.length_singleton, List.take_add_one, List.getElem?_eq_getElem hlt, ← h2, hr, e, refVal_body _ _ _ _ hrt h64]
    rfl
  · have hl : (rs ++ [refVal k (b.drop p)]).length = rs.length + 1 := by simp
    rw [hl]
    exact hp
theorem C2_bad {b : List UInt8} {zs : List Nat} {rs : List Trip} {p k : Nat} (h : C2 b zs rs p) (hk : zs[rs.length]? = some k) (hbad : k = 9 ∨ b.length < p + bodyN k) : ∀ vs, ¬ Form b vs := by
  intro vs hf
  obtain ⟨_, _, _, h9, hl, _⟩ := C2_at h hk hf
  omega
theorem C2_end {b : List UInt8} {zs : List Nat} {rs : List Trip} {p : Nat} (h : C2 b zs rs p) (hl : rs.length = zs.length) {vs : List Trip} (hf : Form b vs) : rs = vs := by
  obtain ⟨h1, h2, _⟩ := h vs hf
  rw [h2, hl, h1, List.length_map, List.take_length]
end Go.Proofs.Ytcpmfagnnidodaa
