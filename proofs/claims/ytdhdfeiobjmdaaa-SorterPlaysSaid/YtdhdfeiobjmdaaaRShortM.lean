/-
  RecordShort: how long a row is; rows that a call owns. Conditions: right rows of short texts.
-/
import Derived.Test.YtdhdfeiobjmdaaaRTurnW
namespace Go.Proofs.Ytdhdfeiobjmdaaa
open Go.ChangeShapes Go.WideShapes Go.ChangeAt Go.RowKit
set_option linter.unusedVariables false

/-- room for a value, as the statement reckons -/
def roomN (k : Int) (s : ByteArray) : Nat := if k = 0 then 1 else if k = 1 then 9 else s.size + 3
def sumM (vs : List Trip) : Nat := (vs.map fun t => roomN t.1 t.2.2).sum
theorem sumM_take {vs : List Trip} {j : Nat} {k n : Int} {s : ByteArray} (h : vs[j]? = some (k, n, s)) : sumM (vs.take (j + 1)) = sumM (vs.take j) + roomN k s := by
  rw [List.take_add_one, h]
  simp [sumM]
theorem sumM_le : ∀ (vs : List Trip), GoodR vs → sumM vs ≤ 110 * vs.length
  | [], _ => by simp [sumM]
  | (k, n, s) :: vs, h => by
    have ih := sumM_le vs fun t ht => h t (List.mem_cons_of_mem _ ht)
    have h1 : s.size ≤ 100 := (h (k, n, s) List.mem_cons_self).2.1
    have h0 : roomN k s ≤ 110 := by
      unfold roomN
      split
      · omega
      · split <;> omega
    simp only [sumM, List.map_cons, List.sum_cons, List.length_cons] at *
    omega
theorem uv_two (n : Nat) (h : n < 16384) : (Lib.uvarint n).length = if n < 128 then 1 else 2 := by
  by_cases h1 : n < 128
  · rw [Lib.uvarint_small h1, if_pos h1]
    rfl
  · rw [Lib.uvarint_big (by omega), Lib.uvarint_small (by omega), if_neg h1]
    rfl
theorem sort_good (k n : Int) (s : ByteArray) (h : s.size ≤ 100) : sortN k n s ≤ 211 := by
  have h1 : lenI n ≤ 8 := (lenF_range 7 n).2
  unfold sortN
  split
  · omega
  · split
    · omega
    · split <;> omega
theorem sumB_good : ∀ (vs : List Trip), GoodR vs → sumB vs ≤ 211 * vs.length
  | [], _ => by simp [sumB]
  | (k, n, s) :: vs, h => by
    have ih := sumB_good vs fun t ht => h t (List.mem_cons_of_mem _ ht)
    have h1 := sort_good k n s (h (k, n, s) List.mem_cons_self).2.1
    have h0 : bodyN (sortN k n s) ≤ 211 := by
      unfold bodyN
      split <;> omega
    simp only [sumB, List.map_cons, List.sum_cons, List.length_cons] at *
    omega
/-- sorts and bytes of the values, together -/
def valL (vs : List Trip) : Nat := (sortsL vs).length + (bodiesL vs).length
theorem valL_cons (k n : Int) (s : ByteArray) (vs : List Trip) : valL ((k, n, s) :: vs) = ((Lib.uvarint (sortN k n s)).length + (bodyL k n s).length) + valL vs := by
  simp only [valL, sortsL, bodiesL, List.length_append]
  omega
theorem valL_append (a b : List Trip) : valL (a ++ b) = valL a + valL b := by
  simp only [valL, sortsL_append, bodiesL_append, List.length_append]
  omega
theorem valL_range : ∀ (vs : List Trip), GoodR vs → vs.length ≤ valL vs ∧ valL vs ≤ sumM vs
  | [], _ => by simp [valL, sumM, sortsL, bodiesL]
  | (k, n, s) :: vs, h => by
    have ih := valL_range vs fun t ht => h t (List.mem_cons_of_mem _ ht)
    obtain ⟨hr, hs, hn⟩ := h (k, n, s) List.mem_cons_self
    have hs : s.size ≤ 100 := hs
    have hr : Rt k n s := hr
    have h1 := sort_good k n s hs
    have h2 := uv_two (sortN k n s) (by omega)
    have h3 : lenI n ≤ 8 := (lenF_range 7 n).2
    have h4 : s.data.toList.length = s.size := by rcases s with ⟨⟨l⟩⟩; rfl
    have hone : 1 ≤ (Lib.uvarint (sortN k n s)).length := Lib.uvarint_pos _
    have hroom : (Lib.uvarint (sortN k n s)).length + (bodyL k n s).length ≤ roomN k s := by
      rcases hr with ⟨rfl, _, hz⟩ | ⟨rfl, hz⟩ | ⟨hk, _, _⟩
      · have e : sortN 0 n s = 0 := by simp [sortN]
        rw [e] at h2 ⊢
        rw [h2]
        simp only [bodyL, roomN]
        simp [h4, hz]
      · have e : sortN 1 n s = lenI n := by simp [sortN]
        rw [e] at h2 ⊢
        rw [h2, if_pos (by omega)]
        simp only [bodyL, roomN]
        simp [beN_length]
        omega
      · have hk1 : k ≠ 1 := by omega
        have hk0 : k ≠ 0 := by omega
        have hb : (bodyL k n s).length = s.size := by simp [bodyL, hk1, h4]
        have hm : roomN k s = s.size + 3 := by simp [roomN, hk0, hk1]
        rw [hb, hm, h2]
        split <;> omega
    rw [valL_cons]
    simp only [sumM, List.map_cons, List.sum_cons, List.length_cons] at *
    omega
theorem putL_length (vs : List Trip) : (putL vs).length = (Lib.uvarint vs.length).length + valL vs := by
  simp only [putL, headL, valL, List.length_append]
  omega
theorem GoodR.snoc {vs : List Trip} (h : GoodR vs) : GoodR (vs ++ [(0, 0, ⟨#[]⟩)]) := by
  intro t ht
  rcases List.mem_append.1 ht with ht | ht
  · exact h t ht
  · obtain rfl : t = (0, 0, ⟨#[]⟩) := by simpa using ht
    exact ⟨.inl ⟨rfl, rfl, rfl⟩, by decide, by decide⟩
theorem short_math (vs : List Trip) (h : GoodR vs) (hl : vs.length ≤ 150) :
    (putL vs).length ≤ 2 + sumM vs ∧ vs.length < (putL vs).length ∧ (putL vs).length < (putL (vs ++ [(0, 0, ⟨#[]⟩)])).length ∧ (putL vs).length ≤ 1000000 ∧ (putL (vs ++ [(0, 0, ⟨#[]⟩)])).length ≤ 1000000 := by
  obtain ⟨h1, h2⟩ := valL_range vs h
  obtain ⟨h3, h4⟩ := valL_range _ h.snoc
  have h5 := sumM_le _ h.snoc
  have u1 := uv_two vs.length (by omega)
  have u2 := uv_two (vs ++ [((0 : Int), (0 : Int), (⟨#[]⟩ : ByteArray))]).length (by simp; omega)
  have e : (vs ++ [((0 : Int), (0 : Int), (⟨#[]⟩ : ByteArray))]).length = vs.length + 1 := by simp
  have e1 : valL [((0 : Int), (0 : Int), (⟨#[]⟩ : ByteArray))] = 1 := by
    have : sortN 0 0 ⟨#[]⟩ = 0 := by decide
    rw [valL_cons, this, Lib.uvarint_small (by decide)]
    rfl
  rw [putL_length, putL_length, u1, u2, e, valL_append, e1]
  rw [valL_append, e1] at h3 h4
  rw [e] at h3 h5
  have h6 := sumM_le vs h
  split <;> split <;> omega
theorem put_good (A : Option Addr) (cap m : Nat) (vs : List Trip) (w : World) (hR : RdR w w.heap.size A vs) (hl : vs.length ≤ 160) (hg : GoodR vs) (hm : m = vs.length) (l : List UInt8) (hl0 : putL vs = l) :
    Calls Try.prog 27 #[.slice A m cap] w fun e w' => ∃ B c, e = .returned (.tuple #[.slice B l.length c, .int .i64 0]) ∧ Own w' w.heap.size (.slice B l.length c) l ∧ Below w.heap.size w w' := by
  subst hm hl0
  have h1 := headL_len vs (by omega) (fun t ht => by have := (hg t ht).2.1; omega)
  have h2 := sumB_good vs hg
  refine (Put_ok A cap vs w hR (by omega) hg.bad (fun t ht => ⟨by have := (hg t ht).2.1; omega, (hg t ht).2.2⟩) (by omega)).mono ?_
  rintro e w' ⟨v, rfl, ho, hb⟩
  obtain ⟨B, c, rfl, _, _, _⟩ := ho.form
  exact ⟨B, c, rfl, ho, hb⟩

/-- the slice v is the call's own and holds these values -/
def OwnR (w : World) (base : Nat) (v : Value) (vs : List Trip) : Prop := w.ownsRow base 29 3 v vs.length (cellsL vs)
theorem cellsL_length : ∀ vs : List Trip, (cellsL vs).length = vs.length * 3
  | [] => rfl
  | (k, n, s) :: r => by simp [cellsL, cellsL_length r]; omega
theorem cellsL_append : ∀ a b : List Trip, cellsL (a ++ b) = cellsL a ++ cellsL b
  | [], b => rfl
  | (k, n, s) :: r, b => by simp [cellsL, cellsL_append r b]
theorem cellsL_one : ∀ (vs : List Trip), ∀ u ∈ cellsL vs, u.oneCell' = true
  | [], u, h => by cases h
  | (k, n, s) :: r, u, h => by
    simp only [cellsL, List.mem_cons] at h
    rcases h with rfl | rfl | rfl | h
    · rfl
    · rfl
    · rfl
    · exact cellsL_one r u h
theorem RdR.cells {w : World} {B : Nat} {ad : Addr} {vs : List Trip} (h : RdR w B (some ad) vs) : ∀ j u, (cellsL vs)[j]? = some u → w.cell? (ad.add j) = some u := by
  intro j u hj
  have hjl : j < vs.length * 3 := by
    rcases Nat.lt_or_ge j (vs.length * 3) with h | h
    · exact h
    · rw [List.getElem?_eq_none (by rw [cellsL_length]; exact h)] at hj; cases hj
  obtain ⟨ad', e, hl, hc⟩ := h (by omega)
  injection e with e
  subst e
  obtain ⟨⟨k, n, s⟩, hi⟩ : ∃ t, vs[j / 3]? = some t := ⟨vs[j / 3]'(by omega), List.getElem?_eq_getElem _⟩
  obtain ⟨g0, g1, g2⟩ := cellsL_get vs (j / 3) k n s hi
  obtain ⟨c0, c1, c2⟩ := hc (j / 3) k n s hi
  have hr : j = j / 3 * 3 ∨ j = j / 3 * 3 + 1 ∨ j = j / 3 * 3 + 2 := by omega
  rcases hr with hr | hr | hr
  · rw [hr, g0] at hj
    obtain rfl := Option.some.inj hj
    rw [hr]; exact c0
  · rw [hr, g1] at hj
    obtain rfl := Option.some.inj hj
    rw [hr, ← addAdd]
    have : ((ad.add (j / 3 * 3)).add 1) = ⟨(ad.add (j / 3 * 3)).block, (ad.add (j / 3 * 3)).off + 1, none⟩ := by simp [Addr.add]
    rw [this]; exact c1
  · rw [hr, g2] at hj
    obtain rfl := Option.some.inj hj
    rw [hr, ← addAdd]
    have : ((ad.add (j / 3 * 3)).add 2) = ⟨(ad.add (j / 3 * 3)).block, (ad.add (j / 3 * 3)).off + 2, none⟩ := by simp [Addr.add]
    rw [this]; exact c2
theorem OwnR.form {w : World} {base : Nat} {v : Value} {vs : List Trip} (h : OwnR w base v vs) : ∃ A c, v = .slice A vs.length c ∧ vs.length ≤ c ∧ c ≤ maxLen ∧ RdR w w.heap.size A vs := by
  obtain ⟨h1, h2⟩ := h
  rcases h2 with ⟨rfl, h0⟩ | ⟨g, cap, cur, rfl, hg, hh, hc, hm, hs, ht⟩
  · exact ⟨none, 0, by rw [h0], by omega, by simp [maxLen], fun hp => by omega⟩
  · have hlt : g < w.heap.size := by
      rcases Nat.lt_or_ge g w.heap.size with hlt | hge
      · exact hlt
      · rw [Array.getElem?_eq_none hge] at hh; cases hh
    refine ⟨_, cap, rfl, hc, hm, fun _ => ⟨_, rfl, hlt, fun j k n s hj => ?_⟩⟩
    obtain ⟨g0, g1, g2⟩ := cellsL_get vs j k n s hj
    have ha : ((⟨g, 0, none⟩ : Addr).add (j * 3)) = ⟨g, j * 3, none⟩ := by
      unfold Addr.add
      by_cases hj0 : j * 3 = 0 <;> simp [hj0]
    have key : ∀ o v, (cellsL vs)[o]? = some v → w.cell? ⟨g, o, none⟩ = some v := by
      intro o v hv
      rw [← ht, List.getElem?_take] at hv
      split at hv
      · simp only [World.cell?, hh]
        simpa using hv
      · cases hv
    rw [ha]
    exact ⟨key _ _ g0, key _ _ g1, key _ _ g2⟩
end Go.Proofs.Ytdhdfeiobjmdaaa
