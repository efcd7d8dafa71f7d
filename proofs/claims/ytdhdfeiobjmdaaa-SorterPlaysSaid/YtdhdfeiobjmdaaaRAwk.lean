/-
  The statements' helper awake of layer 3: the chapter's examples. No conditions.
-/
import Derived.Test.YtdhdfeiobjmdaaaRFlag
namespace Go.Proofs.Ytdhdfeiobjmdaaa
open Go.ChangeShapes Go.WideShapes Go.ChangeAt Go.RowKit
set_option linter.unusedVariables false

/-- values, as cells -/
def cellsL : List Trip → List Value
  | [] => []
  | (k, n, s) :: r => .int .u8 k :: .int .i64 n :: .string s :: cellsL r
theorem cellsL_get : ∀ (vs : List Trip) (j : Nat) (k n : Int) (s : ByteArray), vs[j]? = some (k, n, s) → (cellsL vs)[j * 3]? = some (.int .u8 k) ∧ (cellsL vs)[j * 3 + 1]? = some (.int .i64 n) ∧ (cellsL vs)[j * 3 + 2]? = some (.string s)
  | [], j, k, n, s, h => by simp at h
  | (k', n', s') :: r, 0, k, n, s, h => by
    obtain ⟨rfl, rfl, rfl⟩ : k' = k ∧ n' = n ∧ s' = s := by simpa using h
    exact ⟨rfl, rfl, rfl⟩
  | (k', n', s') :: r, j + 1, k, n, s, h => by
    have ih := cellsL_get r j k n s (by simpa using h)
    have e : (j + 1) * 3 = j * 3 + 3 := by omega
    rw [e]
    exact ih
theorem rdr_new (X : World) (vs : List Trip) (W : World) (h : Below (X.alloc (.cells (cellsL vs).toArray 29)).heap.size (X.alloc (.cells (cellsL vs).toArray 29)) W) : RdR W W.heap.size (some ⟨X.heap.size, 0, none⟩) vs := by
  intro _
  have hs : X.heap.size < W.heap.size := by have := h.size; simp at this; omega
  refine ⟨_, rfl, hs, fun j k n s hj => ?_⟩
  obtain ⟨a, b, c⟩ := cellsL_get vs j k n s hj
  have ha : ((⟨X.heap.size, 0, none⟩ : Addr).add (j * 3)) = ⟨X.heap.size, j * 3, none⟩ := by
    unfold Addr.add
    by_cases hj0 : j * 3 = 0 <;> simp [hj0]
  have key : ∀ o v, (cellsL vs)[o]? = some v → W.cell? ⟨X.heap.size, o, none⟩ = some v := by
    intro o v hv
    rw [(h.cell (p := ⟨X.heap.size, o, none⟩) (by simp))]
    simp only [World.cell?, heap_alloc_new]
    simpa using hv
  rw [ha]
  exact ⟨key _ _ a, key _ _ b, key _ _ c⟩
theorem rdf_new (X : World) (d : Bool) (W : World) (h : Below (X.alloc (.cells #[.bool d] 4)).heap.size (X.alloc (.cells #[.bool d] 4)) W) : RdF W W.heap.size (some ⟨X.heap.size, 0, none⟩) [d] := by
  intro _
  have hs : X.heap.size < W.heap.size := by have := h.size; simp at this; omega
  refine ⟨_, rfl, hs, fun j e hj => ?_⟩
  have hj0 : j = 0 := by
    cases j with
    | zero => rfl
    | succ j => simp at hj
  subst hj0
  obtain rfl : d = e := by simpa using hj
  have ha : ((⟨X.heap.size, 0, none⟩ : Addr).add 0) = ⟨X.heap.size, 0, none⟩ := by simp [Addr.add]
  rw [ha, (h.cell (p := ⟨X.heap.size, 0, none⟩) (by simp))]
  simp [go_sem]
theorem rd_new (X : World) (l : List UInt8) : Rd (X.alloc (.cells (bs l).toArray 5)) (X.alloc (.cells (bs l).toArray 5)).heap.size (some ⟨X.heap.size, 0, none⟩) l := by
  intro _
  refine ⟨_, rfl, by simp, fun j u hj => ?_⟩
  have ha : ((⟨X.heap.size, 0, none⟩ : Addr).add j) = ⟨X.heap.size, j, none⟩ := by
    unfold Addr.add
    by_cases hj0 : j = 0 <;> simp [hj0]
  rw [ha]
  simp only [World.cell?, heap_alloc_new]
  have : (bs l)[j]? = some (b8 u) := by rw [bs_getElem?, hj]; rfl
  simpa using this
/-- Key of one value -/
theorem key_one (X : World) (k n : Int) (s : ByteArray) (d : Bool) (l : List UInt8) (hr : Rt k n s) (hn : In64 n) (hs : s.size ≤ 1000) (hl : keyL [(k, n, s)] [d] = l) (W : World) (hW : W = ((X.alloc (box k n s)).alloc (.cells #[.bool d] 4))) :
    Calls Try.prog 26 #[.slice (some ⟨X.heap.size, 0, none⟩) 1 1, .slice (some ⟨X.heap.size + 1, 0, none⟩) 1 1] W fun e w' => ∃ A c, e = .returned (.tuple #[.slice A l.length c, .int .i64 0]) ∧ Own w' X.heap.size (.slice A l.length c) l ∧ Below X.heap.size X w' := by
  subst hW
  have h1 : RdR ((X.alloc (box k n s)).alloc (.cells #[.bool d] 4)) _ (some ⟨X.heap.size, 0, none⟩) [(k, n, s)] := rdr_new X [(k, n, s)] _ ((Below.refl _ _).alloc (Nat.le_refl _) _)
  have h2 : RdF ((X.alloc (box k n s)).alloc (.cells #[.bool d] 4)) ((X.alloc (box k n s)).alloc (.cells #[.bool d] 4)).heap.size (some ⟨X.heap.size + 1, 0, none⟩) [d] := by
    have := rdf_new (X.alloc (box k n s)) d _ (Below.refl _ _)
    simpa using this
  have hc := count_le s 0
  refine (Key_ok (some ⟨X.heap.size, 0, none⟩) 1 [(k, n, s)] (some ⟨X.heap.size + 1, 0, none⟩) 1 [d] _ h1 h2 (by simp) rfl (by simp [pBad, hr]) ?_ ?_).mono ?_
  · intro t ht
    obtain rfl : t = (k, n, s) := by simpa using ht
    exact ⟨by show s.size ≤ _; omega, hn⟩
  · have : partN k s ≤ 131080 := partN_le k s (by omega)
    simp only [sumP, List.map_cons, List.map_nil, List.sum_cons, List.sum_nil]
    show partN k s + 0 ≤ _
    omega
  · rintro e w' ⟨v, rfl, ho, hb⟩
    rw [hl] at ho
    obtain ⟨A, c, rfl, _, _, _⟩ := ho.form
    refine ⟨A, c, rfl, ho.mono (by simp; omega), ?_⟩
    exact (((Below.refl X.heap.size X).alloc (Nat.le_refl _) (box k n s)).alloc (by simp) (.cells #[.bool d] 4)).trans (hb.mono (by simp; omega))

abbrev awkRow : List Trip := [(0, 0, ⟨#[]⟩), (1, 1, ⟨#[]⟩), (1, -129, ⟨#[]⟩), (2, 0, ⟨#[104, 105]⟩), (3, 0, ⟨#[0]⟩)]
theorem awk_put : putL awkRow = [5, 0, 1, 2, 15, 12, 1, 255, 127, 104, 105, 0] := by
  have b : bodiesL awkRow = [1, 255, 127, 104, 105, 0] := by decide +kernel
  have e0 : sortN 0 0 ⟨#[]⟩ = 0 := by decide +kernel
  have e1 : sortN 1 1 ⟨#[]⟩ = 1 := by decide +kernel
  have e2 : sortN 1 (-129) ⟨#[]⟩ = 2 := by decide +kernel
  have e3 : sortN 2 0 ⟨#[104, 105]⟩ = 15 := by decide +kernel
  have e4 : sortN 3 0 ⟨#[0]⟩ = 12 := by decide +kernel
  have u : ∀ n, n < 128 → Lib.uvarint n = [n.toUInt8] := fun n h => Lib.uvarint_small h
  unfold putL headL
  rw [b]
  simp only [sortsL, e0, e1, e2, e3, e4]
  rw [u 0 (by decide), u 1 (by decide), u 2 (by decide), u 15 (by decide), u 12 (by decide), u _ (by decide)]
  rfl
theorem awk_k1 : keyL [(1, -1, ⟨#[]⟩)] [false] = [2, 127, 255, 255, 255, 255, 255, 255, 255] := by decide +kernel
theorem awk_k2 : keyL [(2, 0, ⟨#[0]⟩)] [true] = [252, 255, 0, 255, 255] := by decide +kernel
theorem awk_k3 : keyL [(0, 0, ⟨#[]⟩)] [false] = [1] := by decide +kernel
theorem awk_k4 : keyL [(1, -9223372036854775808, ⟨#[]⟩)] [false] = [2, 0, 0, 0, 0, 0, 0, 0, 0] := by decide +kernel

theorem onA {w x y : World} {o : Obj} (h : Below w.heap.size w x) (b : Below (x.alloc o).heap.size (x.alloc o) y) : Below w.heap.size w y :=
  (h.alloc h.size o).trans (b.mono (Nat.le_trans h.size (by simp)))
theorem onB {w x y : World} (h : Below w.heap.size w x) (b : Below x.heap.size x y) : Below w.heap.size w y := h.trans (b.mono h.size)
theorem onC {w x : World} (o : Obj) (h : Below w.heap.size w x) : Below w.heap.size w (x.alloc o) := h.alloc h.size o
theorem own_rd {w : World} {base : Nat} {A : Option Addr} {n c : Nat} {l : List UInt8} (h : Own w base (.slice A n c) l) : Rd w w.heap.size A l := by
  obtain ⟨A', c', e, _, _, hr⟩ := h.form
  injection e with e1 e2 e3
  rw [e1]
  exact hr
theorem put_awk (X W : World) (hW : W = X.alloc (.cells (cellsL awkRow).toArray 29)) :
    Calls Try.prog 27 #[.slice (some ⟨X.heap.size, 0, none⟩) 5 5] W fun e w' => ∃ A c, e = .returned (.tuple #[.slice A 12 c, .int .i64 0]) ∧ Own w' X.heap.size (.slice A 12 c) [5, 0, 1, 2, 15, 12, 1, 255, 127, 104, 105, 0] ∧ Below X.heap.size X w' := by
  subst hW
  have h1 := rdr_new X awkRow _ (Below.refl _ _)
  refine (Put_ok (some ⟨X.heap.size, 0, none⟩) 5 awkRow _ h1 (by decide) (by decide +kernel) (by decide +kernel) ?_).mono ?_
  · have h2 := headL_len awkRow (by decide) (by decide +kernel)
    have h3 : sumB awkRow ≤ 100 := by decide +kernel
    omega
  · rintro e w' ⟨v, rfl, ho, hb⟩
    rw [awk_put] at ho
    obtain ⟨A, c, rfl, _, _, _⟩ := ho.form
    exact ⟨A, c, rfl, ho.mono (by simp), ((Below.refl X.heap.size X).alloc (Nat.le_refl _) _).trans (hb.mono (by simp))⟩

end Go.Proofs.Ytdhdfeiobjmdaaa
