/-
  The document's own answers for layer 3: right values, right rows, numbers of so many bytes, as few bytes as tell a number. Conditions: sizes as stated.
  The document's own answers for layer 3: as few bytes as tell a number, two lists of bytes. Conditions: sizes as stated.
  Appends of bytes, and of a string's bytes, that leave every other row alone. Conditions: sizes as stated.
  Bytes of the call's own that are written over; parts of a key, turned (layer 3, record). Conditions: sizes as stated.
-/
import Derived.Test.YtmcbjfdenaknlaaRRowM
import Derived.Test.YtmcbjfdenaknlaaRHelp
import Derived.Lib.AppendStr
namespace Go.Proofs.Ytmcbjfdenaknlaa
open Go.ChangeShapes Go.WideShapes Go.ChangeAt Go.RowKit
set_option linter.unusedVariables false

def RefRightRel (w : World) (vs : List Trip) (i : Value) (wr : World) : Prop :=
  ∃ j : Nat, j ≤ vs.length ∧ i = .int .i64 j ∧ (vs.take j).any pBad = false ∧ Below w.heap.size w wr

/-- a call that tells bytes in memory that was not there -/
def RetRd (l : List UInt8) (w : World) (e : Ending) (w' : World) : Prop := ∃ A c, e = .returned (.slice A l.length c) ∧ Rd w' w'.heap.size A l ∧ l.length ≤ c ∧ c ≤ maxLen ∧ Below w.heap.size w w'

theorem run_make8n (n : Nat) (hn : n ≤ 1099511627776) (w : World) : (Instr.makeSlice 24 (.int .i64 (n : Int)) (.int .i64 (n : Int))).run Try.prog w = .ok (.slice (some ⟨w.heap.size, 0, none⟩) n n) (w.alloc (.cells (madeCells #[.int .u8 0] n) 5)) := by
  obtain ⟨i0, hi, hz0, hz1, hz2⟩ := info_parts Try.info_u8
  have h := run_make (P := Try.prog) w 24 5 i0 (.int .u8 0) Try.underlying24 hi hz0 .i64 .i64 (n : Int) (n : Int) (by omega) (by omega) (by rw [hz2]; omega) (by omega)
  rw [h, hz1]
  have e1 : ((n : Int)).toNat = n := by omega
  rw [e1, Nat.mul_one]
  rfl

/-- byte p of the k, once j of them are laid from the last one on -/
def midN (N k j p : Nat) : UInt8 := if k - j ≤ p then (N / 256 ^ (k - 1 - p)).toUInt8 else 0
def NumAt (w : World) (g N k j : Nat) : Prop := g < w.heap.size ∧ ∀ p, p < k → w.cell? ⟨g, p, none⟩ = some (b8 (midN N k j p)) ∧ w.frozen? ⟨g, p, none⟩ = false
theorem NumAt.set {w : World} {g N k j : Nat} (h : NumAt w g N k j) (hj : j < k) (z : Int) (hz : z = ((N / 256 ^ j).toUInt8.toNat : Int)) : NumAt (w.setCell ⟨g, k - 1 - j, none⟩ (.int .u8 z)) g N k (j + 1) := by
  subst hz
  refine ⟨by simpa using h.1, fun p hp => ⟨?_, by rw [World.frozen?_setCell]; exact (h.2 p hp).2⟩⟩
  by_cases e : k - 1 - j = p
  · subst e
    rw [World.cell?_setCell_same (h := (h.2 _ hp).1)]
    have h1 : k - (j + 1) ≤ k - 1 - j := by omega
    have h2 : k - 1 - (k - 1 - j) = j := by omega
    simp [midN, h1, h2, b8]
  · rw [World.cell?_setCell_other (h := by intro h'; injection h' with _ h' _; omega), (h.2 p hp).1]
    have : (k - (j + 1) ≤ p) = (k - j ≤ p) := by simp; omega
    simp only [midN, this]
theorem beN_get (N : Nat) : ∀ (k p : Nat), p < k → (beN N k)[p]? = some (N / 256 ^ (k - 1 - p)).toUInt8
  | 0, p, h => by omega
  | k + 1, 0, _ => by simp [beN]
  | k + 1, p + 1, h => by
    have := beN_get N k p (by omega)
    simp only [beN, List.getElem?_cons_succ]
    rw [this, show k + 1 - 1 - (p + 1) = k - 1 - p by omega]
theorem NumAt.rd {w : World} {g N k : Nat} (h : NumAt w g N k k) : Rd w w.heap.size (some ⟨g, 0, none⟩) (beN N k) := by
  intro _
  refine ⟨_, rfl, h.1, fun j u hu => ?_⟩
  have hj : j < k := by
    rcases Nat.lt_or_ge j k with hlt | hge
    · exact hlt
    · rw [List.getElem?_eq_none (by rw [beN_length]; exact hge)] at hu; cases hu
  have ha : ((⟨g, 0, none⟩ : Addr).add j) = ⟨g, j, none⟩ := by
    unfold Addr.add
    by_cases hj0 : j = 0 <;> simp [hj0]
  rw [ha, (h.2 j hj).1]
  rw [beN_get N k j hj] at hu
  injection hu with hu
  simp [midN, hu]
theorem numAt_made (w : World) (N k : Nat) : NumAt (w.alloc (.cells (madeCells #[.int .u8 0] k) 5)) w.heap.size N k 0 := by
  have hs : (madeCells #[.int .u8 0] k).size = k := size_madeCells _ _
  refine ⟨by simp, fun p hp => ?_⟩
  have hm : ¬ (k - 0 ≤ p) := by omega
  simp only [World.cell?, World.frozen?, heap_alloc_new, midN, if_neg hm]
  refine ⟨?_, by simp⟩
  rw [Array.getElem?_eq_getElem (by omega)]
  simp [madeCells, b8, Nat.mod_one]

def NumRel (w : World) (N k : Nat) (i : Value) (wr : World) : Prop := ∃ j : Nat, j ≤ k ∧ i = .int .i64 j ∧ Below w.heap.size w wr ∧ NumAt wr w.heap.size N k j

end Go.Proofs.Ytmcbjfdenaknlaa

namespace Go.Proofs.Ytmcbjfdenaknlaa
open Go.ChangeShapes Go.WideShapes Go.ChangeAt Go.RowKit
set_option linter.unusedVariables false

theorem lenF_le : ∀ (f : Nat) (m : Int) (j : Nat), j < f → (lenF f m ≤ j + 1 ↔ -128 * 256 ^ j ≤ m ∧ m ≤ 128 * 256 ^ j - 1)
  | 0, _, _, h => by omega
  | f + 1, m, 0, _ => by
    have h1 := (lenF_range f (m / 256)).1
    unfold lenF
    split
    · rename_i h
      simp
      omega
    · rename_i h
      simp
      omega
  | f + 1, m, j + 1, hj => by
    have ih := lenF_le f (m / 256) j (by omega)
    have hp : (1 : Int) ≤ 256 ^ j := Int.pow_pos (by omega)
    have e : (256 : Int) ^ (j + 1) = 256 ^ j * 256 := Int.pow_succ _ _
    rw [e]
    generalize (256 : Int) ^ j = q at *
    unfold lenF
    split
    · rename_i h
      constructor
      · intro _; constructor <;> omega
      · intro _; omega
    · rw [Nat.add_le_add_iff_right, ih]
      constructor
      · rintro ⟨a, b⟩; constructor <;> omega
      · rintro ⟨a, b⟩; constructor <;> omega
theorem lenI_le (n : Int) (j : Nat) (hj : j < 7) : lenI n ≤ j + 1 ↔ -128 * 256 ^ j ≤ n ∧ n ≤ 128 * 256 ^ j - 1 := lenF_le 7 n j hj

def WideRel (n : Int) (k : Value) : Prop := ∃ j : Nat, 1 ≤ j ∧ j ≤ 8 ∧ k = .int .i64 j ∧ j ≤ lenI n

def SameRelB (a b : List UInt8) (w : World) (i : Value) (wr : World) : Prop := ∃ j : Nat, j ≤ a.length ∧ i = .int .i64 j ∧ Below w.heap.size w wr ∧ a.take j = b.take j
end Go.Proofs.Ytmcbjfdenaknlaa

namespace Go.Proofs.Ytmcbjfdenaknlaa
open Go.ChangeShapes Go.WideShapes Go.ChangeAt Go.RowKit
set_option linter.unusedVariables false

set_option maxRecDepth 100000 in
theorem run_appBG (w : World) (ty : TypeId) (base : Nat) (v : Value) (l : List UInt8) (hown : Own w base v l) (A : Option Addr) (c : Nat) (m : List UInt8) (hr : Rd w w.heap.size A m) (hlen : l.length + m.length ≤ 70368744177664) (hbase : base ≤ w.heap.size) :
    ∃ v' w', (Builtin.append_ #[24, 24] ty #[v, .slice A m.length c]).run Try.prog w = .ok v' w' ∧ Own w' base v' (l ++ m) ∧ w.grownBy w' v.ownBlock := by
  obtain ⟨i0, hi, hz0, hz1, hz2⟩ := info_parts Try.info_u8
  rcases A with _ | ad
  · have h0 : m = [] := by
      cases m with
      | nil => rfl
      | cons u r =>
        obtain ⟨ad, e, _⟩ := hr (by simp)
        cases e
    subst h0
    have hs2 : w.ownsRow base 5 1 v l.length (bs l) := hown
    refine ⟨v, w, ?_, by rw [List.append_nil]; exact hown, World.grownBy.refl w _⟩
    rcases hs2.2 with ⟨rfl, _⟩ | ⟨g, cap, cur, rfl, _, _, hnc, _⟩ <;>
      simp [Builtin.append_, run_underlying Try.underlying24, sizeOf, typeInfo, hi, Builtin.lenOf, Builtin.firstCells]
    simp [hnc, storeCells]
  · obtain ⟨v', w', hrun, h1, h2, _⟩ := run_append_own (P := Try.prog) w base 24 ty 5 i0 (.int .u8 0) 1 1 Try.underlying24 hi hz0 hz1 hz2 rfl (by decide) v l.length (bs l) hown ad m.length c (bs m) (by rw [bs_length, Nat.mul_one]) (fun j u hu => by
      rw [bs_getElem?] at hu
      obtain ⟨q, hq, rfl⟩ := Option.map_eq_some_iff.1 hu
      have hj : j < m.length := by
        rcases Nat.lt_or_ge j m.length with hlt | hge
        · exact hlt
        · rw [List.getElem?_eq_none hge] at hq; cases hq
      obtain ⟨ad', e, _, hc⟩ := hr (by omega)
      injection e with e
      subst e
      exact hc j q hq) (bs_one m) (by simp only [maxLen]; omega) (by omega) hbase
    refine ⟨v', w', hrun, ?_, h2⟩
    unfold Own
    rw [List.length_append, bs_append]
    exact h1

theorem wp_appBG {w : World} {o : Oper} {a : Act} {K : Act → World → Prop} {Q : Exit → Act → World → Prop} (s x : Operand)
    (ho : o.op = .call { callee := .builtin .append, args := #[s, x], argTypes := #[24, 24] })
    (base : Nat) (v : Value) (l : List UInt8) (hs : a.eval s = v) (hown : Own w base v l) (A : Option Addr) (c n : Nat) (m : List UInt8) (hn : n = m.length) (hx : a.eval x = .slice A n c) (hr : Rd w w.heap.size A m) (hlen : l.length + m.length ≤ 70368744177664) (hbase : base ≤ w.heap.size)
    (h : ∀ v' w', Own w' base v' (l ++ m) → w.grownBy w' v.ownBlock → K (a.put o.dst v') w') : o.wp Try.prog a w K Q := by
  subst hn
  obtain ⟨v', w', hrun, h1, h2⟩ := run_appBG w o.type base v l hown A c m hr hlen hbase
  unfold Oper.wp execOp
  simp only [ho, resolve, invoke, builtin, Sem.run_bind, Sem.run_pure, Result.andThen_ok, List.map_toArray, List.map_cons, List.map_nil, hs, hx, hrun]
  exact h v' w' h1 h2

theorem wpList_appBG {w : World} {ops : Array Oper} {rest : List Oper} {o : Oper} {a : Act} {Q : Exit → Act → World → Prop} (hgd : o.guard = none) (s x : Operand)
    (ho : o.op = .call { callee := .builtin .append, args := #[s, x], argTypes := #[24, 24] })
    (base : Nat) (v : Value) (l : List UInt8) (hs : a.eval s = v) (hown : Own w base v l) (A : Option Addr) (c n : Nat) (m : List UInt8) (hn : n = m.length) (hx : a.eval x = .slice A n c) (hr : Rd w w.heap.size A m) (hlen : l.length + m.length ≤ 70368744177664) (hbase : base ≤ w.heap.size)
    (h : ∀ v' w', Own w' base v' (l ++ m) → w.grownBy w' v.ownBlock → wpList Try.prog ops Q rest (a.put o.dst v') w') : wpList Try.prog ops Q (o :: rest) a w :=
  wpList_plain hgd fun _ hK => wp_appBG s x ho base v l hs hown A c n m hn hx hr hlen hbase fun v' w' h1 h2 => hK _ _ (h v' w' h1 h2)

theorem step_appBG {w : World} {ops : Array Oper} {o : Oper} {a : Act} {K : Act → World → Prop} {Q : Exit → Act → World → Prop} {E : Prop} (hgd : o.guard = none) (s x : Operand)
    (ho : o.op = .call { callee := .builtin .append, args := #[s, x], argTypes := #[24, 24] })
    (base : Nat) (v : Value) (l : List UInt8) (hs : a.eval s = v) (hown : Own w base v l) (A : Option Addr) (c n : Nat) (m : List UInt8) (hn : n = m.length) (hx : a.eval x = .slice A n c) (hr : Rd w w.heap.size A m) (hlen : l.length + m.length ≤ 70368744177664) (hbase : base ≤ w.heap.size)
    (h : ∀ v' w', Own w' base v' (l ++ m) → w.grownBy w' v.ownBlock → K (a.put o.dst v') w') :
    if Region.wanted o (yielded ops a.tmps) = true then Oper.wp Try.prog o a w K Q else E := by
  have hw : Region.wanted o (yielded ops a.tmps) = true := by simp [Region.wanted, hgd]
  rw [if_pos hw]
  exact wp_appBG s x ho base v l hs hown A c n m hn hx hr hlen hbase h

theorem bs_str (s : ByteArray) : Lib.strCells s = bs s.data.toList := by
  rcases s with ⟨⟨l⟩⟩
  simp [Lib.strCells, bs, b8]

/-- append of a string's bytes -/
theorem wpList_appSG {w : World} {ops : Array Oper} {rest : List Oper} {o : Oper} {a : Act} {Q : Exit → Act → World → Prop} (hgd : o.guard = none) (s x : Operand)
    (ho : o.op = .call { callee := .builtin .append, args := #[s, x], argTypes := #[24, 9] })
    (base : Nat) (v : Value) (l : List UInt8) (hs : a.eval s = v) (hown : Own w base v l) (q : ByteArray) (hx : a.eval x = .string q) (hlen : l.length + q.size ≤ 70368744177664) (hbase : base ≤ w.heap.size)
    (h : ∀ v' w', Own w' base v' (l ++ q.data.toList) → w.grownBy w' v.ownBlock → wpList Try.prog ops Q rest (a.put o.dst v') w') : wpList Try.prog ops Q (o :: rest) a w := by
  obtain ⟨i0, hi, hz0, hz1, hz2⟩ := info_parts Try.info_u8
  refine Lib.wpList_append_own_string w hgd s x 24 9 ho base 5 i0 Try.underlying24 Try.underlying9 hi hz0 hz1 hz2 v l.length (bs l) hs hown q hx (by simp only [maxLen]; omega) (by omega) hbase ?_
  intro v' w' h1 h2 _
  refine h v' w' ?_ h2
  unfold Own
  rw [List.length_append, bs_append, ← bs_str]
  have e : q.data.toList.length = q.size := by rcases q with ⟨⟨l⟩⟩; rfl
  rw [e]
  exact h1

/-- a row of the call's own stays while another one grows -/
theorem Own.apart {w w' : World} {b1 : Nat} {v1 v2 : Value} {l1 : List UInt8} (h1 : Own w b1 v1 l1) (hg : w.grownBy w' v2.ownBlock) (h2 : ∀ g, v2.ownBlock = some g → g < b1) : Own w' b1 v1 l1 := by
  refine World.ownsRow.kept h1 hg ?_
  cases h : v1.ownBlock with
  | none => exact .inl rfl
  | some g =>
    right
    have := (h1.lt g h).1
    intro e
    have := h2 g e.symm
    omega
end Go.Proofs.Ytmcbjfdenaknlaa

namespace Go.Proofs.Ytmcbjfdenaknlaa
open Go.ChangeShapes Go.WideShapes Go.ChangeAt Go.RowKit
set_option linter.unusedVariables false

theorem Own.cells {w : World} {base g n c : Nat} {l : List UInt8} (h : Own w base (.slice (some ⟨g, 0, none⟩) n c) l) : n = l.length ∧ base ≤ g ∧ g < w.heap.size ∧ l.length ≤ c ∧ c ≤ maxLen ∧ ∀ (j : Nat) (u : UInt8), l[j]? = some u → w.cell? ⟨g, j, none⟩ = some (b8 u) ∧ w.frozen? ⟨g, j, none⟩ = false := by
  have h' := h
  obtain ⟨h1, h2⟩ := h
  rcases h2 with ⟨hv, _⟩ | ⟨g', cap, cur, hv, hg, hh, hc, hm, hs, ht⟩
  · cases hv
  · simp only [Value.slice.injEq, Option.some.injEq, Addr.mk.injEq] at hv
    obtain ⟨⟨rfl, _, _⟩, rfl, rfl⟩ := hv
    refine ⟨rfl, hg, (Own.lt h' g rfl).2, hc, hm, fun j u hu => ⟨?_, by simp [World.frozen?, hh]⟩⟩
    have := World.ownsRow.cells h' (g := g) rfl j (b8 u) (by rw [bs_getElem?, hu]; rfl)
    have ha : ((⟨g, 0, none⟩ : Addr).add j) = ⟨g, j, none⟩ := by
      unfold Addr.add
      by_cases hj0 : j = 0 <;> simp [hj0]
    rwa [ha] at this

theorem Own.set {w : World} {base g n c : Nat} {l : List UInt8} (h : Own w base (.slice (some ⟨g, 0, none⟩) n c) l) (j : Nat) (u : UInt8) : Own (w.setCell ⟨g, j, none⟩ (b8 u)) base (.slice (some ⟨g, 0, none⟩) n c) (l.set j u) := by
  obtain ⟨h1, h2⟩ := h
  rcases h2 with ⟨hv, _⟩ | ⟨g', cap, cur, hv, hg, hh, hc, hm, hs, ht⟩
  · cases hv
  · simp only [Value.slice.injEq, Option.some.injEq, Addr.mk.injEq] at hv
    obtain ⟨⟨rfl, _, _⟩, rfl, rfl⟩ := hv
    have e : (l.set j u).length = l.length := List.length_set
    refine ⟨by rw [bs_length, e, Nat.mul_one], .inr ⟨g, c, cur.setIfInBounds j (b8 u), by rw [e], hg, heap_setCell_same w g j cur _ _ hh, by rw [e]; exact hc, hm, by simpa using hs, ?_⟩⟩
    rw [e]
    rw [Nat.mul_one] at ht ⊢
    rw [Array.toList_setIfInBounds, List.take_set, ht]
    simp [bs, List.map_set]

theorem own_built (w : World) (base : Nat) (l : List UInt8) (n : Nat) (hn : n = l.length) (hb : base ≤ w.heap.size) (hl : l.length ≤ maxLen) : Own (w.alloc (.cells (bs l).toArray 5)) base (.slice (some ⟨w.heap.size, 0, none⟩) n n) l := by
  subst hn
  refine ⟨by rw [bs_length, Nat.mul_one], .inr ⟨w.heap.size, l.length, (bs l).toArray, rfl, hb, heap_alloc_new _ _, Nat.le_refl _, hl, by simp [bs], ?_⟩⟩
  rw [Nat.mul_one]
  exact List.take_of_length_le (by simp [bs])

theorem xor255 : ∀ n, n < 256 → n ^^^ 255 = 255 - n := by decide +kernel
theorem turn255 (c : UInt8) : (255 : Int) - (c.toNat : Int) = ((c ^^^ 255).toNat : Int) := by
  have h := c.toNat_lt
  rw [UInt8.toNat_xor, show (255 : UInt8).toNat = 255 from rfl, xor255 _ h]
  omega

/-- the first j bytes turned -/
def halfT (l : List UInt8) (j : Nat) : List UInt8 := turnL 255 (l.take j) ++ l.drop j
theorem halfT_length (l : List UInt8) (j : Nat) : (halfT l j).length = l.length := by simp [halfT, turnL_length]; omega
theorem halfT_get (l : List UInt8) (j : Nat) (hj : j < l.length) : (halfT l j)[j]? = some l[j] := by
  unfold halfT
  rw [List.getElem?_append_right (by rw [turnL_length, List.length_take]; omega), turnL_length, List.length_take, show j - min j l.length = 0 by omega, List.getElem?_drop]
  simp [hj]
theorem halfT_set (l : List UInt8) (j : Nat) (hj : j < l.length) : (halfT l j).set j (l[j] ^^^ 255) = halfT l (j + 1) := by
  unfold halfT
  have h1 : (turnL 255 (l.take j)).length = j := by rw [turnL_length, List.length_take]; omega
  rw [List.set_append_right _ _ (by omega), h1, Nat.sub_self, List.drop_eq_getElem_cons hj, List.set_cons_zero, List.take_add_one, List.getElem?_eq_getElem hj, turnL_append]
  simp [turnL]

def TurnRelP (base g c : Nat) (w : World) (l : List UInt8) (i : Value) (wr : World) : Prop :=
  ∃ j : Nat, j ≤ l.length ∧ i = .int .i64 j ∧ Own wr base (.slice (some ⟨g, 0, none⟩) l.length c) (halfT l j) ∧ Below base w wr

theorem xor128 : ∀ n, n < 256 → n ^^^ 128 = if n < 128 then n + 128 else n - 128 := by decide +kernel
/-- the digits of a number as a key has them -/
theorem int_part (n : Int) (h : In64 n) : ∃ (c : UInt8) (r : List UInt8), beN (u64N n) 8 = c :: r ∧ beN (intN n) 8 = (c ^^^ 128) :: r := by
  refine ⟨(u64N n / 256 ^ 7).toUInt8, beN (u64N n) 7, rfl, ?_⟩
  have h2 : beN (intN n) 7 = beN (u64N n) 7 := be_inj (by unfold intN u64N; omega)
  show (intN n / 256 ^ 7).toUInt8 :: beN (intN n) 7 = _
  rw [h2]
  congr 1
  apply UInt8.toNat_inj.1
  rw [UInt8.toNat_xor]
  simp only [Nat.toUInt8, UInt8.toNat_ofNat']
  have hu : u64N n / 256 ^ 7 < 256 := by unfold u64N; omega
  rw [show (128 : UInt8).toNat = 128 from rfl, Nat.mod_eq_of_lt (show u64N n / 256 ^ 7 < 2 ^ 8 by omega), xor128 _ hu]
  unfold u64N at hu
  unfold intN u64N
  split <;> omega

/-- what a part is: its bytes, turned or not -/
def PartRet (k n : Int) (s : ByteArray) (d : Bool) (w : World) (e : Ending) (w' : World) : Prop := RetOwn (turnL (if d then 255 else 0) (partL k n s)) w e w'
theorem turn0 (l : List UInt8) : turnL 0 l = l := turn_no l
theorem halfT_end (l : List UInt8) : halfT l l.length = turnL 255 l := by simp [halfT]
theorem halfT_zero (l : List UInt8) : halfT l 0 = l := by simp [halfT, turnL]
def StrRelP (base : Nat) (w0 : World) (s : List UInt8) (k : UInt8) (v i : Value) (wr : World) : Prop :=
  ∃ j : Nat, j ≤ s.length ∧ i = .int .i64 j ∧ Own wr base v (k :: escL (s.take j)) ∧ Below base w0 wr

end Go.Proofs.Ytmcbjfdenaknlaa
