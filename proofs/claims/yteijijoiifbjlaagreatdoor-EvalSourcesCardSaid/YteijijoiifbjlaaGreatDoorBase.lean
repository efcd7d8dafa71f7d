/-
  The words for memory that the proofs of layer 1 use: bytes as values, a byte slice that reads as a list, a byte slice that the call owns. No conditions.
-/
import Derived.Test.YteijijoiifbjlaaGreatDoorRows
import Derived.WalkKit
import Derived.ProofKit
import Derived.OpenShut
import Derived.Below
import Derived.Carry
import Derived.LoopTactic
import Derived.Outline
import Derived.OwnWalk
import Derived.Lib.Hide
import Derived.Laws.CopyOwn
import Derived.Laws.AppendOwnNone
import Derived.Laws.OwnMore
import Derived.WalkLawsBesides
import Derived.WalkSpells
import Derived.Deep.Draws
import Derived.Lib.Varint
import Derived.Lib.ConvBytes
namespace Go.Proofs.YteijijoiifbjlaaGreatDoor
open Go.ChangeShapes Go.WideShapes Go.ChangeAt Go.RowKit

/-- a byte, as a value -/
def b8 (u : UInt8) : Value := .int .u8 (u.toNat : Int)
/-- bytes, as cells -/
def bs (l : List UInt8) : List Value := l.map b8

theorem bs_length (l : List UInt8) : (bs l).length = l.length := by simp [bs]
theorem bs_append (l m : List UInt8) : bs (l ++ m) = bs l ++ bs m := by simp [bs]
theorem bs_getElem? (l : List UInt8) (j : Nat) : (bs l)[j]? = l[j]?.map b8 := by simp [bs]
theorem bs_one (l : List UInt8) : ∀ v ∈ bs l, v.oneCell' = true := by
  intro v hv
  obtain ⟨u, _, rfl⟩ := List.mem_map.1 hv
  rfl

/-- The pointer A leads to the bytes l, all of them below block number B. -/
def Rd (w : World) (B : Nat) (A : Option Addr) (l : List UInt8) : Prop :=
  0 < l.length → ∃ ad, A = some ad ∧ ad.block < B ∧ ∀ j u, l[j]? = some u → w.cell? (ad.add j) = some (b8 u)

/-- The slice v is the call's own (its block is base, or a later one) and holds the bytes l. -/
def Own (w : World) (base : Nat) (v : Value) (l : List UInt8) : Prop := w.ownsRow base 5 1 v l.length (bs l)

theorem blockAdd (a : Addr) (n : Nat) : (a.add n).block = a.block := by
  unfold Addr.add
  split <;> rfl
theorem addAdd (a : Addr) (i j : Nat) : (a.add i).add j = a.add (i + j) := by
  unfold Addr.add
  by_cases hi : i = 0
  · by_cases hj : j = 0 <;> simp [hi, hj]
  · by_cases hj : j = 0 <;> simp [hi, hj, Nat.add_assoc]

theorem Rd.nil {w : World} {B : Nat} {A : Option Addr} : Rd w B A [] := fun h => absurd h (by simp)
theorem Rd.keep {w w' : World} {B : Nat} {A : Option Addr} {l : List UInt8} (h : Rd w B A l) (hk : ∀ p : Addr, p.block < B → w'.cell? p = w.cell? p) : Rd w' B A l := by
  intro hp
  obtain ⟨ad, e, hb, hc⟩ := h hp
  exact ⟨ad, e, hb, fun j u hu => (hk _ (by rw [blockAdd]; exact hb)).trans (hc j u hu)⟩
theorem Rd.more {w : World} {B B' : Nat} {A : Option Addr} {l : List UInt8} (h : Rd w B A l) (hB : B ≤ B') : Rd w B' A l := by
  intro hp
  obtain ⟨ad, e, hb, hc⟩ := h hp
  exact ⟨ad, e, by omega, hc⟩
theorem Rd.below {w w' : World} {B : Nat} {A : Option Addr} {l : List UInt8} (h : Rd w B A l) (hb : Below B w w') : Rd w' B A l := h.keep fun _ hp => hb.cell hp
/-- what was read ahead of a call is read behind it -/
theorem Rd.on {w w' : World} {A : Option Addr} {l : List UInt8} (h : Rd w w.heap.size A l) (hb : Below w.heap.size w w') : Rd w' w'.heap.size A l := (h.below hb).more hb.size
theorem Rd.drew {w : World} {B : Nat} {A : Option Addr} {l : List UInt8} (h : Rd w B A l) : Rd w.drew B A l := h
theorem Rd.drewN {w : World} {B : Nat} {A : Option Addr} {l : List UInt8} (h : Rd w B A l) (n : Nat) : Rd (w.drewN n) B A l := h
theorem Rd.alloc {w : World} {A : Option Addr} {l : List UInt8} (h : Rd w w.heap.size A l) (o : Obj) : Rd (w.alloc o) w.heap.size A l :=
  h.keep fun p hp => World.cell?_alloc_lt w o p hp
theorem Rd.cell {w : World} {B : Nat} {A : Option Addr} {l : List UInt8} {k : Nat} (h : Rd w B A l) (hk : k < l.length) :
    ∃ ad u, A = some ad ∧ ad.block < B ∧ l[k]? = some u ∧ w.cell? (ad.add k) = some (b8 u) := by
  obtain ⟨ad, e, hb, hc⟩ := h (by omega)
  exact ⟨ad, l[k], e, hb, List.getElem?_eq_getElem hk, hc k _ (List.getElem?_eq_getElem hk)⟩

/-- an owned slice has the form of a slice of so many bytes -/
theorem Own.form {w : World} {base : Nat} {v : Value} {l : List UInt8} (h : Own w base v l) : ∃ A c, v = .slice A l.length c ∧ l.length ≤ c ∧ c ≤ maxLen ∧ Rd w w.heap.size A l := by
  obtain ⟨h1, h2⟩ := h
  rcases h2 with ⟨rfl, h0⟩ | ⟨g, cap, cur, rfl, hg, hh, hc, hm, hs, ht⟩
  · exact ⟨none, 0, by rw [h0], by omega, by simp [maxLen], fun hp => by omega⟩
  · have hlt : g < w.heap.size := by
      rcases Nat.lt_or_ge g w.heap.size with hlt | hge
      · exact hlt
      · rw [Array.getElem?_eq_none hge] at hh; cases hh
    refine ⟨_, cap, rfl, hc, hm, fun _ => ⟨_, rfl, hlt, fun j u hu => ?_⟩⟩
    have hx : (bs l)[j]? = some (b8 u) := by rw [bs_getElem?, hu]; rfl
    rw [← ht] at hx
    have hj : j < l.length := by
      rcases Nat.lt_or_ge j l.length with hlt | hge
      · exact hlt
      · rw [List.getElem?_eq_none hge] at hu; cases hu
    rw [List.getElem?_take, if_pos (by omega)] at hx
    have ha : ((⟨g, 0, none⟩ : Addr).add j) = ⟨g, j, none⟩ := by
      unfold Addr.add
      by_cases hj0 : j = 0 <;> simp [hj0]
    rw [ha]
    simp only [World.cell?, hh]
    simpa using hx
theorem Own.lt {w : World} {base : Nat} {v : Value} {l : List UInt8} (h : Own w base v l) : ∀ k, v.ownBlock = some k → base ≤ k ∧ k < w.heap.size := World.ownsRow.lt h
theorem Own.alloc {w : World} {base : Nat} {v : Value} {l : List UInt8} (h : Own w base v l) (o : Obj) : Own (w.alloc o) base v l := World.ownsRow.alloc h o
theorem Own.drew {w : World} {base : Nat} {v : Value} {l : List UInt8} (h : Own w base v l) : Own w.drew base v l := h
/-- an owned slice stays what it is, while older memory stays as it is -/
theorem Own.below {w w' : World} {base : Nat} {v : Value} {l : List UInt8} (h : Own w base v l) (hb : Below w.heap.size w w') : Own w' base v l := by
  obtain ⟨h1, h2⟩ := h
  refine ⟨h1, ?_⟩
  rcases h2 with h2 | ⟨g, cap, cur, hv, hg, hh, r⟩
  · exact .inl h2
  · have hlt : g < w.heap.size := by
      rcases Nat.lt_or_ge g w.heap.size with hlt | hge
      · exact hlt
      · rw [Array.getElem?_eq_none hge] at hh; cases hh
    exact .inr ⟨g, cap, cur, hv, hg, (hb.block g hlt).trans hh, r⟩
theorem Own.mono {w : World} {base base' : Nat} {v : Value} {l : List UInt8} (h : Own w base v l) (hb : base' ≤ base) : Own w base' v l := by
  obtain ⟨h1, h2⟩ := h
  refine ⟨h1, ?_⟩
  rcases h2 with h2 | ⟨g, cap, cur, hv, hg, r⟩
  · exact .inl h2
  · exact .inr ⟨g, cap, cur, hv, Nat.le_trans hb hg, r⟩

/-- the call came back with a slice of its own that holds l; what was there is as it was -/
def RetOwn (l : List UInt8) (w : World) (e : Ending) (w' : World) : Prop := ∃ v, e = .returned v ∧ Own w' w.heap.size v l ∧ Below w.heap.size w w'

theorem Tryz.info_u8 : (Tryz.prog.info? 5).map (fun i => (i.zero, i.size, i.bytes)) = some (some (.int .u8 0), 1, 1) := by kernel_rfl
theorem Tryz.info_bytes : (Tryz.prog.info? 91).map (fun i => (i.zero, i.size, i.bytes)) = some (some (.slice none 0 0), 1, 24) := by kernel_rfl
theorem Tryz.own : ownKnob Tryz.prog.godebug = none := by kernel_rfl

set_option maxRecDepth 100000 in
/-- append of bytes onto a slice of the call's own: the source nil, empty or not -/
theorem wpList_appB {w : World} {ops : Array Oper} {rest : List Oper} {o : Oper} {a : Act} {Q : Exit → Act → World → Prop} (hgd : o.guard = none) (s x : Operand)
    (ho : o.op = .call { callee := .builtin .append, args := #[s, x], argTypes := #[91, 91] })
    (base : Nat) (v : Value) (l : List UInt8) (hs : a.eval s = v) (hown : Own w base v l) (A : Option Addr) (c : Nat) (m : List UInt8) (n : Nat) (hn : n = m.length) (hx : a.eval x = .slice A n c) (hr : Rd w w.heap.size A m)
    (hlen : l.length + m.length ≤ 70368744177664) (hbase : base ≤ w.heap.size)
    (h : ∀ v' w', Own w' base v' (l ++ m) → Below base w w' → wpList Tryz.prog ops Q rest (a.put o.dst v') w') : wpList Tryz.prog ops Q (o :: rest) a w := by
  subst hn
  obtain ⟨i0, hi, hz0, hz1, hz2⟩ := info_parts Tryz.info_u8
  have fin : ∀ v' w', w'.ownsRow base 5 1 v' (l.length + m.length) (bs l ++ bs m) → w.grownBy w' v.ownBlock → wpList Tryz.prog ops Q rest (a.put o.dst v') w' := fun v' w' h1 h2 => by
    refine h v' w' ?_ ((Below.refl _ _).grown h2 hbase fun k hk => (hown.lt k hk).1)
    unfold Own
    rw [List.length_append, bs_append]
    exact h1
  rcases A with _ | ad
  · have h0 : m = [] := by
      cases m with
      | nil => rfl
      | cons u r =>
        obtain ⟨ad, e, _⟩ := hr (by simp)
        cases e
    subst h0
    have hs2 : w.ownsRow base 5 1 v l.length (bs l) := hown
    have hrun : (Builtin.append_ #[91, 91] o.type #[v, .slice none 0 c]).run Tryz.prog w = .ok v w := by
      rcases hs2.2 with ⟨rfl, _⟩ | ⟨g, cap, cur, rfl, _, _, hnc, _⟩ <;>
        simp [Builtin.append_, run_underlying Tryz.underlying91, sizeOf, typeInfo, hi, Builtin.lenOf, Builtin.firstCells]
      simp [hnc, storeCells]
    refine wpList_plain hgd fun K hK => ?_
    unfold Oper.wp
    simp only [execOp, ho, resolve, invoke, builtin, Sem.run_bind, Sem.run_pure, Result.andThen_ok, List.map_toArray, List.map_cons, List.map_nil, hs, hx]
    have hx0 : (Value.slice none ([] : List UInt8).length c) = .slice none 0 c := rfl
    rw [hx0, hrun]
    exact hK _ _ (fin v w (by simpa [bs] using hs2) (World.grownBy.refl w _))
  · refine wpList_append_own w hgd s x 91 ho base 5 i0 (.int .u8 0) 1 1 Tryz.underlying91 hi hz0 hz1 hz2 rfl (by decide) v l.length (bs l) hs hown ad m.length c (bs m) hx (by rw [bs_length, Nat.mul_one]) ?_ (bs_one m) (by simp only [maxLen]; omega) (by omega) hbase ?_
    · intro j u hu
      rw [bs_getElem?] at hu
      obtain ⟨q, hq, rfl⟩ := Option.map_eq_some_iff.1 hu
      obtain ⟨ad', e, _, hc⟩ := hr (by
        rcases Nat.eq_zero_or_pos m.length with h0 | h0
        · rw [List.eq_nil_of_length_eq_zero h0] at hq; simp at hq
        · exact h0)
      injection e with e
      subst e
      exact hc j q hq
    · intro v' w' h1 h2 _
      exact fin v' w' h1 h2

/-- the one cell that 'append(own, x)' lays its byte in -/
theorem Rd.one (w : World) (u : UInt8) : Rd (w.alloc (.cells #[b8 u] 5)) (w.alloc (.cells #[b8 u] 5)).heap.size (some ⟨w.heap.size, 0, none⟩) [u] := by
  intro _
  refine ⟨_, rfl, by simp, fun j q hq => ?_⟩
  have hj : j = 0 := by
    rcases Nat.eq_zero_or_pos j with h0 | h0
    · exact h0
    · rw [List.getElem?_eq_none (show [u].length ≤ j from h0)] at hq; cases hq
  subst hj
  have hq' : u = q := by simpa using hq
  subst hq'
  have ha : ((⟨w.heap.size, 0, none⟩ : Addr).add 0) = ⟨w.heap.size, 0, none⟩ := by simp [Addr.add]
  rw [ha]
  simp only [World.cell?, heap_alloc_new]
  rfl

theorem u8nat {n : Nat} (h : n < 256) : (n.toUInt8.toNat : Int) = n := by
  simp only [Nat.toUInt8, UInt8.toNat_ofNat']
  omega

/-- 'append(own, x)', x one byte: its one cell has just been made -/
theorem wpList_app1 {W : World} {ops : Array Oper} {rest : List Oper} {o : Oper} {a : Act} {Q : Exit → Act → World → Prop} (hgd : o.guard = none) (s x : Operand)
    (ho : o.op = .call { callee := .builtin .append, args := #[s, x], argTypes := #[91, 91] })
    (base : Nat) (v : Value) (l : List UInt8) (hs : a.eval s = v) (hown : Own W base v l) (z : Int) (u : UInt8) (hz : z = (u.toNat : Int)) (hx : a.eval x = .slice (some ⟨W.heap.size, 0, none⟩) 1 1)
    (hlen : l.length + 1 ≤ 70368744177664) (hbase : base ≤ W.heap.size)
    (h : ∀ v' w', Own w' base v' (l ++ [u]) → Below base W w' → wpList Tryz.prog ops Q rest (a.put o.dst v') w') : wpList Tryz.prog ops Q (o :: rest) a (W.alloc (.cells #[.int .u8 z] 5)) := by
  subst hz
  refine wpList_appB hgd s x ho base v l hs (hown.alloc _) _ 1 [u] 1 rfl hx (Rd.one W u) (by simpa using hlen) (by simp; omega) ?_
  intro v' w' h1 h2
  exact h v' w' h1 (((Below.refl _ _).alloc hbase _).trans h2)

end Go.Proofs.YteijijoiifbjlaaGreatDoor
