/-
  BytesDrawer: words for lists of lists and for a row of numbers, the laws of its two appends, and slices that may be written over. Conditions: sizes as stated.
-/
import Derived.Test.YtlichbiioejpiaaJoin
import Derived.Test.YtlichbiioejpiaaListMath
import Derived.Laws.IdiomCopy
namespace Go.Proofs.Ytlichbiioejpiaa
open Go.ChangeShapes Go.WideShapes Go.ChangeAt Go.RowKit
set_option linter.unusedVariables false

/-- The pointer A leads to slices of slices, one for each of L, all of it below block number B. -/
def RdLL (w : World) (B : Nat) (A : Option Addr) (L : List (List (List UInt8))) : Prop :=
  0 < L.length → ∃ ad, A = some ad ∧ ad.block < B ∧ ∀ j m, L[j]? = some m → ∃ A' c', w.cell? (ad.add j) = some (.slice A' m.length c') ∧ m.length ≤ c' ∧ c' ≤ maxLen ∧ RdL w B A' m
theorem RdLL.keep {w w' : World} {B : Nat} {A : Option Addr} {L : List (List (List UInt8))} (h : RdLL w B A L) (hk : ∀ p : Addr, p.block < B → w'.cell? p = w.cell? p) : RdLL w' B A L := by
  intro hp
  obtain ⟨ad, e, hb, hc⟩ := h hp
  refine ⟨ad, e, hb, fun j m hm => ?_⟩
  obtain ⟨A', c', h1, h2, h3, h4⟩ := hc j m hm
  exact ⟨A', c', (hk _ (by rw [blockAdd]; exact hb)).trans h1, h2, h3, h4.keep hk⟩
theorem RdLL.more {w : World} {B B' : Nat} {A : Option Addr} {L : List (List (List UInt8))} (h : RdLL w B A L) (hB : B ≤ B') : RdLL w B' A L := by
  intro hp
  obtain ⟨ad, e, hb, hc⟩ := h hp
  refine ⟨ad, e, by omega, fun j m hm => ?_⟩
  obtain ⟨A', c', h1, h2, h3, h4⟩ := hc j m hm
  exact ⟨A', c', h1, h2, h3, h4.more hB⟩
theorem RdLL.below {w w' : World} {B : Nat} {A : Option Addr} {L : List (List (List UInt8))} (h : RdLL w B A L) (hb : Below B w w') : RdLL w' B A L := h.keep fun _ hp => hb.cell hp
theorem RdLL.on {w w' : World} {A : Option Addr} {L : List (List (List UInt8))} (h : RdLL w w.heap.size A L) (hb : Below w.heap.size w w') : RdLL w' w'.heap.size A L := (h.below hb).more hb.size
theorem RdLL.cell {w : World} {B : Nat} {A : Option Addr} {L : List (List (List UInt8))} {k : Nat} (h : RdLL w B A L) (hk : k < L.length) :
    ∃ ad m A' c', A = some ad ∧ ad.block < B ∧ L[k]? = some m ∧ w.cell? (ad.add k) = some (.slice A' m.length c') ∧ m.length ≤ c' ∧ c' ≤ maxLen ∧ RdL w B A' m := by
  obtain ⟨ad, e, hb, hc⟩ := h (by omega)
  obtain ⟨A', c', h1, h2, h3, h4⟩ := hc k _ (List.getElem?_eq_getElem hk)
  exact ⟨ad, _, A', c', e, hb, List.getElem?_eq_getElem hk, h1, h2, h3, h4⟩

/-- a row of numbers below block B -/
def RdN (w : World) (B : Nat) (A : Option Addr) (ns : List Nat) : Prop :=
  ∀ (j u : Nat), ns[j]? = some u → u < 18446744073709551616 ∧ ∃ ad, A = some ad ∧ ad.block < B ∧ w.cell? (ad.add j) = some (.int .u64 (u : Int))
theorem RdN.below {w w' : World} {B : Nat} {A : Option Addr} {ns : List Nat} (h : RdN w B A ns) (hb : Below B w w') : RdN w' B A ns := fun j u hu => by
  obtain ⟨h0, ad, h1, h2, h3⟩ := h j u hu
  exact ⟨h0, ad, h1, h2, (hb.cell (by rw [blockAdd]; exact h2)).trans h3⟩

/-- the number of the i-th card -/
def numb (ns : List Nat) (i : Nat) : Nat := if i < ns.length then ns.getD i 0 else i * 1000

/-- a row of the call's own stays, while older memory stays -/
theorem row_below {w w' : World} {base : Nat} {e : TypeId} {s n : Nat} {v : Value} {xs : List Value} (h : w.ownsRow base e s v n xs) (hb : Below w.heap.size w w') : w'.ownsRow base e s v n xs := by
  obtain ⟨h3, h4⟩ := h
  refine ⟨h3, ?_⟩
  rcases h4 with h4 | ⟨g, cap, cur, hv, hg, hh, r⟩
  · exact .inl h4
  · have hlt : g < w.heap.size := by
      rcases Nat.lt_or_ge g w.heap.size with hlt | hge
      · exact hlt
      · rw [Array.getElem?_eq_none hge] at hh; cases hh
    exact .inr ⟨g, cap, cur, hv, hg, (hb.block g hlt).trans hh, r⟩
theorem row_mono {w : World} {base base' : Nat} {e : TypeId} {s n : Nat} {v : Value} {xs : List Value} (h : w.ownsRow base e s v n xs) (hb : base' ≤ base) : w.ownsRow base' e s v n xs := by
  obtain ⟨h1, h2⟩ := h
  refine ⟨h1, ?_⟩
  rcases h2 with h2 | ⟨g, cap, cur, hv, hg, r⟩
  · exact .inl h2
  · exact .inr ⟨g, cap, cur, hv, Nat.le_trans hb hg, r⟩

/-- The slice v is the call's own, and so is each of its slices; the strings lie below block B. -/
def OwnC (w : World) (base B : Nat) (v : Value) (L : List (List (List UInt8))) : Prop :=
  ∃ vs : List Value, w.ownsRow base 26 1 v L.length vs ∧ ∀ (j : Nat) (ls : List (List UInt8)), L[j]? = some ls → ∃ u us, vs[j]? = some u ∧ w.ownsRow base 24 1 u ls.length us ∧ Slots w B us ls

theorem OwnC.nil (w : World) (base B : Nat) : OwnC w base B (.slice none 0 0) [] := ⟨[], World.ownsRow_nil w base _ _, fun j m h => by simp at h⟩
theorem OwnC.below {w w' : World} {base B : Nat} {v : Value} {L : List (List (List UInt8))} (h : OwnC w base B v L) (hB : B ≤ w.heap.size) (hb : Below w.heap.size w w') : OwnC w' base B v L := by
  obtain ⟨vs, h1, h2⟩ := h
  refine ⟨vs, row_below h1 hb, fun j ls hj => ?_⟩
  obtain ⟨u, us, h3, h4, h5⟩ := h2 j ls hj
  exact ⟨u, us, h3, row_below h4 hb, h5.below (hb.mono hB)⟩
theorem OwnC.rd {w : World} {base B : Nat} {v : Value} {L : List (List (List UInt8))} (h : OwnC w base B v L) (hB : B ≤ w.heap.size) :
    ∃ A c, v = .slice A L.length c ∧ L.length ≤ c ∧ c ≤ maxLen ∧ RdLL w w.heap.size A L := by
  obtain ⟨vs, ho, h3⟩ := h
  have ho' := ho
  obtain ⟨h1, h2⟩ := ho
  rcases h2 with ⟨rfl, h0⟩ | ⟨g, cap, cur, rfl, hg, hh, hc, hm, hs, ht⟩
  · exact ⟨none, 0, by rw [h0], by omega, by simp [maxLen], fun hp => by omega⟩
  · have hlt : g < w.heap.size := by
      rcases Nat.lt_or_ge g w.heap.size with hlt | hge
      · exact hlt
      · rw [Array.getElem?_eq_none hge] at hh; cases hh
    refine ⟨_, cap, rfl, hc, hm, fun _ => ⟨_, rfl, hlt, fun j m hj => ?_⟩⟩
    obtain ⟨u, us, hu, hou, hsl⟩ := h3 j m hj
    obtain ⟨A', c', rfl, q1, q2, q3⟩ := hsl.rd hB hou
    exact ⟨A', c', World.ownsRow.cells ho' (g := g) rfl j _ hu, q1, q2, q3⟩

theorem Try.info_list : (Try.prog.info? 26).map (fun i => (i.zero, i.size, i.bytes)) = some (some (.slice none 0 0), 1, 24) := by kernel_rfl

/-- append of one list of the call's own onto the cards -/
theorem wpList_app1C {W : World} {ops : Array Oper} {rest : List Oper} {o : Oper} {a : Act} {Q : Exit → Act → World → Prop} (hgd : o.guard = none) (s x : Operand)
    (ho : o.op = .call { callee := .builtin .append, args := #[s, x], argTypes := #[23, 23] })
    (base B : Nat) (v : Value) (L : List (List (List UInt8))) (hs : a.eval s = v) (hown : OwnC W base B v L) (u : Value) (us : List Value) (m : List (List UInt8)) (hu : W.ownsRow base 24 1 u m.length us) (hsl : Slots W B us m) (hx : a.eval x = .slice (some ⟨W.heap.size, 0, none⟩) 1 1)
    (hlen : L.length + 1 ≤ 2199023255552) (hB : B ≤ base) (hbase : base ≤ W.heap.size)
    (h : ∀ v' w', OwnC w' base B v' (L ++ [m]) → Below base W w' → wpList Try.prog ops Q rest (a.put o.dst v') w') : wpList Try.prog ops Q (o :: rest) a (W.alloc (.cells #[u] 26)) := by
  obtain ⟨i0, hi, hz0, hz1, hz2⟩ := info_parts Try.info_list
  obtain ⟨vs, hrow, hin⟩ := hown
  have hvl : vs.length = L.length := by have := hrow.1; omega
  have hone : u.oneCell' = true := by
    rcases hu.2 with ⟨rfl, _⟩ | ⟨g, cap, cur, rfl, _⟩ <;> rfl
  refine wpList_append_own _ hgd s x 23 ho base 26 i0 (.slice none 0 0) 1 24 Try.underlying23 hi hz0 hz1 hz2 rfl (by decide) v L.length vs hs (hrow.alloc _) ⟨W.heap.size, 0, none⟩ 1 1 [u] hx rfl ?_ ?_ (by simp only [maxLen]; omega) (by omega) (by simp; omega) ?_
  · intro j q hq
    have hj := getElem_lt hq
    obtain rfl : j = 0 := by simpa using hj
    have hq' : u = q := by simpa using hq
    subst hq'
    have ha : ((⟨W.heap.size, 0, none⟩ : Addr).add 0) = ⟨W.heap.size, 0, none⟩ := by simp [Addr.add]
    rw [ha]
    simp only [World.cell?, heap_alloc_new]
    rfl
  · intro q hq
    obtain rfl : q = u := by simpa using hq
    exact hone
  · intro v' w' h1 h2 _
    have hbw : Below base W w' := ((Below.refl _ _).alloc hbase _).grown h2 (by simp; omega) fun k hk => (hrow.lt k hk).1
    refine h v' w' ⟨vs ++ [u], by rw [List.length_append]; exact h1, ?_⟩ hbw
    intro j q hq
    have hapart : ∀ (y : Value) (n : Nat) (z : List Value), W.ownsRow base 24 1 y n z → w'.ownsRow base 24 1 y n z := fun y n z hy =>
      World.ownsRow.kept (hy.alloc _) h2 (own_apart hy hrow (by decide))
    rcases Nat.lt_or_ge j L.length with hlt | hge
    · rw [List.getElem?_append_left hlt] at hq
      obtain ⟨y, ys, hy, hoy, hsy⟩ := hin j q hq
      exact ⟨y, ys, by rw [List.getElem?_append_left (by omega)]; exact hy, hapart y _ _ hoy, hsy.below (hbw.mono hB)⟩
    · rw [List.getElem?_append_right hge] at hq
      have hj := getElem_lt hq
      have hj0 : j = L.length := by simp at hj; omega
      subst hj0
      simp at hq
      subst hq
      exact ⟨u, us, by rw [List.getElem?_append_right (by omega)]; simp [hvl], hapart u _ _ hu, hsl.below (hbw.mono hB)⟩

theorem below_setCellsB {B b : Nat} {a : World} (hb : B ≤ b) : ∀ (vs : List Value) (o : Nat) (w : World), Below B a w → Below B a (w.setCells b o vs)
  | [], _, _, h => h
  | v :: r, o, w, h => below_setCellsB hb r (o + 1) _ (h.setCell (by simpa using hb) v)

/-- a slice of bytes behind which there is room of its own -/
structure RoomB (w : World) (base g cap : Nat) (l : List UInt8) : Prop where
  rd : Rd w w.heap.size (some ⟨g, 0, none⟩) l
  le : base ≤ g
  lt : g < w.heap.size
  fit : l.length ≤ cap
  most : cap ≤ maxLen
  cell : ∀ j, j < cap → (w.cell? ⟨g, j, none⟩).isSome = true ∧ w.frozen? ⟨g, j, none⟩ = false

theorem addG (g j : Nat) : ((⟨g, 0, none⟩ : Addr).add j) = ⟨g, j, none⟩ := by
  unfold Addr.add
  by_cases hj0 : j = 0 <;> simp [hj0]

set_option maxRecDepth 100000 in
/-- append of bytes onto such a slice -/
theorem wpList_appZ {w : World} {ops : Array Oper} {rest : List Oper} {o : Oper} {a : Act} {Q : Exit → Act → World → Prop} (hgd : o.guard = none) (s x : Operand)
    (ho : o.op = .call { callee := .builtin .append, args := #[s, x], argTypes := #[24, 24] })
    (base g cap : Nat) (l : List UInt8) (hs : a.eval s = .slice (some ⟨g, 0, none⟩) l.length cap) (hR : RoomB w base g cap l) (A : Option Addr) (c : Nat) (m : List UInt8) (hx : a.eval x = .slice A m.length c) (hr : Rd w w.heap.size A m)
    (hlen : l.length + m.length ≤ 70368744177664)
    (h : ∀ A' c' w' T, Hid (T = l ++ m) → Rd w' w'.heap.size A' T → T.length ≤ c' → c' ≤ maxLen → Below base w w' → wpList Try.prog ops Q rest (a.put o.dst (.slice A' T.length c')) w') : wpList Try.prog ops Q (o :: rest) a w := by
  obtain ⟨i0, hi, hz0, hz1, hz2⟩ := info_parts Try.info_u8
  have fin : ∀ v' w' A' c', (Builtin.append_ #[24, 24] o.type #[.slice (some ⟨g, 0, none⟩) l.length cap, .slice A m.length c]).run Try.prog w = .ok v' w' → v' = .slice A' (l ++ m).length c' → Rd w' w'.heap.size A' (l ++ m) → (l ++ m).length ≤ c' → c' ≤ maxLen → Below base w w' → wpList Try.prog ops Q (o :: rest) a w := by
    intro v' w' A' c' hrun hv hrd h1 h2 hb
    subst hv
    refine wpList_plain hgd fun K hK => ?_
    unfold Oper.wp
    simp only [execOp, ho, resolve, invoke, builtin, Sem.run_bind, Sem.run_pure, Result.andThen_ok, List.map_toArray, List.map_cons, List.map_nil, hs, hx]
    rw [hrun]
    exact hK _ _ (h A' c' w' (l ++ m) (Lib.hid rfl) hrd h1 h2 hb)
  rcases A with _ | ad
  · have h0 : m = [] := by
      cases m with
      | nil => rfl
      | cons u r =>
        obtain ⟨ad, e, _⟩ := hr (by simp)
        cases e
    subst h0
    refine fin (.slice (some ⟨g, 0, none⟩) l.length cap) w (some ⟨g, 0, none⟩) cap ?_ (by simp) (by simpa using hR.rd) (by simpa using hR.fit) hR.most (Below.refl _ _)
    simp [Builtin.append_, run_underlying Try.underlying24, sizeOf, typeInfo, hi, Builtin.lenOf, Builtin.firstCells, hR.fit, storeCells]
  · have hnews : ∀ j u, (bs m)[j]? = some u → w.cell? (ad.add j) = some u := by
      intro j u hu
      rw [bs_getElem?] at hu
      obtain ⟨q, hq, rfl⟩ := Option.map_eq_some_iff.1 hu
      obtain ⟨ad', e, _, hc⟩ := hr (by have := getElem_lt hq; omega)
      injection e with e
      subst e
      exact hc j q hq
    have hold : ∀ j u, (bs l)[j]? = some u → w.cell? ((⟨g, 0, none⟩ : Addr).add j) = some u := by
      intro j u hu
      rw [bs_getElem?] at hu
      obtain ⟨q, hq, rfl⟩ := Option.map_eq_some_iff.1 hu
      obtain ⟨ad', e, _, hc⟩ := hR.rd (by have := getElem_lt hq; omega)
      injection e with e
      subst e
      exact hc j q hq
    have hlm : (l ++ m).length = l.length + m.length := List.length_append
    by_cases hroom : l.length + m.length ≤ cap
    · have hf := run_firstCells_some (P := Try.prog) w 1 m.length ad m.length c (bs m) (by simp [bs]) hnews
      have hst := run_storeCells_cells (P := Try.prog) g l.length (bs m) 0 w (fun j hj => (hR.cell _ (by rw [bs_length] at hj; omega)).1) (fun j hj => (hR.cell _ (by rw [bs_length] at hj; omega)).2) (bs_one m)
      simp only [Nat.add_zero] at hst
      have hin := World.cell?_setCells_in g (bs m) l.length w (fun j hj => (hR.cell _ (by rw [bs_length] at hj; omega)).1)
      have hbw : Below base w (w.setCells g l.length (bs m)) := below_setCellsB hR.le _ _ _ (Below.refl _ _)
      refine fin (.slice (some ⟨g, 0, none⟩) (l.length + m.length) cap) (w.setCells g l.length (bs m)) (some ⟨g, 0, none⟩) cap ?_ (by rw [hlm]) (fun _ => ⟨_, rfl, Nat.lt_of_lt_of_le hR.lt hbw.size, fun j u hu => ?_⟩) (by rw [hlm]; exact hroom) hR.most hbw
      · simp [Builtin.append_, run_underlying Try.underlying24, sizeOf, typeInfo, hi, hz1, Builtin.lenOf, hroom, hf, Addr.add_lit, hst]
      · rw [addG]
        rcases Nat.lt_or_ge j l.length with hj | hj
        · rw [List.getElem?_append_left hj] at hu
          rw [World.cell?_setCells_out g _ _ _ _ (fun _ _ => .inl hj), ← addG]
          exact hold j _ (by rw [bs_getElem?, hu]; rfl)
        · rw [List.getElem?_append_right hj] at hu
          have hj2 := getElem_lt hu
          have := hin (j - l.length) (by rw [bs_length]; exact hj2)
          rw [show l.length + (j - l.length) = j by omega] at this
          rw [this]
          congr 1
          have : (bs m)[j - l.length]? = some (b8 u) := by rw [bs_getElem?, hu]; rfl
          rw [List.getElem?_eq_getElem (by rw [bs_length]; exact hj2)] at this
          injection this
    · have hlt : cap < l.length + m.length := by omega
      have hcap := hR.most
      have hcm : grownCap w (l.length + m.length) cap 5 ≤ maxLen := grownCap_le_maxLen w _ _ _ (by simp only [maxLen]; omega)
      have hge := grownCap_ge w (l.length + m.length) cap 5
      have hrun := run_append_grow (P := Try.prog) w 24 o.type 5 i0 (.int .u8 0) Try.underlying24 hi hz0 ⟨g, 0, none⟩ l.length cap (bs l) (by rw [bs_length, hz1, Nat.mul_one]) hold ad m.length c (bs m) (by rw [bs_length, hz1, Nat.mul_one]) hnews hlt (by omega)
        (by rw [hz2]; exact growslice_fits hlt (by omega))
      refine fin _ _ (some ⟨w.heap.size, 0, none⟩) (grownCap w (l.length + m.length) cap 5) hrun (by rw [hlm]) (fun _ => ⟨_, rfl, by simp, fun j u hu => ?_⟩) (by rw [hlm]; exact hge) hcm ((Below.refl _ _).drew.alloc (Nat.le_of_lt (Nat.lt_of_le_of_lt hR.le hR.lt)) _)
      rw [addG]
      have hj := getElem_lt hu
      have hcat : (bs (l ++ m))[j]? = some (b8 u) := by rw [bs_getElem?, hu]; rfl
      have hbl : j < (bs (l ++ m)).length := by rw [bs_length]; exact hj
      have hn : (w.drew.alloc (.cells ((bs l).toArray ++ (bs m).toArray ++ Builtin.zeroCells (Value.int .u8 0).cells (grownCap w (l.length + m.length) cap 5 - (l.length + m.length))) 5)).heap[w.heap.size]? = some (.cells ((bs l).toArray ++ (bs m).toArray ++ Builtin.zeroCells (Value.int .u8 0).cells (grownCap w (l.length + m.length) cap 5 - (l.length + m.length))) 5) := heap_alloc_new w.drew _
      simp only [World.cell?]
      rw [hn]
      simp only
      rw [bs_append] at hcat hbl
      rw [Array.getElem?_append_left (by simpa using hbl)]
      simpa using hcat

/-- lists whose bytes may be written over -/
def Zable (w : World) (base : Nat) (ad : Addr) (ls : List (List UInt8)) : Prop :=
  ∀ k m, ls[k]? = some m → ∃ A' c', w.cell? (ad.add k) = some (.slice A' m.length c') ∧ ∀ j, j < m.length → ∃ a' z, A' = some a' ∧ base ≤ (a'.add j).block ∧ w.cell? (a'.add j) = some (.int .u8 z) ∧ w.frozen? (a'.add j) = false
theorem Zable.set {w : World} {base : Nat} {ad : Addr} {ls : List (List UInt8)} (h : Zable w base ad ls) {p : Addr} {z : Int} (hp : w.cell? p = some (.int .u8 z)) : Zable (w.setCell p (.int .u8 0)) base ad ls := by
  intro k m hm
  obtain ⟨A', c', h1, h2⟩ := h k m hm
  refine ⟨A', c', ?_, fun j hj => ?_⟩
  · rw [World.cell?_setCell_other (h := fun e => by rw [e, h1] at hp; simp at hp)]
    exact h1
  · obtain ⟨a', z', e1, e2, e3, e4⟩ := h2 j hj
    by_cases e : p = a'.add j
    · exact ⟨a', 0, e1, e2, by rw [e]; exact World.cell?_setCell_same _ _ _ e3, by rw [World.frozen?_setCell]; exact e4⟩
    · exact ⟨a', z', e1, e2, by rw [World.cell?_setCell_other (h := e)]; exact e3, by rw [World.frozen?_setCell]; exact e4⟩
theorem Zable.below {w w' : World} {base : Nat} {ad : Addr} {ls : List (List UInt8)} (h : Zable w base ad ls) (hb : ∀ p u, w.cell? p = some u → w'.cell? p = some u ∧ w'.frozen? p = w.frozen? p) : Zable w' base ad ls := by
  intro k m hm
  obtain ⟨A', c', h1, h2⟩ := h k m hm
  refine ⟨A', c', (hb _ _ h1).1, fun j hj => ?_⟩
  obtain ⟨a', z', e1, e2, e3, e4⟩ := h2 j hj
  exact ⟨a', z', e1, e2, (hb _ _ e3).1, (hb _ _ e3).2.trans e4⟩
theorem OwnL.zable {w : World} {base : Nat} {v : Value} {ls : List (List UInt8)} (h : OwnL w base v ls) (hne : 0 < ls.length) : ∃ ad c, v = .slice (some ad) ls.length c ∧ Zable w base ad ls := by
  obtain ⟨vs, ho, h3⟩ := h
  have ho' := ho
  obtain ⟨h1, h2⟩ := ho
  rcases h2 with ⟨rfl, h0⟩ | ⟨g, cap, cur, rfl, hg, hh, hc, hm, hs, ht⟩
  · omega
  · refine ⟨_, cap, rfl, fun k m hk => ?_⟩
    obtain ⟨u, hu, hou⟩ := h3 k m hk
    have hcell := World.ownsRow.cells ho' (g := g) rfl k _ hu
    have hou' := hou
    obtain ⟨q1, q2⟩ := hou
    rcases q2 with ⟨rfl, h0⟩ | ⟨g', cap', cur', rfl, hg', hh', hc', hm', hs', ht'⟩
    · exact ⟨none, 0, by rw [hcell, h0], fun j hj => by omega⟩
    · refine ⟨_, cap', hcell, fun j hj => ⟨_, _, rfl, by rw [blockAdd]; exact hg', World.ownsRow.cells hou' (g := g') rfl j (b8 m[j]) (by rw [bs_getElem?, List.getElem?_eq_getElem hj]; rfl), ?_⟩⟩
      rw [addG]
      simp [World.frozen?, hh']
theorem OwnL.zform {w : World} {base : Nat} {v : Value} {ls : List (List UInt8)} (h : OwnL w base v ls) :
    ∃ A c, v = .slice A ls.length c ∧ ls.length ≤ c ∧ c ≤ maxLen ∧ RdL w w.heap.size A ls ∧ (0 < ls.length → ∃ ad, A = some ad) ∧ ∀ ad, A = some ad → Zable w base ad ls := by
  obtain ⟨A, c, rfl, h1, h2, h3⟩ := h.form
  refine ⟨A, c, rfl, h1, h2, h3, fun hp => ?_, fun ad e => ?_⟩
  · obtain ⟨ad, e, _⟩ := h3 hp
    exact ⟨ad, e⟩
  · rcases Nat.eq_zero_or_pos ls.length with h0 | h0
    · intro k m hk
      have := getElem_lt hk
      omega
    · obtain ⟨ad', c', e', hz⟩ := h.zable h0
      injection e' with e' _ _
      rw [e] at e'
      injection e' with e'
      rw [e']
      exact hz
theorem Zable.on {w w' : World} {base : Nat} {ad : Addr} {ls : List (List UInt8)} (h : Zable w base ad ls) (hb : Below w.heap.size w w') : Zable w' base ad ls :=
  h.below fun p u hp => by
    have hlt := World.block_lt_of_cell? w _ hp
    exact ⟨(hb.cell hlt).trans hp, hb.frozen hlt⟩
theorem fits60 {ls : List (List UInt8)} (h : ∀ m ∈ ls, m.length ≤ 60) : fitsAll ls 60 = true := by
  unfold fitsAll
  rw [List.all_eq_true]
  intro m hm
  have := h m hm
  rw [above_of_le (by omega) (by omega)]
  rfl
end Go.Proofs.Ytlichbiioejpiaa
