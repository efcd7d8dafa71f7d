/-
  Layer 7, sorter: slices.CompactFunc keeps the first of each run of one key. Conditions: two entries or more, no more than 2^20; the slice is the call's own.
-/
import Derived.Test.YtifnhdnmohlfiaaQOrder
import Derived.Laws.IdiomCopy
namespace Go.Proofs.Ytifnhdnmohlfiaa
open Go.ChangeShapes Go.WideShapes Go.ChangeAt Go.RowKit
set_option linter.unusedVariables false

/-- what is left behind p -/
def cmpA {α : Type} (q : α → α → Bool) : α → List α → List α
  | _, [] => []
  | p, y :: l => if q y p then cmpA q y l else y :: cmpA q y l
/-- the first of each run -/
def cmpct {α : Type} (q : α → α → Bool) : List α → List α
  | [] => []
  | x :: l => x :: cmpA q x l
def sameE (x y : En) : Bool := x.kb == y.kb
theorem cmpA_length {α : Type} (q : α → α → Bool) : ∀ (l : List α) (p : α), (cmpA q p l).length ≤ l.length
  | [], p => by simp [cmpA]
  | y :: l, p => by
    have ih := cmpA_length q l y
    unfold cmpA
    split
    · simp; omega
    · simp; omega
theorem cmpct_length {α : Type} (q : α → α → Bool) (l : List α) : (cmpct q l).length ≤ l.length := by
  cases l with
  | nil => simp [cmpct]
  | cons x l => have := cmpA_length q l x; simp [cmpct]; omega
theorem cmpA_mem {α : Type} (q : α → α → Bool) : ∀ (l : List α) (p x : α), x ∈ cmpA q p l → x ∈ l
  | [], p, x, h => by simp [cmpA] at h
  | y :: l, p, x, h => by
    unfold cmpA at h
    split at h
    · exact List.mem_cons_of_mem _ (cmpA_mem q l y x h)
    · rcases List.mem_cons.1 h with rfl | h
      · exact List.mem_cons_self
      · exact List.mem_cons_of_mem _ (cmpA_mem q l y x h)
theorem cmpct_mem {α : Type} (q : α → α → Bool) (l : List α) (x : α) (h : x ∈ cmpct q l) : x ∈ l := by
  cases l with
  | nil => exact h
  | cons y l =>
    rcases List.mem_cons.1 h with rfl | h
    · exact List.mem_cons_self
    · exact List.mem_cons_of_mem _ (cmpA_mem q l y x h)
theorem cmpA_map {α β : Type} (f : α → β) (q : β → β → Bool) : ∀ (l : List α) (p : α), cmpA q (f p) (l.map f) = (cmpA (fun x y => q (f x) (f y)) p l).map f
  | [], p => rfl
  | y :: l, p => by
    have ih := cmpA_map f q l y
    simp only [List.map_cons, cmpA]
    split
    · exact ih
    · rw [List.map_cons, ih]
theorem cmpct_map {α β : Type} (f : α → β) (q : β → β → Bool) (l : List α) : cmpct q (l.map f) = (cmpct (fun x y => q (f x) (f y)) l).map f := by
  cases l with
  | nil => rfl
  | cons x l => simp only [List.map_cons, cmpct, cmpA_map]
/-- one step of the first loop: nothing is left out -/
theorem cmp_step {α : Type} (q : α → α → Bool) (l c : List α) (k : Nat) (p y : α) (hy : l[k]? = some y) (hq : q y p = false) (h : cmpct q l = c ++ cmpA q p (l.drop k)) : cmpct q l = (c ++ [y]) ++ cmpA q y (l.drop (k + 1)) := by
  obtain ⟨hk, hy'⟩ := List.getElem?_eq_some_iff.1 hy
  rw [h, List.drop_eq_getElem_cons hk, hy', cmpA, if_neg (by rw [hq]; decide), List.append_assoc]
  rfl
theorem cmp_skip {α : Type} (q : α → α → Bool) (l c : List α) (k : Nat) (p y : α) (hy : l[k]? = some y) (hq : q y p = true) (h : cmpct q l = c ++ cmpA q p (l.drop k)) : cmpct q l = c ++ cmpA q y (l.drop (k + 1)) := by
  obtain ⟨hk, hy'⟩ := List.getElem?_eq_some_iff.1 hy
  rw [h, List.drop_eq_getElem_cons hk, hy', cmpA, if_pos hq]
/-- the first loop's head: m + 1 entries are asked, m the last of them -/
def CptRel (w0 : World) (base : Nat) (l : List En) (v5 : Value) (wr : World) : Prop :=
  ∃ m : Nat, v5 = .int .i64 ((m : Int) + 1) ∧ m + 1 ≤ l.length ∧ Below w0.heap.size w0 wr ∧ ∀ p, l[m]? = some p → cmpct sameE l = l.take (m + 1) ++ cmpA sameE p (l.drop (m + 1))
theorem OwnE.at {w : World} {base g n c : Nat} {l : List En} (h : OwnE w base (.slice (some ⟨g, 0, none⟩) n c) l) (hn : n = l.length) (j : Nat) (e : En) (hj : l[j]? = some e) : w.cell? ⟨g, j * 2, none⟩ = some e.kv ∧ w.cell? ⟨g, j * 2 + 1, none⟩ = some e.rv := by
  subst hn
  obtain ⟨g0, g1⟩ := cellsE_get l j e hj
  have hl := (List.getElem?_eq_some_iff.1 hj).1
  exact ⟨(World.ownsRow.cellAt h (j * 2) (by omega)).trans g0, (World.ownsRow.cellAt h (j * 2 + 1) (by omega)).trans g1⟩
/-- the inner loop's head: k entries are kept, m + 1 + r is the last one that was asked -/
def CptRel2 (w0 : World) (base g c m : Nat) (l : List En) (v5 v7 : Value) (wr : World) : Prop :=
  ∃ (k r : Nat) (cur : List En), v5 = .int .i64 (k : Int) ∧ v7 = .int .i64 ((r : Int) + 1) ∧ m + 1 ≤ k ∧ k ≤ m + 1 + r ∧ m + 1 + r + 1 ≤ l.length ∧ cur.length = l.length ∧ cur.drop k = l.drop k ∧ OwnE wr base (.slice (some ⟨g, 0, none⟩) l.length c) cur ∧ Below base w0 wr ∧
    ∀ p, l[m + 1 + r]? = some p → cmpct sameE l = cur.take k ++ cmpA sameE p (l.drop (m + 1 + r + 1))
theorem cellsE_set : ∀ (l : List En) (k : Nat) (e : En), ((cellsE l).set (k * 2) e.kv).set (k * 2 + 1) e.rv = cellsE (l.set k e)
  | [], k, e => by simp [cellsE]
  | x :: r, 0, e => rfl
  | x :: r, k + 1, e => by
    have h := cellsE_set r k e
    have e1 : (k + 1) * 2 = k * 2 + 1 + 1 := by omega
    rw [e1]
    simp only [cellsE, List.set_cons_succ]
    rw [h]
theorem OwnE.set {w : World} {base g n c : Nat} {l : List En} (h : OwnE w base (.slice (some ⟨g, 0, none⟩) n c) l) (hn : n = l.length) (k : Nat) (e : En) :
    OwnE ((w.setCell ⟨g, k * 2, none⟩ e.kv).setCell ⟨g, k * 2 + 1, none⟩ e.rv) base (.slice (some ⟨g, 0, none⟩) n c) (l.set k e) := by
  subst hn
  have h1 := (World.ownsRow.stored h (k * 2) e.kv).1
  have h2 := (World.ownsRow.stored h1 (k * 2 + 1) e.rv).1
  rw [cellsE_set] at h2
  unfold OwnE
  rw [List.length_set]
  exact h2
theorem below_set2 {w w0 : World} {base g k : Nat} {u v : Value} (h : Below base w0 w) (hg : base ≤ g) : Below base w0 ((w.setCell ⟨g, k * 2, none⟩ u).setCell ⟨g, k * 2 + 1, none⟩ v) :=
  (h.setCell (p := ⟨g, k * 2, none⟩) hg u).setCell (p := ⟨g, k * 2 + 1, none⟩) hg v
theorem zero_E (w : World) : (zeroValue 78).run Try.prog w = .ok (.agg #[.slice none 0 0, .slice none 0 0]) w := by
  obtain ⟨i0, hi, hz0, hz1, hz2⟩ := info_parts Try.info_E
  simp [zeroValue, typeInfo, hi, hz0]
theorem zeroCells_E (n : Nat) : (Builtin.zeroCells (Value.agg #[.slice none 0 0, .slice none 0 0]).cells n).toList = List.replicate (n * 2) (.slice none 0 0) := by
  have e : (Value.agg #[.slice none 0 0, .slice none 0 0]).cells = #[.slice none 0 0, .slice none 0 0] := by kernel_rfl
  rw [e]
  simp [Builtin.zeroCells]
  apply List.ext_getElem
  · simp
  · intro i h1 h2
    have : i % 2 = 0 ∨ i % 2 = 1 := by omega
    rcases this with h | h <;> simp [h]
theorem cellsE_take : ∀ (l : List En) (k : Nat), (cellsE l).take (k * 2) = cellsE (l.take k)
  | [], k => by simp [cellsE]
  | x :: r, 0 => by simp [cellsE]
  | x :: r, k + 1 => by
    have e : (k + 1) * 2 = k * 2 + 1 + 1 := by omega
    rw [e]
    simpa [cellsE] using cellsE_take r k
theorem run_store1 {w : World} {a : Addr} {v u : Value} (hv : v.oneCell' = true) (hc : w.cell? a = some u) (hf : w.frozen? a = false) (m : Mode := .plain) : (store a v m).run Try.prog w = .ok () (w.setCell a v) := by
  rw [run_store Try.prog w a v m hv]
  simp [hc, hf]
theorem set_take (cur : List En) (k : Nat) (y : En) (h : k < cur.length) : (cur.set k y).take (k + 1) = cur.take k ++ [y] := by
  rw [List.take_add_one, List.getElem?_set_self h, List.take_set, List.set_eq_of_length_le (by rw [List.length_take]; omega)]
  rfl
theorem set_drop (cur l : List En) (k : Nat) (y : En) (h : cur.drop k = l.drop k) : (cur.set k y).drop (k + 1) = l.drop (k + 1) := by
  rw [List.drop_set, if_pos (by omega)]
  rw [show cur.drop (k + 1) = (cur.drop k).drop 1 by rw [List.drop_drop], show l.drop (k + 1) = (l.drop k).drop 1 by rw [List.drop_drop], h]
/-- clear(s[k:]): the cells from entry k on -/
theorem run_clearE {w : World} {base g n c : Nat} {l : List En} (h : OwnE w base (.slice (some ⟨g, 0, none⟩) n c) l) (hn : n = l.length) (k c' : Nat) (hk : k < n) :
    (Builtin.clear_ #[56] 0 #[.slice (some ⟨g, k * 2, none⟩) (n - k) c']).run Try.prog w = .ok (.tuple #[]) (w.setCells g (k * 2) (List.replicate ((n - k) * 2) (.slice none 0 0))) := by
  subst hn
  have hst := run_storeCells_cells (P := Try.prog) g (k * 2) (List.replicate ((l.length - k) * 2) (.slice none 0 0)) 0 w (fun j hj => by
      rw [List.length_replicate] at hj
      have hl : k * 2 + 0 + j < (cellsE l).length := by rw [cellsE_length]; omega
      rw [World.ownsRow.cellAt h _ (by omega), List.getElem?_eq_getElem hl]
      rfl) (fun j hj => World.ownsRow.frozenAt h _) (by intro v hv; rw [List.eq_of_mem_replicate hv]; rfl)
  rw [Nat.add_zero] at hst
  obtain ⟨q, hq⟩ : ∃ q, l.length - k = q + 1 := ⟨l.length - k - 1, by omega⟩
  rw [hq] at hst ⊢
  simp [Builtin.clear_, run_underlying Try.underlying56, zeroCells_E, hst]
theorem below_cells {w0 : World} {base g : Nat} (hg : base ≤ g) : ∀ (vs : List Value) (o : Nat) (w : World), Below base w0 w → Below base w0 (w.setCells g o vs)
  | [], _, _, h => h
  | v :: r, o, w, h => below_cells hg r (o + 1) _ (h.setCell (p := ⟨g, o, none⟩) hg v)
theorem setCells_row {g : Nat} {t : TypeId} : ∀ (vs : List Value) (o : Nat) (w : World) (cur : Array Value), w.heap[g]? = some (.cells cur t (0, 0)) → ∃ cur', (w.setCells g o vs).heap[g]? = some (.cells cur' t (0, 0)) ∧ cur'.size = cur.size ∧ ∀ k, k ≤ o → cur'.toList.take k = cur.toList.take k
  | [], o, w, cur, h => ⟨cur, h, rfl, fun _ _ => rfl⟩
  | v :: r, o, w, cur, h => by
    obtain ⟨cur', h1, h2, h3⟩ := setCells_row r (o + 1) (w.setCell ⟨g, o, none⟩ v) (cur.setIfInBounds o v) (heap_setCell_same w g o cur t v h)
    refine ⟨cur', h1, h2.trans (by simp), fun k hk => ?_⟩
    rw [h3 k (by omega), Array.toList_setIfInBounds, List.take_set_of_le (by omega)]
theorem clear_keeps {w : World} {base g n c : Nat} {l : List En} (h : OwnE w base (.slice (some ⟨g, 0, none⟩) n c) l) (hn : n = l.length) (k : Nat) (hk : k < n) (vs : List Value) :
    OwnE (w.setCells g (k * 2) vs) base (.slice (some ⟨g, 0, none⟩) k c) (l.take k) := by
  subst hn
  obtain ⟨h1, h2⟩ := h
  rcases h2 with ⟨hv, _⟩ | ⟨g', cap, cur, hv, hg, hh, hc, hm, hs, ht⟩
  · cases hv
  · simp only [Value.slice.injEq, Option.some.injEq, Addr.mk.injEq, and_true, true_and] at hv
    obtain ⟨rfl, rfl⟩ := hv
    obtain ⟨cur', q1, q2, q3⟩ := setCells_row vs (k * 2) w cur hh
    have hl : (l.take k).length = k := by rw [List.length_take]; omega
    refine ⟨by rw [cellsE_length], .inr ⟨g, c, cur', by rw [hl], hg, q1, by rw [hl]; omega, hm, q2.trans hs, ?_⟩⟩
    rw [hl, q3 _ (Nat.le_refl _)]
    have := congrArg (fun z => z.take (k * 2)) ht
    simp only [List.take_take] at this
    rw [show min (k * 2) (l.length * 2) = k * 2 by omega] at this
    rw [this, cellsE_take]
set_option maxRecDepth 100000 in
set_option maxHeartbeats 1000000 in
theorem Compact_any (g c base : Nat) (l : List En) (w : World) (hO : OwnE w base (.slice (some ⟨g, 0, none⟩) l.length c) l) (hb : base ≤ w.heap.size) (hc : c ≤ 9223372036854775807) (hok : ∀ e ∈ l, EnOk w base e) (h2 : 2 ≤ l.length) (hl : l.length ≤ 1048576) :
    Calls Try.prog 47 #[.slice (some ⟨g, 0, none⟩) l.length c, .func (.func 48) #[] #[]] w fun e w' =>
      ∃ v, e = .returned v ∧ OwnE w' base v (cmpct sameE l) ∧ Below base w w' := by
  obtain ⟨n, hn⟩ : ∃ n, l.length = n := ⟨_, rfl⟩
  have hN := Lib.hid hn
  have q0 : (2 : Int) ≤ (n : Int) := by omega
  have HO := Lib.hid hO
  have HOK := Lib.hid hok
  have q1 : decide ((n : Int) < 2) = false := decide_eq_false (by omega)
  have hC0 := Lib.hid (show ∀ p, l[0]? = some p → cmpct sameE l = l.take (0 + 1) ++ cmpA sameE p (l.drop (0 + 1)) by
    intro p hp
    cases l with
    | nil => simp at hp
    | cons x l =>
      obtain rfl : x = p := by simpa using hp
      simp [cmpct])
  have hN1 : 0 + 1 ≤ l.length := by omega
  rw [hn]
  clear hn hO hok h2
  go_enter Try.func47, Try.ntmps47
  go_wp2_with fail
  go_loopw [5] (fun v5 wr => CptRel w base l v5 wr) (fun v5 _ => n - (intOf v5).toNat)
  case atStart => exact ⟨0, rfl, hN1, Below.refl _ _, hC0.out⟩
  case round =>
    obtain ⟨m, rfl, hm, hbw, hcm⟩ := hrel
    by_cases hlt : m + 1 < n
    · obtain ⟨x, hx⟩ : ∃ x, l[m]? = some x := ⟨l[m]'(by omega), List.getElem?_eq_getElem _⟩
      obtain ⟨y, hy⟩ : ∃ y, l[m + 1]? = some y := ⟨l[m + 1]'(by have := hN.out; omega), List.getElem?_eq_getElem _⟩
      have q2 : decide ((m : Int) + 1 < (n : Int)) = true := decide_eq_true (by omega)
      have q3 : IntKind.i64.wrap ((m : Int) + 1 - 1) = (m : Int) := by rw [IntWalk.i64_in _ (by omega)]; omega
      have q33 : IntKind.i64.wrap (m : Int) = (m : Int) := IntWalk.i64_in _ (by omega)
      have q4 : (m : Int) + 1 < (n : Int) := by omega
      have q5 : (m : Int) < (n : Int) := by omega
      have q6 : (0 : Int) ≤ (m : Int) + 1 := by omega
      have HO2 := Lib.hid (HO.out.below hbw)
      obtain ⟨x0, x1⟩ := OwnE.at HO2.out rfl m x hx
      obtain ⟨y0, y1⟩ := OwnE.at HO2.out rfl (m + 1) y hy
      have OX := Lib.hid (show EnOk wr.drew wr.drew.heap.size x from ((((HOK.out x (List.mem_of_getElem? hx)).more hb).below hbw).more hbw.size))
      have OY := Lib.hid (show EnOk wr.drew wr.drew.heap.size y from ((((HOK.out y (List.mem_of_getElem? hy)).more hb).below hbw).more hbw.size))
      have hg : g < wr.heap.size := (World.ownsRow.lt HO2.out g rfl).2
      have HCM := Lib.hid (hcm x hx)
      have HX := Lib.hid hx
      have HY := Lib.hid hy
      have HC := Lib.hid (And.intro x0 (And.intro x1 (And.intro y0 y1)))
      have q7 : ((m : Int) + 1).toNat = m + 1 := by omega
      have q8 : (0 : Int) ≤ (m : Int) := by omega
      clear hcm hx hy x0 x1 y0 y1
      go_wp2_with fail
      go_region_held3 (fun X => X.cell? ⟨g, m * 2, none⟩ = some x.kv ∧ X.cell? ⟨g, m * 2 + 1, none⟩ = some x.rv ∧ X.cell? ⟨g, (m + 1) * 2, none⟩ = some y.kv ∧ X.cell? ⟨g, (m + 1) * 2 + 1, none⟩ = some y.rv) (first | exact HC.out | exact HC2.out)
        (first
          | (go_at_call 48; refine (same_any y x wr.drew OY.out OX.out).mono ?_; rintro e1 w1 ⟨rfl, hb1⟩; have HB1 := Lib.hid (show Below wr.heap.size wr w1 from ⟨hb1.os, hb1.tape, hb1.output, hb1.size, hb1.block⟩); have HC2 := Lib.hid (And.intro ((HB1.out.cell (p := ⟨g, m * 2, none⟩) hg).trans HC.out.1) (And.intro ((HB1.out.cell (p := ⟨g, m * 2 + 1, none⟩) hg).trans HC.out.2.1) (And.intro ((HB1.out.cell (p := ⟨g, (m + 1) * 2, none⟩) hg).trans HC.out.2.2.1) ((HB1.out.cell (p := ⟨g, (m + 1) * 2 + 1, none⟩) hg).trans HC.out.2.2.2)))); clear hb1))
      obtain ⟨β, hβ⟩ : ∃ β, sameE y x = β := ⟨_, rfl⟩
      rw [show (y.kb == x.kb) = β from hβ]
      have HB := Lib.hid hβ
      have HBW := Lib.hid (hbw.trans (HB1.out.mono hbw.size))
      have HO3 := Lib.hid (HO2.out.below HB1.out)
      clear hβ hbw
      cases β with
      | false =>
        go_wp2_with fail
        go_roundw
        case rel =>
          refine ⟨m + 1, by go_num, by have := hN.out; omega, HBW.out, fun p hp => ?_⟩
          obtain rfl : y = p := Option.some.inj (HY.out.symm.trans hp)
          have h := cmp_step sameE l (l.take (m + 1)) (m + 1) x y HY.out HB.out HCM.out
          rw [h, List.take_add_one (i := m + 1), HY.out]
          rfl
        case measure => simp [intOf]; omega
      | true =>
        have hcn : n ≤ c := by
          obtain ⟨A0, c0, e0, h0, _, _⟩ := HO2.out.form
          simp only [Value.slice.injEq] at e0
          have := hN.out
          omega
        have r1 : ¬ c = m + 1 := by omega
        have r2 : (m : Int) + 1 ≤ (n : Int) := by omega
        have r3 : (m : Int) + 1 ≤ (c : Int) := by omega
        go_wp2_with fail
        go_loopw [5, 7] (fun v5 v7 wr => CptRel2 w base g c m l v5 v7 wr) (fun _ v7 _ => n - (intOf v7).toNat)
        case atStart =>
          refine ⟨m + 1, 0, l, by go_num, rfl, Nat.le_refl _, Nat.le_refl _, by have := hN.out; omega, rfl, rfl, HO3.out, HBW.out.mono hb, fun p hp => ?_⟩
          obtain rfl : y = p := Option.some.inj (HY.out.symm.trans hp)
          exact cmp_skip sameE l (l.take (m + 1)) (m + 1) x y HY.out HB.out HCM.out
        case round =>
          obtain ⟨k, r, cur, rfl, rfl, hk1, hk2, hr, hcl, hcd, hoc, hbw2, hcm2⟩ := hrel
          have hnl := hN.out
          have hgb : base ≤ g := (World.ownsRow.lt hoc g rfl).1
          by_cases hlt2 : m + 1 + r + 1 < n
          · obtain ⟨x, hx⟩ : ∃ x, l[m + 1 + r]? = some x := ⟨l[m + 1 + r]'(by omega), List.getElem?_eq_getElem _⟩
            obtain ⟨y, hy⟩ : ∃ y, l[m + 1 + r + 1]? = some y := ⟨l[m + 1 + r + 1]'(by omega), List.getElem?_eq_getElem _⟩
            have hd : ∀ j, k ≤ j → cur[j]? = l[j]? := fun j hj => by
              have := congrArg (fun z => z[j - k]?) hcd
              simp only [List.getElem?_drop] at this
              rwa [show k + (j - k) = j by omega] at this
            obtain ⟨x0, x1⟩ := OwnE.at hoc hcl.symm (m + 1 + r) x ((hd _ (by omega)).trans hx)
            obtain ⟨y0, y1⟩ := OwnE.at hoc hcl.symm (m + 1 + r + 1) y ((hd _ (by omega)).trans hy)
            rw [show (m + 1 + r) * 2 = (m + 1) * 2 + r * 2 by omega] at x0 x1
            rw [show (m + 1 + r + 1) * 2 = (m + 1) * 2 + (r + 1) * 2 by omega] at y0 y1
            have hbr := hbw2.size
            have OX := Lib.hid (show EnOk wr.drew wr.drew.heap.size x from (((HOK.out x (List.mem_of_getElem? hx)).below hbw2).more (Nat.le_trans hb hbr)))
            have OY := Lib.hid (show EnOk wr.drew wr.drew.heap.size y from (((HOK.out y (List.mem_of_getElem? hy)).below hbw2).more (Nat.le_trans hb hbr)))
            have hg3 : g < wr.heap.size := (World.ownsRow.lt hoc g rfl).2
            have HCM := Lib.hid (hcm2 x hx)
            have HX := Lib.hid hx
            have HY := Lib.hid hy
            have HC := Lib.hid (And.intro x0 (And.intro x1 (And.intro y0 y1)))
            have t0 : (r : Int) + 1 < ((n - (m + 1) : Nat) : Int) := by omega
            have t1 : (r : Int) < ((n - (m + 1) : Nat) : Int) := by omega
            have t2 : ((r : Int) + 1).toNat = r + 1 := by omega
            have t3 : (0 : Int) ≤ (r : Int) := by omega
            have t4 : (0 : Int) ≤ (r : Int) + 1 := by omega
            have t5 : IntKind.i64.wrap ((r : Int) + 1 - 1) = (r : Int) := by rw [IntWalk.i64_in _ (by omega)]; omega
            have t6 : IntKind.i64.wrap (r : Int) = (r : Int) := IntWalk.i64_in _ (by omega)
            have t7 : (0 : Int) ≤ (k : Int) := by omega
            have t8 : (k : Int) < (n : Int) := by omega
            have HOC := Lib.hid hoc
            have HBW2 := Lib.hid hbw2
            have HCL := Lib.hid hcl
            have HCD := Lib.hid hcd
            have HNL := Lib.hid hnl
            clear hcm2 hx hy x0 x1 y0 y1 hd hoc hbw2 hcl hcd hnl
            go_wp2_with fail
            go_region_held3 (fun X => X.cell? ⟨g, (m + 1) * 2 + r * 2, none⟩ = some x.kv ∧ X.cell? ⟨g, (m + 1) * 2 + r * 2 + 1, none⟩ = some x.rv ∧ X.cell? ⟨g, (m + 1) * 2 + (r + 1) * 2, none⟩ = some y.kv ∧ X.cell? ⟨g, (m + 1) * 2 + (r + 1) * 2 + 1, none⟩ = some y.rv) (first | exact HC.out | exact HC2.out)
              (first
                | (go_at_call 48; refine (same_any y x wr.drew OY.out OX.out).mono ?_; rintro e1 w2 ⟨rfl, hb1⟩; have HB1 := Lib.hid (show Below wr.heap.size wr w2 from ⟨hb1.os, hb1.tape, hb1.output, hb1.size, hb1.block⟩); have HC2 := Lib.hid (And.intro ((HB1.out.cell (p := ⟨g, (m + 1) * 2 + r * 2, none⟩) hg3).trans HC.out.1) (And.intro ((HB1.out.cell (p := ⟨g, (m + 1) * 2 + r * 2 + 1, none⟩) hg3).trans HC.out.2.1) (And.intro ((HB1.out.cell (p := ⟨g, (m + 1) * 2 + (r + 1) * 2, none⟩) hg3).trans HC.out.2.2.1) ((HB1.out.cell (p := ⟨g, (m + 1) * 2 + (r + 1) * 2 + 1, none⟩) hg3).trans HC.out.2.2.2)))); clear hb1))
            obtain ⟨β, hβ⟩ : ∃ β, sameE y x = β := ⟨_, rfl⟩
            rw [show (y.kb == x.kb) = β from hβ]
            have HB := Lib.hid hβ
            have HO4 := Lib.hid (HOC.out.below HB1.out)
            have HBW4 := Lib.hid (HBW2.out.trans (HB1.out.mono (Nat.le_trans hb hbr)))
            clear hβ
            cases β with
            | true =>
              go_wp2_with fail
              refine ⟨⟨k, r + 1, cur, rfl, by go_num, hk1, by omega, by have := HNL.out; omega, HCL.out, HCD.out, HO4.out, HBW4.out, fun p hp => ?_⟩, by simp [intOf]; omega⟩
              obtain rfl : y = p := Option.some.inj (HY.out.symm.trans hp)
              exact cmp_skip sameE l (cur.take k) (m + 1 + r + 1) x y HY.out HB.out HCM.out
            | false =>
              have f0 := World.ownsRow.frozenAt (show w2.ownsRow base 78 2 _ l.length _ by have := HO4.out; unfold OwnE at this; rw [HCL.out] at this; exact this) (k * 2)
              have f1 := World.ownsRow.frozenAt (show w2.ownsRow base 78 2 _ l.length _ by have := HO4.out; unfold OwnE at this; rw [HCL.out] at this; exact this) (k * 2 + 1)
              obtain ⟨o, ho⟩ : ∃ o, cur[k]? = some o := ⟨cur[k]'(by have := HCL.out; have := HNL.out; omega), List.getElem?_eq_getElem _⟩
              obtain ⟨o0, o1⟩ := OwnE.at HO4.out HCL.out.symm k o ho
              have s0 := run_store1 (w := w2) (a := ⟨g, k * 2, none⟩) (v := y.kv) rfl o0 f0
              have s1 := run_store1 (w := w2.setCell ⟨g, k * 2, none⟩ y.kv) (a := ⟨g, k * 2 + 1, none⟩) (v := y.rv) rfl ((World.cell?_setCell_other _ _ _ _ (by simp)).trans o1) (by rw [World.frozen?_setCell]; exact f1)
              clear ho f0 f1 o0 o1
              go_wp2_with fail
              refine ⟨⟨k + 1, r + 1, cur.set k y, by go_num, by go_num, by omega, by omega, by have := HNL.out; omega, by rw [List.length_set]; exact HCL.out, set_drop cur l k y HCD.out, OwnE.set HO4.out HCL.out.symm k y, below_set2 HBW4.out hgb, fun p hp => ?_⟩, by simp [intOf]; omega⟩
              obtain rfl : y = p := Option.some.inj (HY.out.symm.trans hp)
              rw [set_take cur k y (by have := HCL.out; have := HNL.out; omega)]
              exact cmp_step sameE l (cur.take k) (m + 1 + r + 1) x y HY.out HB.out HCM.out
          · have t0 : ¬ (r : Int) + 1 < ((n - (m + 1) : Nat) : Int) := by omega
            have hkn : k < n := by omega
            have hcl2 := Lib.hid (run_clearE hoc hcl.symm k (c - k) (by omega))
            have HKR := Lib.hid (fun vs => clear_keeps hoc hcl.symm k (by omega) vs)
            have HE := Lib.hid (show cmpct sameE l = cur.take k by
              obtain ⟨p, hp⟩ : ∃ p, l[m + 1 + r]? = some p := ⟨l[m + 1 + r]'(by omega), List.getElem?_eq_getElem _⟩
              have h := hcm2 p hp
              rw [h, List.drop_eq_nil_of_le (by omega)]
              simp [cmpA])
            have hkl : (cur.take k).length = k := by rw [List.length_take]; omega
            have t1 : ¬ c = k := by omega
            have t2 : (k : Int) ≤ (n : Int) := by omega
            have t3 : (k : Int) ≤ (c : Int) := by omega
            rw [hnl] at hcl2
            have hrun := hcl2.out
            have HBE := Lib.hid (below_cells hgb (List.replicate ((n - k) * 2) (.slice none 0 0)) (k * 2) _ hbw2)
            clear hcm2 hcd hoc hcl hnl hbw2 hcl2
            go_wp2_with fail
            go_ret
            rw [HE.out]
            exact ⟨_, rfl, HKR.out _, HBE.out⟩
    · have hnl := hN.out
      have q2 : ¬ (m : Int) + 1 < (n : Int) := by omega
      have HE := Lib.hid (show cmpct sameE l = l by
        obtain ⟨p, hp⟩ : ∃ p, l[m]? = some p := ⟨l[m]'(by omega), List.getElem?_eq_getElem _⟩
        have h := hcm p hp
        rw [h, List.drop_eq_nil_of_le (by omega), List.take_of_length_le (by omega)]
        simp [cmpA])
      have HO5 := Lib.hid (HO.out.below hbw)
      have HBW := Lib.hid (hbw.mono hb)
      clear hcm hbw hnl
      go_wp2_with fail
      go_ret
      rw [HE.out]
      exact ⟨_, rfl, by have := HO5.out; rw [hN.out] at this; exact this, HBW.out⟩
end Go.Proofs.Ytifnhdnmohlfiaa
