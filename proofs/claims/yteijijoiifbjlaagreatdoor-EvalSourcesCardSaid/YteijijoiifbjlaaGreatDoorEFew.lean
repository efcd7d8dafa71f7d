/-
  Layer 13, eval: the statements' helpers Few and right. Conditions: sizes.
-/
import Derived.Test.YteijijoiifbjlaaGreatDoorEKnd
import Derived.Maps.Own
import Derived.RangeFuncRecord
import Derived.Deep.CutRange
import Derived.Test.YteijijoiifbjlaaGreatDoorVFind
namespace Go.Proofs.YteijijoiifbjlaaGreatDoor
open Go.Maps Go.ChangeShapes Go.WideShapes Go.ChangeAt Go.RowKit
set_option linter.unusedVariables false
set_option linter.unusedSimpArgs false
set_option maxRecDepth 100000

theorem Tryz.info_rowT : (Tryz.prog.info? 27).map (fun i => (i.zero, i.size, i.bytes)) = some (some (.slice none 0 0), 1, 24) := by kernel_rfl
/-- a slice's value reads that list -/
def LsAt (w : World) (u : Value) (l : List Trip) : Prop := ∃ A c, u = .slice A l.length c ∧ RdT w A l
theorem LsAt.on {w w' : World} {u : Value} {l : List Trip} (h : LsAt w u l) (hb : Below w.heap.size w w') : LsAt w' u l := by
  obtain ⟨A, c, h1, h2⟩ := h
  exact ⟨A, c, h1, h2.on hb⟩
/-- lists of values that were there, in a slice of the call's own -/
def OwnR (W0 w : World) (v : Value) (rs : List (List Trip)) : Prop :=
  ∃ us : List Value, w.ownsRow W0.heap.size 27 1 v rs.length us ∧ us.length = rs.length ∧ ∀ (j : Nat) (u : Value) (r : List Trip), us[j]? = some u → rs[j]? = some r → LsAt W0 u r
/-- what it is -/
theorem OwnR.form {W0 w : World} {v : Value} {rs : List (List Trip)} (h : OwnR W0 w v rs) (h0 : 0 < rs.length) : ∃ g c, v = .slice (some ⟨g, 0, none⟩) rs.length c ∧ ∀ (j : Nat) (r : List Trip), rs[j]? = some r → ∃ A c, w.cell? ⟨g, j, none⟩ = some (.slice A r.length c) ∧ RdT W0 A r := by
  obtain ⟨us, ⟨h1, h2⟩, hl, hr⟩ := h
  rcases h2 with ⟨rfl, hq⟩ | ⟨g, cap, cur, rfl, hg, hh, hc, hm, hs, ht⟩
  · omega
  · refine ⟨g, cap, rfl, fun j r hj => ?_⟩
    have hjl : j < rs.length := (List.getElem?_eq_some_iff.1 hj).1
    obtain ⟨u, hu⟩ : ∃ u, us[j]? = some u := ⟨_, List.getElem?_eq_getElem (by omega)⟩
    obtain ⟨A, c, rfl, hA⟩ := hr j u r hu hj
    refine ⟨A, c, ?_, hA⟩
    have hx : cur.toList[j]? = some (.slice A r.length c) := by
      rw [← ht, List.getElem?_take, if_pos (by omega)] at hu
      exact hu
    simp only [World.cell?, hh]
    simpa using hx
/-- a new slice of three lists -/
theorem OwnR.three (W0 w : World) (hb : Below W0.heap.size W0 w) {u1 u2 u3 : Value} {l1 l2 l3 : List Trip} (h1 : LsAt W0 u1 l1) (h2 : LsAt W0 u2 l2) (h3 : LsAt W0 u3 l3) :
    OwnR W0 (w.alloc (.cells #[u1, u2, u3] 27)) (.slice (some ⟨w.heap.size, 0, none⟩) 3 3) [l1, l2, l3] := by
  refine ⟨[u1, u2, u3], ⟨rfl, .inr ⟨w.heap.size, 3, #[u1, u2, u3], rfl, hb.size, World.alloc_heap_new w _, Nat.le_refl _, by decide, rfl, rfl⟩⟩, rfl, fun j u r hu hr => ?_⟩
  match j, hu, hr with
  | 0, hu, hr => obtain rfl := Option.some.inj hu; obtain rfl := Option.some.inj hr; exact h1
  | 1, hu, hr => obtain rfl := Option.some.inj hu; obtain rfl := Option.some.inj hr; exact h2
  | 2, hu, hr => obtain rfl := Option.some.inj hu; obtain rfl := Option.some.inj hr; exact h3
  | j + 3, hu, hr => simp at hu
theorem add_plainE (b o n : Nat) : (⟨b, o, none⟩ : Addr).add n = ⟨b, o + n, none⟩ := by
  unfold Addr.add
  by_cases hn : n = 0 <;> simp [hn]
section
variable {ops : Array Oper} {rest : List Oper} {o : Oper} {a : Act} {Q : Exit → Act → World → Prop}
/-- append of the rows -/
theorem wpList_appR {W0 W : World} (hgd : o.guard = none) (s x : Operand)
    (hop : o.op = .call { callee := .builtin .append, args := #[s, x], argTypes := #[26, 26] })
    (v : Value) (ls rs : List (List Trip)) (hs : a.eval s = v) (ho : OwnR W0 W v ls) (Ar : Option Addr) (cr : Nat) (hx : a.eval x = .slice Ar rs.length cr) (hrs : RdR W0 Ar rs) (hnil : Ar = none → cr = 0)
    (hlen : ls.length + rs.length ≤ 100000) (hB : Below W0.heap.size W0 W)
    (h : ∀ v' w', Hid (OwnR W0 w' v' (ls ++ rs)) → Hid (Below W0.heap.size W0 w') → wpList Tryz.prog ops Q rest (a.put o.dst v') w') : wpList Tryz.prog ops Q (o :: rest) a W := by
  obtain ⟨i0, hi, hz0, hz1, hz2⟩ := info_parts Tryz.info_rowT
  obtain ⟨us, hown, hl, hr⟩ := ho
  cases Ar with
  | none =>
    have h0 : rs = [] := by
      rcases hrs with h | ⟨b, o', h, _⟩
      · exact h
      · cases h
    subst h0
    have h1 := hnil rfl
    subst h1
    refine wpList_append_own_none hgd s x 26 hop W0.heap.size 27 i0 1 Tryz.underlying26 hi v ls.length us hs hown hx ?_
    exact h v W (Lib.hid ⟨us, by rw [List.append_nil]; exact hown, by rw [List.append_nil]; exact hl, by rw [List.append_nil]; exact hr⟩) (Lib.hid hB)
  | some ad =>
    have hat : ∀ (j : Nat) (r : List Trip), rs[j]? = some r → ∃ u, W.cell? (ad.add j) = some u ∧ LsAt W0 u r := by
      intro j r hj
      rcases hrs with h | ⟨b, o', h, hb, hq⟩
      · rw [h] at hj; simp at hj
      · obtain rfl := Option.some.inj h
        obtain ⟨A', c, q1, q2, q3⟩ := hq j r hj
        rw [add_plainE]
        exact ⟨_, (hB.cell (p := ⟨b, o' + j, none⟩) hb).trans q1, A', c, rfl, q3⟩
    obtain ⟨vs, hvs⟩ : ∃ vs : List Value, vs = (List.range rs.length).map fun j => (W.cell? (ad.add j)).getD undef := ⟨_, rfl⟩
    have hvl : vs.length = rs.length := by rw [hvs]; simp
    have hvc : ∀ (j : Nat) (u : Value), vs[j]? = some u → W.cell? (ad.add j) = some u ∧ ∀ r, rs[j]? = some r → LsAt W0 u r := by
      intro j u hu
      have hj : j < rs.length := by rw [← hvl]; exact (List.getElem?_eq_some_iff.1 hu).1
      obtain ⟨r, hrj⟩ : ∃ r, rs[j]? = some r := ⟨_, List.getElem?_eq_getElem hj⟩
      obtain ⟨u', h1, h2⟩ := hat j r hrj
      rw [hvs, List.getElem?_map, List.getElem?_range hj] at hu
      have hu2 : u = u' := by
        have h3 := Option.some.inj hu
        simp only [h1, Option.getD_some] at h3
        exact h3.symm
      subst hu2
      exact ⟨h1, fun r' hr' => by obtain rfl := Option.some.inj (hrj.symm.trans hr'); exact h2⟩
    refine wpList_append_own _ hgd s x 26 hop W0.heap.size 27 i0 (.slice none 0 0) 1 24 Tryz.underlying26 hi hz0 hz1 hz2 rfl (by decide) v ls.length us hs hown ad rs.length cr vs hx (by rw [hvl, Nat.mul_one]) (fun j u hu => (hvc j u hu).1) ?_ (by simp only [maxLen]; omega) (by omega) hB.size ?_
    · intro u hu
      obtain ⟨j, hj, rfl⟩ := List.mem_iff_getElem.1 hu
      have hj2 : j < rs.length := by omega
      obtain ⟨A, c, h1, h2⟩ := (hvc j _ (List.getElem?_eq_getElem hj)).2 _ (List.getElem?_eq_getElem hj2)
      rw [h1]
      rfl
    · intro v' w' g1 g2 _
      refine h v' w' (Lib.hid ⟨us ++ vs, by rw [List.length_append]; exact g1, by simp [hl, hvl], fun j u r hu hrj => ?_⟩) (Lib.hid (hB.trans ((Below.refl W0.heap.size W).grown g2 hB.size fun k hk => (World.ownsRow.lt hown k hk).1)))
      by_cases hj : j < ls.length
      · rw [List.getElem?_append_left (by omega)] at hu
        rw [List.getElem?_append_left hj] at hrj
        exact hr j u r hu hrj
      · rw [List.getElem?_append_right (by omega)] at hu
        rw [List.getElem?_append_right (by omega)] at hrj
        rw [hl] at hu
        exact (hvc _ u hu).2 r hrj
end

/-- the lists of an Env, as the helpers look at them -/
def listsX (x : EnvM) : List (List Trip) := [x.keys, x.totals, x.binds] ++ x.rows
def fewL (l : List Trip) : Prop := l.length ≤ 40 ∧ ∀ t ∈ l, t.2.2.size ≤ 3000
instance (l : List Trip) : Decidable (fewL l) := by unfold fewL; infer_instance
def fewX (x : EnvM) : Prop := x.rows.length ≤ 8 ∧ ∀ l ∈ listsX x, fewL l
instance (x : EnvM) : Decidable (fewX x) := by unfold fewX; infer_instance
theorem mem_take_succ {α : Type} {l : List α} {i : Nat} {a b : α} (h : l[i]? = some a) (hm : b ∈ l.take (i + 1)) : b ∈ l.take i ∨ b = a := by
  rw [List.take_add_one, h] at hm
  simpa using hm
/-- an Env given by its words -/
structure EnvW (w : World) (x : EnvM) (Ar : Option Addr) (cr : Nat) (Ak : Option Addr) (ck : Nat) (At : Option Addr) (ct : Nat) (Ab : Option Addr) (cb : Nat) : Prop where
  rows : RdR w Ar x.rows
  keys : RdT w Ak x.keys
  totals : RdT w At x.totals
  binds : RdT w Ab x.binds
  nil : Ar = none → cr = 0
abbrev envC (x : EnvM) (Ar : Option Addr) (cr : Nat) (Ak : Option Addr) (ck : Nat) (At : Option Addr) (ct : Nat) (Ab : Option Addr) (cb : Nat) : Array Value := #[.slice Ar x.rows.length cr, .slice Ak x.keys.length ck, .slice At x.totals.length ct, .slice Ab x.binds.length cb]
def FewRel (W0 : World) (L : List (List Trip)) (i : Value) (wr : World) : Prop := ∃ k : Nat, k ≤ L.length ∧ i = .int .i64 (k : Int) ∧ Below W0.heap.size W0 wr ∧ ∀ l ∈ L.take k, fewL l
def FewIn (W0 : World) (l : List Trip) (i : Value) (wr : World) : Prop := ∃ k : Nat, k ≤ l.length ∧ i = .int .i64 (k : Int) ∧ Below W0.heap.size W0 wr ∧ ∀ t ∈ l.take k, t.2.2.size ≤ 3000
set_option maxHeartbeats 4000000 in
theorem few_any (x : EnvM) (Ar : Option Addr) (cr : Nat) (Ak : Option Addr) (ck : Nat) (At : Option Addr) (ct : Nat) (Ab : Option Addr) (cb : Nat) (w : World) (hX : EnvW w x Ar cr Ak ck At ct Ab cb) :
    Calls Tryz.prog 7 #[.agg (envC x Ar cr Ak ck At ct Ab cb)] w fun e w' => e = .returned (.bool (decide (fewX x))) ∧ Below w.heap.size w w' := by
  obtain ⟨w1, hw1⟩ : ∃ X, w.alloc (.cells (envC x Ar cr Ak ck At ct Ab cb) 29) = X := ⟨_, rfl⟩
  have hal : Below w.heap.size w w1 := by rw [← hw1]; exact (Below.refl _ _).alloc (Nat.le_refl _) _
  have hc : w1.cell? ⟨w.heap.size, 0, none⟩ = some (.slice Ar x.rows.length cr) ∧ w1.cell? ⟨w.heap.size, 1, none⟩ = some (.slice Ak x.keys.length ck) ∧ w1.cell? ⟨w.heap.size, 2, none⟩ = some (.slice At x.totals.length ct) ∧ w1.cell? ⟨w.heap.size, 3, none⟩ = some (.slice Ab x.binds.length cb) := by
    rw [← hw1]
    refine ⟨?_, ?_, ?_, ?_⟩ <;> simp [go_sem]
  obtain ⟨x0, x1, x2, x3⟩ := hc
  by_cases h8 : x.rows.length ≤ 8
  · have q8 : ¬ (8 : Int) < (x.rows.length : Int) := by omega
    have HX := Lib.hid (show EnvW w1 x Ar cr Ak ck At ct Ab cb from ⟨hX.rows.on hal, hX.keys.on hal, hX.totals.on hal, hX.binds.on hal, hX.nil⟩)
    have HAL := Lib.hid hal
    have H8 := Lib.hid h8
    have hlt0 : w.heap.size < w1.heap.size := block_lt_of_cell x0
    clear hX hal h8
    go_enter Tryz.func7, Tryz.ntmps7
    go_upto_region 5 with (at_builtin; go_loud (refine wpList_appR (W0 := w1) rfl (.tmp 16) (.tmp 18) rfl _ [x.keys, x.totals, x.binds] x.rows rfl (OwnR.three w1 w1 (Below.refl _ _) ⟨Ak, ck, rfl, HX.out.keys⟩ ⟨At, ct, rfl, HX.out.totals⟩ ⟨Ab, cb, rfl, HX.out.binds⟩) Ar cr rfl HX.out.rows HX.out.nil (by have := H8.out; simp only [List.length_cons, List.length_nil]; omega) ((Below.refl _ _).alloc (Nat.le_refl _) _) ?_; intro v3 w3 HO HB3))
    obtain ⟨g, c, rfl, HF⟩ := HO.out.form (by simp)
    obtain ⟨L, hL⟩ : ∃ L, [x.keys, x.totals, x.binds] ++ x.rows = L := ⟨_, rfl⟩
    rw [hL] at HF ⊢
    have HLX : Hid (listsX x = L) := Lib.hid hL
    have HFF := Lib.hid HF
    have q11 : L.length ≤ 11 := by rw [← hL]; have := H8.out; simp only [List.length_append, List.length_cons, List.length_nil]; omega
    have HBX := Lib.hid (HAL.out.trans (HB3.out.mono HAL.out.size))
    clear HO HF hL x0 x1 x2 x3 hw1
    go_loopw [4] (fun i wr => FewRel w3 L i wr) (fun i _ => L.length - (intOf i).toNat)
    case atStart => exact ⟨0, Nat.zero_le _, rfl, Below.refl _ _, by simp⟩
    case round =>
      obtain ⟨i, hi, rfl, hb, hall⟩ := hrel
      by_cases hlt : i < L.length
      · obtain ⟨l, hl⟩ : ∃ l, L[i]? = some l := ⟨_, List.getElem?_eq_getElem hlt⟩
        obtain ⟨A, cc, hcell, hR⟩ := HFF.out i l hl
        have y0 := (hb.cell (p := ⟨g, i, none⟩) (block_lt_of_cell hcell)).trans hcell
        have q1 : (i : Int) < (L.length : Int) := by omega
        have q2 : (0 : Int) ≤ (i : Int) := by omega
        have HR := Lib.hid (hR.on HB3.out)
        have HC2 := Lib.hid hcell
        have HB := Lib.hid hb
        have HALL := Lib.hid hall
        have HLT := Lib.hid hlt
        have HLL := Lib.hid hl
        clear hR hcell hb hall hl hi hlt
        by_cases h40 : l.length ≤ 40
        · have q3 : ¬ (40 : Int) < (l.length : Int) := by omega
          go_upto_region 10 with (fail)
          go_loopw [5] (fun j wi => FewIn w3 l j wi) (fun j _ => l.length - (intOf j).toNat)
          case atStart => exact ⟨0, Nat.zero_le _, rfl, HB.out, by simp⟩
          case round =>
            obtain ⟨j, hj, rfl, hb, hin⟩ := hrel
            have y1 := (hb.cell (p := ⟨g, i, none⟩) (block_lt_of_cell HC2.out)).trans HC2.out
            by_cases hlt : j < l.length
            · obtain ⟨t, ht⟩ : ∃ t, l[j]? = some t := ⟨_, List.getElem?_eq_getElem hlt⟩
              obtain ⟨bb, oo, rfl, hbb, z0, z1, z2⟩ := (HR.out.on hb).first j t ht
              have q4 : (j : Int) < (l.length : Int) := by omega
              have q5 : (0 : Int) ≤ (j : Int) := by omega
              by_cases hs : t.2.2.size ≤ 3000
              · have q6 : ¬ (3000 : Int) < (t.2.2.size : Int) := by omega
                go_wp2_with fail
                refine ⟨⟨j + 1, hlt, rfl, hb, fun t' ht' => ?_⟩, by simp [intOf]; omega⟩
                rcases mem_take_succ ht ht' with h | rfl
                · exact hin t' h
                · exact hs
              · have q6 : (3000 : Int) < (t.2.2.size : Int) := by omega
                have hd := decide_eq_false (p := fewX x) fun h => hs ((h.2 l (by rw [HLX.out]; exact List.mem_of_getElem? HLL.out)).2 t (List.mem_of_getElem? ht))
                go_wp2_with fail
                go_ret
                exact ⟨by rw [hd]; rfl, HBX.out.trans (hb.mono HBX.out.size)⟩
            · have q4 : ¬ (j : Int) < (l.length : Int) := by omega
              go_wp2_with fail
              refine ⟨⟨i + 1, HLT.out, rfl, hb, fun l' hl' => ?_⟩, by have := HLT.out; simp [intOf]; omega⟩
              rcases mem_take_succ HLL.out hl' with h | rfl
              · exact HALL.out l' h
              · exact ⟨h40, fun t ht => hin t (by rw [List.take_of_length_le (by omega)]; exact ht)⟩
        · have q3 : (40 : Int) < (l.length : Int) := by omega
          have hd := decide_eq_false (p := fewX x) fun h => h40 (h.2 l (by rw [HLX.out]; exact List.mem_of_getElem? HLL.out)).1
          go_wp2_with fail
          go_ret
          exact ⟨by rw [hd]; rfl, HBX.out.trans (HB.out.mono HBX.out.size)⟩
      · have q1 : ¬ (i : Int) < (L.length : Int) := by omega
        go_wp2_with fail
        go_ret
        refine ⟨?_, HBX.out.trans (hb.mono HBX.out.size)⟩
        rw [decide_eq_true (p := fewX x) ⟨H8.out, fun l hm => hall l (by rw [List.take_of_length_le (by omega)]; rw [← HLX.out]; exact hm)⟩]
        rfl
  · have q8 : (8 : Int) < (x.rows.length : Int) := by omega
    rw [decide_eq_false (p := fewX x) fun h => h8 h.1]
    go_enter Tryz.func7, Tryz.ntmps7
    go_wp2_with fail
    go_ret
    exact ⟨rfl, hal⟩

def rightX (x : EnvM) : Prop := ∀ l ∈ listsX x, ∀ t ∈ l, Rt t.1 t.2.1 t.2.2
instance (x : EnvM) : Decidable (rightX x) := by unfold rightX; infer_instance
def RightRel (W0 : World) (L : List (List Trip)) (i : Value) (wr : World) : Prop := ∃ k : Nat, k ≤ L.length ∧ i = .int .i64 (k : Int) ∧ Below W0.heap.size W0 wr ∧ ∀ l ∈ L.take k, ∀ t ∈ l, Rt t.1 t.2.1 t.2.2
def RightIn (W0 : World) (l : List Trip) (i : Value) (wr : World) : Prop := ∃ k : Nat, k ≤ l.length ∧ i = .int .i64 (k : Int) ∧ Below W0.heap.size W0 wr ∧ ∀ t ∈ l.take k, Rt t.1 t.2.1 t.2.2
end Go.Proofs.YteijijoiifbjlaaGreatDoor
