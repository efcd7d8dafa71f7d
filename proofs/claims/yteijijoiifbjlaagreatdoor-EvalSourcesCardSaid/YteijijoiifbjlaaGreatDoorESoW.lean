/-
  Layer 13, eval: EvalSources, walked. Conditions: sizes; the library's variables are as its text lays them.
-/
import Derived.Test.YteijijoiifbjlaaGreatDoorESoX
import Derived.Test.YteijijoiifbjlaaGreatDoorESwW
namespace Go.Proofs.YteijijoiifbjlaaGreatDoor
open Go.Maps Go.ChangeShapes Go.WideShapes Go.ChangeAt Go.RowKit
set_option linter.unusedVariables false
set_option linter.unusedSimpArgs false
set_option maxRecDepth 100000

theorem small_cnt : ∀ (m lv : Nat) (n : Int) (l : List Ee), SizeOf.sizeOf l ≤ m → (smL lv n l).1 = true → (smL lv n l).2 = n - (cntL l : Int) := by
  intro m
  induction m with
  | zero => intro lv n l hl; cases l <;> simp at hl
  | succ m ih =>
    intro lv n l hl hs
    cases l with
    | nil => simp [smL, cntL]
    | cons e r =>
      obtain ⟨k, s, t, n', a, kids⟩ := e
      simp only [List.cons.sizeOf_spec, Ee.mk.sizeOf_spec] at hl
      rw [smL] at hs ⊢
      simp only [cntL, cntX]
      split at hs
      · simp at hs
      · rename_i hc
        rw [if_neg hc]
        split at hs
        · rename_i hk
          rw [if_pos hk]
          have h1 := ih (lv - 1) (n - 1) kids (by omega) hk
          have h2 := ih lv _ r (by omega) hs
          rw [h2, h1]
          omega
        · simp at hs
theorem small_one {e : Ee} (h : smallB [e] = true) : cntX e ≤ 500 := by
  have h1 := small_cnt _ 60 500 [e] (Nat.le_refl _) h
  have h2 := ((smL_le _ 60 500 [e] (Nat.le_refl _)).2.1 h (by omega)).1
  simp only [cntL] at h1
  omega
/-- a slice's value reads that list, and has room for it -/
def LsC (w : World) (u : Value) (l : List Trip) : Prop := ∃ A c, u = .slice A l.length c ∧ l.length ≤ c ∧ RdT w A l
def OwnC (W0 : World) (B : Nat) (w : World) (v : Value) (rs : List (List Trip)) : Prop :=
  ∃ us : List Value, w.ownsRow B 27 1 v rs.length us ∧ us.length = rs.length ∧ ∀ (j : Nat) (u : Value) (r : List Trip), us[j]? = some u → rs[j]? = some r → LsC W0 u r
theorem OwnC.empty (W0 : World) (B : Nat) (w : World) (hb : B ≤ w.heap.size) : OwnC W0 B (w.alloc (.cells #[] 27)) (.slice (some ⟨w.heap.size, 0, none⟩) 0 0) [] :=
  ⟨[], ⟨rfl, .inr ⟨w.heap.size, 0, #[], rfl, hb, World.alloc_heap_new w _, Nat.le_refl _, by decide, rfl, rfl⟩⟩, rfl, fun j u r hu => by simp at hu⟩
/-- the rows' cells in a block that may be written -/
def RowsAt (W0 : World) (B : Nat) (w : World) (g : Nat) (rs : List (List Trip)) : Prop :=
  B ≤ g ∧ g < w.heap.size ∧ ∀ (j : Nat) (r : List Trip), rs[j]? = some r → ∃ A c, w.cell? ⟨g, j, none⟩ = some (.slice A r.length c) ∧ w.frozen? ⟨g, j, none⟩ = false ∧ r.length ≤ c ∧ RdT W0 A r
theorem OwnC.form {W0 w : World} {B : Nat} {v : Value} {rs : List (List Trip)} (h : OwnC W0 B w v rs) : ∃ A c, v = .slice A rs.length c ∧ (rs = [] ∨ ∃ g, A = some ⟨g, 0, none⟩ ∧ RowsAt W0 B w g rs) := by
  obtain ⟨us, ⟨h1, h2⟩, hl, hr⟩ := h
  rcases h2 with ⟨rfl, hq⟩ | ⟨g, cap, cur, rfl, hg, hh, hc, hm, hs, ht⟩
  · have h0 : rs = [] := List.eq_nil_of_length_eq_zero hq
    subst h0
    exact ⟨none, 0, rfl, .inl rfl⟩
  · refine ⟨_, cap, rfl, .inr ⟨g, rfl, hg, (Array.getElem?_eq_some_iff.1 hh).1, fun j r hj => ?_⟩⟩
    have hjl : j < rs.length := (List.getElem?_eq_some_iff.1 hj).1
    obtain ⟨u, hu⟩ : ∃ u, us[j]? = some u := ⟨_, List.getElem?_eq_getElem (by omega)⟩
    obtain ⟨A, c, rfl, hlc, hA⟩ := hr j u r hu hj
    have hx : cur.toList[j]? = some (.slice A r.length c) := by
      rw [← ht, List.getElem?_take, if_pos (by omega)] at hu
      exact hu
    refine ⟨A, c, ?_, ?_, hlc, hA⟩
    · simp only [World.cell?, hh]
      simpa using hx
    · simp [World.frozen?, hh]
/-- the rows up to a place, those of other sources replaced -/
def yR (S : List Int) (o : List Trip) (rs : List (List Trip)) (i : Nat) : List (List Trip) := rs.mapIdx fun j r => if j < i ∧ (j : Int) ∉ S then o else r
theorem yR_len (S : List Int) (o : List Trip) (rs : List (List Trip)) (i : Nat) : (yR S o rs i).length = rs.length := by simp [yR]
theorem yR_at (S : List Int) (o : List Trip) (rs : List (List Trip)) (i j : Nat) : (yR S o rs i)[j]? = (rs[j]?).map fun r => if j < i ∧ (j : Int) ∉ S then o else r := by simp [yR]
theorem yR_zero (S : List Int) (o : List Trip) (rs : List (List Trip)) : yR S o rs 0 = rs := by
  apply List.ext_getElem?
  intro j
  rw [yR_at]
  cases rs[j]? <;> simp
/-- the map tells 1 of these, 0 of all others -/
def OfS (w : World) (B n : Nat) (S : List Int) : Prop := ∃ D, w.ownsMap (H := Unit) Tryz.prog 3 (plainElem Tryz.prog 3) B n D ∧ ∀ z, In64 z → D.atKey (.int .i64 z) (.lit (.int .i64 0)) = .lit (.int .i64 (if z ∈ S then 1 else 0))
theorem OfS.block {w w' : World} {B n : Nat} {S : List Int} (h : OfS w B n S) (hb : w'.heap[B]? = w.heap[B]?) : OfS w' B n S := by
  obtain ⟨D, ⟨es, clock, h1, h2⟩, h3⟩ := h
  exact ⟨D, ⟨es, clock, hb.trans h1, h2⟩, h3⟩
theorem OfS.lt {w : World} {B n : Nat} {S : List Int} (h : OfS w B n S) : B < w.heap.size := by
  obtain ⟨D, h1, -⟩ := h
  exact h1.lt
theorem OfS.made (w : World) : OfS (w.alloc (.map #[] 0)) w.heap.size 0 [] :=
  ⟨_, World.ownsMap_made (H := Unit) w Tryz.prog 3 (plainElem Tryz.prog 3), fun z hz => by simp [DataW.atKey]⟩
theorem of_add {D : DataW Unit} {S : List Int} {a : Int} (hD : Maps.IsMap D) (h : ∀ z, In64 z → D.atKey (.int .i64 z) (.lit (.int .i64 0)) = .lit (.int .i64 (if z ∈ S then 1 else 0))) : ∀ z, In64 z → (D.put (.int .i64 a) (.lit (.int .i64 1))).atKey (.int .i64 z) (.lit (.int .i64 0)) = .lit (.int .i64 (if z ∈ S ++ [a] then 1 else 0)) := by
  intro z hz
  by_cases e : z = a
  · subst e
    rw [atKey_put_same hD (by trivial)]
    simp
  · rw [atKey_put_other (by simpa using e), h z hz]
    simp [e]
/-- what it tells of a place -/
theorem of_look {w : World} {B n : Nat} {S : List Int} (h : OfS w B n S) (z : Int) (hz : In64 z) : (Instr.lookup 33 (.map (some B)) (.int .i64 z) false).run Tryz.prog w = .ok (.int .i64 (if z ∈ S then 1 else 0)) w := by
  obtain ⟨D, hown, hD⟩ := h
  obtain ⟨c, hrun, hat, -⟩ := hown.lookup_int intKd Tryz.underlying33 Tryz.underlying3 (Tryz.zeroValue3 w) (Maps.keyOf_int_mk Tryz.underlying3 (wf_of hz))
  rw [hD z hz] at hat
  have : (if z ∈ S then (1 : Int) else 0) = c := by simpa using hat
  rw [this]
  exact hrun
section
variable {ops : Array Oper} {rest : List Oper} {o : Oper} {a : Act} {Q : Exit → Act → World → Prop}
/-- append of the rows -/
theorem wpList_appC {W0 W : World} (B : Nat) (hgd : o.guard = none) (s x : Operand)
    (hop : o.op = .call { callee := .builtin .append, args := #[s, x], argTypes := #[26, 26] })
    (v : Value) (ls rs : List (List Trip)) (hs : a.eval s = v) (ho : OwnC W0 B W v ls) (hBW : B ≤ W.heap.size) (Ar : Option Addr) (cr : Nat) (hx : a.eval x = .slice Ar rs.length cr) (hrs : RdR W0 Ar rs) (hnil : Ar = none → cr = 0)
    (hlen : ls.length + rs.length ≤ 100000) (hB : Below W0.heap.size W0 W)
    (h : ∀ v' w', Hid (OwnC W0 B w' v' (ls ++ rs)) → Hid (Below B W w') → Hid (W.grownBy w' v.ownBlock) → wpList Tryz.prog ops Q rest (a.put o.dst v') w') : wpList Tryz.prog ops Q (o :: rest) a W := by
  obtain ⟨i0, hi, hz0, hz1, hz2⟩ := info_parts Tryz.info_rowT
  obtain ⟨us, hown, hl, hr⟩ := ho
  cases Ar with
  | none =>
    have h0 : rs = [] := by
      rcases hrs with h | ⟨b, o', h, _⟩
      · exact h
      · cases h
    subst h0
    have h1 := hnil rfl
    subst h1
    refine wpList_append_own_none hgd s x 26 hop B 27 i0 1 Tryz.underlying26 hi v ls.length us hs hown hx ?_
    exact h v W (Lib.hid ⟨us, by rw [List.append_nil]; exact hown, by rw [List.append_nil]; exact hl, by rw [List.append_nil]; exact hr⟩) (Lib.hid (Below.refl _ _)) (Lib.hid (World.grownBy.refl _ _))
  | some ad =>
    have hat : ∀ (j : Nat) (r : List Trip), rs[j]? = some r → ∃ u, W.cell? (ad.add j) = some u ∧ LsC W0 u r := by
      intro j r hj
      rcases hrs with h | ⟨b, o', h, hb, hq⟩
      · rw [h] at hj; simp at hj
      · obtain rfl := Option.some.inj h
        obtain ⟨A', c, q1, q2, q3⟩ := hq j r hj
        rw [add_plainE]
        exact ⟨_, (hB.cell (p := ⟨b, o' + j, none⟩) hb).trans q1, A', c, rfl, q2, q3⟩
    obtain ⟨vs, hvs⟩ : ∃ vs : List Value, vs = (List.range rs.length).map fun j => (W.cell? (ad.add j)).getD undef := ⟨_, rfl⟩
    have hvl : vs.length = rs.length := by rw [hvs]; simp
    have hvc : ∀ (j : Nat) (u : Value), vs[j]? = some u → W.cell? (ad.add j) = some u ∧ ∀ r, rs[j]? = some r → LsC W0 u r := by
      intro j u hu
      have hj : j < rs.length := by rw [← hvl]; exact (List.getElem?_eq_some_iff.1 hu).1
      obtain ⟨r, hrj⟩ : ∃ r, rs[j]? = some r := ⟨_, List.getElem?_eq_getElem hj⟩
      obtain ⟨u', h1, h2⟩ := hat j r hrj
      rw [hvs, List.getElem?_map, List.getElem?_range hj] at hu
      have hu2 : u = u' := by
        have h3 := Option.some.inj hu
        simp only [h1, Option.getD_some] at h3
        exact h3.symm
      subst hu2
      exact ⟨h1, fun r' hr' => by obtain rfl := Option.some.inj (hrj.symm.trans hr'); exact h2⟩
    refine wpList_append_own _ hgd s x 26 hop B 27 i0 (.slice none 0 0) 1 24 Tryz.underlying26 hi hz0 hz1 hz2 rfl (by decide) v ls.length us hs hown ad rs.length cr vs hx (by rw [hvl, Nat.mul_one]) (fun j u hu => (hvc j u hu).1) ?_ (by simp only [maxLen]; omega) (by omega) hBW ?_
    · intro u hu
      obtain ⟨j, hj, rfl⟩ := List.mem_iff_getElem.1 hu
      have hj2 : j < rs.length := by omega
      obtain ⟨A, c, h1, -, h2⟩ := (hvc j _ (List.getElem?_eq_getElem hj)).2 _ (List.getElem?_eq_getElem hj2)
      rw [h1]
      rfl
    · intro v' w' g1 g2 _
      refine h v' w' (Lib.hid ⟨us ++ vs, by rw [List.length_append]; exact g1, by simp [hl, hvl], fun j u r hu hrj => ?_⟩) (Lib.hid ((Below.refl B W).grown g2 hBW fun k hk => (World.ownsRow.lt hown k hk).1)) (Lib.hid g2)
      by_cases hj : j < ls.length
      · rw [List.getElem?_append_left (by omega)] at hu
        rw [List.getElem?_append_left hj] at hrj
        exact hr j u r hu hrj
      · rw [List.getElem?_append_right (by omega)] at hu
        rw [List.getElem?_append_right (by omega)] at hrj
        rw [hl] at hu
        exact (hvc _ u hu).2 r hrj
end
def L1Rel (w6 : World) (Bm : Nat) (ss : List Int) (i : Value) (wr : World) : Prop := ∃ k : Nat, k ≤ ss.length ∧ i = .int .i64 (k : Int) ∧ w6.grownBy wr (some Bm) ∧ OfS wr Bm k (ss.take k)
def L2Rel (W0 : World) (B : Nat) (w8 : World) (g : Nat) (S : List Int) (o : List Trip) (rs : List (List Trip)) (i : Value) (wr : World) : Prop := ∃ k : Nat, k ≤ rs.length ∧ i = .int .i64 (k : Int) ∧ w8.grownBy wr (some g) ∧ (rs = [] ∨ RowsAt W0 B wr g (yR S o rs k))
theorem yR_set {W0 w w' : World} {B g i : Nat} {S : List Int} {o : List Trip} {rs : List (List Trip)} {Ao : Option Addr} {co : Nat} (h : RowsAt W0 B w g (yR S o rs i)) (hi : i < rs.length) (hS : (i : Int) ∉ S) (ho : RdT W0 Ao o) (hoc : o.length ≤ co) (hw : w.setCell ⟨g, i, none⟩ (.slice Ao o.length co) = w') : RowsAt W0 B w' g (yR S o rs (i + 1)) := by
  obtain ⟨h1, h2, h3⟩ := h
  subst hw
  obtain ⟨r0, hr0⟩ : ∃ r, rs[i]? = some r := ⟨_, List.getElem?_eq_getElem hi⟩
  have hii := h3 i _ (by rw [yR_at, hr0]; rfl)
  obtain ⟨A0, c0, hc0, -, -, -⟩ := hii
  refine ⟨h1, by simpa using h2, fun j r hj => ?_⟩
  rw [yR_at] at hj
  cases hrj : rs[j]? with
  | none => rw [hrj] at hj; cases hj
  | some q =>
    rw [hrj] at hj
    simp only [Option.map_some, Option.some.injEq] at hj
    by_cases e : j = i
    · subst e
      rw [if_pos ⟨by omega, hS⟩] at hj
      subst hj
      exact ⟨Ao, co, by simp [go_sem, hc0], by have := (h3 j _ (by rw [yR_at, hrj]; rfl)); obtain ⟨_, _, _, hf, _⟩ := this; simpa using hf, hoc, ho⟩
    · have hj2 : (if j < i ∧ (j : Int) ∉ S then o else q) = r := by
        rw [← hj]
        by_cases hji : j < i
        · by_cases hjs : (j : Int) ∉ S
          · rw [if_pos ⟨hji, hjs⟩, if_pos ⟨by omega, hjs⟩]
          · rw [if_neg (fun h => hjs h.2), if_neg (fun h => hjs h.2)]
        · rw [if_neg (fun h => hji h.1), if_neg (fun h => by omega)]
      obtain ⟨A, c, g1, g2, g3, g4⟩ := h3 j r (by rw [yR_at, hrj]; simp [hj2])
      refine ⟨A, c, ?_, by simpa using g2, g3, g4⟩
      rw [← g1]
      exact World.cell?_setCell_other w ⟨g, i, none⟩ ⟨g, j, none⟩ _ (by first | (simp; done) | (simp; omega))
theorem yR_skip {W0 w : World} {B g i : Nat} {S : List Int} {o : List Trip} {rs : List (List Trip)} (h : RowsAt W0 B w g (yR S o rs i)) (hS : (i : Int) ∈ S) : RowsAt W0 B w g (yR S o rs (i + 1)) := by
  have e : yR S o rs (i + 1) = yR S o rs i := by
    apply List.ext_getElem?
    intro j
    rw [yR_at, yR_at]
    cases rs[j]? with
    | none => rfl
    | some q =>
      simp only [Option.map_some, Option.some.injEq]
      by_cases e : j = i
      · subst e
        rw [if_neg (fun h => h.2 hS), if_neg (fun h => h.2 hS)]
      · by_cases hji : j < i
        · by_cases hjs : (j : Int) ∉ S
          · rw [if_pos ⟨by omega, hjs⟩, if_pos ⟨hji, hjs⟩]
          · rw [if_neg (fun h => hjs h.2), if_neg (fun h => hjs h.2)]
        · rw [if_neg (fun h => by have := h.1; omega), if_neg (fun h => hji h.1)]
  rw [e]
  exact h
/-- the other Env: the same of the expression's own sources -/
theorem yR_same (e : Ee) (x : EnvM) (S : List Int) (o : List Trip) (hS : ∀ z, In64 z → (z ∈ S ↔ z ∈ srcX e)) (h64 : ∀ a ∈ srcX e, In64 a) : SameX e x ⟨yR S o x.rows x.rows.length, x.keys, x.totals, x.binds⟩ := by
  refine ⟨rfl, rfl, rfl, fun a ha => ?_⟩
  unfold atR
  by_cases h0 : a < 0
  · rw [if_pos h0, if_pos h0]
  · rw [if_neg h0, if_neg h0]
    simp only [List.getD_eq_getElem?_getD, yR_at]
    cases x.rows[a.toNat]? with
    | none => rfl
    | some r =>
      simp only [Option.map_some, Option.getD_some]
      rw [if_neg]
      rintro ⟨-, h⟩
      apply h
      rw [show ((a.toNat : Nat) : Int) = a by omega]
      exact (hS a (h64 a ha)).2 ha
mutual
theorem src_in64 : ∀ e : Ee, OkE e → ∀ a ∈ srcX e, In64 a
  | .mk k s t n a kids, h, b, hb => by
    simp only [OkE] at h
    simp only [srcX, List.mem_append] at hb
    rcases hb with hb | hb
    · split at hb
      · simp at hb; subst hb; exact h.2.2.1
      · cases hb
    · exact srcL_in64 kids h.2.2.2.2.2.2 b hb
theorem srcL_in64 : ∀ l : List Ee, OkEL l → ∀ a ∈ srcL l, In64 a
  | [], _, a, ha => by simp [srcL] at ha
  | e :: r, h, a, ha => by
    simp only [OkEL] at h
    simp only [srcL, List.mem_append] at ha
    rcases ha with ha | ha
    · exact src_in64 e h.1 a ha
    · exact srcL_in64 r h.2 a ha
end
theorem ev_same (e : Ee) (x y : EnvM) (hs : SameX e x y) (hxt : EnvT x) (hyo : EnvOk y) (hf : Fit e) : EvIs y e ∧ OkT (evX y e).1 := by
  refine ⟨ev_allP y hyo (fun e => SameX e x y ∧ Fit e) (fun k s t n a kids h u hu => ?_) _ e (Nat.le_refl _) hf ⟨hs, hf⟩, by rw [evX_same hs]; exact evX_ok hxt hf⟩
  have h2 := h.2
  simp only [Fit] at h2
  have hk := h.1.kid hu
  have hfu := fit_mem kids h2.2.2.2 u hu
  exact ⟨⟨hk, hfu⟩, by rw [evX_same hk]; exact evX_ok hxt hfu⟩
theorem X4.keep {w w' : World} {p b : Nat} {v0 v1 v2 v3 : Value} (h : X4 w p v0 v1 v2 v3) (hg : w.grownBy w' (some b)) (hne : p ≠ b) : X4 w' p v0 v1 v2 v3 := by
  have hlt : p < w.heap.size := block_lt_of_cell h.1
  have hb : w'.heap[p]? = w.heap[p]? := hg.block p hlt fun e => hne (Option.some.inj e)
  have hc : ∀ o, w'.cell? ⟨p, o, none⟩ = w.cell? ⟨p, o, none⟩ := fun o => World.cell?_of_block (a := ⟨p, o, none⟩) hb
  obtain ⟨h0, h1, h2, h3⟩ := h
  exact ⟨(hc _).trans h0, (hc _).trans h1, (hc _).trans h2, (hc _).trans h3⟩
theorem ECell.keep {w w' : World} {p o b : Nat} {k n a : Int} {s t : ByteArray} {A : Option Addr} {l c : Nat} (h : ECell w p o k s t n a A l c) (hg : w.grownBy w' (some b)) (hne : p ≠ b) : ECell w' p o k s t n a A l c := by
  have hlt : p < w.heap.size := block_lt_of_cell h.1
  have hb : w'.heap[p]? = w.heap[p]? := hg.block p hlt fun e => hne (Option.some.inj e)
  have hc : ∀ o, w'.cell? ⟨p, o, none⟩ = w.cell? ⟨p, o, none⟩ := fun o => World.cell?_of_block (a := ⟨p, o, none⟩) hb
  obtain ⟨h0, h1, h2, h3, h4, h5⟩ := h
  exact ⟨(hc _).trans h0, (hc _).trans h1, (hc _).trans h2, (hc _).trans h3, (hc _).trans h4, (hc _).trans h5⟩
theorem RdI.ne {w : World} {b Bm : Nat} {l : List Int} {D : DataW Unit} {n : Nat} (h : OfS w Bm n l) {j : Nat} {z : Int} (hc : w.cell? ⟨b, j, none⟩ = some (.int .i64 z)) : b ≠ Bm := by
  rintro rfl
  obtain ⟨D, ⟨es, clock, h1, _⟩, _⟩ := h
  simp [World.cell?, h1] at hc
theorem RowsAt.keep {W0 w w' : World} {B g p : Nat} {rs : List (List Trip)} (h : RowsAt W0 B w g rs) (hg : w.grownBy w' (some p)) (hne : g ≠ p) : RowsAt W0 B w' g rs := by
  obtain ⟨h1, h2, h3⟩ := h
  have hb : w'.heap[g]? = w.heap[g]? := hg.block g h2 fun e => hne (Option.some.inj e)
  refine ⟨h1, Nat.lt_of_lt_of_le h2 hg.size, fun j r hj => ?_⟩
  obtain ⟨A, c, q1, q2, q3, q4⟩ := h3 j r hj
  exact ⟨A, c, (World.cell?_of_block (a := ⟨g, j, none⟩) hb).trans q1, (World.frozen?_of_block (a := ⟨g, j, none⟩) hb).trans q2, q3, q4⟩
theorem yR_ok {x : EnvM} (hx : EnvOk x) (S : List Int) (o : List Trip) (ho : o.length ≤ 40) (i : Nat) : EnvOk ⟨yR S o x.rows i, x.keys, x.totals, x.binds⟩ := by
  obtain ⟨h1, h2, h3, h4, h5⟩ := hx
  refine ⟨by simpa [yR_len] using h1, fun r hr => ?_, h3, h4, h5⟩
  obtain ⟨j, hj⟩ := List.mem_iff_getElem?.1 hr
  rw [yR_at] at hj
  cases hq : x.rows[j]? with
  | none => rw [hq] at hj; cases hj
  | some q =>
    rw [hq] at hj
    simp only [Option.map_some, Option.some.injEq] at hj
    rw [← hj]
    split
    · omega
    · exact h2 q (List.mem_of_getElem? hq)
theorem grown_setCell (w : World) (a : Addr) (u : Value) : w.grownBy (w.setCell a u) (some a.block) :=
  ⟨rfl, rfl, rfl, by simp, fun k _ hk => Below.heap_setCell _ _ _ k (fun e => hk (by rw [e]))⟩
set_option maxHeartbeats 4000000 in
theorem src_walk (e1 : Ee) (x : EnvM) (k1 : Int) (s1 t1 : ByteArray) (n1 a1 : Int) (A1 : Option Addr) (l1 p1 : Nat) (Ar : Option Addr) (cr : Nat) (Ak : Option Addr) (ck : Nat) (At : Option Addr) (ct : Nat) (Ab : Option Addr) (cb : Nat) (Ao : Option Addr) (co : Nat) (o : List Trip) (w : World) (hW : Wd w)
    (h1 : ExV w e1 (exprV k1 s1 t1 n1 a1 A1 l1 p1)) (ho1 : OkE e1) (hX : EnvW w x Ar cr Ak ck At ct Ab cb) (hx0 : ∀ r ∈ x.rows, OkTs r) (hx1 : OkTs x.keys) (hx2 : OkTs x.totals) (hx3 : OkTs x.binds) (hro : RdT w Ao o) (hoc : o.length ≤ co) :
    Calls Tryz.prog 3 #[exprV k1 s1 t1 n1 a1 A1 l1 p1, .agg (envC x Ar cr Ak ck At ct Ab cb), .slice Ao o.length co] w fun e w' => e = .returned (.bool true) ∧ Below w.heap.size w w' := by
  have hok : OkEL [e1] := by simp only [OkEL]; exact ⟨ho1, trivial⟩
  have HOK := Lib.hid hok
  have HO1 := Lib.hid ho1
  have HOX := Lib.hid (And.intro hx0 (And.intro hx1 (And.intro hx2 hx3)))
  have HW0 := Lib.hid hW
  have HX0 := Lib.hid hX
  have HRO := Lib.hid (And.intro hro hoc)
  obtain ⟨w3, hw3⟩ : ∃ X, (w.alloc (.cells #[.int .u8 k1, .string s1, .string t1, .int .i64 n1, .int .i64 a1, .slice A1 l1 p1] 25)).alloc (.cells (envC x Ar cr Ak ck At ct Ab cb) 29) = X := ⟨_, rfl⟩
  have hal : Below w.heap.size w w3 := by rw [← hw3]; exact ((Below.refl _ _).alloc (Nat.le_refl _) _).alloc (by simp) _
  have hs3 : w3.heap.size = w.heap.size + 2 := by rw [← hw3]; simp
  have hc1 : ECell w3 w.heap.size 0 k1 s1 t1 n1 a1 A1 l1 p1 := by rw [← hw3]; refine ⟨?_, ?_, ?_, ?_, ?_, ?_⟩ <;> simp [go_sem]
  have hc3 : X4 w3 (w.heap.size + 1) (.slice Ar x.rows.length cr) (.slice Ak x.keys.length ck) (.slice At x.totals.length ct) (.slice Ab x.binds.length cb) := by rw [← hw3]; refine ⟨?_, ?_, ?_, ?_⟩ <;> simp [go_sem]
  obtain ⟨w4, hw4⟩ : ∃ X, w3.alloc (.cells #[.int .u8 k1, .string s1, .string t1, .int .i64 n1, .int .i64 a1, .slice A1 l1 p1] 25) = X := ⟨_, rfl⟩
  have hal4 : Below w3.heap.size w3 w4 := by rw [← hw4]; exact (Below.refl _ _).alloc (Nat.le_refl _) _
  have hal34 : Below w.heap.size w w4 := hal.trans (hal4.mono hal.size)
  have hk : ExK w4 [e1] (some ⟨w3.heap.size, 0, none⟩) := exk_one (h1.on hal34) (by rw [← hw4]; exact heap_new _ _)
  have HS := Lib.hid (show Calls Tryz.prog 6 #[.slice (some ⟨w3.heap.size, 0, none⟩) 1 1] w4 (fun e w' => e = .returned (.bool (smallB [e1])) ∧ Below w4.heap.size w4 w') from Small_any [e1] (some ⟨w3.heap.size, 0, none⟩) 1 w4 hk hok (by simp [maxLen]))
  have HC1 := Lib.hid (hc1.on hal4)
  have HC3 := Lib.hid (hc3.on hal4)
  have HE0 := Lib.hid h1
  have HX := Lib.hid (hX.on hal34)
  have HW := Lib.hid (hW.on hal34)
  have HB4 := Lib.hid hal34
  have HZ4 := Lib.hid (show w.heap.size + 2 ≤ w4.heap.size by have := hal4.size; omega)
  obtain ⟨y0, y1, y2, y3, y4, y5⟩ := hc1
  obtain ⟨x0, x1, x2, x3⟩ := hc3
  simp only [Nat.zero_add] at y0 y1 y2 y3 y4 y5
  clear h1 hX hx0 hx1 hx2 hx3 hok ho1 hW hk hal hal4 hal34 hs3 hro hoc
  generalize hsm : smallB [e1] = sm at HS
  have HSM := Lib.hid hsm
  clear hsm
  go_enter Tryz.func3, Tryz.ntmps3
  go_upto_region 1 with (fail)
  clear hw3
  cases sm
  · go_wp2_with (first
      | ((with_reducible refine HS.out.mono ?_); rintro e wa ⟨rfl, ba⟩; have HA := Lib.hid ba; have HBA := Lib.hid (HB4.out.trans (ba.mono HB4.out.size)); clear ba)
      | (go_at_call 8; refine (awake_any _ (HW.out.on HA.out)).mono ?_; rintro e wb ⟨rfl, bb⟩; have HBB := Lib.hid (HBA.out.trans (bb.mono HBA.out.size)); clear bb))
    go_ret
    exact ⟨rfl, HBB.out⟩
  · by_cases hfew : fewX x
    · have HFW := Lib.hid hfew
      have hd := decide_eq_true hfew
      by_cases ho40 : 40 < o.length
      · have q40 : (40 : Int) < (o.length : Int) := by omega
        go_wp2_with (first
          | ((with_reducible refine HS.out.mono ?_); rintro e wa ⟨rfl, ba⟩; have HA := Lib.hid ba; have HBA := Lib.hid (HB4.out.trans (ba.mono HB4.out.size)); clear x0 x1 x2 x3; obtain ⟨x0, x1, x2, x3⟩ := HC3.out.on ba; clear ba)
          | (go_at_call 7; refine (few_any x Ar cr Ak ck At ct Ab cb _ (HX.out.on HA.out)).mono ?_; rintro e wb ⟨rfl, bb⟩; rw [hd]; have HB := Lib.hid (HA.out.trans (bb.mono HA.out.size)); clear bb)
          | (go_at_call 8; refine (awake_any _ (HW.out.on HB.out)).mono ?_; rintro e wb ⟨rfl, bb⟩; have HBB := Lib.hid ((HB4.out.trans (HB.out.mono HB4.out.size)).trans (bb.mono (Nat.le_trans HB4.out.size HB.out.size))); clear bb))
        go_ret
        exact ⟨rfl, HBB.out⟩
      · have q40 : ¬ (40 : Int) < (o.length : Int) := by omega
        have HO40 := Lib.hid (show o.length ≤ 40 by omega)
        have hmm := @run_makeMap Tryz.prog
        clear ho40
        go_upto_region 4 with (first
          | ((with_reducible refine HS.out.mono ?_); rintro e wa ⟨rfl, ba⟩; have HA := Lib.hid ba; have HBA := Lib.hid (HB4.out.trans (ba.mono HB4.out.size)); clear x0 x1 x2 x3; obtain ⟨x0, x1, x2, x3⟩ := HC3.out.on ba; clear ba)
          | (go_at_call 7; refine (few_any x Ar cr Ak ck At ct Ab cb _ (HX.out.on HA.out)).mono ?_; rintro e wb ⟨rfl, bb⟩; rw [hd]; have HB := Lib.hid (HA.out.trans (bb.mono HA.out.size)); clear bb))
        clear hw4 y0 y1 y2 y3 y4 y5 x0 x1 x2 x3 hd HS hfew q40
        obtain ⟨w5, hw5⟩ : ∃ X, wb.alloc (.map #[] 0) = X := ⟨_, rfl⟩
        have hof : OfS w5 wb.heap.size 0 [] := by rw [← hw5]; exact OfS.made wb
        have hb45 : Below w4.heap.size w4 w5 := by rw [← hw5]; exact HB.out.alloc HB.out.size _
        have hb5 : Below w.heap.size w w5 := HB4.out.trans (hb45.mono HB4.out.size)
        have hbm : w.heap.size + 2 ≤ wb.heap.size := Nat.le_trans HZ4.out HB.out.size
        rw [hw5]
        have HOF5 := Lib.hid hof
        have HB5 := Lib.hid hb5
        have HBM := Lib.hid hbm
        have HSR := Lib.hid (Sources_any e1 HO1.out (by have := small_one HSM.out; omega) w5 _ (HE0.out.on hb5))
        have HD1 := Lib.hid (HC1.out.on hb45)
        have HD3 := Lib.hid (HC3.out.on hb45)
        obtain ⟨y0, y1, y2, y3, y4, y5⟩ := HD1.out
        simp only [Nat.zero_add] at y0 y1 y2 y3 y4 y5
        generalize wb.heap.size = Bm at HOF5 HBM ⊢
        clear hw5 hof hb45 hb5 hbm HA HBA HC1 HC3 HX HW HB HZ4 HB4
        go_wp2_with (go_at_call 9; (with_reducible refine HSR.out.mono ?_); rintro e w6 ⟨A9, c9, ss, rfl, hq1, hq2, hq3, hq4, hq5⟩; have HQ := Lib.hid (And.intro hq1 (And.intro hq2 (And.intro hq3 hq4))); have H56 := Lib.hid hq5; clear hq1 hq2 hq3 hq4 hq5)
        have HOF6 := Lib.hid (HOF5.out.block (H56.out.block _ HOF5.out.lt))
        have HE1 := Lib.hid (HD1.out.on H56.out)
        have HE3 := Lib.hid (HD3.out.on H56.out)
        have HB6 := Lib.hid (HB5.out.trans (H56.out.mono HB5.out.size))
        have hss : ss.length ≤ 1000 := HQ.out.1
        clear y0 y1 y2 y3 y4 y5 HD1 HD3 HOF5 HSR HB5 H56
        go_loopw [35] (fun i wr => L1Rel w6 Bm ss i wr) (fun i _ => ss.length - (intOf i).toNat)
        case atStart => exact ⟨0, Nat.zero_le _, rfl, World.grownBy.refl _ _, by simpa using HOF6.out⟩
        case round =>
          obtain ⟨k, hk, rfl, hg, hof⟩ := hrel
          by_cases hlt : k < ss.length
          · obtain ⟨z, hz⟩ : ∃ z, ss[k]? = some z := ⟨_, List.getElem?_eq_getElem hlt⟩
            have hz64 := HQ.out.2.2.2 z (List.mem_of_getElem? hz)
            obtain ⟨b, rfl, hbc⟩ : ∃ b, A9 = some ⟨b, 0, none⟩ ∧ ∀ (j : Nat) (z : Int), ss[j]? = some z → w6.cell? ⟨b, j, none⟩ = some (.int .i64 z) := by
              rcases HQ.out.2.1 with h | h
              · rw [h] at hlt; simp at hlt
              · exact h
            have hc6 := hbc k z hz
            have hne : b ≠ Bm := RdI.ne (l := []) (D := .map []) HOF6.out hc6
            have hcz : wr.cell? ⟨b, k, none⟩ = some (.int .i64 z) := (World.cell?_of_block (a := ⟨b, k, none⟩) (hg.block b (block_lt_of_cell hc6) fun e => hne (Option.some.inj e))).trans hc6
            have HTK : Hid (ss.take (k + 1) = ss.take k ++ [z]) := Lib.hid (by rw [List.take_add_one, hz]; rfl)
            obtain ⟨D, hown, hD⟩ := hof
            have hkey := Maps.keyOf_int_mk (P := Tryz.prog) Tryz.underlying3 (wf_of hz64)
            have HDD := Lib.hid (of_add (a := z) hown.isMap hD)
            have HG := Lib.hid hg
            have HI := Lib.hid hlt
            have q1 : (k : Int) < (ss.length : Int) := by omega
            have q2 : (0 : Int) ≤ (k : Int) := by omega
            have hn9 : k < maxLen := by simp only [maxLen]; omega
            clear hk hlt hg hD hz hbc hc6 hz64
            go_wp2_with (at_mapUpdate; refine wpList_mapUpdate_own _ rfl _ _ _ 33 rfl 3 _ intKd Tryz.underlying33 (plainElem Tryz.prog 3) Bm k D rfl hown hn9 _ _ (.int .i64 z) rfl rfl hkey (.lit (.int .i64 1)) [] (plainElem_int Tryz.underlying3 (by decide)) ?_; intro w2 hown2 hgrow2; have HO2 := Lib.hid hown2; have HG2 := Lib.hid hgrow2; clear hown2 hgrow2)
            exact ⟨⟨k + 1, HI.out, rfl, HG.out.trans HG2.out, ⟨_, HO2.out, by rw [HTK.out]; exact HDD.out⟩⟩, by
              have := HI.out
              simp [intOf]
              omega⟩
          · have q1 : ¬ (k : Int) < (ss.length : Int) := by omega
            obtain rfl : k = ss.length := by omega
            rw [List.take_length] at hof
            have HOF := Lib.hid hof
            have HG := Lib.hid hg
            obtain ⟨x0, x1, x2, x3⟩ := HE3.out.keep hg (by have := HBM.out; omega)
            clear hlt hk hg hof
            go_upto_region 10 with (fail)
            have HW6 := Lib.hid (show w6.heap.size ≤ wr.heap.size from HG.out.size)
            have HB7r := Lib.hid (show Below w.heap.size w wr from HB6.out.grown HG.out HB6.out.size fun k e => by cases e; have := HBM.out; omega)
            obtain ⟨w7, hw7⟩ : ∃ X, wr.alloc (.cells #[.slice Ar x.rows.length cr, .slice Ak x.keys.length ck, .slice At x.totals.length ct, .slice Ab x.binds.length cb] 29) = X := ⟨_, rfl⟩
            have hb7 : Below wr.heap.size wr w7 := by rw [← hw7]; exact (Below.refl _ _).alloc (Nat.le_refl _) _
            have hs7 : w7.heap.size = wr.heap.size + 1 := by rw [← hw7]; simp
            have hy7 : X4 w7 wr.heap.size (.slice Ar x.rows.length cr) (.slice Ak x.keys.length ck) (.slice At x.totals.length ct) (.slice Ab x.binds.length cb) := by rw [← hw7]; refine ⟨?_, ?_, ?_, ?_⟩ <;> simp [go_sem]
            have hf7 : w7.frozen? ⟨wr.heap.size, 0, none⟩ = false := by rw [← hw7]; simp [go_sem]
            rw [hw7]
            obtain ⟨wm, hwm⟩ : ∃ X, w7.alloc (.cells #[] 27) = X := ⟨_, rfl⟩
            have hb7m : Below w7.heap.size w7 wm := by rw [← hwm]; exact (Below.refl _ _).alloc (Nat.le_refl _) _
            have ho7 : OwnC w w7.heap.size wm (.slice (some ⟨w7.heap.size, 0, none⟩) 0 0) [] := by rw [← hwm]; exact OwnC.empty w w7.heap.size w7 (Nat.le_refl _)
            have HO7 := Lib.hid ho7
            have H7M := Lib.hid hb7m
            have HB7 := Lib.hid (HB7r.out.trans (hb7.mono HB7r.out.size))
            have HF7 := Lib.hid hf7
            have HY7 := Lib.hid hy7
            have HE37 := Lib.hid ((HE3.out.keep HG.out (by have := HBM.out; omega)).on hb7)
            have HE17 := Lib.hid ((HE1.out.keep HG.out (by have := HBM.out; omega)).on hb7)
            have HOF7 := Lib.hid (HOF.out.block (hb7.block _ HOF.out.lt))
            have HP10 := Lib.hid (show wr.heap.size < w7.heap.size by omega)
            have HPB := Lib.hid (show Bm < wr.heap.size from HOF.out.lt)
            have HPW := Lib.hid (show w.heap.size + 2 ≤ wr.heap.size by have := HOF.out.lt; have := HBM.out; omega)
            have HL8 := Lib.hid (show x.rows.length ≤ 8 from HFW.out.1)
            clear x0 x1 x2 x3
            obtain ⟨x0, x1, x2, x3⟩ := HE37.out.on hb7m
            generalize wr.heap.size = p10 at HY7 HF7 HP10 HPB HPW ⊢
            clear hw7 hb7 hs7 hy7 hf7 hb7m ho7 HG HOF HE3 HE1 HB6 HOF6
            go_upto_region 11 with (at_builtin; go_loud (refine wpList_appC (W0 := w) w7.heap.size (by rfl) (.tmp 43) (.tmp 45) rfl _ [] x.rows rfl HO7.out (H7M.out.size) Ar cr rfl (HX0.out.rows) HX0.out.nil (by have := HL8.out; simp; omega) (HB7.out.trans (H7M.out.mono HB7.out.size)) ?_; intro v' wf HOC HBF HGF; have HOCF := Lib.hid HOC.out.form; have HYF := Lib.hid (HY7.out.on (H7M.out.trans (HBF.out.mono (Nat.le_refl _)))); obtain ⟨A7, c7, rfl, hfm⟩ := HOCF.out; rw [List.nil_append] at hfm ⊢; have HFM := Lib.hid hfm; obtain ⟨z0, z1, z2, z3⟩ := HYF.out; have hzf := ((H7M.out.trans HBF.out).frozen (p := ⟨p10, 0, none⟩) HP10.out).trans HF7.out; clear hfm))
            obtain ⟨w8, hw8⟩ : ∃ X, wf.setCell ⟨p10, 0, none⟩ (.slice A7 x.rows.length c7) = X := ⟨_, rfl⟩
            have hg8 : wf.grownBy w8 (some p10) := by rw [← hw8]; exact grown_setCell _ _ _
            have hWF : Below w7.heap.size w7 wf := H7M.out.trans HBF.out
            have hy8 : X4 w8 p10 (.slice A7 x.rows.length c7) (.slice Ak x.keys.length ck) (.slice At x.totals.length ct) (.slice Ab x.binds.length cb) := by
              rw [← hw8]
              refine ⟨?_, ?_, ?_, ?_⟩ <;> simp [go_sem, z0, z1, z2, z3]
            have hE38 := (HE37.out.on hWF).keep hg8 (by have := HPW.out; omega)
            have hE18 := (HE17.out.on hWF).keep hg8 (by have := HPW.out; omega)
            have hOF8 : OfS w8 Bm ss.length ss := by
              have h1 := HOF7.out.block (hWF.block _ HOF7.out.lt)
              exact h1.block (hg8.block _ h1.lt fun e => by have := HPB.out; have := Option.some.inj e; omega)
            have hB8 : Below w.heap.size w w8 := by
              have h1 := HB7.out.trans (hWF.mono HB7.out.size)
              exact h1.grown hg8 h1.size fun k e => by cases e; have := HPW.out; omega
            obtain ⟨g, hgB, hgr⟩ : ∃ g, w7.heap.size ≤ g ∧ (x.rows = [] ∨ (A7 = some ⟨g, 0, none⟩ ∧ RowsAt w w7.heap.size w8 g x.rows)) := by
              rcases HFM.out with h | ⟨g, h1, h2⟩
              · exact ⟨w7.heap.size, Nat.le_refl _, .inl h⟩
              · exact ⟨g, h2.1, .inr ⟨h1, h2.keep hg8 (by have := HP10.out; have := h2.1; omega)⟩⟩
            rw [hw8]
            have HY8 := Lib.hid hy8
            have HE38 := Lib.hid hE38
            have HE18 := Lib.hid hE18
            have HOF8 := Lib.hid hOF8
            have HB8 := Lib.hid hB8
            have HGB := Lib.hid (show Bm < g ∧ p10 < g ∧ w.heap.size + 2 ≤ g by have := HP10.out; have := HPB.out; have := HPW.out; omega)
            have HGR := Lib.hid hgr
            generalize w7.heap.size = B7 at HGR
            clear z0 z1 z2 z3 hzf hw8 hg8 hWF hy8 hE38 hE18 hOF8 hB8 hgB hgr HFM HYF HBF HGF HOC HO7 H7M HB7 HF7 HY7 HE37 HE17 HOF7 x0 x1 x2 x3 HB7r HW6 hwm
            obtain ⟨z0, z1, z2, z3⟩ := HY8.out
            go_wp2_with fail
            clear z0 z1 z2 z3
            go_loopw [51] (fun i wr => L2Rel w B7 w8 g ss o x.rows i wr) (fun i _ => x.rows.length - (intOf i).toNat)
            case atStart =>
              refine ⟨0, Nat.zero_le _, rfl, World.grownBy.refl _ _, ?_⟩
              rcases HGR.out with h | ⟨-, h⟩
              · exact .inl h
              · exact .inr (by rw [yR_zero]; exact h)
            case round =>
              obtain ⟨i, hi, rfl, hg, hrw⟩ := hrel
              have HG := Lib.hid hg
              have hofr : OfS wr Bm ss.length ss := HOF8.out.block (hg.block _ HOF8.out.lt fun e => by have := HGB.out.1; have := Option.some.inj e; omega)
              have hyr := HY8.out.keep hg (by have := HGB.out.2.1; omega)
              by_cases hlt : i < x.rows.length
              · have hne : x.rows ≠ [] := fun e => by rw [e] at hlt; simp at hlt
                obtain ⟨hA7, -⟩ : A7 = some ⟨g, 0, none⟩ ∧ RowsAt w B7 w8 g x.rows := by
                  rcases HGR.out with h | h
                  · exact absurd h hne
                  · exact h
                have hR : RowsAt w B7 wr g (yR ss o x.rows i) := by
                  rcases hrw with h | h
                  · exact absurd h hne
                  · exact h
                have hi64 : In64 (i : Int) := by have := HL8.out; unfold In64; omega
                have hrun := of_look hofr (i : Int) hi64
                have q1 : (i : Int) < (x.rows.length : Int) := by omega
                have q2 : (0 : Int) ≤ (i : Int) := by omega
                obtain ⟨r0, hr0⟩ : ∃ r, x.rows[i]? = some r := ⟨_, List.getElem?_eq_getElem hlt⟩
                obtain ⟨A0, c0, hcell, hfz, -, -⟩ := hR.2.2 i _ (by rw [yR_at, hr0]; rfl)
                generalize (List.length (if i < i ∧ (i : Int) ∉ ss then o else r0)) = n0 at hcell
                have HR := Lib.hid hR
                have HI := Lib.hid hlt
                obtain ⟨z0, z1, z2, z3⟩ := hyr
                rw [hA7] at z0
                have hx8 : x.rows.length ≤ 8 := HL8.out
                clear hi hg hrw hofr hlt hne hi64 hr0 hR
                by_cases hS : (i : Int) ∈ ss
                · rw [if_pos hS] at hrun
                  have HSS := Lib.hid hS
                  clear hS
                  go_wp2_with fail
                  exact ⟨⟨i + 1, HI.out, rfl, HG.out, .inr (yR_skip HR.out HSS.out)⟩, by
                    have := HI.out
                    simp [intOf]
                    omega⟩
                · rw [if_neg hS] at hrun
                  have HSS := Lib.hid hS
                  clear hS
                  go_wp2_with fail
                  exact ⟨⟨i + 1, HI.out, rfl, HG.out.trans (grown_setCell _ _ _), .inr (yR_set HR.out HI.out HSS.out HRO.out.1 HRO.out.2 rfl)⟩, by
                    have := HI.out
                    simp [intOf]
                    omega⟩
              · have q1 : ¬ (i : Int) < (x.rows.length : Int) := by omega
                obtain rfl : i = x.rows.length := by omega
                have hB9 : Below w.heap.size w wr := HB8.out.grown hg HB8.out.size fun k e => by cases e; have := HGB.out.2.2; omega
                have HB9 := Lib.hid hB9
                have HRW := Lib.hid hrw
                have HY9 := Lib.hid hyr
                have HE39 := Lib.hid (HE38.out.keep hg (by have := HGB.out.2.2; omega))
                have HE19 := Lib.hid (HE18.out.keep hg (by have := HGB.out.2.2; omega))
                obtain ⟨hxo, hxt⟩ := envT_of HFW.out HOX.out.1 HOX.out.2.1 HOX.out.2.2.1 HOX.out.2.2.2
                have hfit := fitL_small HOK.out HSM.out
                simp only [FitL, and_true] at hfit
                obtain ⟨⟨⟨ka, na, sa⟩, ea⟩, hra⟩ : ∃ r, evX x e1 = r := ⟨_, rfl⟩
                have HV1 := Lib.hid ((evOn_of HW0.out hxo hxt hfit hra) wr _ _ hB9 (HE0.out.on hB9) (HX0.out.on hB9).v)
                have hsx := yR_same e1 x ss o HQ.out.2.2.1 (src_in64 e1 HO1.out)
                obtain ⟨hevy, hoky⟩ := ev_same e1 x _ hsx hxt (yR_ok hxo ss o HO40.out _) hfit
                have hry : evX ⟨yR ss o x.rows x.rows.length, x.keys, x.totals, x.binds⟩ e1 = ((ka, na, sa), ea) := by rw [evX_same hsx]; exact hra
                have HV2 : Hid (∀ W, Below wr.heap.size wr W → Calls Tryz.prog 10 #[exprV k1 s1 t1 n1 a1 A1 l1 p1, .agg #[.slice A7 x.rows.length c7, .slice Ak x.keys.length ck, .slice At x.totals.length ct, .slice Ab x.binds.length cb]] W (RetV (vT (ka, na, sa)) ea W)) := Lib.hid (by
                  intro W hbW
                  have hB := hB9.trans (hbW.mono hB9.size)
                  have hE := HX0.out.on hB
                  have h := Eval_of _ e1 hevy hoky (exprV k1 s1 t1 n1 a1 A1 l1 p1) (.agg #[.slice A7 x.rows.length c7, .slice Ak x.keys.length ck, .slice At x.totals.length ct, .slice Ab x.binds.length cb]) W (HW0.out.on hB) (HE0.out.on hB) ⟨A7, c7, Ak, ck, At, ct, Ab, cb, by simp only [yR_len], by
                    rcases HGR.out with h0 | ⟨h0, -⟩
                    · exact .inl (by simp [h0, yR])
                    · rcases HRW.out with h1 | h1
                      · exact .inl (by simp [h1, yR])
                      · refine .inr ⟨g, 0, h0, Nat.lt_of_lt_of_le h1.2.1 hbW.size, fun j r hj => ?_⟩
                        obtain ⟨A, c, q1, -, q3, q4⟩ := h1.2.2 j r hj
                        rw [Nat.zero_add]
                        exact ⟨A, c, (hbW.cell (p := ⟨g, j, none⟩) h1.2.1).trans q1, q3, q4.on hB⟩, hE.keys, hE.totals, hE.binds⟩
                  rw [hry] at h
                  exact h)
                obtain ⟨y0, y1, y2, y3, y4, y5⟩ := HE19.out
                obtain ⟨x0, x1, x2, x3⟩ := HE39.out
                simp only [Nat.zero_add] at y0 y1 y2 y3 y4 y5
                clear hi hg hrw hofr hlt hB9 hyr hxo hxt hfit hra hsx hevy hoky hry
                go_upto_region 18 with (go_at_call 10; (with_reducible refine HV1.out.mono ?_); rintro e wc ⟨rfl, bc⟩; have HBC := Lib.hid bc; clear bc)
                obtain ⟨w10, hw10⟩ : ∃ X, wc.alloc (.cells #[.int .u8 ka, .int .i64 na, .string sa] 38) = X := ⟨_, rfl⟩
                have hb10 : Below wr.heap.size wr w10 := by rw [← hw10]; exact HBC.out.alloc HBC.out.size _
                have hx12 : BoxF wc.heap.size (ka, na, sa) w10 := by rw [← hw10]; exact BoxF.new wc ka na sa
                rw [hw10]
                have HP12 := Lib.hid hx12
                have HB10 := Lib.hid (HB9.out.trans (hb10.mono HB9.out.size))
                have HV3 := Lib.hid (HV2.out w10 hb10)
                clear x0 x1 x2 x3 y0 y1 y2 y3 y4 y5
                obtain ⟨y0, y1, y2, y3, y4, y5⟩ := HE19.out.on hb10
                obtain ⟨z0, z1, z2, z3⟩ := HY9.out.on hb10
                simp only [Nat.zero_add] at y0 y1 y2 y3 y4 y5
                generalize wc.heap.size = p12 at HP12 ⊢
                clear hw10 hb10 hx12 HBC HV1 HV2
                go_upto_region 19 with (go_at_call 10; (with_reducible refine HV3.out.mono ?_); rintro e wd ⟨rfl, bd⟩; have HBD := Lib.hid bd; clear bd)
                obtain ⟨w11, hw11⟩ : ∃ X, wd.alloc (.cells #[.int .u8 ka, .int .i64 na, .string sa] 38) = X := ⟨_, rfl⟩
                have hb11 : Below w10.heap.size w10 w11 := by rw [← hw11]; exact HBD.out.alloc HBD.out.size _
                have hx14 : BoxF wd.heap.size (ka, na, sa) w11 := by rw [← hw11]; exact BoxF.new wd ka na sa
                rw [hw11]
                have HB11 := Lib.hid (HB10.out.trans (hb11.mono HB10.out.size))
                clear y0 y1 y2 y3 y4 y5 z0 z1 z2 z3
                obtain ⟨⟨c0, c1, c2⟩, -⟩ := HP12.out.on hb11
                obtain ⟨⟨d0, d1, d2⟩, -⟩ := hx14
                generalize wd.heap.size = p14 at d0 d1 d2 ⊢
                clear hw11 hb11 HBD
                go_wp2_with (go_at_call 8; refine (awake_any _ (HW0.out.on HB11.out)).mono ?_; rintro e wz ⟨rfl, bz⟩; have HZZ := Lib.hid (HB11.out.trans (bz.mono HB11.out.size)); clear bz)
                go_ret
                exact ⟨rfl, HZZ.out⟩
    · have hd := decide_eq_false hfew
      go_wp2_with (first
        | ((with_reducible refine HS.out.mono ?_); rintro e wa ⟨rfl, ba⟩; have HA := Lib.hid ba; have HBA := Lib.hid (HB4.out.trans (ba.mono HB4.out.size)); clear x0 x1 x2 x3; obtain ⟨x0, x1, x2, x3⟩ := HC3.out.on ba; clear ba)
        | (go_at_call 7; refine (few_any x Ar cr Ak ck At ct Ab cb _ (HX.out.on HA.out)).mono ?_; rintro e wb ⟨rfl, bb⟩; rw [hd]; have HB := Lib.hid (HA.out.trans (bb.mono HA.out.size)); clear bb)
        | (go_at_call 8; refine (awake_any _ (HW.out.on HB.out)).mono ?_; rintro e wb ⟨rfl, bb⟩; have HBB := Lib.hid ((HB4.out.trans (HB.out.mono HB4.out.size)).trans (bb.mono (Nat.le_trans HB4.out.size HB.out.size))); clear bb))
      go_ret
      exact ⟨rfl, HBB.out⟩
end Go.Proofs.YteijijoiifbjlaaGreatDoor
