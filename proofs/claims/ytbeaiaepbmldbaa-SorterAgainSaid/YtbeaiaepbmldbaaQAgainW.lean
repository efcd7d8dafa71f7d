/-
  SorterAgain's walk.
-/
import Derived.Test.YtbeaiaepbmldbaaQOnceW
namespace Go.Proofs.Ytbeaiaepbmldbaa
open Go.ChangeShapes Go.WideShapes Go.ChangeAt Go.RowKit
set_option linter.unusedVariables false

/-- pairs in memory of the call's own -/
def OwnP (w : World) (base : Nat) (v : Value) (qs : List Pr) : Prop := w.ownsRow base 62 6 v qs.length (cellsL (flat qs))
theorem OwnP.nil (w : World) (base : Nat) : OwnP w base (.slice none 0 0) [] := World.ownsRow_nil w base _ _
theorem OwnP.on {w w' : World} {base : Nat} {v : Value} {qs : List Pr} (h : OwnP w base v qs) (hb : Below w.heap.size w w') : OwnP w' base v qs :=
  row_keep h fun g _ _ _ hh => hb.block g (heap_lt hh)
theorem OwnP.form {w : World} {base : Nat} {v : Value} {qs : List Pr} (h : OwnP w base v qs) : ∃ A c, v = .slice A qs.length c ∧ qs.length ≤ c ∧ RdR w w.heap.size A (flat qs) := by
  obtain ⟨h1, h2⟩ := h
  rcases h2 with ⟨rfl, h0⟩ | ⟨g, cap, cur, rfl, hg, hh, hc, hm, hs, ht⟩
  · exact ⟨none, 0, by rw [h0], by omega, fun hp => by rw [flat_length] at hp; omega⟩
  · have hlt : g < w.heap.size := heap_lt hh
    refine ⟨_, cap, rfl, hc, fun _ => ⟨_, rfl, hlt, fun j k n s hj => ?_⟩⟩
    obtain ⟨g0, g1, g2⟩ := cellsL_get (flat qs) j k n s hj
    have ha : ((⟨g, 0, none⟩ : Addr).add (j * 3)) = ⟨g, j * 3, none⟩ := by
      unfold Addr.add
      by_cases hj0 : j * 3 = 0 <;> simp [hj0]
    have key : ∀ o v, (cellsL (flat qs))[o]? = some v → w.cell? ⟨g, o, none⟩ = some v := by
      intro o v hv
      rw [← ht, List.getElem?_take] at hv
      split at hv
      · simp only [World.cell?, hh]
        simpa using hv
      · cases hv
    rw [ha]
    exact ⟨key _ _ g0, key _ _ g1, key _ _ g2⟩
theorem Try.info_pairs : (Try.prog.info? 62).map (fun i => (i.zero, i.size, i.bytes)) = some (some (.agg #[.int .u8 0, .int .i64 0, .string ⟨#[]⟩, .int .u8 0, .int .i64 0, .string ⟨#[]⟩]), 6, 64) := by kernel_rfl
theorem flat_snoc (qs : List Pr) (q : Pr) : flat (qs ++ [q]) = flat qs ++ [q.1, q.2] := by simp [flat]
set_option maxRecDepth 100000 in
theorem step_app6 {W : World} {ops : Array Oper} {o : Oper} {a : Act} {K : Act → World → Prop} {Q : Exit → Act → World → Prop} {E : Prop} (hgd : o.guard = none) (s x : Operand)
    (ho : o.op = .call { callee := .builtin .append, args := #[s, x], argTypes := #[56, 56] })
    (base : Nat) (v : Value) (qs : List Pr) (hs : a.eval s = v) (hown : OwnP W base v qs) (k0 n0 : Int) (s0 : ByteArray) (k1 n1 : Int) (s1 : ByteArray) (hx : a.eval x = .slice (some ⟨W.heap.size, 0, none⟩) 1 1)
    (hlen : qs.length + 1 ≤ 100000) (hbase : base ≤ W.heap.size)
    (h : ∀ v' w', OwnP w' base v' (qs ++ [((k0, n0, s0), (k1, n1, s1))]) → Below base W w' → K (a.put o.dst v') w') :
    if Region.wanted o (yielded ops a.tmps) = true then Oper.wp Try.prog o a (W.alloc (.cells #[.int .u8 k0, .int .i64 n0, .string s0, .int .u8 k1, .int .i64 n1, .string s1] 62)).drew K Q else E := by
  have hw : Region.wanted o (yielded ops a.tmps) = true := by simp [Region.wanted, hgd]
  rw [if_pos hw]
  obtain ⟨i0, hi, hz0, hz1, hz2⟩ := info_parts Try.info_pairs
  have hal : Below W.heap.size W (W.alloc (.cells #[.int .u8 k0, .int .i64 n0, .string s0, .int .u8 k1, .int .i64 n1, .string s1] 62)).drew := by
    have h1 : Below W.heap.size W (W.alloc (.cells #[.int .u8 k0, .int .i64 n0, .string s0, .int .u8 k1, .int .i64 n1, .string s1] 62)) := (Below.refl _ _).alloc (Nat.le_refl _) _
    exact ⟨h1.os, h1.tape, h1.output, h1.size, h1.block⟩
  have hown' := hown.on hal
  refine wp_append_own _ s x 56 ho base 62 i0 (.agg #[.int .u8 0, .int .i64 0, .string ⟨#[]⟩, .int .u8 0, .int .i64 0, .string ⟨#[]⟩]) 6 64 Try.underlying56 hi hz0 hz1 hz2 rfl (by decide) v qs.length (cellsL (flat qs)) hs hown' ⟨W.heap.size, 0, none⟩ 1 1 [.int .u8 k0, .int .i64 n0, .string s0, .int .u8 k1, .int .i64 n1, .string s1] hx rfl ?_ (by intro u hu; simp only [List.mem_cons, List.mem_nil_iff, or_false] at hu; rcases hu with rfl | rfl | rfl | rfl | rfl | rfl <;> rfl) (by simp only [maxLen]; omega) (by omega) (by simp; omega) ?_
  · intro j u hu
    match j, hu with
    | 0, hu => obtain rfl := Option.some.inj hu; simp [go_sem]
    | 1, hu => obtain rfl := Option.some.inj hu; simp [go_sem]
    | 2, hu => obtain rfl := Option.some.inj hu; simp [go_sem]
    | 3, hu => obtain rfl := Option.some.inj hu; simp [go_sem]
    | 4, hu => obtain rfl := Option.some.inj hu; simp [go_sem]
    | 5, hu => obtain rfl := Option.some.inj hu; simp [go_sem]
    | j + 6, hu => simp at hu
  · intro v' w' h1 h2 _
    refine h v' w' ?_ (((Below.refl base W).alloc hbase _).trans ((Below.refl _ _).drew.grown h2 (by simp; omega) fun k hk => (hown'.lt k hk).1))
    unfold OwnP
    rw [List.length_append, flat_snoc, cellsL_append]
    exact h1
/-- a slice of rows, with room -/
def RowsAt3 (w : World) (A : Option Addr) (S : List PN) : Prop :=
  ∀ j x, S[j]? = some x → ∃ (ad : Addr) (g c : Nat), A = some ad ∧ ad.block < w.heap.size ∧ g < w.heap.size ∧ (3 ≤ c ∧ c ≤ 9223372036854775807) ∧ w.cell? (ad.add j) = some (.slice (some ⟨g, 0, none⟩) 3 c) ∧ RdR w w.heap.size (some ⟨g, 0, none⟩) (row3 x.1 x.2)
theorem RowsAt3.on {w w' : World} {A : Option Addr} {S : List PN} (h : RowsAt3 w A S) (hb : Below w.heap.size w w') : RowsAt3 w' A S := fun j x hj => by
  obtain ⟨ad, g, c, e, h1, h2, h5, h3, h4⟩ := h j x hj
  exact ⟨ad, g, c, e, Nat.lt_of_lt_of_le h1 hb.size, Nat.lt_of_lt_of_le h2 hb.size, h5, (hb.cell (by rw [blockAdd]; exact h1)).trans h3, h4.on hb⟩
theorem OwnRR.rows3 {w : World} {base : Nat} {v : Value} {L : List Rv} {S : List PN} (h : OwnRR w base v L) (hL : L.map Rv.r = S.map fun x => row3 x.1 x.2) : ∃ A c, v = .slice A S.length c ∧ RowsAt3 w A S := by
  obtain ⟨A, c, rfl, hr⟩ := h.rd
  have hl : L.length = S.length := by simpa using congrArg List.length hL
  refine ⟨A, c, by rw [hl], fun j x hj => ?_⟩
  have hjl := (List.getElem?_eq_some_iff.1 hj).1
  obtain ⟨y, hy⟩ : ∃ y, L[j]? = some y := ⟨_, List.getElem?_eq_getElem (by omega)⟩
  have hyr : y.r = row3 x.1 x.2 := by
    have h1 := congrArg (fun l => l[j]?) hL
    simp only [List.getElem?_map, hy, hj, Option.map_some, Option.some.injEq] at h1
    exact h1
  obtain ⟨ad, rfl, h1, h2, h3⟩ := hr j y hy
  rw [hyr] at h3
  obtain ⟨g, c', hv, hl3, hc9, h4⟩ := ownR_some7 h3 (by simp [row3])
  obtain ⟨_, _, hv2, hg, _⟩ := row_three h3
  rw [hv] at hv2
  injection hv2 with e1 e2 e3
  injection e1 with e1
  injection e1 with e1
  exact ⟨ad, g, c', rfl, h1, by rw [e1]; exact hg, ⟨hl3, hc9⟩, by rw [h2, hv]; rfl, h4⟩
theorem RowsAt3.cells {w : World} {g : Nat} {p : Pr} {i : Nat} (h : RdR w w.heap.size (some ⟨g, 0, none⟩) (row3 p i)) :
    (w.cell? ⟨g, 0, none⟩ = some (.int .u8 p.1.1) ∧ w.cell? ⟨g, 1, none⟩ = some (.int .i64 p.1.2.1) ∧ w.cell? ⟨g, 2, none⟩ = some (.string p.1.2.2)) ∧
    (w.cell? ⟨g, 3, none⟩ = some (.int .u8 p.2.1) ∧ w.cell? ⟨g, 4, none⟩ = some (.int .i64 p.2.2.1) ∧ w.cell? ⟨g, 5, none⟩ = some (.string p.2.2.2)) ∧
    w.cell? ⟨g, 7, none⟩ = some (.int .i64 (i : Int)) := by
  obtain ⟨ad, e, _, hc⟩ := h (by simp [row3])
  obtain rfl : (⟨g, 0, none⟩ : Addr) = ad := by simpa using e
  obtain ⟨⟨a0, b0, c0⟩, a1, b1, c1⟩ := p
  have h0 := hc 0 a0 b0 c0 rfl
  have h1 := hc 1 a1 b1 c1 rfl
  have h2 := hc 2 1 (i : Int) ⟨#[]⟩ rfl
  simp only [Addr.add, RowAt] at h0 h1 h2
  exact ⟨by simpa using h0, by simpa using h1, by simpa using h2.2.1⟩
theorem RdR.two {w : World} {B : Nat} {A : Option Addr} {p : Pr} {i : Nat} (h : RdR w B A (row3 p i)) : RdR w B A [p.1, p.2] := by
  intro _
  obtain ⟨ad, e, hl, hc⟩ := h (by simp [row3])
  refine ⟨ad, e, hl, fun j k n s hj => hc j k n s ?_⟩
  match j, hj with
  | 0, hj => exact hj
  | 1, hj => exact hj
  | j + 2, hj => simp at hj
def AgRel1 (w : World) (base : Nat) (qs : List Pr) (v7 v27 : Value) (wr : World) : Prop :=
  ∃ i : Nat, i ≤ qs.length ∧ v27 = .int .i64 (i : Int) ∧ OwnP wr base v7 (qs.take i) ∧ Below base w wr
def AgRel2 (w : World) (m : Nat) (v91 : Value) (wr : World) : Prop :=
  ∃ i : Nat, i ≤ m ∧ v91 = .int .i64 (i : Int) ∧ Below w.heap.size w wr
set_option maxRecDepth 100000 in
set_option maxHeartbeats 4000000 in
theorem again_go (A : Option Addr) (c : Nat) (ps : List Pr) (d0 d1 : Bool) (w : World) (hR : RdR w w.heap.size A (flat ps)) (hz : ∀ p ∈ ps, p.1.2.2.size ≤ 9223372036854775807 ∧ p.2.2.2.size ≤ 9223372036854775807) (hl : ps.length ≤ 9223372036854775807) (hok : okPs ps = true) (hg : GoodQ ps) :
    Calls Try.prog 7 #[.slice A ps.length c, .agg #[.bool d0, .bool d1]] w fun e w' => e = .returned (.bool true) ∧ Below w.heap.size w w' := by
  have hal0 : Below w.heap.size w (w.alloc (.cells #[.bool d0, .bool d1] 57)) := (Below.refl _ _).alloc (Nat.le_refl _) _
  have hsz : (w.alloc (.cells #[.bool d0, .bool d1] 57)).heap.size = w.heap.size + 1 := by simp
  have hR0 : RdR (w.alloc (.cells #[.bool d0, .bool d1] 57)) (w.alloc (.cells #[.bool d0, .bool d1] 57)).heap.size A (flat ps) := fun hp => by
    obtain ⟨ad, e, hal, hcs⟩ := (hR.below hal0) hp
    exact ⟨ad, e, Nat.lt_of_lt_of_le hal hal0.size, hcs⟩
  have HD := Lib.hid (show ∀ X : World, Below (w.alloc (.cells #[.bool d0, .bool d1] 57)).heap.size (w.alloc (.cells #[.bool d0, .bool d1] 57)) X → X.cell? ⟨w.heap.size, 0, none⟩ = some (.bool d0) ∧ X.cell? ⟨w.heap.size, 1, none⟩ = some (.bool d1) from fun X hX =>
    ⟨(hX.cell (p := ⟨w.heap.size, 0, none⟩) (by show w.heap.size < _; omega)).trans (by simp [go_sem]), (hX.cell (p := ⟨w.heap.size, 1, none⟩) (by show w.heap.size < _; omega)).trans (by simp [go_sem])⟩)
  obtain ⟨n, hn⟩ : ∃ n, ps.length = n := ⟨_, rfl⟩
  have HRT := Lib.hid (right7_any A n c ps (w.alloc (.cells #[.bool d0, .bool d1] 57)) hn.symm hR0 hz hl)
  have HR0 := Lib.hid hR0
  have HW := Lib.hid hal0
  have HG := Lib.hid hg
  have HOK := Lib.hid hok
  have hn2 : n ≤ 120 := by rw [← hn]; exact hg.1
  have HN := Lib.hid hn
  rw [hn]
  clear hR hz hl hok hg hn hR0 hal0
  go_enter Try.func7, Try.ntmps7
  go_wp2_with fail
  generalize hw0 : (w.alloc (.cells #[.bool d0, .bool d1] 57)) = w0 at *
  refine HRT.out.mono ?_
  rintro e w1 ⟨rfl, hb1⟩
  rw [HOK.out]
  have HB1 := Lib.hid hb1
  obtain ⟨D0, D1⟩ := HD.out w1 hb1
  clear hb1
  go_wp2_with fail
  refine (sorted7 A n c ps d0 d1 true w1 HN.out.symm (HR0.out.on HB1.out) HG.out (rowsS (onceL [d0, d1] ps)) (left_onceL _ _) (fun r hr => by
    obtain ⟨x, hx, rfl⟩ := List.mem_map.1 hr
    have hlt := (List.getElem?_eq_some_iff.1 (onceL_mem hx)).1
    exact ⟨good_row3 (HG.out.2 _ (List.mem_of_getElem? (onceL_mem hx))) _ (by have := HN.out; omega), rfl⟩)).mono ?_
  rintro e w2 ⟨v2, L, rfl, hL, ho, hb2⟩
  obtain ⟨A5, c5, rfl, hr1⟩ := ho.rows3 hL
  obtain ⟨m, hm⟩ : ∃ m, (onceL [d0, d1] ps).length = m := ⟨_, rfl⟩
  have hmn : m ≤ n := by have h := onceL_length [d0, d1] ps; have := HN.out; omega
  rw [hm]
  have HGQ := Lib.hid (once_good (ds := [d0, d1]) HG.out)
  have HPW := Lib.hid (once_pairs HG.out (show [d0, d1].length = 2 from rfl))
  obtain ⟨qs, hqs⟩ : ∃ qs, (onceL [d0, d1] ps).map Prod.fst = qs := ⟨_, rfl⟩
  have hql : qs.length = m := by rw [← hqs, List.length_map, hm]
  rw [hqs] at HGQ HPW
  have HQS := Lib.hid hqs
  have HM := Lib.hid hm
  have HQL := Lib.hid hql
  have HB2 := Lib.hid (HB1.out.trans (hb2.mono HB1.out.size))
  have HR1 := Lib.hid hr1
  clear ho hr1 hL hb2 D0 D1 hqs hm
  go_wp2_with fail
  go_loopw [7, 27] (fun v7 v27 wr => AgRel1 w2 w2.heap.size qs v7 v27 wr) (fun _ v _ => m - (intOf v).toNat)
  case atStart => exact ⟨0, Nat.zero_le _, rfl, OwnP.nil _ _, Below.refl _ _⟩
  case round =>
    obtain ⟨i, hi, rfl, ho, hb⟩ := hrel
    have HO := Lib.hid ho
    have HB := Lib.hid hb
    have HQ1 := Lib.hid (HR1.out.on hb)
    clear ho hb
    by_cases hlt : i < m
    · obtain ⟨x, hx⟩ : ∃ x, (onceL [d0, d1] ps)[i]? = some x := ⟨_, List.getElem?_eq_getElem (by have := HM.out; omega)⟩
      have hqx : qs[i]? = some x.1 := by rw [← HQS.out, List.getElem?_map, hx]; rfl
      obtain ⟨a5, gi, ci, rfl, ha5, hgi, _, hc5, hr5⟩ := HQ1.out i x hx
      obtain ⟨⟨f0, f1, f2⟩, ⟨f3, f4, f5⟩, _⟩ := RowsAt3.cells hr5
      have HTK := Lib.hid (show qs.take (i + 1) = qs.take i ++ [((x.1.1.1, x.1.1.2.1, x.1.1.2.2), (x.1.2.1, x.1.2.2.1, x.1.2.2.2))] by rw [List.take_add_one, hqx]; rfl)
      have HLQ := Lib.hid (show (qs.take i).length + 1 ≤ 100000 by rw [List.length_take]; omega)
      have q1 : (i : Int) < (m : Int) := by omega
      have q2 : (0 : Int) ≤ (i : Int) := by omega
      clear hx hqx hr5
      go_wp2_with fail
      go_region_law (refine step_app6 rfl _ _ rfl w2.heap.size _ (qs.take i) rfl HO.out x.1.1.1 x.1.1.2.1 x.1.1.2.2 x.1.2.1 x.1.2.2.1 x.1.2.2.2 rfl HLQ.out HB.out.size ?_; intro v1 wx ho1 hb1)
      all_goals (go_wp2_with fail; exact ⟨⟨i + 1, by omega, by go_num, by rw [HTK.out]; exact ho1, HB.out.trans (hb1.mono (Nat.le_refl _))⟩, by simp [intOf]; omega⟩)
    · obtain rfl : m = i := by omega
      have ho := HO.out
      rw [List.take_of_length_le (by rw [hql]; exact Nat.le_refl _)] at ho
      obtain ⟨A7, c7, rfl, _, hr7⟩ := ho.form
      rw [hql]
      have q1 : ¬ (m : Int) < (m : Int) := by omega
      have HR7 := Lib.hid hr7
      have HBD := Lib.hid (HB2.out.trans (HB.out.mono HB2.out.size))
      obtain ⟨D0, D1⟩ := HD.out wr HBD.out
      have HR5 := Lib.hid HQ1.out
      clear ho hr7
      go_wp2_with fail
      refine (sorted7 A7 m c7 qs d0 d1 false wr HQL.out.symm HR7.out HGQ.out (rowsS qs.zipIdx) (by rw [← ordS_rise HGQ.out (show [d0, d1].length = 2 from rfl) HPW.out]; exact left_ordS _ _) (fun r hr => by
        obtain ⟨x, hx, rfl⟩ := List.mem_map.1 hr
        have hx2 : qs[x.2]? = some x.1 := by obtain ⟨p, k⟩ := x; simpa [List.mem_zipIdx_iff_getElem?] using hx
        have hlt := (List.getElem?_eq_some_iff.1 hx2).1
        exact ⟨good_row3 (HGQ.out.2 _ (List.mem_of_getElem? hx2)) _ (by have := HQL.out; omega), rfl⟩)).mono ?_
      rintro e w3 ⟨v3, L3, rfl, hL, ho, hb3⟩
      obtain ⟨A9, c9, rfl, hr9⟩ := ho.rows3 hL
      rw [show (qs.zipIdx).length = m by rw [List.length_zipIdx]; exact HQL.out]
      have HB3 := Lib.hid (HBD.out.trans (hb3.mono HBD.out.size))
      have HR9 := Lib.hid hr9
      have HR5' := Lib.hid (HR5.out.on hb3)
      have HR7' := Lib.hid (HR7.out.on hb3)
      obtain ⟨D0, D1⟩ := HD.out w3 HB3.out
      clear ho hr9 hL hb3
      go_wp2_with fail
      refine (sorted7 A7 m c7 qs (!d0) (!d1) false w3 HQL.out.symm HR7'.out HGQ.out (rowsS qs.zipIdx.reverse) (by rw [← ordS_fall HGQ.out (show [d0, d1].length = 2 from rfl) HPW.out]; exact left_ordS _ _) (fun r hr => by
        obtain ⟨x, hx, rfl⟩ := List.mem_map.1 hr
        have hx := List.mem_reverse.1 hx
        have hx2 : qs[x.2]? = some x.1 := by obtain ⟨p, k⟩ := x; simpa [List.mem_zipIdx_iff_getElem?] using hx
        have hlt := (List.getElem?_eq_some_iff.1 hx2).1
        exact ⟨good_row3 (HGQ.out.2 _ (List.mem_of_getElem? hx2)) _ (by have := HQL.out; omega), rfl⟩)).mono ?_
      rintro e w4 ⟨v4, L4, rfl, hL, ho, hb4⟩
      obtain ⟨A11, c11, rfl, hr11⟩ := ho.rows3 hL
      rw [show (qs.zipIdx.reverse).length = m by rw [List.length_reverse, List.length_zipIdx]; exact HQL.out]
      have HB4 := Lib.hid (HB3.out.trans (hb4.mono HB3.out.size))
      have HS11 := Lib.hid hr11
      have HS9 := Lib.hid (HR9.out.on hb4)
      have HS5 := Lib.hid (HR5'.out.on hb4)
      clear ho hr11 hL hb4 D0 D1
      go_wp2_with fail
      go_loopw [91] (fun v wr => AgRel2 w4 m v wr) (fun v _ => m - (intOf v).toNat)
      case atStart => exact ⟨0, Nat.zero_le _, rfl, Below.refl _ _⟩
      case round =>
        obtain ⟨i, hi2, rfl, hb⟩ := hrel
        have HBX := Lib.hid hb
        have HT11 := Lib.hid (HS11.out.on hb)
        have HT9 := Lib.hid (HS9.out.on hb)
        have HT5 := Lib.hid (HS5.out.on hb)
        clear hb
        by_cases hlt2 : i < m
        · obtain ⟨x, hx⟩ : ∃ x, (onceL [d0, d1] ps)[i]? = some x := ⟨_, List.getElem?_eq_getElem (by have := HM.out; omega)⟩
          have hqx : qs[i]? = some x.1 := by rw [← HQS.out, List.getElem?_map, hx]; rfl
          obtain ⟨m1, hm1⟩ : ∃ m1, m = m1 + 1 := ⟨m - 1, by omega⟩
          obtain ⟨r, hr⟩ : ∃ r, m1 - i = r := ⟨_, rfl⟩
          have hb9 : (qs.zipIdx)[i]? = some (x.1, i) := by rw [List.getElem?_zipIdx, hqx]; simp
          have hb11 : (qs.zipIdx.reverse)[r]? = some (x.1, i) := by
            rw [List.getElem?_reverse (by rw [List.length_zipIdx, HQL.out]; omega), List.length_zipIdx, HQL.out, show m - 1 - r = i by omega]
            exact hb9
          obtain ⟨a5, gi, ci, rfl, ha5, hgi, hci, hc5, hr5⟩ := HT5.out i x hx
          obtain ⟨a9, gb, cb, rfl, ha9, hgb, hcb, hc9, hr9⟩ := HT9.out i _ hb9
          obtain ⟨a11, gc, cc, rfl, ha11, hgc, hcc, hc11, hr11⟩ := HT11.out r _ hb11
          obtain ⟨_, _, hn7⟩ := RowsAt3.cells hr9
          have HRI := Lib.hid (RdR.two hr5)
          have HRB := Lib.hid (RdR.two hr9)
          have HRC := Lib.hid (RdR.two hr11)
          have q1 : (i : Int) < (m : Int) := by omega
          have q2 : (0 : Int) ≤ (i : Int) := by omega
          have q3 : (m : Int) - 1 = (m1 : Int) := by omega
          have q4 : IntKind.i64.wrap ((m : Int) - 1) = (m1 : Int) := by rw [q3]; exact IntWalk.i64_in _ (by omega)
          have q5 : IntKind.i64.wrap (m1 : Int) = (m1 : Int) := IntWalk.i64_in _ (by omega)
          have q6 : (m1 : Int) - (i : Int) = (r : Int) := by omega
          have q7 : IntKind.i64.wrap ((m1 : Int) - (i : Int)) = (r : Int) := by rw [q6]; exact IntWalk.i64_in _ (by omega)
          have q8 : IntKind.i64.wrap (r : Int) = (r : Int) := IntWalk.i64_in _ (by omega)
          have q9 : (r : Int) < (m : Int) := by omega
          have q10 : (0 : Int) ≤ (r : Int) := by omega
          have p1 : (2 : Int) ≤ (ci : Int) := by omega
          have p2 : (2 : Int) ≤ (cb : Int) := by omega
          have p3 : (2 : Int) ≤ (cc : Int) := by omega
          have FZ := Lib.hid (show ∀ X : World, Below wr.heap.size wr X → X.cell? (a5.add i) = some (.slice (some ⟨gi, 0, none⟩) 3 ci) ∧ X.cell? (a9.add i) = some (.slice (some ⟨gb, 0, none⟩) 3 cb) ∧ X.cell? ⟨gb, 7, none⟩ = some (.int .i64 (i : Int)) from fun X hX =>
            ⟨(hX.cell (by rw [blockAdd]; exact ha5)).trans hc5, (hX.cell (by rw [blockAdd]; exact ha9)).trans hc9, (hX.cell (p := ⟨gb, 7, none⟩) hgb).trans hn7⟩)
          have HBC := Lib.hid (Below.refl wr.heap.size wr)
          have tok1 : True := trivial
          clear hx hqx hb9 hb11 hr5 hr9 hr11 hm1 hr
          go_wp2_with fail
          go_region_held3 (fun X => X.cell? (a5.add i) = some (.slice (some ⟨gi, 0, none⟩) 3 ci) ∧ X.cell? (a9.add i) = some (.slice (some ⟨gb, 0, none⟩) 3 cb) ∧ X.cell? ⟨gb, 7, none⟩ = some (.int .i64 (i : Int)))
            (first | exact FZ.out _ HBC.out | exact FZ.out _ (drewR HBC.out) | exact FZ.out _ HBE.out | exact FZ.out _ (drewR HBE.out))
            (first
              | (go_at_call 22; have _t := tok1; clear _t tok1; refine (SameValues_any (some ⟨gi, 0, none⟩) ci 2 [x.1.1, x.1.2] (some ⟨gb, 0, none⟩) cb 2 [x.1.1, x.1.2] _ (HRI.out.on (drewR HBC.out)) (HRB.out.on (drewR HBC.out)) rfl rfl (by show 2 ≤ 1000000; omega) true (by simp)).mono ?_; rintro e w6 ⟨rfl, hb6⟩; have HBC := Lib.hid ((drewR HBC.out).trans (hb6.mono HBC.out.size)); clear hb6)
              | (go_at_call 22; refine (SameValues_any (some ⟨gi, 0, none⟩) ci 2 [x.1.1, x.1.2] (some ⟨gc, 0, none⟩) cc 2 [x.1.1, x.1.2] _ (HRI.out.on (by first | exact HBC.out | exact drewR HBC.out)) (HRC.out.on (by first | exact HBC.out | exact drewR HBC.out)) rfl rfl (by show 2 ≤ 1000000; omega) true (by simp)).mono ?_; rintro e w7 ⟨rfl, hb7⟩; have HBE := Lib.hid (HBC.out.trans ((show Below wr.heap.size _ _ from hb7.mono HBC.out.size))); clear hb7))
          go_wp2_with fail
          exact ⟨⟨i + 1, by omega, by go_num, HBX.out.trans (HBE.out.mono HBX.out.size)⟩, by simp [intOf]; omega⟩
        · obtain rfl : m = i := by omega
          have q1 : ¬ (m : Int) < (m : Int) := by omega
          go_wp2_with fail
          refine (awk7_any _).mono ?_
          rintro e w9 ⟨rfl, hb9⟩
          go_wp2_with fail
          go_ret
          have hT := HB4.out.trans (HBX.out.mono HB4.out.size)
          exact ⟨rfl, HW.out.trans ((hT.trans (hb9.mono hT.size)).mono (by omega))⟩
set_option maxRecDepth 100000 in
theorem again_no (A : Option Addr) (c : Nat) (ps : List Pr) (d0 d1 : Bool) (w : World) (hR : RdR w w.heap.size A (flat ps)) (hz : ∀ p ∈ ps, p.1.2.2.size ≤ 9223372036854775807 ∧ p.2.2.2.size ≤ 9223372036854775807) (hl : ps.length ≤ 9223372036854775807) (hok : okPs ps = false) :
    Calls Try.prog 7 #[.slice A ps.length c, .agg #[.bool d0, .bool d1]] w fun e w' => e = .returned (.bool true) ∧ Below w.heap.size w w' := by
  have hal0 : Below w.heap.size w (w.alloc (.cells #[.bool d0, .bool d1] 57)) := (Below.refl _ _).alloc (Nat.le_refl _) _
  have hR0 : RdR (w.alloc (.cells #[.bool d0, .bool d1] 57)) (w.alloc (.cells #[.bool d0, .bool d1] 57)).heap.size A (flat ps) := fun hp => by
    obtain ⟨ad, e, hal, hcs⟩ := (hR.below hal0) hp
    exact ⟨ad, e, Nat.lt_of_lt_of_le hal hal0.size, hcs⟩
  have HRT := Lib.hid (right7_any A ps.length c ps _ rfl hR0 hz hl)
  have HOK := Lib.hid hok
  have HW := Lib.hid hal0
  clear hR hz hl hok hR0 hal0
  go_enter Try.func7, Try.ntmps7
  go_wp2_with fail
  refine HRT.out.mono ?_
  rintro e w1 ⟨rfl, hb1⟩
  rw [HOK.out]
  have HB1 := Lib.hid (HW.out.trans (hb1.mono HW.out.size))
  clear hb1
  go_wp2_with fail
  refine (awk7_any _).mono ?_
  rintro e w9 ⟨rfl, hb9⟩
  go_wp2_with fail
  go_ret
  exact ⟨rfl, HB1.out.trans (hb9.mono HB1.out.size)⟩
theorem again_walk (A : Option Addr) (c : Nat) (ps : List Pr) (d0 d1 : Bool) (w : World) (hR : RdR w w.heap.size A (flat ps)) (hs : ∀ p ∈ ps, (In64 p.1.2.1 ∧ p.1.2.2.size ≤ maxLen) ∧ In64 p.2.2.1 ∧ p.2.2.2.size ≤ maxLen) (hc : ps.length ≤ c) (hm : c ≤ maxLen) :
    Calls Try.prog 7 #[.slice A ps.length c, .agg #[.bool d0, .bool d1]] w fun e w' => e = .returned (.bool true) ∧ Below w.heap.size w w' := by
  have hz : ∀ p ∈ ps, p.1.2.2.size ≤ 9223372036854775807 ∧ p.2.2.2.size ≤ 9223372036854775807 := fun p hp => by
    obtain ⟨⟨_, h1⟩, _, h2⟩ := hs p hp
    unfold maxLen at h1 h2
    omega
  have hl : ps.length ≤ 9223372036854775807 := by unfold maxLen at hm; omega
  cases hok : okPs ps with
  | false => exact again_no A c ps d0 d1 w hR hz hl hok
  | true => exact again_go A c ps d0 d1 w hR hz hl hok (GoodQ.of hok fun p hp => ⟨(hs p hp).1.1, (hs p hp).2.1⟩)
end Go.Proofs.Ytbeaiaepbmldbaa
