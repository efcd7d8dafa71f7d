/-
  Layer 8: joined. Conditions: right values.
-/
import Derived.Test.YtceknmibopnmhaaGreatDoorAJnM
import Derived.Test.YtceknmibopnmhaaGreatDoorARep
import Derived.Deep.AppendLies
namespace Go.Proofs.YtceknmibopnmhaaGreatDoor
open Go.ChangeShapes Go.WideShapes Go.ChangeAt Go.RowKit Go.Maps Go.Sort Go.Shelf Go.ChangeMaps Go.Lib
set_option linter.unusedVariables false

theorem ownsRow_on {w w' : World} {base : Nat} {e : TypeId} {size n : Nat} {v : Value} {xs : List Value} (h : w.ownsRow base e size v n xs) (hb : Below w.heap.size w w') : w'.ownsRow base e size v n xs := by
  obtain ⟨h1, h2⟩ := h
  refine ⟨h1, ?_⟩
  rcases h2 with h2 | ⟨g, cap, cur, rfl, hg, hh, r⟩
  · exact .inl h2
  · exact .inr ⟨g, cap, cur, rfl, hg, (hb.block g (Array.getElem?_eq_some_iff.1 hh).1).trans hh, r⟩
theorem OwnS.on {w w' : World} {base : Nat} {v : Value} {l : List ByteArray} (h : OwnS w base v l) (hb : Below w.heap.size w w') : OwnS w' base v l := ownsRow_on h hb
theorem OwnS.form {w : World} {base : Nat} {v : Value} {l : List ByteArray} (h : OwnS w base v l) : ∃ A c, v = .slice A l.length c ∧ l.length ≤ c ∧ ((0 < l.length) → ∃ g, A = some ⟨g, 0, none⟩ ∧ g < w.heap.size ∧ ∀ j x, l[j]? = some x → w.cell? ⟨g, 0 + j, none⟩ = some (.string x)) := by
  obtain ⟨h1, h2⟩ := id h
  rcases h2 with ⟨rfl, h0⟩ | ⟨g, cap, cur, rfl, hg, hh, hc, hm, hs, ht⟩
  · exact ⟨none, 0, by rw [h0], by omega, fun hp => by omega⟩
  · refine ⟨some ⟨g, 0, none⟩, cap, rfl, hc, fun _ => ⟨g, rfl, (Array.getElem?_eq_some_iff.1 hh).1, fun j x hj => ?_⟩⟩
    have hjl : j < l.length := (List.getElem?_eq_some_iff.1 hj).1
    rw [Nat.zero_add, World.ownsRow.cellAt h j (by omega), List.getElem?_map, hj]
    rfl
/-- a slice of values of the call's own, read at a place -/
theorem OwnT.at {w : World} {base : Nat} {A : Option Addr} {n c : Nat} {vs : List Trip} (h : OwnT w base (.slice A n c) vs) (i : Nat) (t : Trip) (ht : vs[i]? = some t) :
    ∃ g, A = some ⟨g, 0, none⟩ ∧ n = vs.length ∧ g < w.heap.size ∧ w.cell? ⟨g, i * 3, none⟩ = some (.int .u8 t.1) ∧ w.cell? ⟨g, i * 3 + 1, none⟩ = some (.int .i64 t.2.1) ∧ w.cell? ⟨g, i * 3 + 2, none⟩ = some (.string t.2.2) := by
  have hi : i < vs.length := (List.getElem?_eq_some_iff.1 ht).1
  obtain ⟨g, cap, he, _, hg⟩ := World.ownsRow.form h (by omega)
  simp only [Value.slice.injEq] at he
  obtain ⟨rfl, rfl, rfl⟩ := he
  have hc : ∀ (vs : List Trip) (i : Nat), vs[i]? = some t → (cellsT vs)[i * 3]? = some (.int .u8 t.1) ∧ (cellsT vs)[i * 3 + 1]? = some (.int .i64 t.2.1) ∧ (cellsT vs)[i * 3 + 2]? = some (.string t.2.2) := by
    intro vs
    induction vs with
    | nil => intro i h; simp at h
    | cons u r ih =>
      intro i h
      match i, h with
      | 0, h => obtain rfl := Option.some.inj h; exact ⟨rfl, rfl, rfl⟩
      | i + 1, h =>
        obtain ⟨h1, h2, h3⟩ := ih i h
        rw [show (i + 1) * 3 = i * 3 + 1 + 1 + 1 by omega]
        exact ⟨h1, h2, h3⟩
  obtain ⟨h1, h2, h3⟩ := hc vs i ht
  exact ⟨g, rfl, rfl, hg, by rw [World.ownsRow.cellAt h _ (by omega), h1], by rw [World.ownsRow.cellAt h _ (by omega), h2], by rw [World.ownsRow.cellAt h _ (by omega), h3]⟩
theorem ownsRow_form {w : World} {base : Nat} {e : TypeId} {size n : Nat} {v : Value} {xs : List Value} (h : w.ownsRow base e size v n xs) : ∃ A c, v = .slice A n c ∧ n ≤ c := by
  rcases h.2 with ⟨rfl, h0⟩ | ⟨g, cap, cur, rfl, _, _, hc, _⟩
  · exact ⟨none, 0, by rw [h0], by omega⟩
  · exact ⟨_, cap, rfl, hc⟩
theorem textB_size {t : Trip} (h : GoodT t) : (textB t).size ≤ 65536 := text_size h
def JnRel (w1 : World) (s1 : Nat) (M vs : List Trip) (v3 v10 : Value) (wr : World) : Prop :=
  ∃ i : Nat, i ≤ vs.length ∧ v10 = .int .i64 (i : Int) ∧ OwnS wr s1 v3 ((joinT M (vs.take i)).map textB) ∧ Below s1 w1 wr
theorem up_alloc {B : Nat} {w w' : World} {o : Obj} (hB : B ≤ w.heap.size) (h : Below (w.alloc o).heap.size (w.alloc o) w') : Below B w w' :=
  ((Below.refl B w).alloc hB o).trans (h.mono (by show B ≤ (w.heap.push o).size; rw [Array.size_push]; omega))
theorem ownS_base {w : World} {o : Obj} {w0 : World} {v : Value} {l : List ByteArray} (h : OwnS w (w0.alloc o).heap.size v l) : OwnS w (w0.heap.size + 1) v l := by
  have e : (w0.alloc o).heap.size = w0.heap.size + 1 := by show (w0.heap.push o).size = _; rw [Array.size_push]
  rw [← e]
  exact h
/-- a row of texts is hung on -/
theorem step_appS {w3 w5 : World} {s1 b5 : Nat} {v v5 : Value} {l l5 : List ByteArray} {ops : Array Oper} {o : Oper} {a : Act} {K : Act → World → Prop} {Q : Exit → Act → World → Prop} {E : Prop} (hgd : o.guard = none) (s x : Operand)
    (hop : o.op = .call { callee := .builtin .append, args := #[s, x], argTypes := #[41, 41] }) (hv : a.eval s = v) (hx : a.eval x = v5)
    (hb : Below s1 w3 w5) (ho : OwnS w5 s1 v l) (hs : s1 ≤ w5.heap.size) (h5 : OwnS w5 b5 v5 l5) (hlen : l.length + l5.length ≤ 100000) (hpos : 0 < l5.length)
    (h : ∀ v6 w6, Hid (OwnS w6 s1 v6 (l ++ l5)) → Hid (Below s1 w3 w6) → K (a.put o.dst v6) w6) :
    if Region.wanted o (yielded ops a.tmps) = true then Oper.wp Tryz.prog o a w5 K Q else E := by
  have hw : Region.wanted o (yielded ops a.tmps) = true := by simp [Region.wanted, hgd]
  rw [if_pos hw]
  obtain ⟨i0, hi, hz0, hz1, hz2⟩ := info_parts Tryz.info_str
  obtain ⟨g, cap, rfl, _, _⟩ := World.ownsRow.form h5 hpos
  refine wp_append_own _ s x 41 hop s1 9 i0 (.string ⟨#[]⟩) 1 16 Tryz.underlying41 hi hz0 hz1 hz2 rfl (by decide) v l.length (l.map .string) hv ho ⟨g, 0, none⟩ l5.length cap (l5.map .string) hx (by simp)
    (World.ownsRow.cells h5 rfl) (by intro u hu; obtain ⟨x, _, rfl⟩ := List.mem_map.1 hu; rfl) (by simp only [maxLen]; omega) (by omega) hs ?_
  intro v6 w6 h1 h2 _
  refine h v6 w6 (Lib.hid ?_) (Lib.hid (hb.grown h2 hs fun k hk => (World.ownsRow.lt ho k hk).1))
  unfold OwnS
  rw [List.length_append, List.map_append]
  exact h1
set_option maxRecDepth 100000 in
set_option maxHeartbeats 1000000 in
theorem joined_any (B bm : Nat) (M : List Trip) (w : World) (hJ : JMap w bm M) (hM : M.length ≤ 100000) (hg : ∀ t ∈ M, GoodT t) (hwd : WdB B w) :
    Calls Tryz.prog 147 #[.map (some bm)] w fun e w' => e = .returned (vvT (joinV (sortT M))) ∧ Below w.heap.size w w' := by
  obtain ⟨E, hmap, hkeys, hEl⟩ := hJ
  obtain ⟨w1, hw1⟩ : ∃ w1, w.alloc (.cells #[.int .u8 0, .int .i64 0, .string ⟨#[]⟩] 24) = w1 := ⟨_, rfl⟩
  have hal : Below w.heap.size w w1 := by rw [← hw1]; exact (Below.refl _ _).alloc (Nat.le_refl _) _
  have hres : BoxT w1 w.heap.size (0, 0, ⟨#[]⟩) := by rw [← hw1]; exact BoxT.new w (0, 0, ⟨#[]⟩)
  go_enter Tryz.func147, Tryz.ntmps147
  go_wp2_with fail
  refine (callsIn_wide.1 (keys_in Fence.wide 5 trivial rfl (some bm) w1)).mono ?_
  rintro e w2 ⟨rfl, hw2⟩
  have hb2 : Below w.heap.size w w2 := by rw [hw2]; exact hal.alloc hal.size _
  have hk2 : w2.cell? ⟨w1.heap.size, 0, none⟩ = some (.map (some bm)) := by
    rw [hw2]
    exact Boxed.cell (show Boxed (w1.alloc _) w1.heap.size _ _ from World.alloc_heap_new w1 _)
  have hl2 : w1.heap.size < w2.heap.size := by rw [hw2]; show w1.heap.size < (w1.heap.push _).size; rw [Array.size_push]; exact Nat.lt_succ_self _
  have hres2 : BoxT w2 w.heap.size (0, 0, ⟨#[]⟩) := by rw [hw2]; exact hres.on ((Below.refl _ _).alloc (Nat.le_refl _) _)
  clear hw2
  have hEg : ∀ t ∈ E.map Prod.fst, GoodT t := fun t ht => hg t ((hkeys t).1 ht)
  go_wp2_with fail
  refine (SortedFunc_any bm w1.heap.size E _ w2 (by omega) (fun t ht => (hEg t ht).1) hl2 hk2 (hmap.on hb2)).mono ?_
  rintro e w3 ⟨v8, l, rfl, hperm, hown, hb3⟩
  obtain ⟨vs, hvs⟩ : ∃ vs, (sortR l).map Subtype.val = vs := ⟨_, rfl⟩
  have hord : OrdT vs := by rw [← hvs]; exact sortR_ord l
  have hvp : vs.Perm (E.map Prod.fst) := by rw [← hvs]; exact ((sortR_perm l).map _).trans hperm
  rw [hvs] at hown
  have hnd : vs.Nodup := hvp.nodup_iff.2 hmap.choose_spec.2.keys
  have hvm : ∀ t, t ∈ vs ↔ t ∈ M := fun t => (hvp.mem_iff).trans (hkeys t)
  have hvg : ∀ t ∈ vs, GoodT t := fun t ht => hg t ((hvm t).1 ht)
  have hjp : (joinT M vs).Perm M := joinT_all M vs hnd fun t ht => (hvm t).2 ht
  have hst : sortT M = joinT M vs := sortT_is hg hjp (ord_join M vs hord hvg)
  have hvl : vs.length ≤ 100000 := by
    rw [hvp.length_eq, List.length_map]
    omega
  have hb3' : Below w.heap.size w w3 := hb2.trans (hb3.mono hb2.size)
  obtain ⟨A8, c8, rfl, hc8⟩ := ownsRow_form hown
  have HMAP := Lib.hid (hmap.on hb3')
  have HOWN := Lib.hid hown
  have HRES := Lib.hid (hres2.on hb3)
  have HWD := Lib.hid (hwd.on hb3')
  have HB3 := Lib.hid hb3'
  have HND := Lib.hid hnd
  have HVG := Lib.hid hvg
  have HST := Lib.hid hst
  have HJP := Lib.hid hjp
  have HBM := Lib.hid hmap.lt
  have HVM := Lib.hid hvm
  have HKEYS := Lib.hid hkeys
  clear hmap hown hb3 hb3' hord hvp hperm hvs hkeys hres hres2 hk2 hnd hvm hvg hjp hst hw1 hb2 hal hEg
  generalize hs1 : w3.heap.size = s1 at *
  go_wp2_with fail
  go_loopw [3, 10] (fun v3 v10 wr => JnRel w3 s1 M vs v3 v10 wr) (fun _ v10 _ => vs.length - (intOf v10).toNat)
  case atStart => exact ⟨0, Nat.zero_le _, rfl, World.ownsRow_nil _ _ _ _, Below.refl _ _⟩
  case round =>
    obtain ⟨i, hi, rfl, ho, hb⟩ := hrel
    by_cases hlt : i < vs.length
    · obtain ⟨⟨k, z, st⟩, ht⟩ : ∃ t, vs[i]? = some t := ⟨_, List.getElem?_eq_getElem hlt⟩
      obtain ⟨g8, rfl, _, hg8, x0, x1, x2⟩ := HOWN.out.at i (k, z, st) ht
      have y0 := (hb.cell (p := ⟨g8, i * 3, none⟩) (by rw [← hs1]; exact hg8)).trans x0
      have y1 := (hb.cell (p := ⟨g8, i * 3 + 1, none⟩) (by rw [← hs1]; exact hg8)).trans x1
      have y2 := (hb.cell (p := ⟨g8, i * 3 + 2, none⟩) (by rw [← hs1]; exact hg8)).trans x2
      dsimp only at y0 y1 y2
      clear x0 x1 x2
      have q1 : (i : Int) < (vs.length : Int) := by omega
      have q2 : (0 : Int) ≤ (i : Int) := by omega
      have HT := Lib.hid ht
      have HB := Lib.hid hb
      have HO := Lib.hid ho
      obtain ⟨X, hX⟩ : ∃ X, wr.alloc (.cells #[.int .u8 k, .int .i64 z, .string st] 24) = X := ⟨_, rfl⟩
      have hGT : GoodT (k, z, st) := HVG.out _ (List.mem_of_getElem? ht)
      have hmem : (k, z, st) ∈ M := (HVM.out _).1 (List.mem_of_getElem? ht)
      obtain ⟨c, hc⟩ : ∃ c : Nat, countT (k, z, st) M = c := ⟨_, rfl⟩
      have hc1 : 1 ≤ c := by have := countT_pos.2 hmem; omega
      have hc2 : c ≤ 100000 := by have := countT_le (k, z, st) M; omega
      have hX1 : Below wr.heap.size wr X := by rw [← hX]; exact (Below.refl _ _).alloc (Nat.le_refl _) _
      have hXB : BoxT X wr.heap.size (k, z, st) := by rw [← hX]; exact BoxT.new wr (k, z, st)
      have hsw : s1 ≤ wr.heap.size := by rw [← hs1]; exact hb.size
      have HBX := Lib.hid (hb.trans (hX1.mono hsw))
      have HOX := Lib.hid (ho.on hX1)
      have HSX := Lib.hid (Nat.le_trans hsw hX1.size)
      have FA := Lib.hid (show ∀ Y : World, Below X.heap.size X Y → (Y.cell? ⟨wr.heap.size, 0, none⟩ = some (.int .u8 k) ∧ Y.cell? ⟨wr.heap.size, 1, none⟩ = some (.int .i64 z) ∧ Y.cell? ⟨wr.heap.size, 2, none⟩ = some (.string st)) ∧ (Instr.lookup 157 (.map (some bm)) (vv k z st) false).run Tryz.prog Y = .ok (.int .i64 (c : Int)) Y from fun Y hY => ⟨(hXB.on hY).cells, by
        have hm := HMAP.out.on ((HBX.out.trans (hY.mono HSX.out)).mono (by rw [hs1]; exact Nat.le_refl _))
        have h := run_lookupT 157 3 (.int .i64 0) Tryz.underlying157 zero_int Y bm E _ hm (k, z, st) false (fun h => (h ((HKEYS.out _).2 hmem)).elim)
        rw [if_neg (by decide)] at h
        simp only [hc] at h
        exact h⟩)
      have HWX := Lib.hid (HWD.out.on (HBX.out.mono (by rw [hs1]; exact Nat.le_refl _)))
      have HGI := Lib.hid hGT.2
      have HC1 := Lib.hid hc1
      have HC2 := Lib.hid hc2
      have HC := Lib.hid hc
      have HI := Lib.hid (show i + 1 ≤ vs.length from hlt)
      have HLEN := Lib.hid (joinT_take_len M vs HND.out (i + 1))
      have HSN := Lib.hid (joinT_snoc M vs i _ ht)
      obtain ⟨⟨c0, c1, c2⟩, hlk⟩ := FA.out X (Below.refl _ _)
      obtain ⟨⟨d0, d1, d2⟩, hlkd⟩ := FA.out X.drew (drewR (Below.refl _ _))
      dsimp only [vv] at hlk hlkd
      clear ht hb ho hGT hmem hX1 hXB hsw hc hc1 hc2 hlt
      go_wp2_with fail
      clear hX y0 y1 y2
      go_region_law (first
        | (go_simp; go_at_call 42; refine (Text_any k z st _ HGI.out (HWX.out.on (drewR (Below.refl _ _))).wd).mono ?_; rintro e w4 ⟨rfl, hb4⟩; have HB4 := Lib.hid (show Below X.heap.size X w4 from ⟨hb4.os, hb4.tape, hb4.output, hb4.size, hb4.block⟩); clear hb4; obtain ⟨⟨e0, e1, e2⟩, hlk4⟩ := FA.out w4 HB4.out; obtain ⟨⟨f0, f1, f2⟩, hlk5⟩ := FA.out (w4.alloc (.cells #[.string (textV k z st)] 9)) (HB4.out.alloc HB4.out.size _); dsimp only [vv] at hlk4 hlk5; have BT := Lib.hid (show Boxed (w4.alloc (.cells #[.string (textV k z st)] 9)) w4.heap.size 9 (.string (textV k z st)) from World.alloc_heap_new w4 _))
        | (go_simp; go_at_call 165; refine (Repeat_one w4.heap.size (textV k z st) c _ BT.out HC1.out HC2.out).mono ?_; rintro e w5 ⟨v5, rfl, ho5, hb5⟩; have HO5 := Lib.hid (ownS_base ho5); have HB5 := Lib.hid (show Below X.heap.size w4 w5 from up_alloc HB4.out.size hb5); clear ho5 hb5)
        | (refine step_appS (b5 := w4.heap.size + 1) rfl (.tmp 14) (.tmp 21) rfl rfl rfl (HBX.out.trans ((HB4.out.trans HB5.out).mono HSX.out)) (HOX.out.on (HB4.out.trans HB5.out)) (Nat.le_trans HSX.out (HB4.out.trans HB5.out).size) HO5.out (by have h1 := HLEN.out; rw [HSN.out, List.length_append, List.length_replicate, HC.out] at h1; rw [List.length_map, List.length_replicate]; omega) (by rw [List.length_replicate]; exact HC1.out) ?_; intro v6 w6 HO6 HB6))
      all_goals
        have HO7 := Lib.hid (show OwnS w6 s1 v6 ((joinT M (vs.take (i + 1))).map textB) by
          rw [HSN.out, List.map_append, List.map_replicate, HC.out]
          exact HO6.out)
        clear HO6
        go_wp2_with fail
        refine ⟨⟨i + 1, HI.out, by go_num, HO7.out, HB6.out⟩, by have := HI.out; simp [intOf]; omega⟩
    · obtain rfl : i = vs.length := by omega
      rw [List.take_length] at ho
      have q1 : ¬ ((vs.length : Int) < (vs.length : Int)) := by omega
      obtain ⟨A3, c3, rfl, hc3, hread⟩ := OwnS.form ho
      have hl3 : ((joinT M vs).map textB).length = M.length := by rw [List.length_map, HJP.out.length_eq]
      rw [hl3] at hc3 hread
      rw [hl3]
      have HB := Lib.hid ((HB3.out.trans (hb.mono (by rw [← hs1]; exact HB3.out.size))))
      have HBS := Lib.hid hb
      have HRS := Lib.hid (HRES.out.on (hb.mono (by rw [hs1]; exact Nat.le_refl _)))
      clear ho hb
      by_cases hM0 : M = []
      · subst hM0
        clear hread
        obtain ⟨x0, x1, x2⟩ := HRS.out.cells
        obtain ⟨f0, f1, f2⟩ := HRS.out.frz
        dsimp only at x0 x1 x2
        have HR2 := Lib.hid (HRS.out.set3 0 0 ⟨#[]⟩)
        go_wp2_with fail
        obtain ⟨r0, r1, r2⟩ := HR2.out.cells
        dsimp only at r0 r1 r2
        have hj0 : joinT [] vs = [] := List.eq_nil_of_length_eq_zero (by rw [HJP.out.length_eq]; rfl)
        rw [HST.out, hj0]
        refine bodyPost_ret (v := vv 0 0 ⟨#[]⟩) (by simp [results, Tryz.results147, go_sem, x0, x1, x2]) rfl ⟨rfl, ?_⟩
        exact ((HB.out.setCell (p := ⟨w.heap.size, 0, none⟩) (Nat.le_refl _) _).setCell (p := ⟨w.heap.size, 1, none⟩) (Nat.le_refl _) _).setCell (p := ⟨w.heap.size, 2, none⟩) (Nat.le_refl _) _
      · have hpos : 0 < M.length := List.length_pos_iff.2 hM0
        obtain ⟨g3, rfl, hg3, hcells⟩ := hread hpos
        have hq : decide ((M.length : Int) = 0) = false := decide_eq_false (by omega)
        have HJ := Tryz.strings_Join g3 0 c3 ((joinT M vs).map textB) ⟨#[44]⟩ wr hcells hg3 (by rw [hl3]; omega) (by rw [hl3]; exact hc3) (by
          have h := join_len (((joinT M vs).map textB).map (·.data.toList)) [44] 65536 (by
            intro x hx
            obtain ⟨y, hy, rfl⟩ := List.mem_map.1 hx
            obtain ⟨t, ht, rfl⟩ := List.mem_map.1 hy
            have := textB_size (hg t (HJP.out.mem_iff.1 ht))
            simpa using this)
          rw [List.length_map, hl3] at h
          refine Nat.le_trans h ?_
          simp only [List.length_cons, List.length_nil]
          omega)
        rw [hl3] at HJ
        clear hcells
        go_wp2_with fail
        refine HJ.mono ?_
        rintro e wj ⟨rfl, hbj⟩
        have HRJ := HRS.out.on (hbj.mono (Nat.le_refl _))
        obtain ⟨x0, x1, x2⟩ := HRJ.cells
        obtain ⟨f0, f1, f2⟩ := HRJ.frz
        dsimp only at x0 x1 x2
        obtain ⟨tj, htj⟩ : ∃ tj : ByteArray, (⟨(Lib.join (((joinT M vs).map textB).map (·.data.toList)) (⟨#[44]⟩ : ByteArray).data.toList).toArray⟩ : ByteArray) = tj := ⟨_, rfl⟩
        rw [htj]
        have HR2 := Lib.hid (HRJ.set3 2 0 tj)
        have HBJ := Lib.hid (HB.out.trans (hbj.mono HB.out.size))
        clear hbj HRJ
        go_wp2_with fail
        have hne : joinT M vs ≠ [] := fun h => hM0 (List.eq_nil_of_length_eq_zero (by rw [← HJP.out.length_eq, h]; rfl))
        have hV : joinV (joinT M vs) = (2, 0, tj) := by
          unfold joinV
          rw [if_neg hne, ← htj, List.map_map]
          rfl
        rw [HST.out, hV]
        refine bodyPost_ret (v := vv 2 0 tj) (by simp [results, Tryz.results147, go_sem, x0, x1, x2]) rfl ⟨rfl, ?_⟩
        exact ((HBJ.out.setCell (p := ⟨w.heap.size, 0, none⟩) (Nat.le_refl _) _).setCell (p := ⟨w.heap.size, 1, none⟩) (Nat.le_refl _) _).setCell (p := ⟨w.heap.size, 2, none⟩) (Nat.le_refl _) _
end Go.Proofs.YtceknmibopnmhaaGreatDoor
