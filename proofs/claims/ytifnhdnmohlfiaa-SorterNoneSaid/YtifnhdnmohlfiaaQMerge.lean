/-
  Layer 7, sorter: two lists of entries that are in order are made one; a list of entries is put in order. Conditions: no more than 2^20 entries.
-/
import Derived.Test.YtifnhdnmohlfiaaQWord
import Derived.Test.YtifnhdnmohlfiaaQMath
import Derived.Deep.RegionHeld3
namespace Go.Proofs.Ytifnhdnmohlfiaa
open Go.ChangeShapes Go.WideShapes Go.ChangeAt Go.RowKit
set_option linter.unusedVariables false

theorem Try.info_E : (Try.prog.info? 78).map (fun i => (i.zero, i.size, i.bytes)) = some (some (.agg #[.slice none 0 0, .slice none 0 0]), 2, 48) := by kernel_rfl
/-- whose key comes first -/
def ltE (x y : En) : Bool := decide (Lib.compareBytes x.kb y.kb < 0)

set_option maxRecDepth 100000 in
/-- append of entries onto a slice of the call's own -/
theorem wpList_appE {w : World} {ops : Array Oper} {rest : List Oper} {o : Oper} {a : Act} {Q : Exit → Act → World → Prop} (hgd : o.guard = none) (s x : Operand)
    (ho : o.op = .call { callee := .builtin .append, args := #[s, x], argTypes := #[56, 56] })
    (base : Nat) (v : Value) (l : List En) (hs : a.eval s = v) (hown : OwnE w base v l) (A : Option Addr) (c : Nat) (m : List En) (n : Nat) (hn : n = m.length) (hx : a.eval x = .slice A n c) (hr : RdE w w.heap.size A m)
    (hlen : l.length + m.length ≤ 1099511627776) (hbase : base ≤ w.heap.size)
    (h : ∀ v' w', OwnE w' base v' (l ++ m) → Below base w w' → wpList Try.prog ops Q rest (a.put o.dst v') w') : wpList Try.prog ops Q (o :: rest) a w := by
  subst hn
  obtain ⟨i0, hi, hz0, hz1, hz2⟩ := info_parts Try.info_E
  have fin : ∀ v' w', w'.ownsRow base 78 2 v' (l.length + m.length) (cellsE l ++ cellsE m) → w.grownBy w' v.ownBlock → wpList Try.prog ops Q rest (a.put o.dst v') w' := fun v' w' h1 h2 => by
    refine h v' w' ?_ ((Below.refl _ _).grown h2 hbase fun k hk => (World.ownsRow.lt hown k hk).1)
    unfold OwnE
    rw [List.length_append, cellsE_append]
    exact h1
  rcases A with _ | ad
  · have h0 : m = [] := by
      cases m with
      | nil => rfl
      | cons u r =>
        obtain ⟨ad, e, _⟩ := hr (by simp)
        cases e
    subst h0
    have hs2 : w.ownsRow base 78 2 v l.length (cellsE l) := hown
    have hrun : (Builtin.append_ #[56, 56] o.type #[v, .slice none 0 c]).run Try.prog w = .ok v w := by
      rcases hs2.2 with ⟨rfl, _⟩ | ⟨g, cap, cur, rfl, _, _, hnc, _⟩ <;>
        simp [Builtin.append_, run_underlying Try.underlying56, sizeOf, typeInfo, hi, Builtin.lenOf, Builtin.firstCells]
      simp [hnc, storeCells]
    refine wpList_plain hgd fun K hK => ?_
    unfold Oper.wp
    simp only [execOp, ho, resolve, invoke, builtin, Sem.run_bind, Sem.run_pure, Result.andThen_ok, List.map_toArray, List.map_cons, List.map_nil, hs, hx]
    have hx0 : (Value.slice none ([] : List En).length c) = .slice none 0 c := rfl
    rw [hx0, hrun]
    exact hK _ _ (fin v w (by simpa [cellsE] using hs2) (World.grownBy.refl w _))
  · refine wpList_append_own w hgd s x 56 ho base 78 i0 _ 2 48 Try.underlying56 hi hz0 hz1 hz2 rfl (by decide) v l.length (cellsE l) hs hown ad m.length c (cellsE m) hx (cellsE_length m) hr.cells (cellsE_one m) (by simp only [maxLen]; omega) (by omega) hbase ?_
    · intro v' w' h1 h2 _
      exact fin v' w' h1 h2
set_option maxRecDepth 100000 in
/-- append of one entry, laid just ahead, at a step of a region that draws its order -/
theorem step_appE {W : World} {ops : Array Oper} {o : Oper} {a : Act} {K : Act → World → Prop} {Q : Exit → Act → World → Prop} {E : Prop} (hgd : o.guard = none) (s x : Operand)
    (ho : o.op = .call { callee := .builtin .append, args := #[s, x], argTypes := #[56, 56] })
    (base : Nat) (v : Value) (l : List En) (hs : a.eval s = v) (hown : OwnE W base v l) (z1 z2 : Value) (e : En) (e1 : z1 = e.kv) (e2 : z2 = e.rv) (hx : a.eval x = .slice (some ⟨W.heap.size, 0, none⟩) 1 1)
    (hlen : l.length + 1 ≤ 1099511627776) (hbase : base ≤ W.heap.size)
    (h : ∀ v' w', OwnE w' base v' (l ++ [e]) → Below base W w' → K (a.put o.dst v') w') :
    if Region.wanted o (yielded ops a.tmps) = true then Oper.wp Try.prog o a (W.alloc (.cells #[z1, z2] 78)).drew K Q else E := by
  subst e1 e2
  have hw : Region.wanted o (yielded ops a.tmps) = true := by simp [Region.wanted, hgd]
  rw [if_pos hw]
  obtain ⟨i0, hi, hz0, hz1, hz2⟩ := info_parts Try.info_E
  have hown' : OwnE (W.alloc (.cells #[e.kv, e.rv] 78)).drew base v l := World.ownsRow.alloc hown _
  refine wp_append_own (W.alloc (.cells #[e.kv, e.rv] 78)).drew s x 56 ho base 78 i0 _ 2 48 Try.underlying56 hi hz0 hz1 hz2 rfl (by decide) v l.length (cellsE l) hs hown' ⟨W.heap.size, 0, none⟩ 1 1 (cellsE [e]) hx rfl ?_ (cellsE_one _) (by simp only [maxLen]; omega) (by omega) (by simp; omega) ?_
  · intro j u hu
    have hb : (W.alloc (.cells #[e.kv, e.rv] 78)).drew.heap[W.heap.size]? = some (.cells #[e.kv, e.rv] 78 (0, 0)) := by
      show (W.alloc _).heap[W.heap.size]? = _
      rw [heap_alloc_new]
    exact World.news_of_block hb j u hu
  · intro v' w' h1 h2 _
    refine h v' w' ?_ (((Below.refl _ _).alloc hbase _).trans ((Below.refl _ _).drew.grown h2 (by simp; omega) fun k hk => (World.ownsRow.lt hown' k hk).1))
    unfold OwnE
    rw [List.length_append, cellsE_append]
    exact h1

theorem OwnE.below {w w' : World} {base : Nat} {v : Value} {l : List En} (h : OwnE w base v l) (hb : Below w.heap.size w w') : OwnE w' base v l := by
  obtain ⟨h1, h2⟩ := h
  refine ⟨h1, ?_⟩
  rcases h2 with h2 | ⟨g, cap, cur, hv, hg, hh, r⟩
  · exact .inl h2
  · have hlt : g < w.heap.size := by
      rcases Nat.lt_or_ge g w.heap.size with hlt | hge
      · exact hlt
      · rw [Array.getElem?_eq_none hge] at hh; cases hh
    exact .inr ⟨g, cap, cur, hv, hg, (hb.block g hlt).trans hh, r⟩
def lenV : Value → Nat
  | .slice _ n _ => n
  | _ => 0
/-- at the head of the loop -/
def MrgRel (w0 : World) (a b : List En) (v0 v1 v7 : Value) (wr : World) : Prop :=
  ∃ (A : Option Addr) (ca : Nat) (x : List En) (B : Option Addr) (cb : Nat) (y lo : List En), v0 = .slice A x.length ca ∧ v1 = .slice B y.length cb ∧ x.length ≤ ca ∧ y.length ≤ cb ∧ RdE w0 w0.heap.size A x ∧ RdE w0 w0.heap.size B y ∧
    (∀ e ∈ x, EnOk w0 w0.heap.size e) ∧ (∀ e ∈ y, EnOk w0 w0.heap.size e) ∧ OwnE wr w0.heap.size v7 lo ∧ Below w0.heap.size w0 wr ∧ lo ++ mrg ltE x y = mrg ltE a b
theorem RdE.post2 {w : World} {B : Nat} {ad : Addr} {l : List En} (h : RdE w B (some ad) l) (k cap : Nat) (hc : l.length ≤ cap) : RdE w B (if cap = k then some ad else some (ad.add (k * 2))) (l.drop k) := by
  by_cases e : cap = k
  · intro hp
    rw [List.length_drop] at hp
    omega
  · rw [if_neg e]
    exact h.post k
set_option maxRecDepth 100000 in
set_option maxHeartbeats 1000000 in
theorem merged_any (A : Option Addr) (ca : Nat) (a : List En) (B : Option Addr) (cb : Nat) (b : List En) (w : World) (hA : RdE w w.heap.size A a) (hB : RdE w w.heap.size B b) (hca : a.length ≤ ca) (hcb : b.length ≤ cb) (hcm : ca ≤ 9223372036854775807) (hcm' : cb ≤ 9223372036854775807)
    (ha : ∀ e ∈ a, EnOk w w.heap.size e) (hb : ∀ e ∈ b, EnOk w w.heap.size e) (hl : a.length + b.length ≤ 1048576) :
    Calls Try.prog 74 #[.slice A a.length ca, .slice B b.length cb, .func (.func 45) #[] #[]] w fun e w' => ∃ v, e = .returned v ∧ OwnE w' w.heap.size v (mrg ltE a b) ∧ Below w.heap.size w w' := by
  obtain ⟨i0, hi, hz0, hz1, hz2⟩ := info_parts Try.info_E
  have hmk : (Instr.makeSlice 56 (.int .i64 0) (.int .i64 ((a.length : Int) + b.length))).run Try.prog w = .ok (.slice (some ⟨w.heap.size, 0, none⟩) 0 (a.length + b.length)) (w.alloc (.cells (madeCells #[.slice none 0 0, .slice none 0 0] ((a.length + b.length) * 2)) 78)) := by
    have h := run_make (P := Try.prog) w 56 78 i0 (.agg #[.slice none 0 0, .slice none 0 0]) Try.underlying56 hi hz0 .i64 .i64 0 ((a.length : Int) + b.length) (by omega) (by omega) (by rw [hz2]; omega) (by omega)
    rw [h, hz1]
    have e2 : ((a.length : Int) + b.length).toNat = a.length + b.length := by omega
    rw [e2]
    rfl
  have hown : OwnE (w.alloc (.cells (madeCells #[.slice none 0 0, .slice none 0 0] ((a.length + b.length) * 2)) 78)) w.heap.size (.slice (some ⟨w.heap.size, 0, none⟩) 0 (a.length + b.length)) [] := by
    refine ⟨rfl, .inr ⟨w.heap.size, a.length + b.length, (madeCells #[.slice none 0 0, .slice none 0 0] ((a.length + b.length) * 2)), rfl, Nat.le_refl _, ?_, Nat.zero_le _, by simp only [maxLen]; omega, ?_, ?_⟩⟩
    · rw [heap_alloc_new]
    · rw [size_madeCells]
    · simp [cellsE]
  have HO := Lib.hid hown
  clear hown hi hz0 hz1 hz2
  go_enter Try.func74, Try.ntmps74
  go_wp2_with fail
  go_loopw [0, 1, 7] (fun v0 v1 v7 wr => MrgRel w a b v0 v1 v7 wr) (fun v0 v1 _ _ => lenV v0 + lenV v1)
  case atStart => exact ⟨A, ca, a, B, cb, b, [], rfl, rfl, hca, hcb, hA, hB, ha, hb, HO.out, (Below.refl _ _).alloc (Nat.le_refl _) _, rfl⟩
  case round =>
    obtain ⟨A, ca, x, B, cb, y, lo, rfl, rfl, hca, hcb, hA, hB, ha, hb, ho, hbw, he⟩ := hrel
    by_cases hx0 : x = []
    · have hm : mrg ltE x y = x ++ y := by rw [hx0, mrg_nil_left, List.nil_append]
      rw [hm, ← List.append_assoc] at he
      have HM := Lib.hid he
      clear hm
      have hll : lo.length + x.length + y.length = a.length + b.length := by have := congrArg List.length HM.out; rw [mrg_length, List.length_append, List.length_append] at this; exact this
      have HA := Lib.hid (hA.on hbw)
      have HB := Lib.hid hB
      have HW := Lib.hid hbw
      have hsz := hbw.size
      have HO := Lib.hid ho
      clear hA hB he ha hb hbw ho hmk
      have hx1 : x.length = 0 := by rw [hx0]; rfl
      clear hx0
      have hx2 : decide (0 < x.length) = false := decide_eq_false (by omega)
      clear hx1
      go_wp2_with (at_builtin; first
        | (refine wpList_appE rfl (.tmp 46) (.tmp 47) rfl w.heap.size u7 lo rfl HO.out A ca x _ rfl rfl HA.out (by omega) hsz ?_; intro v1 w1 ho1 hb1; have HO1 := Lib.hid ho1; have HW1 := Lib.hid (HW.out.trans hb1); have hsz1 := Nat.le_trans hsz hb1.size; clear ho1 hb1)
        | (refine wpList_appE rfl (.tmp 48) (.tmp 49) rfl w.heap.size _ (lo ++ x) rfl HO1.out B cb y _ rfl rfl ((HB.out.below HW1.out).more hsz1) (by rw [List.length_append]; omega) hsz1 ?_; intro v2 w2 ho2 hb2; have HO2 := Lib.hid ho2; have HW2 := Lib.hid (HW1.out.trans hb2); clear ho2 hb2))
      go_ret
      exact ⟨_, rfl, by have := HO2.out; rw [HM.out] at this; exact this, HW2.out⟩
    by_cases hy0 : y = []
    · have hm : mrg ltE x y = x ++ y := by rw [hy0, mrg_nil_right, List.append_nil]
      rw [hm, ← List.append_assoc] at he
      have HM := Lib.hid he
      clear hm
      have hll : lo.length + x.length + y.length = a.length + b.length := by have := congrArg List.length HM.out; rw [mrg_length, List.length_append, List.length_append] at this; exact this
      have HA := Lib.hid (hA.on hbw)
      have HB := Lib.hid hB
      have HW := Lib.hid hbw
      have hsz := hbw.size
      have HO := Lib.hid ho
      clear hA hB he ha hb hbw ho hmk
      have hx1 : 0 < x.length := List.length_pos_iff.2 hx0
      have hy1 : y.length = 0 := by rw [hy0]; rfl
      clear hx0 hy0
      have hx2 : decide (0 < x.length) = true := decide_eq_true (by omega)
      have hy2 : decide (0 < y.length) = false := decide_eq_false (by omega)
      clear hx1 hy1
      go_wp2_with (at_builtin; first
        | (refine wpList_appE rfl (.tmp 46) (.tmp 47) rfl w.heap.size u7 lo rfl HO.out A ca x _ rfl rfl HA.out (by omega) hsz ?_; intro v1 w1 ho1 hb1; have HO1 := Lib.hid ho1; have HW1 := Lib.hid (HW.out.trans hb1); have hsz1 := Nat.le_trans hsz hb1.size; clear ho1 hb1)
        | (refine wpList_appE rfl (.tmp 48) (.tmp 49) rfl w.heap.size _ (lo ++ x) rfl HO1.out B cb y _ rfl rfl ((HB.out.below HW1.out).more hsz1) (by rw [List.length_append]; omega) hsz1 ?_; intro v2 w2 ho2 hb2; have HO2 := Lib.hid ho2; have HW2 := Lib.hid (HW1.out.trans hb2); clear ho2 hb2))
      go_ret
      exact ⟨_, rfl, by have := HO2.out; rw [HM.out] at this; exact this, HW2.out⟩
    obtain ⟨e, x, rfl⟩ := List.exists_cons_of_ne_nil hx0
    obtain ⟨f, y, rfl⟩ := List.exists_cons_of_ne_nil hy0
    obtain ⟨ad, rfl, hal, hcA⟩ := hA (by simp)
    obtain ⟨bd, rfl, hbl, hcB⟩ := hB (by simp)
    obtain ⟨a0, a1⟩ := hcA 0 e rfl
    obtain ⟨b0, b1⟩ := hcB 0 f rfl
    have z0 : ∀ q : Addr, q.add (0 * 2) = q := fun q => by simp [Addr.add]
    rw [z0] at a0 a1 b0 b1
    have c0 := (hbw.cell hal).trans a0
    have c1 := (hbw.cell (p := ⟨ad.block, ad.off + 1, none⟩) hal).trans a1
    have d0 := (hbw.cell hbl).trans b0
    have d1 := (hbw.cell (p := ⟨bd.block, bd.off + 1, none⟩) hbl).trans b1
    have OE := Lib.hid (show EnOk wr.drew wr.drew.heap.size e from ((ha e List.mem_cons_self).below hbw).more hbw.size)
    have OF := Lib.hid (show EnOk wr.drew wr.drew.heap.size f from ((hb f List.mem_cons_self).below hbw).more hbw.size)
    have HAX := Lib.hid (hA.post2 1 ca hca)
    have HBX := Lib.hid (hB.post2 1 cb hcb)
    have HEA := Lib.hid (fun x hx => ha x (List.mem_cons_of_mem _ hx))
    have HEB := Lib.hid (fun x hx => hb x (List.mem_cons_of_mem _ hx))
    have HHA := Lib.hid ha
    have HHB := Lib.hid hb
    have HA := Lib.hid hA
    have HB := Lib.hid hB
    have HE := Lib.hid he
    have hal2 : ad.block < wr.heap.size := Nat.lt_of_lt_of_le hal hbw.size
    have hbl2 : bd.block < wr.heap.size := Nat.lt_of_lt_of_le hbl hbw.size
    have HC := Lib.hid (And.intro c0 (And.intro c1 (And.intro d0 d1)))
    have hx2 : decide (0 < (e :: x).length) = true := rfl
    have hy2 : decide (0 < (f :: y).length) = true := rfl
    clear hx0 hy0 hcA hcB a0 a1 b0 b1 z0 hA hB he ha hb hmk
    go_wp2_with fail
    go_region_held3 (fun X => X.cell? ad = some e.kv ∧ X.cell? ⟨ad.block, ad.off + 1, none⟩ = some e.rv ∧ X.cell? bd = some f.kv ∧ X.cell? ⟨bd.block, bd.off + 1, none⟩ = some f.rv) (first | exact HC.out | exact HC2.out)
      (first
        | (go_at_call 45; refine (cmp_any f e wr.drew OF.out OE.out).mono ?_; rintro e1 w1 ⟨rfl, hb1⟩; have HB1 := Lib.hid (show Below wr.heap.size wr w1 from ⟨hb1.os, hb1.tape, hb1.output, hb1.size, hb1.block⟩); have HC2 := Lib.hid (And.intro ((HB1.out.cell hal2).trans HC.out.1) (And.intro ((HB1.out.cell (p := ⟨ad.block, ad.off + 1, none⟩) hal2).trans HC.out.2.1) (And.intro ((HB1.out.cell hbl2).trans HC.out.2.2.1) ((HB1.out.cell (p := ⟨bd.block, bd.off + 1, none⟩) hbl2).trans HC.out.2.2.2)))); clear hb1))
    have HO1 := Lib.hid ((ho.below HB1.out))
    have HBW1 := Lib.hid (hbw.trans (HB1.out.mono hbw.size))
    have HS1 := Lib.hid (Nat.le_trans hbw.size HB1.out.size)
    have HLL := Lib.hid (show lo.length + 1 ≤ 1099511627776 by have := congrArg List.length HE.out; rw [mrg_cons] at this; rw [List.length_append, mrg_length] at this; split at this <;> (simp [mrg_length] at this; omega))
    obtain ⟨β, hβ⟩ : ∃ β, ltE f e = β := ⟨_, rfl⟩
    rw [show decide (Lib.compareBytes f.kb e.kb < 0) = β from hβ]
    have hl1 : (1 : Int) ≤ (x.length : Int) + 1 := by omega
    have hl2 : (1 : Int) ≤ (y.length : Int) + 1 := by omega
    clear hbw ho
    cases β with
    | false =>
      by_cases hc1 : ca = 1
      · have HE2 := Lib.hid (show (lo ++ [e]) ++ mrg ltE x (f :: y) = mrg ltE a b from by rw [← HE.out, mrg_cons, if_neg (by rw [hβ]; decide), List.append_assoc]; rfl)
        clear hβ
        go_wp2_with fail
        go_region_law (refine step_appE rfl _ _ rfl w.heap.size _ lo rfl HO1.out _ _ e rfl rfl rfl (by have := HLL.out; omega) HS1.out ?_; intro v1 wx ho1 hb1)
        all_goals go_wp2_with fail
        all_goals go_roundw
        case rel => exact ⟨_, _, _, _, _, _, _, _, _, _, _, _, _, _, _, _, _, _, _, _, _, _, _, _, _, _, _, _, _, _, _, _, _, _, _, ⟨(if ca = 1 then some ad else some (ad.add (1 * 2))), ca - 1, x, some bd, cb, f :: y, lo ++ [e], by rw [hc1]; rfl, rfl, by simp at hca; omega, hcb, HAX.out, HB.out, HEA.out, HHB.out, ho1, HBW1.out.trans hb1, HE2.out⟩, rfl⟩
        case measure =>
          show x.length + (f :: y).length < (e :: x).length + (f :: y).length
          simp
      · have HE2 := Lib.hid (show (lo ++ [e]) ++ mrg ltE x (f :: y) = mrg ltE a b from by rw [← HE.out, mrg_cons, if_neg (by rw [hβ]; decide), List.append_assoc]; rfl)
        clear hβ
        go_wp2_with fail
        go_region_law (refine step_appE rfl _ _ rfl w.heap.size _ lo rfl HO1.out _ _ e rfl rfl rfl (by have := HLL.out; omega) HS1.out ?_; intro v1 wx ho1 hb1)
        all_goals go_wp2_with fail
        all_goals go_roundw
        case rel => exact ⟨_, _, _, _, _, _, _, _, _, _, _, _, _, _, _, _, _, _, _, _, _, _, _, _, _, _, _, _, _, _, _, _, _, _, _, ⟨(if ca = 1 then some ad else some (ad.add (1 * 2))), ca - 1, x, some bd, cb, f :: y, lo ++ [e], by rw [if_neg hc1]; rfl, rfl, by simp at hca; omega, hcb, HAX.out, HB.out, HEA.out, HHB.out, ho1, HBW1.out.trans hb1, HE2.out⟩, rfl⟩
        case measure =>
          show x.length + (f :: y).length < (e :: x).length + (f :: y).length
          simp
    | true =>
      by_cases hc1 : cb = 1
      · have HE2 := Lib.hid (show (lo ++ [f]) ++ mrg ltE (e :: x) y = mrg ltE a b from by rw [← HE.out, mrg_cons, if_pos hβ, List.append_assoc]; rfl)
        clear hβ
        go_wp2_with fail
        go_region_law (refine step_appE rfl _ _ rfl w.heap.size _ lo rfl HO1.out _ _ f rfl rfl rfl (by have := HLL.out; omega) HS1.out ?_; intro v1 wx ho1 hb1)
        all_goals go_wp2_with fail
        all_goals go_roundw
        case rel => exact ⟨_, _, _, _, _, _, _, _, _, _, _, _, _, _, _, _, _, _, _, _, _, _, _, _, _, _, _, _, _, _, _, _, _, _, _, ⟨some ad, ca, e :: x, (if cb = 1 then some bd else some (bd.add (1 * 2))), cb - 1, y, lo ++ [f], rfl, by rw [hc1]; rfl, hca, by simp at hcb; omega, HA.out, HBX.out, HHA.out, HEB.out, ho1, HBW1.out.trans hb1, HE2.out⟩, rfl⟩
        case measure =>
          show (e :: x).length + y.length < (e :: x).length + (f :: y).length
          simp
      · have HE2 := Lib.hid (show (lo ++ [f]) ++ mrg ltE (e :: x) y = mrg ltE a b from by rw [← HE.out, mrg_cons, if_pos hβ, List.append_assoc]; rfl)
        clear hβ
        go_wp2_with fail
        go_region_law (refine step_appE rfl _ _ rfl w.heap.size _ lo rfl HO1.out _ _ f rfl rfl rfl (by have := HLL.out; omega) HS1.out ?_; intro v1 wx ho1 hb1)
        all_goals go_wp2_with fail
        all_goals go_roundw
        case rel => exact ⟨_, _, _, _, _, _, _, _, _, _, _, _, _, _, _, _, _, _, _, _, _, _, _, _, _, _, _, _, _, _, _, _, _, _, _, ⟨some ad, ca, e :: x, (if cb = 1 then some bd else some (bd.add (1 * 2))), cb - 1, y, lo ++ [f], rfl, by rw [if_neg hc1]; rfl, hca, by simp at hcb; omega, HA.out, HBX.out, HHA.out, HEB.out, ho1, HBW1.out.trans hb1, HE2.out⟩, rfl⟩
        case measure =>
          show (e :: x).length + y.length < (e :: x).length + (f :: y).length
          simp
end Go.Proofs.Ytifnhdnmohlfiaa
