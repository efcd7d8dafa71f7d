/-
  Layer 7, sorter: Add. Conditions: as stated.
-/
import Derived.Test.YtifnhdnmohlfiaaQObj
import Derived.Test.YtifnhdnmohlfiaaRRefuse
namespace Go.Proofs.Ytifnhdnmohlfiaa
open Go.ChangeShapes Go.WideShapes Go.ChangeAt Go.RowKit
set_option linter.unusedVariables false

theorem But.of_grown {w w' : World} {r : Option Nat} (h : w.grownBy w' r) : But (fun k => some k = r) w w' := ⟨h.os, h.tape, h.output, h.size, fun k hk hn => h.block k hk hn⟩
set_option maxRecDepth 100000 in
/-- 'append(added, entry)': its cells have just been made -/
theorem wpList_app1E {W : World} {ops : Array Oper} {rest : List Oper} {o : Oper} {a : Act} {Q : Exit → Act → World → Prop} (hgd : o.guard = none) (s x : Operand)
    (ho : o.op = .call { callee := .builtin .append, args := #[s, x], argTypes := #[56, 56] })
    (base : Nat) (v : Value) (l : List En) (hs : a.eval s = v) (hown : OwnE W base v l) (z1 z2 : Value) (e : En) (e1 : z1 = e.kv) (e2 : z2 = e.rv) (hx : a.eval x = .slice (some ⟨W.heap.size, 0, none⟩) 1 1)
    (hlen : l.length + 1 ≤ 1099511627776) (hbase : base ≤ W.heap.size)
    (h : ∀ v' w', OwnE w' base v' (l ++ [e]) → But (fun k => some k = v.ownBlock) W w' → (v'.ownBlock = v.ownBlock ∨ ∃ g, v'.ownBlock = some g ∧ W.heap.size ≤ g) →
      wpList Try.prog ops Q rest (a.put o.dst v') w') : wpList Try.prog ops Q (o :: rest) a (W.alloc (.cells #[z1, z2] 78)) := by
  subst e1 e2
  obtain ⟨i0, hi, hz0, hz1, hz2⟩ := info_parts Try.info_E
  refine wpList_append_own_at (W.alloc (.cells #[e.kv, e.rv] 78)) hgd s x 56 ho base 78 i0 _ 2 48 Try.underlying56 hi hz0 hz1 hz2 rfl (by decide) v l.length (cellsE l) hs (World.ownsRow.alloc hown _) ⟨W.heap.size, 0, none⟩ 1 1 (cellsE [e]) hx rfl ?_ (cellsE_one [e]) (by simp only [maxLen]; omega) (by omega) (by simp; omega) ?_
  · intro j u hu
    have hb : (W.alloc (.cells #[e.kv, e.rv] 78)).heap[W.heap.size]? = some (.cells #[e.kv, e.rv] 78 (0, 0)) := heap_alloc_new _ _
    exact World.news_of_block hb j u hu
  · intro v' w' h1 h2 _ h4
    have hO : OwnE w' base v' (l ++ [e]) := by
      unfold OwnE
      rw [List.length_append, cellsE_append]
      exact h1
    have hal : Below W.heap.size W (W.alloc (.cells #[e.kv, e.rv] 78)) := (Below.refl _ _).alloc (Nat.le_refl _) _
    refine h v' w' hO ((But.of_below hal).same (But.of_grown h2)) ?_
    rcases h4 with h4 | h4
    · exact .inl h4
    · exact .inr ⟨_, h4, by simp⟩
/-- a key, a row, that Add takes -/
def KeyOk (ks : List Trip) : Prop := ks.length ≤ 200 ∧ ks.any pBad = false ∧ (∀ t ∈ ks, t.2.2.size ≤ 65536 ∧ In64 t.2.1) ∧ sumP ks ≤ 1048576
def RowOk (rs : List Trip) : Prop := rs.length ≤ 200 ∧ rs.any pBad = false ∧ (∀ t ∈ rs, t.2.2.size ≤ 65536 ∧ In64 t.2.1) ∧ (headL rs).length + sumB rs ≤ 1048576
theorem far_own {w : World} {base : Nat} {v : Value} {l : List En} (h : OwnE w base v l) : Far w (fun k => some k = v.ownBlock) := by
  intro k hk
  obtain ⟨cur, hc, _⟩ := h.heap k hk
  exact ⟨_, _, _, hc, .inr rfl⟩
/-- what Add leaves -/
theorem Sor.added {w w3 : World} {lo s : Nat} {va vr v' : Value} {o : So} {e : En} (h : Sor w lo s va vr o) (ho : OwnE w3 lo v' (o.E ++ [e])) (hb : But (fun k => some k = va.ownBlock) w w3) (hv : v'.ownBlock = va.ownBlock ∨ ∃ g, v'.ownBlock = some g ∧ w.heap.size ≤ g) (he : EnB w e) :
    (∀ j, w3.cell? ⟨s, j, none⟩ = w.cell? ⟨s, j, none⟩) ∧ w3.frozen? ⟨s, 4, none⟩ = false ∧ Sor (w3.setCell ⟨s, 4, none⟩ v') lo s v' vr { o with E := o.E ++ [e] } ∧ But (Ft s va) w (w3.setCell ⟨s, 4, none⟩ v') := by
  have hf1 := h.far
  have hl := h.lo
  obtain ⟨D, dc, hs, hlo, hd, hO, hE, hr, hrb⟩ := h
  have hfo := far_own hO
  have hns : ¬ some s = va.ownBlock := by
    intro e
    obtain ⟨cur, hc, _⟩ := hO.heap s e
    have := hs.symm.trans hc
    simp only [Option.some.injEq, Obj.cells.injEq] at this
    exact absurd this.2.1 (by decide)
  have hs3 : w3.heap[s]? = some (.cells (soCells s D dc va vr o) 59 (0, 0)) := (hb.block s (heap_lt hs) hns).trans hs
  have hns' : ¬ some s = v'.ownBlock := by
    intro e
    rcases hv with hv | ⟨g, hv, hg⟩
    · exact hns (e.trans hv)
    · rw [hv] at e
      have := heap_lt hs
      injection e with e
      omega
  have hset : But (fun k => k = s) w3 (w3.setCell ⟨s, 4, none⟩ v') := (But.refl (fun k => k = s) w3).set ⟨s, 4, none⟩ rfl v'
  have hfs : Far w3 (fun k => k = s) := fun k hk => by subst hk; exact ⟨_, _, _, hs3, .inl rfl⟩
  have hall : But (Ft s va) w (w3.setCell ⟨s, 4, none⟩ v') := (hb.more (fun k hk => .inr hk)).trans hset fun k hk => .inl (.inl hk)
  refine ⟨fun j => hb.cell hns (heap_lt hs), frozen_of_row w3 s 4 _ _ hs3, ⟨D, dc, ?_, hlo, hd.but hall hf1, ownsRow_but ho hset (fun k hk e => hns' (by rw [← e]; exact hk)), fun x hx => ?_, hr.but hall hf1, fun r hm => (hrb r hm).but hall hf1⟩, hall⟩
  · rw [heap_setCell_same w3 s 4 _ _ v' hs3]
    rfl
  · rcases List.mem_append.1 hx with hx | hx
    · exact (hE x hx).but hall hf1
    · obtain rfl : x = e := by simpa using hx
      exact he.but hall hf1
set_option maxRecDepth 100000 in
set_option maxHeartbeats 1000000 in
theorem Add_ok {w : World} {lo s : Nat} {va vr : Value} {o : So} (h : Sor w lo s va vr o) (hsr : o.srt = false) (hlo : lo ≤ w.heap.size) (A : Option Addr) (ca : Nat) (ks : List Trip) (B : Option Addr) (cb : Nat) (rs : List Trip) (hK : RdR w w.heap.size A ks) (hR : RdR w w.heap.size B rs)
    (hk : KeyOk ks) (hr : RowOk rs) (hd : o.ds.length = ks.length) (hE : o.E.length < 65536) (nk nr : Nat) (hnk : nk = ks.length) (hnr : nr = rs.length) :
    Calls Try.prog 12 #[.pointer (some ⟨s, 0, none⟩), .slice A nk ca, .slice B nr cb] w fun e w' => e = .returned (.int .i64 0) ∧
      ∃ va' en, en.kb = keyL ks o.ds ∧ en.rb = putL rs ∧ Sor w' lo s va' vr { o with E := o.E ++ [en] } ∧ (va'.ownBlock = va.ownBlock ∨ ∃ g, va'.ownBlock = some g ∧ w.heap.size ≤ g) ∧ But (Ft s va) w w' := by
  subst hnk hnr
  obtain ⟨D, dc, hF, _, c1, _⟩ := h.cells
  obtain ⟨Ae, ce, hva, hce, _, _⟩ := (show OwnE w lo va o.E from by obtain ⟨_, _, _, _, _, ho, _⟩ := h; exact ho).form
  have H0 := Lib.hid h
  have HF := Lib.hid hF
  have HSR := Lib.hid hsr
  obtain ⟨ne, hne⟩ : ∃ n, o.E.length = n := ⟨_, rfl⟩
  obtain ⟨zn, hzn⟩ : ∃ z : Int, (ne : Int) = z := ⟨_, rfl⟩
  have q2 : decide ((65536 : Int) ≤ zn) = false := decide_eq_false (by omega)
  rw [hne] at hva
  have HZN := Lib.hid hzn
  have HNE := Lib.hid hne
  have HEL := Lib.hid hE
  have HCE := Lib.hid hce
  clear hzn hne hE hce
  have HDS := Lib.hid hd
  have HVA := Lib.hid hva
  clear h hF hsr hva hd
  go_enter Try.func12, Try.ntmps12
  go_wp2_with fail
  refine (missing_any H0.out false).mono ?_
  rintro e w0 ⟨rfl, rfl⟩
  rw [HSR.out]
  go_wp2_with fail
  refine (Key_ok A ca ks D dc o.ds _ hK HF.out.rd hk.1 HDS.out hk.2.1 hk.2.2.1 hk.2.2.2).mono ?_
  rintro e w1 ⟨vk, rfl, hok, hb1⟩
  obtain ⟨kA, kc, rfl, hk1, hk2, _⟩ := hok.form
  have HOK := Lib.hid hok
  have H1 := Lib.hid (H0.out.on hb1)
  have HB1 := Lib.hid hb1
  clear hok hb1
  go_wp2_with fail
  have hR1 : RdR w1 w1.heap.size B rs := hR.on HB1.out
  refine (Put_ok B cb rs _ hR1 hr.1 hr.2.1 hr.2.2.1 hr.2.2.2).mono ?_
  rintro e w2 ⟨vr2, rfl, hor, hb2⟩
  obtain ⟨rA, rc, rfl, hr1, hr2, _⟩ := hor.form
  have H2 := Lib.hid (H1.out.on hb2)
  have HOR := Lib.hid hor
  have HB2 := Lib.hid hb2
  have HOK2 := Lib.hid (HOK.out.below hb2)
  have HSZ := Lib.hid (Nat.le_trans hlo (Nat.le_trans HB1.out.size hb2.size))
  clear hor hb2
  obtain ⟨D2, dc2, _, _, _, _, _, c4, _, _, hfr⟩ := H2.out.cells
  have f4 := hfr 4
  clear hfr
  rw [HVA.out] at c4
  have hzn := HZN.out
  have HOE := Lib.hid (show OwnE w2 lo (.slice Ae ne ce) o.E from by rw [← HVA.out]; obtain ⟨_, _, _, _, _, ho, _⟩ := H2.out; exact ho)
  obtain ⟨en, hen⟩ : ∃ en : En, en = ⟨kA, kc, keyL ks o.ds, rA, rc, putL rs⟩ := ⟨_, rfl⟩
  have HEN := Lib.hid (show Value.slice kA (keyL ks o.ds).length kc = en.kv ∧ Value.slice rA (putL rs).length rc = en.rv by rw [hen]; exact ⟨rfl, rfl⟩)
  have HEB := Lib.hid (show EnB w2 en by
    rw [hen]
    unfold maxLen at hk2 hr2
    exact ⟨OkB.of_own HOK2.out, hk1, by omega, OkB.of_own HOR.out, hr1, by omega⟩)
  have HKR := Lib.hid (show en.kb = keyL ks o.ds ∧ en.rb = putL rs by rw [hen]; exact ⟨rfl, rfl⟩)
  clear hen
  go_wp2_with (at_builtin; refine wpList_app1E rfl (.tmp 46) (.tmp 50) rfl lo (.slice Ae ne ce) o.E rfl HOE.out _ _ en HEN.out.1 HEN.out.2 rfl (by have := HEL.out; omega) HSZ.out ?_; intro v3 w3 ho3 hb3 hv3; obtain ⟨A3, c3, rfl, z1, z2, z3⟩ := ho3.form; clear z1 z2 z3; generalize hn3 : (o.E ++ [en]).length = n3 at ho3 hv3 ⊢; clear hn3; have HAD := Lib.hid (Sor.added H2.out ho3 (by rw [HVA.out]; exact hb3) (by rw [HVA.out]; exact hv3) HEB.out); have c43 := (HAD.out.1 4).trans c4; have f43 := HAD.out.2.1; have HV3 := Lib.hid hv3; clear ho3 hb3 hv3)
  go_ret
  refine ⟨rfl, _, en, HKR.out.1, HKR.out.2, HAD.out.2.2.1, ?_, ?_⟩
  · rcases HV3.out with h | ⟨g, h, hg⟩
    · exact .inl (h.trans (by rw [HVA.out]))
    · exact .inr ⟨g, h, Nat.le_trans (Nat.le_trans HB1.out.size HB2.out.size) hg⟩
  · exact ((But.of_below HB1.out).same (But.of_below HB2.out)).same HAD.out.2.2.2
end Go.Proofs.Ytifnhdnmohlfiaa
