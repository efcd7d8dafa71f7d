/-
  Layer 7, sorter: the object, what stays beside it; missing, New. Conditions: as stated.
-/
import Derived.Test.YtifnhdnmohlfiaaQComp
import Derived.Test.YtifnhdnmohlfiaaRKey
import Derived.Test.YtifnhdnmohlfiaaRPutR
import Derived.Test.YtifnhdnmohlfiaaRClose
import Derived.Lib.SliceRun
import Derived.LaidEqlPtr
namespace Go.Proofs.Ytifnhdnmohlfiaa
open Go.ChangeShapes Go.WideShapes Go.ChangeAt Go.RowKit
set_option linter.unusedVariables false

/-- all blocks but those of P are as they were -/
structure But (P : Nat → Prop) (w w' : World) : Prop where
  os : w'.os = w.os
  tape : w'.tape = w.tape
  output : w'.output = w.output
  size : w.heap.size ≤ w'.heap.size
  block : ∀ k, k < w.heap.size → ¬ P k → w'.heap[k]? = w.heap[k]?
theorem But.refl (P : Nat → Prop) (w : World) : But P w w := ⟨rfl, rfl, rfl, Nat.le_refl _, fun _ _ _ => rfl⟩
theorem But.of_below {P : Nat → Prop} {w w' : World} (h : Below w.heap.size w w') : But P w w' := ⟨h.os, h.tape, h.output, h.size, fun k hk _ => h.block k hk⟩
theorem But.trans {P Q : Nat → Prop} {a b c : World} (h : But P a b) (k : But Q b c) (hq : ∀ i, Q i → P i ∨ a.heap.size ≤ i) : But P a c :=
  ⟨k.os.trans h.os, k.tape.trans h.tape, k.output.trans h.output, Nat.le_trans h.size k.size, fun i hi hp => (k.block i (Nat.lt_of_lt_of_le hi h.size) (fun hqi => (hq i hqi).elim hp (by omega))).trans (h.block i hi hp)⟩
theorem But.same {P : Nat → Prop} {a b c : World} (h : But P a b) (k : But P b c) : But P a c := h.trans k fun i hi => .inl hi
theorem But.more {P Q : Nat → Prop} {a b : World} (h : But P a b) (hq : ∀ i, P i → Q i) : But Q a b := ⟨h.os, h.tape, h.output, h.size, fun i hi hn => h.block i hi fun hp => hn (hq i hp)⟩
theorem But.below {P : Nat → Prop} {a b : World} {base : Nat} (h : But P a b) (hb : base ≤ a.heap.size) (hp : ∀ i, P i → base ≤ i) : Below base a b := ⟨h.os, h.tape, h.output, h.size, fun k hk => h.block k (by omega) fun hpk => by have := hp k hpk; omega⟩
theorem But.set {P : Nat → Prop} {a b : World} (h : But P a b) (p : Addr) (hp : P p.block) (u : Value) : But P a (b.setCell p u) :=
  ⟨h.os, h.tape, h.output, by rw [show (b.setCell p u).heap.size = b.heap.size by simp]; exact h.size, fun k hk hn => by rw [Below.heap_setCell b p u k (fun e => hn (e ▸ hp))]; exact h.block k hk hn⟩
theorem But.cell {P : Nat → Prop} {w w' : World} (h : But P w w') {d o : Nat} (hd : ¬ P d) (hlt : d < w.heap.size) : w'.cell? ⟨d, o, none⟩ = w.cell? ⟨d, o, none⟩ :=
  World.cell?_of_block (w := w) (a := ⟨d, o, none⟩) (h.block d hlt hd)

/-- bytes in a block of bytes -/
def OkB (w : World) (A : Option Addr) (l : List UInt8) : Prop := 0 < l.length → ∃ g cur fr, A = some ⟨g, 0, none⟩ ∧ w.heap[g]? = some (.cells cur 5 fr) ∧ ∀ j u, l[j]? = some u → w.cell? ⟨g, j, none⟩ = some (b8 u)
/-- flags in a block of flags -/
def OkF (w : World) (A : Option Addr) (l : List Bool) : Prop := 0 < l.length → ∃ g cur fr, A = some ⟨g, 0, none⟩ ∧ w.heap[g]? = some (.cells cur 4 fr) ∧ ∀ j u, l[j]? = some u → w.cell? ⟨g, j, none⟩ = some (.bool u)
/-- blocks of sorters, and of entries -/
def Far (w : World) (P : Nat → Prop) : Prop := ∀ k, P k → ∃ cur t fr, w.heap[k]? = some (.cells cur t fr) ∧ (t = 59 ∨ t = 78)
theorem heap_lt {w : World} {g : Nat} {o : Obj} (h : w.heap[g]? = some o) : g < w.heap.size := by
  rcases Nat.lt_or_ge g w.heap.size with hlt | hge
  · exact hlt
  · rw [Array.getElem?_eq_none hge] at h; cases h
theorem Far.not {w : World} {P : Nat → Prop} (h : Far w P) {g : Nat} {cur : Array Value} {t : TypeId} {fr : Nat × Nat} (hg : w.heap[g]? = some (.cells cur t fr)) (h1 : t ≠ 59) (h2 : t ≠ 78) : ¬ P g := by
  intro hp
  obtain ⟨cur', t', fr', hg', ht⟩ := h g hp
  have e := hg.symm.trans hg'
  simp only [Option.some.injEq, Obj.cells.injEq] at e
  obtain ⟨_, rfl, _⟩ := e
  rcases ht with ht | ht
  · exact h1 ht
  · exact h2 ht
theorem OkB.but {P : Nat → Prop} {w w' : World} {A : Option Addr} {l : List UInt8} (h : OkB w A l) (hb : But P w w') (hf : Far w P) : OkB w' A l := by
  intro hp
  obtain ⟨g, cur, fr, e, hg, hc⟩ := h hp
  have hn := hf.not hg (by decide) (by decide)
  exact ⟨g, cur, fr, e, (hb.block g (heap_lt hg) hn).trans hg, fun j u hj => (hb.cell hn (heap_lt hg)).trans (hc j u hj)⟩
theorem OkF.but {P : Nat → Prop} {w w' : World} {A : Option Addr} {l : List Bool} (h : OkF w A l) (hb : But P w w') (hf : Far w P) : OkF w' A l := by
  intro hp
  obtain ⟨g, cur, fr, e, hg, hc⟩ := h hp
  have hn := hf.not hg (by decide) (by decide)
  exact ⟨g, cur, fr, e, (hb.block g (heap_lt hg) hn).trans hg, fun j u hj => (hb.cell hn (heap_lt hg)).trans (hc j u hj)⟩
theorem add0 (g j : Nat) : ((⟨g, 0, none⟩ : Addr).add j) = ⟨g, j, none⟩ := by
  unfold Addr.add
  by_cases hj0 : j = 0 <;> simp [hj0]
theorem OkB.rd {w : World} {A : Option Addr} {l : List UInt8} (h : OkB w A l) : Rd w w.heap.size A l := by
  intro hp
  obtain ⟨g, cur, fr, e, hg, hc⟩ := h hp
  exact ⟨_, e, heap_lt hg, fun j u hj => by rw [add0]; exact hc j u hj⟩
theorem OkF.rd {w : World} {A : Option Addr} {l : List Bool} (h : OkF w A l) : RdF w w.heap.size A l := by
  intro hp
  obtain ⟨g, cur, fr, e, hg, hc⟩ := h hp
  exact ⟨_, e, heap_lt hg, fun j u hj => by rw [add0]; exact hc j u hj⟩
theorem OkB.of_own {w : World} {base : Nat} {A : Option Addr} {n c : Nat} {l : List UInt8} (h : Own w base (.slice A n c) l) : OkB w A l := by
  intro hp
  have h' := h
  obtain ⟨h1, h2⟩ := h
  rcases h2 with ⟨hv, h0⟩ | ⟨g, cap, cur, hv, hg, hh, hc, hm, hs, ht⟩
  · omega
  · simp only [Value.slice.injEq] at hv
    obtain ⟨rfl, rfl, rfl⟩ := hv
    refine ⟨g, cur, _, rfl, hh, fun j u hj => ?_⟩
    have := World.ownsRow.cells h' (g := g) rfl j (b8 u) (by rw [bs_getElem?, hj]; rfl)
    rwa [add0] at this
/-- an entry whose bytes lie in blocks of bytes -/
def EnB (w : World) (e : En) : Prop := OkB w e.kA e.kb ∧ e.kb.length ≤ e.kc ∧ e.kc ≤ 9223372036854775807 ∧ OkB w e.rA e.rb ∧ e.rb.length ≤ e.rc ∧ e.rc ≤ 9223372036854775807
theorem EnB.but {P : Nat → Prop} {w w' : World} {e : En} (h : EnB w e) (hb : But P w w') (hf : Far w P) : EnB w' e := ⟨h.1.but hb hf, h.2.1, h.2.2.1, h.2.2.2.1.but hb hf, h.2.2.2.2⟩
theorem EnB.ok {w : World} {e : En} (h : EnB w e) : EnOk w w.heap.size e := ⟨h.1.rd, h.2.1, h.2.2.1, h.2.2.2.1.rd, h.2.2.2.2⟩
/-- a row, as bytes, that a slice reads -/
structure Rw where
  A : Option Addr
  c : Nat
  b : List UInt8
def Rw.v (r : Rw) : Value := .slice r.A r.b.length r.c
def RwB (w : World) (r : Rw) : Prop := OkB w r.A r.b ∧ r.b.length ≤ r.c ∧ r.c ≤ 9223372036854775807
theorem RwB.but {P : Nat → Prop} {w w' : World} {r : Rw} (h : RwB w r) (hb : But P w w') (hf : Far w P) : RwB w' r := ⟨h.1.but hb hf, h.2⟩
def En.row (e : En) : Rw := ⟨e.rA, e.rc, e.rb⟩
/-- rows in a block of slices -/
def RowsB (w : World) (v : Value) (R : List Rw) : Prop := ∃ A c, v = .slice A R.length c ∧ R.length ≤ c ∧ (0 < R.length → ∃ g cur fr, A = some ⟨g, 0, none⟩ ∧ w.heap[g]? = some (.cells cur 73 fr) ∧ ∀ j r, R[j]? = some r → w.cell? ⟨g, j, none⟩ = some r.v)
theorem RowsB.but {P : Nat → Prop} {w w' : World} {v : Value} {R : List Rw} (h : RowsB w v R) (hb : But P w w') (hf : Far w P) : RowsB w' v R := by
  obtain ⟨A, c, e, hc, h⟩ := h
  refine ⟨A, c, e, hc, fun hp => ?_⟩
  obtain ⟨g, cur, fr, e, hg, hc⟩ := h hp
  have hn := hf.not hg (by decide) (by decide)
  exact ⟨g, cur, fr, e, (hb.block g (heap_lt hg) hn).trans hg, fun j u hj => (hb.cell hn (heap_lt hg)).trans (hc j u hj)⟩

/-- what a sorter is -/
structure So where
  ds : List Bool
  dist : Bool
  srt : Bool
  E : List En
  R : List Rw
  at_ : Nat
def soCells (s : Nat) (D : Option Addr) (dc : Nat) (va vr : Value) (o : So) : Array Value := #[.pointer (some ⟨s, 0, none⟩), .slice D o.ds.length dc, .bool o.dist, .bool o.srt, va, vr, .int .i64 (o.at_ : Int)]
def Sor (w : World) (lo s : Nat) (va vr : Value) (o : So) : Prop :=
  ∃ D dc, w.heap[s]? = some (.cells (soCells s D dc va vr o) 59 (0, 0)) ∧ lo ≤ s ∧ OkF w D o.ds ∧ OwnE w lo va o.E ∧ (∀ e ∈ o.E, EnB w e) ∧ RowsB w vr o.R ∧ ∀ r ∈ o.R, RwB w r
/-- what its methods may change -/
def Ft (s : Nat) (va : Value) (k : Nat) : Prop := k = s ∨ some k = va.ownBlock
theorem OwnE.heap {w : World} {base : Nat} {v : Value} {l : List En} (h : OwnE w base v l) : ∀ k, some k = v.ownBlock → ∃ cur, w.heap[k]? = some (.cells cur 78 (0, 0)) ∧ base ≤ k := by
  intro k hk
  obtain ⟨h1, h2⟩ := h
  rcases h2 with ⟨hv, _⟩ | ⟨g, cap, cur, hv, hg, hh, _⟩
  · rw [hv] at hk; cases hk
  · rw [hv] at hk
    obtain rfl : k = g := by simpa [Value.ownBlock] using hk
    exact ⟨cur, hh, hg⟩
theorem Sor.far {w : World} {lo s : Nat} {va vr : Value} {o : So} (h : Sor w lo s va vr o) : Far w (Ft s va) := by
  obtain ⟨D, dc, hs, _, _, ho, _⟩ := h
  intro k hk
  rcases hk with rfl | hk
  · exact ⟨_, _, _, hs, .inl rfl⟩
  · obtain ⟨cur, hc, _⟩ := ho.heap k hk
    exact ⟨_, _, _, hc, .inr rfl⟩
theorem Sor.lo {w : World} {lo s : Nat} {va vr : Value} {o : So} (h : Sor w lo s va vr o) : ∀ k, Ft s va k → lo ≤ k ∧ k < w.heap.size := by
  obtain ⟨D, dc, hs, hl, _, ho, _⟩ := h
  intro k hk
  rcases hk with rfl | hk
  · exact ⟨hl, heap_lt hs⟩
  · obtain ⟨cur, hc, hb⟩ := ho.heap k hk
    exact ⟨hb, heap_lt hc⟩
theorem ownsRow_but {P : Nat → Prop} {w w' : World} {base size n : Nat} {t : TypeId} {v : Value} {xs : List Value} (h : w.ownsRow base t size v n xs) (hb : But P w w') (hn : ∀ k, some k = v.ownBlock → ¬ P k) : w'.ownsRow base t size v n xs := by
  obtain ⟨h1, h2⟩ := h
  refine ⟨h1, ?_⟩
  rcases h2 with h2 | ⟨g, cap, cur, hv, hg, hh, r⟩
  · exact .inl h2
  · exact .inr ⟨g, cap, cur, hv, hg, (hb.block g (heap_lt hh) (hn g (by rw [hv]; rfl))).trans hh, r⟩
/-- a sorter stays what it is, while others' blocks alone change -/
theorem Sor.but {P : Nat → Prop} {w w' : World} {lo s : Nat} {va vr : Value} {o : So} (h : Sor w lo s va vr o) (hb : But P w w') (hf : Far w P) (hn : ∀ k, Ft s va k → ¬ P k) : Sor w' lo s va vr o := by
  obtain ⟨D, dc, hs, hl, hd, ho, he, hr, hrb⟩ := h
  exact ⟨D, dc, (hb.block s (heap_lt hs) (hn s (.inl rfl))).trans hs, hl, hd.but hb hf, ownsRow_but ho hb (fun k hk => hn k (.inr hk)), fun e hm => (he e hm).but hb hf, hr.but hb hf, fun r hm => (hrb r hm).but hb hf⟩
theorem far_none (w : World) : Far w (fun _ => False) := fun k hk => hk.elim
theorem Sor.on {w w' : World} {lo s : Nat} {va vr : Value} {o : So} (h : Sor w lo s va vr o) (hb : Below w.heap.size w w') : Sor w' lo s va vr o :=
  h.but (P := fun _ => False) (But.of_below hb) (far_none w) (fun _ _ hk => hk)
/-- its cells -/
theorem Sor.cells {w : World} {lo s : Nat} {va vr : Value} {o : So} (h : Sor w lo s va vr o) : ∃ D dc, OkF w D o.ds ∧ w.cell? ⟨s, 0, none⟩ = some (.pointer (some ⟨s, 0, none⟩)) ∧ w.cell? ⟨s, 1, none⟩ = some (.slice D o.ds.length dc) ∧ w.cell? ⟨s, 2, none⟩ = some (.bool o.dist) ∧ w.cell? ⟨s, 3, none⟩ = some (.bool o.srt) ∧
    w.cell? ⟨s, 4, none⟩ = some va ∧ w.cell? ⟨s, 5, none⟩ = some vr ∧ w.cell? ⟨s, 6, none⟩ = some (.int .i64 (o.at_ : Int)) ∧ ∀ j, w.frozen? ⟨s, j, none⟩ = false := by
  obtain ⟨D, dc, hs, _, hd, _⟩ := h
  refine ⟨D, dc, hd, ?_, ?_, ?_, ?_, ?_, ?_, ?_, fun j => frozen_of_row w s j _ _ hs⟩ <;> (rw [cell_of_row w s _ _ _ _ hs]; rfl)
set_option maxRecDepth 100000 in
theorem missing_any {w : World} {lo s : Nat} {va vr : Value} {o : So} (h : Sor w lo s va vr o) (b : Bool) :
    Calls Try.prog 33 #[.pointer (some ⟨s, 0, none⟩), .bool b] w fun e w' => e = .returned (.int .i64 (if o.srt = b then 0 else 70)) ∧ w' = w := by
  obtain ⟨D, dc, _, c0, _, _, c3, _⟩ := h.cells
  clear h
  obtain ⟨jz, hjz⟩ : ∃ j, Try.prog.info? 59 = some j := Option.isSome_iff_exists.1 (by kernel_rfl)
  have hpe := run_eql_ptr_same (P := Try.prog) w (⟨s, 0, none⟩ : Addr) Try.underlying22 hjz
  clear hjz
  have hm : Calls Try.prog 43 #[.pointer (some ⟨s, 0, none⟩)] w fun e w' => e = .returned (.bool true) ∧ w' = w := by
    go_enter Try.func43, Try.ntmps43
    go_wp2_with fail
    go_ret
    exact ⟨rfl, rfl⟩
  clear hpe
  generalize o.srt = t at *
  cases t <;> cases b
  all_goals
    go_enter Try.func33, Try.ntmps33
    go_wp2_with (go_at_call 43; refine hm.mono ?_; rintro e w1 ⟨rfl, rfl⟩)
    go_ret
    exact ⟨rfl, rfl⟩
theorem Try.info_F : (Try.prog.info? 4).map (fun i => (i.zero, i.size, i.bytes)) = some (some (.bool false), 1, 1) := by kernel_rfl
def fl (l : List Bool) : List Value := l.map .bool
theorem OkF.of_owns {w : World} {base : Nat} {v : Value} {ds : List Bool} (h : w.ownsRow base 4 1 v ds.length (fl ds)) : ∃ D dc, v = .slice D ds.length dc ∧ OkF w D ds := by
  have h' := h
  obtain ⟨h1, h2⟩ := h
  rcases h2 with ⟨hv, h0⟩ | ⟨g, cap, cur, hv, hg, hh, hc, hm, hs, ht⟩
  · exact ⟨none, 0, by rw [hv, h0], fun hp => by omega⟩
  · refine ⟨_, cap, hv, fun hp => ⟨g, cur, _, rfl, hh, fun j u hj => ?_⟩⟩
    rw [hv] at h'
    have := World.ownsRow.cells h' (g := g) rfl j (.bool u) (by rw [fl, List.getElem?_map, hj]; rfl)
    rwa [add0] at this
set_option maxRecDepth 100000 in
theorem Clone_some (ad : Addr) (c : Nat) (ds : List Bool) (w : World) (hF : RdF w w.heap.size (some ad) ds) (hl : ds.length ≤ 1000) :
    Calls Try.prog 31 #[.slice (some ad) ds.length c] w fun e w' => ∃ D dc, e = .returned (.slice D ds.length dc) ∧ OkF w' D ds ∧ Below w.heap.size w w' := by
  have hnil := Lib.run_eql_slice_nil (P := Try.prog) w 26 4 (some ad) ds.length c 0 0 Try.underlying26
  obtain ⟨i0, hi, hz0, hz1, hz2⟩ := info_parts Try.info_F
  have HI := Lib.hid (And.intro hi (And.intro hz0 (And.intro hz1 hz2)))
  clear hi hz0 hz1 hz2
  have HO := Lib.hid (show (w.alloc (.cells #[] 4)).ownsRow w.heap.size 4 1 (.slice (some ⟨w.heap.size, 0, none⟩) 0 0) 0 [] from ⟨rfl, .inr ⟨w.heap.size, 0, #[], rfl, Nat.le_refl _, heap_alloc_new _ _, Nat.le_refl _, Nat.zero_le _, rfl, rfl⟩⟩)
  have HF := Lib.hid (show ∀ j u, (fl ds)[j]? = some u → (w.alloc (.cells #[] 4)).cell? (ad.add j) = some u by
    intro j u hj
    rw [fl, List.getElem?_map] at hj
    obtain ⟨d, hd, rfl⟩ := Option.map_eq_some_iff.1 hj
    obtain ⟨ad', e, hlt, hc⟩ := hF (by have := (List.getElem?_eq_some_iff.1 hd).1; omega)
    injection e with e
    subst e
    rw [World.cell?_alloc_lt w _ _ (by rw [blockAdd]; exact hlt)]
    exact hc j d hd)
  clear hF
  go_enter Try.func31, Try.ntmps31
  go_wp2_with (at_builtin; refine wpList_append_own _ rfl (.tmp 5) (.tmp 6) 26 rfl w.heap.size 4 i0 _ 1 1 Try.underlying26 HI.out.1 HI.out.2.1 HI.out.2.2.1 HI.out.2.2.2 rfl (by decide) (.slice (some ⟨w.heap.size, 0, none⟩) 0 0) 0 [] rfl HO.out ad ds.length c (fl ds) rfl (by simp [fl]) HF.out (by intro u hu; obtain ⟨d, _, rfl⟩ := List.mem_map.1 hu; rfl) (by simp only [maxLen]; omega) (by omega) (by simp) ?_; intro v1 w1 h1 h2 _; have H1 := Lib.hid h1; have H2 := Lib.hid h2; clear h1 h2)
  go_ret
  have h1 := H1.out
  rw [Nat.zero_add, List.nil_append] at h1
  obtain ⟨D, dc, rfl, hok⟩ := OkF.of_owns h1
  refine ⟨D, dc, rfl, hok, ?_⟩
  exact ((Below.refl w.heap.size w).alloc (Nat.le_refl _) (.cells #[] 4)).trans ((Below.refl _ _).grown H2.out (by simp) fun k hk => by
    obtain rfl : w.heap.size = k := Option.some.inj hk
    exact Nat.le_refl _)
theorem Clone_nil (w : World) : Calls Try.prog 31 #[.slice none 0 0] w fun e w' => ∃ D dc, e = .returned (.slice D 0 dc) ∧ OkF w' D [] ∧ Below w.heap.size w w' := by
  have hnil := Lib.run_eql_slice_nil (P := Try.prog) w 26 4 none 0 0 0 0 Try.underlying26
  go_enter Try.func31, Try.ntmps31
  go_wp2_with fail
  go_ret
  exact ⟨none, 0, rfl, fun h => by simp at h, Below.refl _ _⟩
theorem Clone_any (A : Option Addr) (c : Nat) (ds : List Bool) (w : World) (hF : RdF w w.heap.size A ds) (hl : ds.length ≤ 1000) (hn : A = none → ds = [] ∧ c = 0) :
    Calls Try.prog 31 #[.slice A ds.length c] w fun e w' => ∃ D dc, e = .returned (.slice D ds.length dc) ∧ OkF w' D ds ∧ Below w.heap.size w w' := by
  cases A with
  | none =>
    obtain ⟨rfl, rfl⟩ := hn rfl
    exact Clone_nil w
  | some ad => exact Clone_some ad c ds w hF hl
set_option maxRecDepth 100000 in
theorem New_ok (A : Option Addr) (c : Nat) (ds : List Bool) (dist : Bool) (w : World) (hF : RdF w w.heap.size A ds) (hl : ds.length ≤ 200) (hn : A = none → ds = [] ∧ c = 0) :
    Calls Try.prog 10 #[.slice A ds.length c, .bool dist] w fun e w' => ∃ s, e = .returned (.tuple #[.pointer (some ⟨s, 0, none⟩), .int .i64 0]) ∧ Sor w' w.heap.size s (.slice none 0 0) (.slice none 0 0) ⟨ds, dist, false, [], [], 0⟩ ∧ Below w.heap.size w w' := by
  have q1 : ¬ (200 : Int) < (ds.length : Int) := by omega
  have HF := Lib.hid hF
  have HN := Lib.hid hn
  clear hF hn
  go_enter Try.func10, Try.ntmps10
  go_wp2_with (go_at_call 31; refine (Clone_any A c ds w HF.out (by omega) HN.out).mono ?_; rintro e w1 ⟨D, dc, rfl, hd, hb⟩; have HD := Lib.hid hd; have HB := Lib.hid hb; clear hd hb)
  go_ret2
  have hal : Below w1.heap.size w1 (w1.alloc (.cells (soCells w1.heap.size D dc (.slice none 0 0) (.slice none 0 0) ⟨ds, dist, false, [], [], 0⟩) 59)) := (Below.refl _ _).alloc (Nat.le_refl _) _
  exact ⟨w1.heap.size, rfl, ⟨D, dc, heap_alloc_new _ _, HB.out.size, HD.out.but (P := fun _ => False) (But.of_below hal) (far_none _), World.ownsRow_nil _ _ _ 2, (fun e he => by cases he), ⟨none, 0, rfl, Nat.le_refl _, fun hp => absurd hp (by simp)⟩, (fun r hr => by cases hr)⟩, HB.out.trans (hal.mono HB.out.size)⟩
theorem New_many (A : Option Addr) (n c : Nat) (dist : Bool) (w : World) (hl : 200 < n) (hl2 : n ≤ 1000000) :
    Calls Try.prog 10 #[.slice A n c, .bool dist] w fun e w' => e = .returned (.tuple #[.pointer none, .int .i64 2]) ∧ w' = w := by
  have q1 : (200 : Int) < (n : Int) := by omega
  go_enter Try.func10, Try.ntmps10
  go_wp2_with fail
  go_ret2
  exact ⟨rfl, rfl⟩
end Go.Proofs.Ytifnhdnmohlfiaa
