/-
  Layer 7, sorter: the object, what stays beside it; missing, New. Conditions: as stated.
  Layer 7, sorter: Add. Conditions: as stated.
  Layer 7, sorter: Sort. Conditions: no more than 2^16 rows.
  Layer 7, sorter: Next, Rewind, Len. Conditions: as stated.
  Layer 7, sorter: what its methods do, told by the bytes of keys and rows alone. Conditions: as stated.
-/
import Derived.Test.YtdhdfeiobjmdaaaQBase
import Derived.Test.YtdhdfeiobjmdaaaRKey
import Derived.Test.YtdhdfeiobjmdaaaRPutR
import Derived.Test.YtdhdfeiobjmdaaaRClose
import Derived.Lib.SliceRun
import Derived.LaidEqlPtr
import Derived.Test.YtdhdfeiobjmdaaaRRefuse
import Derived.Test.YtdhdfeiobjmdaaaRRowM
import Derived.Deep.RegionHeld3
namespace Go.Proofs.Ytdhdfeiobjmdaaa
open Go.ChangeShapes Go.WideShapes Go.ChangeAt Go.RowKit
set_option linter.unusedVariables false

/-- all blocks but those of P are as they were -/
structure But (P : Nat → Prop) (w w' : World) : Prop where
  os : w'.os = w.os
  tape : w'.tape = w.tape
  output : w'.output = w.output
  size : w.heap.size ≤ w'.heap.size
  block : ∀ k, k < w.heap.size → ¬ P k → w'.heap[k]? = w.heap[k]?
theorem But.refl (P : Nat → Prop) (w : World) : But P w w := ⟨rfl, rfl, rfl, Nat.le_refl _, fun _ _ _ => rfl⟩
theorem But.of_below {P : Nat → Prop} {w w' : World} (h : Below w.heap.size w w') : But P w w' := ⟨h.os, h.tape, h.output, h.size, fun k hk _ => h.block k hk⟩
theorem But.trans {P Q : Nat → Prop} {a b c : World} (h : But P a b) (k : But Q b c) (hq : ∀ i, Q i → P i ∨ a.heap.size ≤ i) : But P a c :=
  ⟨k.os.trans h.os, k.tape.trans h.tape, k.output.trans h.output, Nat.le_trans h.size k.size, fun i hi hp => (k.block i (Nat.lt_of_lt_of_le hi h.size) (fun hqi => (hq i hqi).elim hp (by omega))).trans (h.block i hi hp)⟩
theorem But.same {P : Nat → Prop} {a b c : World} (h : But P a b) (k : But P b c) : But P a c := h.trans k fun i hi => .inl hi
theorem But.more {P Q : Nat → Prop} {a b : World} (h : But P a b) (hq : ∀ i, P i → Q i) : But Q a b := ⟨h.os, h.tape, h.output, h.size, fun i hi hn => h.block i hi fun hp => hn (hq i hp)⟩
theorem But.below {P : Nat → Prop} {a b : World} {base : Nat} (h : But P a b) (hb : base ≤ a.heap.size) (hp : ∀ i, P i → base ≤ i) : Below base a b := ⟨h.os, h.tape, h.output, h.size, fun k hk => h.block k (by omega) fun hpk => by have := hp k hpk; omega⟩
theorem But.set {P : Nat → Prop} {a b : World} (h : But P a b) (p : Addr) (hp : P p.block) (u : Value) : But P a (b.setCell p u) :=
  ⟨h.os, h.tape, h.output, by rw [show (b.setCell p u).heap.size = b.heap.size by simp]; exact h.size, fun k hk hn => by rw [Below.heap_setCell b p u k (fun e => hn (e ▸ hp))]; exact h.block k hk hn⟩
theorem But.cell {P : Nat → Prop} {w w' : World} (h : But P w w') {d o : Nat} (hd : ¬ P d) (hlt : d < w.heap.size) : w'.cell? ⟨d, o, none⟩ = w.cell? ⟨d, o, none⟩ :=
  World.cell?_of_block (w := w) (a := ⟨d, o, none⟩) (h.block d hlt hd)

/-- bytes in a block of bytes -/
def OkB (w : World) (A : Option Addr) (l : List UInt8) : Prop := 0 < l.length → ∃ g cur fr, A = some ⟨g, 0, none⟩ ∧ w.heap[g]? = some (.cells cur 5 fr) ∧ ∀ j u, l[j]? = some u → w.cell? ⟨g, j, none⟩ = some (b8 u)
/-- flags in a block of flags -/
def OkF (w : World) (A : Option Addr) (l : List Bool) : Prop := 0 < l.length → ∃ g cur fr, A = some ⟨g, 0, none⟩ ∧ w.heap[g]? = some (.cells cur 4 fr) ∧ ∀ j u, l[j]? = some u → w.cell? ⟨g, j, none⟩ = some (.bool u)
/-- blocks of sorters, and of entries -/
def Far (w : World) (P : Nat → Prop) : Prop := ∀ k, P k → ∃ cur t fr, w.heap[k]? = some (.cells cur t fr) ∧ (t = 60 ∨ t = 67 ∨ t = 31)
theorem heap_lt {w : World} {g : Nat} {o : Obj} (h : w.heap[g]? = some o) : g < w.heap.size := by
  rcases Nat.lt_or_ge g w.heap.size with hlt | hge
  · exact hlt
  · rw [Array.getElem?_eq_none hge] at h; cases h
theorem Far.not {w : World} {P : Nat → Prop} (h : Far w P) {g : Nat} {cur : Array Value} {t : TypeId} {fr : Nat × Nat} (hg : w.heap[g]? = some (.cells cur t fr)) (h1 : t ≠ 60) (h2 : t ≠ 67) (h3 : t ≠ 31) : ¬ P g := by
  intro hp
  obtain ⟨cur', t', fr', hg', ht⟩ := h g hp
  have e := hg.symm.trans hg'
  simp only [Option.some.injEq, Obj.cells.injEq] at e
  obtain ⟨_, rfl, _⟩ := e
  rcases ht with ht | ht | ht
  · exact h1 ht
  · exact h2 ht
  · exact h3 ht
theorem OkB.but {P : Nat → Prop} {w w' : World} {A : Option Addr} {l : List UInt8} (h : OkB w A l) (hb : But P w w') (hf : Far w P) : OkB w' A l := by
  intro hp
  obtain ⟨g, cur, fr, e, hg, hc⟩ := h hp
  have hn := hf.not hg (by decide) (by decide) (by decide)
  exact ⟨g, cur, fr, e, (hb.block g (heap_lt hg) hn).trans hg, fun j u hj => (hb.cell hn (heap_lt hg)).trans (hc j u hj)⟩
theorem OkF.but {P : Nat → Prop} {w w' : World} {A : Option Addr} {l : List Bool} (h : OkF w A l) (hb : But P w w') (hf : Far w P) : OkF w' A l := by
  intro hp
  obtain ⟨g, cur, fr, e, hg, hc⟩ := h hp
  have hn := hf.not hg (by decide) (by decide) (by decide)
  exact ⟨g, cur, fr, e, (hb.block g (heap_lt hg) hn).trans hg, fun j u hj => (hb.cell hn (heap_lt hg)).trans (hc j u hj)⟩
theorem add0 (g j : Nat) : ((⟨g, 0, none⟩ : Addr).add j) = ⟨g, j, none⟩ := by
  unfold Addr.add
  by_cases hj0 : j = 0 <;> simp [hj0]
theorem OkB.rd {w : World} {A : Option Addr} {l : List UInt8} (h : OkB w A l) : Rd w w.heap.size A l := by
  intro hp
  obtain ⟨g, cur, fr, e, hg, hc⟩ := h hp
  exact ⟨_, e, heap_lt hg, fun j u hj => by rw [add0]; exact hc j u hj⟩
theorem OkF.rd {w : World} {A : Option Addr} {l : List Bool} (h : OkF w A l) : RdF w w.heap.size A l := by
  intro hp
  obtain ⟨g, cur, fr, e, hg, hc⟩ := h hp
  exact ⟨_, e, heap_lt hg, fun j u hj => by rw [add0]; exact hc j u hj⟩
theorem OkB.of_own {w : World} {base : Nat} {A : Option Addr} {n c : Nat} {l : List UInt8} (h : Own w base (.slice A n c) l) : OkB w A l := by
  intro hp
  have h' := h
  obtain ⟨h1, h2⟩ := h
  rcases h2 with ⟨hv, h0⟩ | ⟨g, cap, cur, hv, hg, hh, hc, hm, hs, ht⟩
  · omega
  · simp only [Value.slice.injEq] at hv
    obtain ⟨rfl, rfl, rfl⟩ := hv
    refine ⟨g, cur, _, rfl, hh, fun j u hj => ?_⟩
    have := World.ownsRow.cells h' (g := g) rfl j (b8 u) (by rw [bs_getElem?, hj]; rfl)
    rwa [add0] at this
/-- an entry whose bytes lie in blocks of bytes -/
def EnB (w : World) (e : En) : Prop := OkB w e.kA e.kb ∧ e.kb.length ≤ e.kc ∧ e.kc ≤ 9223372036854775807 ∧ OkB w e.rA e.rb ∧ e.rb.length ≤ e.rc ∧ e.rc ≤ 9223372036854775807
theorem EnB.but {P : Nat → Prop} {w w' : World} {e : En} (h : EnB w e) (hb : But P w w') (hf : Far w P) : EnB w' e := ⟨h.1.but hb hf, h.2.1, h.2.2.1, h.2.2.2.1.but hb hf, h.2.2.2.2⟩
theorem EnB.ok {w : World} {e : En} (h : EnB w e) : EnOk w w.heap.size e := ⟨h.1.rd, h.2.1, h.2.2.1, h.2.2.2.1.rd, h.2.2.2.2⟩
/-- a row, as bytes, that a slice reads -/
structure Rw where
  A : Option Addr
  c : Nat
  b : List UInt8
def Rw.v (r : Rw) : Value := .slice r.A r.b.length r.c
def RwB (w : World) (r : Rw) : Prop := OkB w r.A r.b ∧ r.b.length ≤ r.c ∧ r.c ≤ 9223372036854775807
theorem RwB.but {P : Nat → Prop} {w w' : World} {r : Rw} (h : RwB w r) (hb : But P w w') (hf : Far w P) : RwB w' r := ⟨h.1.but hb hf, h.2⟩
def En.row (e : En) : Rw := ⟨e.rA, e.rc, e.rb⟩
/-- rows in a block of slices -/
def RowsB (w : World) (v : Value) (R : List Rw) : Prop := ∃ A c, v = .slice A R.length c ∧ R.length ≤ c ∧ (0 < R.length → ∃ g cur fr, A = some ⟨g, 0, none⟩ ∧ w.heap[g]? = some (.cells cur 62 fr) ∧ ∀ j r, R[j]? = some r → w.cell? ⟨g, j, none⟩ = some r.v)
theorem RowsB.but {P : Nat → Prop} {w w' : World} {v : Value} {R : List Rw} (h : RowsB w v R) (hb : But P w w') (hf : Far w P) : RowsB w' v R := by
  obtain ⟨A, c, e, hc, h⟩ := h
  refine ⟨A, c, e, hc, fun hp => ?_⟩
  obtain ⟨g, cur, fr, e, hg, hc⟩ := h hp
  have hn := hf.not hg (by decide) (by decide) (by decide)
  exact ⟨g, cur, fr, e, (hb.block g (heap_lt hg) hn).trans hg, fun j u hj => (hb.cell hn (heap_lt hg)).trans (hc j u hj)⟩

/-- what a sorter is -/
structure So where
  ds : List Bool
  dist : Bool
  srt : Bool
  E : List En
  R : List Rw
  at_ : Nat
def soCells (s : Nat) (D : Option Addr) (dc : Nat) (va vr : Value) (o : So) : Array Value := #[.pointer (some ⟨s, 0, none⟩), .slice D o.ds.length dc, .bool o.dist, .bool o.srt, va, vr, .int .i64 (o.at_ : Int)]
def Sor (w : World) (lo s : Nat) (va vr : Value) (o : So) : Prop :=
  ∃ D dc, w.heap[s]? = some (.cells (soCells s D dc va vr o) 60 (0, 0)) ∧ lo ≤ s ∧ OkF w D o.ds ∧ OwnE w lo va o.E ∧ (∀ e ∈ o.E, EnB w e) ∧ RowsB w vr o.R ∧ ∀ r ∈ o.R, RwB w r
/-- what its methods may change -/
def Ft (s : Nat) (va : Value) (k : Nat) : Prop := k = s ∨ some k = va.ownBlock
theorem OwnE.heap {w : World} {base : Nat} {v : Value} {l : List En} (h : OwnE w base v l) : ∀ k, some k = v.ownBlock → ∃ cur, w.heap[k]? = some (.cells cur 67 (0, 0)) ∧ base ≤ k := by
  intro k hk
  obtain ⟨h1, h2⟩ := h
  rcases h2 with ⟨hv, _⟩ | ⟨g, cap, cur, hv, hg, hh, _⟩
  · rw [hv] at hk; cases hk
  · rw [hv] at hk
    obtain rfl : k = g := by simpa [Value.ownBlock] using hk
    exact ⟨cur, hh, hg⟩
theorem Sor.far {w : World} {lo s : Nat} {va vr : Value} {o : So} (h : Sor w lo s va vr o) : Far w (Ft s va) := by
  obtain ⟨D, dc, hs, _, _, ho, _⟩ := h
  intro k hk
  rcases hk with rfl | hk
  · exact ⟨_, _, _, hs, .inl rfl⟩
  · obtain ⟨cur, hc, _⟩ := ho.heap k hk
    exact ⟨_, _, _, hc, .inr (.inl rfl)⟩
theorem Sor.lo {w : World} {lo s : Nat} {va vr : Value} {o : So} (h : Sor w lo s va vr o) : ∀ k, Ft s va k → lo ≤ k ∧ k < w.heap.size := by
  obtain ⟨D, dc, hs, hl, _, ho, _⟩ := h
  intro k hk
  rcases hk with rfl | hk
  · exact ⟨hl, heap_lt hs⟩
  · obtain ⟨cur, hc, hb⟩ := ho.heap k hk
    exact ⟨hb, heap_lt hc⟩
theorem ownsRow_but {P : Nat → Prop} {w w' : World} {base size n : Nat} {t : TypeId} {v : Value} {xs : List Value} (h : w.ownsRow base t size v n xs) (hb : But P w w') (hn : ∀ k, some k = v.ownBlock → ¬ P k) : w'.ownsRow base t size v n xs := by
  obtain ⟨h1, h2⟩ := h
  refine ⟨h1, ?_⟩
  rcases h2 with h2 | ⟨g, cap, cur, hv, hg, hh, r⟩
  · exact .inl h2
  · exact .inr ⟨g, cap, cur, hv, hg, (hb.block g (heap_lt hh) (hn g (by rw [hv]; rfl))).trans hh, r⟩
/-- a sorter stays what it is, while others' blocks alone change -/
theorem Sor.but {P : Nat → Prop} {w w' : World} {lo s : Nat} {va vr : Value} {o : So} (h : Sor w lo s va vr o) (hb : But P w w') (hf : Far w P) (hn : ∀ k, Ft s va k → ¬ P k) : Sor w' lo s va vr o := by
  obtain ⟨D, dc, hs, hl, hd, ho, he, hr, hrb⟩ := h
  exact ⟨D, dc, (hb.block s (heap_lt hs) (hn s (.inl rfl))).trans hs, hl, hd.but hb hf, ownsRow_but ho hb (fun k hk => hn k (.inr hk)), fun e hm => (he e hm).but hb hf, hr.but hb hf, fun r hm => (hrb r hm).but hb hf⟩
theorem far_none (w : World) : Far w (fun _ => False) := fun k hk => hk.elim
theorem Sor.on {w w' : World} {lo s : Nat} {va vr : Value} {o : So} (h : Sor w lo s va vr o) (hb : Below w.heap.size w w') : Sor w' lo s va vr o :=
  h.but (P := fun _ => False) (But.of_below hb) (far_none w) (fun _ _ hk => hk)
/-- its cells -/
theorem Sor.cells {w : World} {lo s : Nat} {va vr : Value} {o : So} (h : Sor w lo s va vr o) : ∃ D dc, OkF w D o.ds ∧ w.cell? ⟨s, 0, none⟩ = some (.pointer (some ⟨s, 0, none⟩)) ∧ w.cell? ⟨s, 1, none⟩ = some (.slice D o.ds.length dc) ∧ w.cell? ⟨s, 2, none⟩ = some (.bool o.dist) ∧ w.cell? ⟨s, 3, none⟩ = some (.bool o.srt) ∧
    w.cell? ⟨s, 4, none⟩ = some va ∧ w.cell? ⟨s, 5, none⟩ = some vr ∧ w.cell? ⟨s, 6, none⟩ = some (.int .i64 (o.at_ : Int)) ∧ ∀ j, w.frozen? ⟨s, j, none⟩ = false := by
  obtain ⟨D, dc, hs, _, hd, _⟩ := h
  refine ⟨D, dc, hd, ?_, ?_, ?_, ?_, ?_, ?_, ?_, fun j => frozen_of_row w s j _ _ hs⟩ <;> (rw [cell_of_row w s _ _ _ _ hs]; rfl)
set_option maxRecDepth 100000 in
theorem missing_any {w : World} {lo s : Nat} {va vr : Value} {o : So} (h : Sor w lo s va vr o) (b : Bool) :
    Calls Try.prog 25 #[.pointer (some ⟨s, 0, none⟩), .bool b] w fun e w' => e = .returned (.int .i64 (if o.srt = b then 0 else 70)) ∧ w' = w := by
  obtain ⟨D, dc, _, c0, _, _, c3, _⟩ := h.cells
  clear h
  obtain ⟨jz, hjz⟩ : ∃ j, Try.prog.info? 60 = some j := Option.isSome_iff_exists.1 (by kernel_rfl)
  have hpe := run_eql_ptr_same (P := Try.prog) w (⟨s, 0, none⟩ : Addr) Try.underlying22 hjz
  clear hjz
  have hm : Calls Try.prog 35 #[.pointer (some ⟨s, 0, none⟩)] w fun e w' => e = .returned (.bool true) ∧ w' = w := by
    go_enter Try.func35, Try.ntmps35
    go_wp2_with fail
    go_ret
    exact ⟨rfl, rfl⟩
  clear hpe
  generalize o.srt = t at *
  cases t <;> cases b
  all_goals
    go_enter Try.func25, Try.ntmps25
    go_wp2_with (go_at_call 35; refine hm.mono ?_; rintro e w1 ⟨rfl, rfl⟩)
    go_ret
    exact ⟨rfl, rfl⟩
theorem Try.info_F : (Try.prog.info? 4).map (fun i => (i.zero, i.size, i.bytes)) = some (some (.bool false), 1, 1) := by kernel_rfl
def fl (l : List Bool) : List Value := l.map .bool
theorem OkF.of_owns {w : World} {base : Nat} {v : Value} {ds : List Bool} (h : w.ownsRow base 4 1 v ds.length (fl ds)) : ∃ D dc, v = .slice D ds.length dc ∧ OkF w D ds := by
  have h' := h
  obtain ⟨h1, h2⟩ := h
  rcases h2 with ⟨hv, h0⟩ | ⟨g, cap, cur, hv, hg, hh, hc, hm, hs, ht⟩
  · exact ⟨none, 0, by rw [hv, h0], fun hp => by omega⟩
  · refine ⟨_, cap, hv, fun hp => ⟨g, cur, _, rfl, hh, fun j u hj => ?_⟩⟩
    rw [hv] at h'
    have := World.ownsRow.cells h' (g := g) rfl j (.bool u) (by rw [fl, List.getElem?_map, hj]; rfl)
    rwa [add0] at this
set_option maxRecDepth 100000 in
theorem Clone_some (ad : Addr) (c : Nat) (ds : List Bool) (w : World) (hF : RdF w w.heap.size (some ad) ds) (hl : ds.length ≤ 1000) :
    Calls Try.prog 23 #[.slice (some ad) ds.length c] w fun e w' => ∃ D dc, e = .returned (.slice D ds.length dc) ∧ OkF w' D ds ∧ Below w.heap.size w w' := by
  have hnil := Lib.run_eql_slice_nil (P := Try.prog) w 26 4 (some ad) ds.length c 0 0 Try.underlying26
  obtain ⟨i0, hi, hz0, hz1, hz2⟩ := info_parts Try.info_F
  have HI := Lib.hid (And.intro hi (And.intro hz0 (And.intro hz1 hz2)))
  clear hi hz0 hz1 hz2
  have HO := Lib.hid (show (w.alloc (.cells #[] 4)).ownsRow w.heap.size 4 1 (.slice (some ⟨w.heap.size, 0, none⟩) 0 0) 0 [] from ⟨rfl, .inr ⟨w.heap.size, 0, #[], rfl, Nat.le_refl _, heap_alloc_new _ _, Nat.le_refl _, Nat.zero_le _, rfl, rfl⟩⟩)
  have HF := Lib.hid (show ∀ j u, (fl ds)[j]? = some u → (w.alloc (.cells #[] 4)).cell? (ad.add j) = some u by
    intro j u hj
    rw [fl, List.getElem?_map] at hj
    obtain ⟨d, hd, rfl⟩ := Option.map_eq_some_iff.1 hj
    obtain ⟨ad', e, hlt, hc⟩ := hF (by have := (List.getElem?_eq_some_iff.1 hd).1; omega)
    injection e with e
    subst e
    rw [World.cell?_alloc_lt w _ _ (by rw [blockAdd]; exact hlt)]
    exact hc j d hd)
  clear hF
  go_enter Try.func23, Try.ntmps23
  go_wp2_with (at_builtin; refine wpList_append_own _ rfl (.tmp 5) (.tmp 6) 26 rfl w.heap.size 4 i0 _ 1 1 Try.underlying26 HI.out.1 HI.out.2.1 HI.out.2.2.1 HI.out.2.2.2 rfl (by decide) (.slice (some ⟨w.heap.size, 0, none⟩) 0 0) 0 [] rfl HO.out ad ds.length c (fl ds) rfl (by simp [fl]) HF.out (by intro u hu; obtain ⟨d, _, rfl⟩ := List.mem_map.1 hu; rfl) (by simp only [maxLen]; omega) (by omega) (by simp) ?_; intro v1 w1 h1 h2 _; have H1 := Lib.hid h1; have H2 := Lib.hid h2; clear h1 h2)
  go_ret
  have h1 := H1.out
  rw [Nat.zero_add, List.nil_append] at h1
  obtain ⟨D, dc, rfl, hok⟩ := OkF.of_owns h1
  refine ⟨D, dc, rfl, hok, ?_⟩
  exact ((Below.refl w.heap.size w).alloc (Nat.le_refl _) (.cells #[] 4)).trans ((Below.refl _ _).grown H2.out (by simp) fun k hk => by
    obtain rfl : w.heap.size = k := Option.some.inj hk
    exact Nat.le_refl _)
theorem Clone_nil (w : World) : Calls Try.prog 23 #[.slice none 0 0] w fun e w' => ∃ D dc, e = .returned (.slice D 0 dc) ∧ OkF w' D [] ∧ Below w.heap.size w w' := by
  have hnil := Lib.run_eql_slice_nil (P := Try.prog) w 26 4 none 0 0 0 0 Try.underlying26
  go_enter Try.func23, Try.ntmps23
  go_wp2_with fail
  go_ret
  exact ⟨none, 0, rfl, fun h => by simp at h, Below.refl _ _⟩
theorem Clone_any (A : Option Addr) (c : Nat) (ds : List Bool) (w : World) (hF : RdF w w.heap.size A ds) (hl : ds.length ≤ 1000) (hn : A = none → ds = [] ∧ c = 0) :
    Calls Try.prog 23 #[.slice A ds.length c] w fun e w' => ∃ D dc, e = .returned (.slice D ds.length dc) ∧ OkF w' D ds ∧ Below w.heap.size w w' := by
  cases A with
  | none =>
    obtain ⟨rfl, rfl⟩ := hn rfl
    exact Clone_nil w
  | some ad => exact Clone_some ad c ds w hF hl
set_option maxRecDepth 100000 in
theorem New_ok (A : Option Addr) (c : Nat) (ds : List Bool) (dist : Bool) (w : World) (hF : RdF w w.heap.size A ds) (hl : ds.length ≤ 200) (hn : A = none → ds = [] ∧ c = 0) :
    Calls Try.prog 5 #[.slice A ds.length c, .bool dist] w fun e w' => ∃ s, e = .returned (.tuple #[.pointer (some ⟨s, 0, none⟩), .int .i64 0]) ∧ Sor w' w.heap.size s (.slice none 0 0) (.slice none 0 0) ⟨ds, dist, false, [], [], 0⟩ ∧ Below w.heap.size w w' := by
  have q1 : ¬ (200 : Int) < (ds.length : Int) := by omega
  have HF := Lib.hid hF
  have HN := Lib.hid hn
  clear hF hn
  go_enter Try.func5, Try.ntmps5
  go_wp2_with (go_at_call 23; refine (Clone_any A c ds w HF.out (by omega) HN.out).mono ?_; rintro e w1 ⟨D, dc, rfl, hd, hb⟩; have HD := Lib.hid hd; have HB := Lib.hid hb; clear hd hb)
  go_ret2
  have hal : Below w1.heap.size w1 (w1.alloc (.cells (soCells w1.heap.size D dc (.slice none 0 0) (.slice none 0 0) ⟨ds, dist, false, [], [], 0⟩) 60)) := (Below.refl _ _).alloc (Nat.le_refl _) _
  exact ⟨w1.heap.size, rfl, ⟨D, dc, heap_alloc_new _ _, HB.out.size, HD.out.but (P := fun _ => False) (But.of_below hal) (far_none _), World.ownsRow_nil _ _ _ 2, (fun e he => by cases he), ⟨none, 0, rfl, Nat.le_refl _, fun hp => absurd hp (by simp)⟩, (fun r hr => by cases hr)⟩, HB.out.trans (hal.mono HB.out.size)⟩
theorem New_many (A : Option Addr) (n c : Nat) (dist : Bool) (w : World) (hl : 200 < n) (hl2 : n ≤ 1000000) :
    Calls Try.prog 5 #[.slice A n c, .bool dist] w fun e w' => e = .returned (.tuple #[.pointer none, .int .i64 2]) ∧ w' = w := by
  have q1 : (200 : Int) < (n : Int) := by omega
  go_enter Try.func5, Try.ntmps5
  go_wp2_with fail
  go_ret2
  exact ⟨rfl, rfl⟩
end Go.Proofs.Ytdhdfeiobjmdaaa

namespace Go.Proofs.Ytdhdfeiobjmdaaa
open Go.ChangeShapes Go.WideShapes Go.ChangeAt Go.RowKit
set_option linter.unusedVariables false

theorem But.of_grown {w w' : World} {r : Option Nat} (h : w.grownBy w' r) : But (fun k => some k = r) w w' := ⟨h.os, h.tape, h.output, h.size, fun k hk hn => h.block k hk hn⟩
set_option maxRecDepth 100000 in
/-- 'append(added, entry)': its cells have just been made -/
theorem wpList_app1E {W : World} {ops : Array Oper} {rest : List Oper} {o : Oper} {a : Act} {Q : Exit → Act → World → Prop} (hgd : o.guard = none) (s x : Operand)
    (ho : o.op = .call { callee := .builtin .append, args := #[s, x], argTypes := #[57, 57] })
    (base : Nat) (v : Value) (l : List En) (hs : a.eval s = v) (hown : OwnE W base v l) (z1 z2 : Value) (e : En) (e1 : z1 = e.kv) (e2 : z2 = e.rv) (hx : a.eval x = .slice (some ⟨W.heap.size, 0, none⟩) 1 1)
    (hlen : l.length + 1 ≤ 1099511627776) (hbase : base ≤ W.heap.size)
    (h : ∀ v' w', OwnE w' base v' (l ++ [e]) → But (fun k => some k = v.ownBlock) W w' → (v'.ownBlock = v.ownBlock ∨ ∃ g, v'.ownBlock = some g ∧ W.heap.size ≤ g) →
      wpList Try.prog ops Q rest (a.put o.dst v') w') : wpList Try.prog ops Q (o :: rest) a (W.alloc (.cells #[z1, z2] 67)) := by
  subst e1 e2
  obtain ⟨i0, hi, hz0, hz1, hz2⟩ := info_parts Try.info_E
  refine wpList_append_own_at (W.alloc (.cells #[e.kv, e.rv] 67)) hgd s x 57 ho base 67 i0 _ 2 48 Try.underlying57 hi hz0 hz1 hz2 rfl (by decide) v l.length (cellsE l) hs (World.ownsRow.alloc hown _) ⟨W.heap.size, 0, none⟩ 1 1 (cellsE [e]) hx rfl ?_ (cellsE_one [e]) (by simp only [maxLen]; omega) (by omega) (by simp; omega) ?_
  · intro j u hu
    have hb : (W.alloc (.cells #[e.kv, e.rv] 67)).heap[W.heap.size]? = some (.cells #[e.kv, e.rv] 67 (0, 0)) := heap_alloc_new _ _
    exact World.news_of_block hb j u hu
  · intro v' w' h1 h2 _ h4
    have hO : OwnE w' base v' (l ++ [e]) := by
      unfold OwnE
      rw [List.length_append, cellsE_append]
      exact h1
    have hal : Below W.heap.size W (W.alloc (.cells #[e.kv, e.rv] 67)) := (Below.refl _ _).alloc (Nat.le_refl _) _
    refine h v' w' hO ((But.of_below hal).same (But.of_grown h2)) ?_
    rcases h4 with h4 | h4
    · exact .inl h4
    · exact .inr ⟨_, h4, by simp⟩
/-- a key, a row, that Add takes -/
def KeyOk (ks : List Trip) : Prop := ks.length ≤ 200 ∧ ks.any pBad = false ∧ (∀ t ∈ ks, t.2.2.size ≤ 65536 ∧ In64 t.2.1) ∧ sumP ks ≤ 1048576
def RowOk (rs : List Trip) : Prop := rs.length ≤ 200 ∧ rs.any pBad = false ∧ (∀ t ∈ rs, t.2.2.size ≤ 65536 ∧ In64 t.2.1) ∧ (headL rs).length + sumB rs ≤ 1048576
theorem far_own {w : World} {base : Nat} {v : Value} {l : List En} (h : OwnE w base v l) : Far w (fun k => some k = v.ownBlock) := by
  intro k hk
  obtain ⟨cur, hc, _⟩ := h.heap k hk
  exact ⟨_, _, _, hc, .inr (.inl rfl)⟩
/-- what Add leaves -/
theorem Sor.added {w w3 : World} {lo s : Nat} {va vr v' : Value} {o : So} {e : En} (h : Sor w lo s va vr o) (ho : OwnE w3 lo v' (o.E ++ [e])) (hb : But (fun k => some k = va.ownBlock) w w3) (hv : v'.ownBlock = va.ownBlock ∨ ∃ g, v'.ownBlock = some g ∧ w.heap.size ≤ g) (he : EnB w e) :
    (∀ j, w3.cell? ⟨s, j, none⟩ = w.cell? ⟨s, j, none⟩) ∧ w3.frozen? ⟨s, 4, none⟩ = false ∧ Sor (w3.setCell ⟨s, 4, none⟩ v') lo s v' vr { o with E := o.E ++ [e] } ∧ But (Ft s va) w (w3.setCell ⟨s, 4, none⟩ v') := by
  have hf1 := h.far
  have hl := h.lo
  obtain ⟨D, dc, hs, hlo, hd, hO, hE, hr, hrb⟩ := h
  have hfo := far_own hO
  have hns : ¬ some s = va.ownBlock := by
    intro e
    obtain ⟨cur, hc, _⟩ := hO.heap s e
    have := hs.symm.trans hc
    simp only [Option.some.injEq, Obj.cells.injEq] at this
    exact absurd this.2.1 (by decide)
  have hs3 : w3.heap[s]? = some (.cells (soCells s D dc va vr o) 60 (0, 0)) := (hb.block s (heap_lt hs) hns).trans hs
  have hns' : ¬ some s = v'.ownBlock := by
    intro e
    rcases hv with hv | ⟨g, hv, hg⟩
    · exact hns (e.trans hv)
    · rw [hv] at e
      have := heap_lt hs
      injection e with e
      omega
  have hset : But (fun k => k = s) w3 (w3.setCell ⟨s, 4, none⟩ v') := (But.refl (fun k => k = s) w3).set ⟨s, 4, none⟩ rfl v'
  have hfs : Far w3 (fun k => k = s) := fun k hk => by subst hk; exact ⟨_, _, _, hs3, .inl rfl⟩
  have hall : But (Ft s va) w (w3.setCell ⟨s, 4, none⟩ v') := (hb.more (fun k hk => .inr hk)).trans hset fun k hk => .inl (.inl hk)
  refine ⟨fun j => hb.cell hns (heap_lt hs), frozen_of_row w3 s 4 _ _ hs3, ⟨D, dc, ?_, hlo, hd.but hall hf1, ownsRow_but ho hset (fun k hk e => hns' (by rw [← e]; exact hk)), fun x hx => ?_, hr.but hall hf1, fun r hm => (hrb r hm).but hall hf1⟩, hall⟩
  · rw [heap_setCell_same w3 s 4 _ _ v' hs3]
    rfl
  · rcases List.mem_append.1 hx with hx | hx
    · exact (hE x hx).but hall hf1
    · obtain rfl : x = e := by simpa using hx
      exact he.but hall hf1
set_option maxRecDepth 100000 in
set_option maxHeartbeats 1000000 in
theorem Add_ok {w : World} {lo s : Nat} {va vr : Value} {o : So} (h : Sor w lo s va vr o) (hsr : o.srt = false) (hlo : lo ≤ w.heap.size) (A : Option Addr) (ca : Nat) (ks : List Trip) (B : Option Addr) (cb : Nat) (rs : List Trip) (hK : RdR w w.heap.size A ks) (hR : RdR w w.heap.size B rs)
    (hk : KeyOk ks) (hr : RowOk rs) (hd : o.ds.length = ks.length) (hE : o.E.length < 65536) (nk nr : Nat) (hnk : nk = ks.length) (hnr : nr = rs.length) :
    Calls Try.prog 7 #[.pointer (some ⟨s, 0, none⟩), .slice A nk ca, .slice B nr cb] w fun e w' => e = .returned (.int .i64 0) ∧
      ∃ va' en, en.kb = keyL ks o.ds ∧ en.rb = putL rs ∧ Sor w' lo s va' vr { o with E := o.E ++ [en] } ∧ (va'.ownBlock = va.ownBlock ∨ ∃ g, va'.ownBlock = some g ∧ w.heap.size ≤ g) ∧ But (Ft s va) w w' := by
  subst hnk hnr
  obtain ⟨D, dc, hF, _, c1, _⟩ := h.cells
  obtain ⟨Ae, ce, hva, hce, _, _⟩ := (show OwnE w lo va o.E from by obtain ⟨_, _, _, _, _, ho, _⟩ := h; exact ho).form
  have H0 := Lib.hid h
  have HF := Lib.hid hF
  have HSR := Lib.hid hsr
  obtain ⟨ne, hne⟩ : ∃ n, o.E.length = n := ⟨_, rfl⟩
  obtain ⟨zn, hzn⟩ : ∃ z : Int, (ne : Int) = z := ⟨_, rfl⟩
  have q2 : decide ((65536 : Int) ≤ zn) = false := decide_eq_false (by omega)
  rw [hne] at hva
  have HZN := Lib.hid hzn
  have HNE := Lib.hid hne
  have HEL := Lib.hid hE
  have HCE := Lib.hid hce
  clear hzn hne hE hce
  have HDS := Lib.hid hd
  have HVA := Lib.hid hva
  clear h hF hsr hva hd
  go_enter Try.func7, Try.ntmps7
  go_wp2_with fail
  refine (missing_any H0.out false).mono ?_
  rintro e w0 ⟨rfl, rfl⟩
  rw [HSR.out]
  go_wp2_with fail
  refine (Key_ok A ca ks D dc o.ds _ hK HF.out.rd hk.1 HDS.out hk.2.1 hk.2.2.1 hk.2.2.2).mono ?_
  rintro e w1 ⟨vk, rfl, hok, hb1⟩
  obtain ⟨kA, kc, rfl, hk1, hk2, _⟩ := hok.form
  have HOK := Lib.hid hok
  have H1 := Lib.hid (H0.out.on hb1)
  have HB1 := Lib.hid hb1
  clear hok hb1
  go_wp2_with fail
  have hR1 : RdR w1 w1.heap.size B rs := hR.on HB1.out
  refine (Put_ok B cb rs _ hR1 hr.1 hr.2.1 hr.2.2.1 hr.2.2.2).mono ?_
  rintro e w2 ⟨vr2, rfl, hor, hb2⟩
  obtain ⟨rA, rc, rfl, hr1, hr2, _⟩ := hor.form
  have H2 := Lib.hid (H1.out.on hb2)
  have HOR := Lib.hid hor
  have HB2 := Lib.hid hb2
  have HOK2 := Lib.hid (HOK.out.below hb2)
  have HSZ := Lib.hid (Nat.le_trans hlo (Nat.le_trans HB1.out.size hb2.size))
  clear hor hb2
  obtain ⟨D2, dc2, _, _, _, _, _, c4, _, _, hfr⟩ := H2.out.cells
  have f4 := hfr 4
  clear hfr
  rw [HVA.out] at c4
  have hzn := HZN.out
  have HOE := Lib.hid (show OwnE w2 lo (.slice Ae ne ce) o.E from by rw [← HVA.out]; obtain ⟨_, _, _, _, _, ho, _⟩ := H2.out; exact ho)
  obtain ⟨en, hen⟩ : ∃ en : En, en = ⟨kA, kc, keyL ks o.ds, rA, rc, putL rs⟩ := ⟨_, rfl⟩
  have HEN := Lib.hid (show Value.slice kA (keyL ks o.ds).length kc = en.kv ∧ Value.slice rA (putL rs).length rc = en.rv by rw [hen]; exact ⟨rfl, rfl⟩)
  have HEB := Lib.hid (show EnB w2 en by
    rw [hen]
    unfold maxLen at hk2 hr2
    exact ⟨OkB.of_own HOK2.out, hk1, by omega, OkB.of_own HOR.out, hr1, by omega⟩)
  have HKR := Lib.hid (show en.kb = keyL ks o.ds ∧ en.rb = putL rs by rw [hen]; exact ⟨rfl, rfl⟩)
  clear hen
  go_wp2_with (at_builtin; refine wpList_app1E rfl (.tmp 46) (.tmp 50) rfl lo (.slice Ae ne ce) o.E rfl HOE.out _ _ en HEN.out.1 HEN.out.2 rfl (by have := HEL.out; omega) HSZ.out ?_; intro v3 w3 ho3 hb3 hv3; obtain ⟨A3, c3, rfl, z1, z2, z3⟩ := ho3.form; clear z1 z2 z3; generalize hn3 : (o.E ++ [en]).length = n3 at ho3 hv3 ⊢; clear hn3; have HAD := Lib.hid (Sor.added H2.out ho3 (by rw [HVA.out]; exact hb3) (by rw [HVA.out]; exact hv3) HEB.out); have c43 := (HAD.out.1 4).trans c4; have f43 := HAD.out.2.1; have HV3 := Lib.hid hv3; clear ho3 hb3 hv3)
  go_ret
  refine ⟨rfl, _, en, HKR.out.1, HKR.out.2, HAD.out.2.2.1, ?_, ?_⟩
  · rcases HV3.out with h | ⟨g, h, hg⟩
    · exact .inl (h.trans (by rw [HVA.out]))
    · exact .inr ⟨g, h, Nat.le_trans (Nat.le_trans HB1.out.size HB2.out.size) hg⟩
  · exact ((But.of_below HB1.out).same (But.of_below HB2.out)).same HAD.out.2.2.2
end Go.Proofs.Ytdhdfeiobjmdaaa

namespace Go.Proofs.Ytdhdfeiobjmdaaa
open Go.ChangeShapes Go.WideShapes Go.ChangeAt Go.RowKit
set_option linter.unusedVariables false

theorem inOrder_same (A : Option Addr) (n c : Nat) (w : World) (h2 : n < 2) :
    Calls Try.prog 36 #[.slice A n c, .func (.func 37) #[] #[]] w fun e w' => e = .returned (.slice A n c) ∧ w' = w := by
  have q1 : decide ((n : Int) < 2) = true := decide_eq_true (by omega)
  have q0 : (n : Int) < 2 := by omega
  go_enter Try.func36, Try.ntmps36
  go_wp2_with fail
  go_ret
  exact ⟨rfl, rfl⟩
theorem Compact_same (A : Option Addr) (n c : Nat) (w : World) (h2 : n < 2) :
    Calls Try.prog 39 #[.slice A n c, .func (.func 40) #[] #[]] w fun e w' => e = .returned (.slice A n c) ∧ w' = w := by
  have q1 : decide ((n : Int) < 2) = true := decide_eq_true (by omega)
  have q0 : (n : Int) < 2 := by omega
  go_enter Try.func39, Try.ntmps39
  go_wp2_with fail
  go_ret
  exact ⟨rfl, rfl⟩
theorem cmpct_short {α : Type} (q : α → α → Bool) (l : List α) (h : l.length < 2) : cmpct q l = l := by
  match l, h with
  | [], _ => rfl
  | [x], _ => rfl
theorem inOrder_own {w : World} {lo : Nat} {A : Option Addr} {n c : Nat} {l : List En} (hO : OwnE w lo (.slice A n c) l) (hn : n = l.length) (hok : ∀ e ∈ l, EnOk w w.heap.size e) (hl : l.length ≤ 1048576) (hlo : lo ≤ w.heap.size) :
    Calls Try.prog 36 #[.slice A n c, .func (.func 37) #[] #[]] w fun e w' => ∃ v, e = .returned v ∧ OwnE w' lo v (srt ltE l) ∧ (2 ≤ l.length → OwnE w' w.heap.size v (srt ltE l)) ∧ Below w.heap.size w w' := by
  by_cases h2 : l.length < 2
  · refine (inOrder_same A n c w (by omega)).mono ?_
    rintro e w' ⟨rfl, rfl⟩
    refine ⟨_, rfl, ?_, fun h => by omega, Below.refl _ _⟩
    rw [srt_short ltE l h2]
    exact hO
  · obtain ⟨A', c', e0, h0, h1, h3⟩ := hO.form
    simp only [Value.slice.injEq] at e0
    obtain ⟨rfl, _, rfl⟩ := e0
    refine (inOrder_any l.length A n c l w hn h3 h0 (by unfold maxLen at h1; omega) hok hl (Nat.le_refl _)).mono ?_
    rintro e w' ⟨A1, c1, rfl, _, _, _, ho, hb⟩
    have ho2 := ho (by rw [srt_length]; omega)
    exact ⟨_, rfl, ho2.mono hlo, fun _ => ho2, hb⟩
theorem Compact_own {w w1 : World} {lo : Nat} {v : Value} {l : List En} (hO : OwnE w1 lo v l) (hO2 : 2 ≤ l.length → OwnE w1 w.heap.size v l) (hok : ∀ e ∈ l, EnOk w1 w.heap.size e) (hl : l.length ≤ 1048576) (hlo : lo ≤ w.heap.size) (hw : w.heap.size ≤ w1.heap.size) :
    Calls Try.prog 39 #[v, .func (.func 40) #[] #[]] w1 fun e w' => ∃ v', e = .returned v' ∧ OwnE w' lo v' (cmpct sameE l) ∧ Below w.heap.size w1 w' := by
  by_cases h2 : l.length < 2
  · obtain ⟨A', c', rfl, h0, h1, h3⟩ := hO.form
    refine (Compact_same A' l.length c' w1 h2).mono ?_
    rintro e w' ⟨rfl, rfl⟩
    refine ⟨_, rfl, ?_, Below.refl _ _⟩
    rw [cmpct_short sameE l h2]
    exact hO
  · have ho := hO2 (by omega)
    have ho' := ho
    obtain ⟨h1, h3⟩ := ho'
    rcases h3 with ⟨_, h0⟩ | ⟨g, cap, cur, rfl, hg, hh, hc, hm, hs, ht⟩
    · omega
    · refine (Compact_any g cap w.heap.size l w1 ho hw (by unfold maxLen at hm; omega) hok (by omega) hl).mono ?_
      rintro e w' ⟨v', rfl, ho3, hb⟩
      exact ⟨v', rfl, ho3.mono hlo, hb⟩
/-- the rows of the list as far as they are laid -/
def rowAt (L : List En) (i j : Nat) : Value := if j < i then (L[j]?.map En.rv).getD (Value.slice none 0 0) else Value.slice none 0 0
def rowsArr (L : List En) (i : Nat) : Array Value := ((List.range L.length).map (rowAt L i)).toArray
theorem rowsArr_get? (L : List En) (i j : Nat) : (rowsArr L i)[j]? = if j < L.length then some (rowAt L i j) else none := by
  unfold rowsArr
  rw [List.getElem?_toArray, List.getElem?_map]
  by_cases h : j < L.length
  · rw [if_pos h, List.getElem?_range h]; rfl
  · rw [if_neg h, List.getElem?_eq_none (by simpa using h)]; rfl
theorem rowsArr_size (L : List En) (i : Nat) : (rowsArr L i).size = L.length := by simp [rowsArr]
theorem rowsArr_set (L : List En) (i : Nat) (e : En) (hi : L[i]? = some e) : (rowsArr L i).setIfInBounds i e.rv = rowsArr L (i + 1) := by
  have hlt := (List.getElem?_eq_some_iff.1 hi).1
  apply Array.ext_getElem?
  intro j
  rw [Array.getElem?_setIfInBounds, rowsArr_get?, rowsArr_get?, rowsArr_size]
  by_cases h : i = j
  · subst h
    rw [if_pos rfl, if_pos hlt, if_pos hlt]
    unfold rowAt
    rw [if_pos (by omega), hi]
    rfl
  · rw [if_neg h]
    by_cases h2 : j < L.length
    · rw [if_pos h2, if_pos h2]
      unfold rowAt
      by_cases h3 : j < i
      · rw [if_pos h3, if_pos (by omega)]
      · rw [if_neg h3, if_neg (by omega)]
    · rw [if_neg h2, if_neg h2]
theorem rowsArr_zero (L : List En) : rowsArr L 0 = madeCells #[Value.slice none 0 0] L.length := by
  apply Array.ext_getElem?
  intro j
  rw [rowsArr_get?]
  by_cases h : j < L.length
  · rw [if_pos h]
    simp [madeCells, h, rowAt, Nat.mod_one]
  · rw [if_neg h]
    simp [madeCells, h]
theorem rowsArr_nil (L : List En) (i : Nat) (hi : i < L.length) : (rowsArr L i)[i]? = some (Value.slice none 0 0) := by
  rw [rowsArr_get?, if_pos hi]
  unfold rowAt
  rw [if_neg (by omega)]
theorem rowsArr_all (L : List En) (j : Nat) (e : En) (hj : L[j]? = some e) : (rowsArr L L.length)[j]? = some e.rv := by
  have hlt := (List.getElem?_eq_some_iff.1 hj).1
  rw [rowsArr_get?, if_pos hlt]
  unfold rowAt
  rw [if_pos hlt, hj]
  rfl
def SrtRel (w4 : World) (gr : Nat) (L : List En) (v : Value) (wr : World) : Prop :=
  ∃ i : Nat, v = .int .i64 (i : Int) ∧ i ≤ L.length ∧ But (fun k => k = gr) w4 wr ∧ wr.heap[gr]? = some (.cells (rowsArr L i) 62 (0, 0))
theorem Try.info_Y : (Try.prog.info? 62).map (fun i => (i.zero, i.size, i.bytes)) = some (some (.slice none 0 0), 1, 24) := by kernel_rfl
theorem run_makeY (n : Nat) (hn : n ≤ 1000000) (w : World) : (Instr.makeSlice 58 (.int .i64 (n : Int)) (.int .i64 (n : Int))).run Try.prog w = .ok (.slice (some ⟨w.heap.size, 0, none⟩) n n) (w.alloc (.cells (madeCells #[.slice none 0 0] n) 62)) := by
  obtain ⟨i0, hi, hz0, hz1, hz2⟩ := info_parts Try.info_Y
  have h := run_make (P := Try.prog) w 58 62 i0 (.slice none 0 0) Try.underlying58 hi hz0 .i64 .i64 (n : Int) (n : Int) (by omega) (by omega) (by rw [hz2]; omega) (by omega)
  rw [h, hz1]
  have e2 : ((n : Int)).toNat = n := by omega
  rw [e2, Nat.mul_one]
  rfl
/-- behind 's.rows = make(..)' -/
def SMid (w2 w4 : World) (lo s gr : Nat) (va v : Value) (o : So) (L : List En) : Prop :=
  ∃ D dc, w4.heap[s]? = some (.cells (soCells s D dc va (.slice (some ⟨gr, 0, none⟩) L.length L.length) o) 60 (0, 0)) ∧ lo ≤ s ∧ OkF w4 D o.ds ∧ OwnE w4 lo v L ∧ (∀ e ∈ L, EnB w4 e) ∧ But (fun k => k = s) w2 w4 ∧
    w4.heap[gr]? = some (.cells (rowsArr L 0) 62 (0, 0)) ∧ s ≠ gr ∧ w2.heap.size ≤ gr
theorem sort_mid {w2 : World} {lo s : Nat} {va vr v : Value} {o : So} {L : List En} (h : Sor w2 lo s va vr o) (ho : OwnE w2 lo v L) (he : ∀ e ∈ L, EnB w2 e) (n : Nat) (hn : L.length = n) :
    SMid w2 ((w2.alloc (.cells (madeCells #[.slice none 0 0] n) 62)).setCell ⟨s, 5, none⟩ (.slice (some ⟨w2.heap.size, 0, none⟩) n n)) lo s w2.heap.size va v o L := by
  subst hn
  have hal : Below w2.heap.size w2 (w2.alloc (.cells (madeCells #[.slice none 0 0] L.length) 62)) := (Below.refl _ _).alloc (Nat.le_refl _) _
  have hf := far_none w2
  obtain ⟨D, dc, hs, hlo, hd, hO, hE, hr, hrb⟩ := h
  have hsl := heap_lt hs
  have hs3 := (hal.block s hsl).trans hs
  have hfs : Far (w2.alloc (.cells (madeCells #[.slice none 0 0] L.length) 62)) (fun k => k = s) := fun k hk => by subst hk; exact ⟨_, _, _, hs3, .inl rfl⟩
  have hfs2 : Far w2 (fun k => k = s) := fun k hk => by subst hk; exact ⟨_, _, _, hs, .inl rfl⟩
  have hset := (But.refl (fun k => k = s) (w2.alloc (.cells (madeCells #[.slice none 0 0] L.length) 62))).set ⟨s, 5, none⟩ rfl (.slice (some ⟨w2.heap.size, 0, none⟩) L.length L.length)
  have hall := (But.of_below (P := fun k => k = s) hal).same hset
  have hns : ∀ k, some k = v.ownBlock → ¬ k = s := fun k hk e => by
    obtain ⟨cur, hc, _⟩ := ho.heap k hk
    rw [e, hs] at hc
    simp only [Option.some.injEq, Obj.cells.injEq] at hc
    exact absurd hc.2.1 (by decide)
  refine ⟨D, dc, ?_, hlo, hd.but hall hfs2, ownsRow_but ho hall hns, fun e hm => (he e hm).but hall hfs2, hall, ?_, by omega, Nat.le_refl _⟩
  · rw [heap_setCell_same _ s 5 _ _ _ hs3]
    rfl
  · rw [Below.heap_setCell _ ⟨s, 5, none⟩ _ _ (show w2.heap.size ≠ s by omega), rowsArr_zero]
    exact heap_alloc_new _ _
theorem sort_round {w2 w4 wr : World} {lo s gr : Nat} {va v : Value} {o : So} {L : List En} (h : SMid w2 w4 lo s gr va v o L) (hb : But (fun k => k = gr) w4 wr) :
    OwnE wr lo v L ∧ wr.cell? ⟨s, 5, none⟩ = some (.slice (some ⟨gr, 0, none⟩) L.length L.length) ∧ s < wr.heap.size ∧ gr < wr.heap.size := by
  obtain ⟨D, dc, hs, hlo, hd, hO, hE, hb2, hg4, hne, hge⟩ := h
  have hsr : wr.heap[s]? = _ := (hb.block s (heap_lt hs) hne).trans hs
  refine ⟨ownsRow_but hO hb (fun k hk e => ?_), by rw [cell_of_row wr s _ _ _ _ hsr]; rfl, heap_lt hsr, Nat.lt_of_lt_of_le (heap_lt hg4) hb.size⟩
  obtain ⟨cur, hc, _⟩ := hO.heap k hk
  rw [e, hg4] at hc
  simp only [Option.some.injEq, Obj.cells.injEq] at hc
  exact absurd hc.2.1 (by decide)
theorem sort_end {w2 w4 wr : World} {lo s gr : Nat} {va v : Value} {o : So} {L : List En} (h : SMid w2 w4 lo s gr va v o L) (hb : But (fun k => k = gr) w4 wr) (hg : wr.heap[gr]? = some (.cells (rowsArr L L.length) 62 (0, 0))) :
    wr.cell? ⟨s, 4, none⟩ = some va ∧ wr.frozen? ⟨s, 4, none⟩ = false ∧ wr.cell? ⟨s, 3, none⟩ = some (.bool o.srt) ∧ wr.frozen? ⟨s, 3, none⟩ = false ∧
    Sor ((wr.setCell ⟨s, 4, none⟩ (.slice none 0 0)).setCell ⟨s, 3, none⟩ (.bool true)) lo s (.slice none 0 0) (.slice (some ⟨gr, 0, none⟩) L.length L.length) { o with srt := true, E := [], R := L.map En.row } ∧
    But (fun k => k = s) w2 ((wr.setCell ⟨s, 4, none⟩ (.slice none 0 0)).setCell ⟨s, 3, none⟩ (.bool true)) := by
  obtain ⟨D, dc, hs, hlo, hd, hO, hE, hb2, hg4, hne, hge⟩ := h
  have hsr : wr.heap[s]? = _ := (hb.block s (heap_lt hs) hne).trans hs
  have hset : But (fun k => k = s) wr ((wr.setCell ⟨s, 4, none⟩ (.slice none 0 0)).setCell ⟨s, 3, none⟩ (.bool true)) := ((But.refl (fun k => k = s) wr).set ⟨s, 4, none⟩ rfl _).set ⟨s, 3, none⟩ rfl _
  have hfg : Far w4 (fun k => k = s) := fun k hk => by subst hk; exact ⟨_, _, _, hs, .inl rfl⟩
  have hfr : Far wr (fun k => k = s) := fun k hk => by subst hk; exact ⟨_, _, _, hsr, .inl rfl⟩
  have notg : ∀ {g : Nat} {cur : Array Value} {t : TypeId} {fr : Nat × Nat}, w4.heap[g]? = some (.cells cur t fr) → t ≠ 62 → ¬ g = gr := fun hh ht e => by
    rw [e, hg4] at hh
    simp only [Option.some.injEq, Obj.cells.injEq] at hh
    exact ht hh.2.1.symm
  have okb : ∀ {A : Option Addr} {l : List UInt8}, OkB w4 A l → OkB wr A l := fun hk hp => by
    obtain ⟨g, cur, fr, e, h1, h2⟩ := hk hp
    have hn := notg h1 (by decide)
    exact ⟨g, cur, fr, e, (hb.block g (heap_lt h1) hn).trans h1, fun j u hj => (hb.cell hn (heap_lt h1)).trans (h2 j u hj)⟩
  have okf : OkF wr D o.ds := fun hp => by
    obtain ⟨g, cur, fr, e, h1, h2⟩ := hd hp
    have hn := notg h1 (by decide)
    exact ⟨g, cur, fr, e, (hb.block g (heap_lt h1) hn).trans h1, fun j u hj => (hb.cell hn (heap_lt h1)).trans (h2 j u hj)⟩
  refine ⟨by rw [cell_of_row wr s _ _ _ _ hsr]; rfl, frozen_of_row wr s 4 _ _ hsr, by rw [cell_of_row wr s _ _ _ _ hsr]; rfl, frozen_of_row wr s 3 _ _ hsr, ⟨D, dc, ?_, hlo, okf.but hset hfr, World.ownsRow_nil _ _ _ 2, (fun e he => by cases he), ?_, fun r hr => ?_⟩, ?_⟩
  · rw [heap_setCell_same _ s 3 _ _ _ (heap_setCell_same wr s 4 _ _ _ hsr)]
    rfl
  · refine ⟨some ⟨gr, 0, none⟩, L.length, by rw [List.length_map], by rw [List.length_map]; exact Nat.le_refl _, fun hp => ⟨gr, _, _, rfl, (hset.block gr (heap_lt hg) (fun e => hne e.symm)).trans hg, fun j r hj => ?_⟩⟩
    rw [List.getElem?_map] at hj
    obtain ⟨e, he, rfl⟩ := Option.map_eq_some_iff.1 hj
    rw [hset.cell (fun e => hne e.symm) (heap_lt hg), cell_of_row wr gr _ _ _ _ hg]
    exact rowsArr_all L j e he
  · obtain ⟨e, he, rfl⟩ := List.mem_map.1 hr
    have h1 := (hE e he).2.2.2
    exact ⟨(okb h1.1).but hset hfr, h1.2⟩
  · exact (hb2.trans hb fun k hk => .inr (by omega)).same hset
set_option maxRecDepth 100000 in
set_option maxHeartbeats 1000000 in
theorem Sort_all {w : World} {lo s : Nat} {va vr : Value} {o : So} (h : Sor w lo s va vr o) (hsr : o.srt = false) (hd : o.dist = false) (hlo : lo ≤ w.heap.size) (hE : o.E.length ≤ 65536) :
    Calls Try.prog 12 #[.pointer (some ⟨s, 0, none⟩)] w fun e w' => e = .returned (.int .i64 0) ∧
      ∃ vr', Sor w' lo s (.slice none 0 0) vr' { o with srt := true, E := [], R := (srt ltE o.E).map En.row } ∧ But (fun k => k = s) w w' := by
  obtain ⟨D, dc, hF, _, _, c2, _, c4, _⟩ := h.cells
  obtain ⟨Ae, ce, hva, hce, _, _⟩ := (show OwnE w lo va o.E from by obtain ⟨_, _, _, _, _, ho, _⟩ := h; exact ho).form
  have HOE := Lib.hid (show OwnE w lo (.slice Ae o.E.length ce) o.E from by rw [← hva]; obtain ⟨_, _, _, _, _, ho, _⟩ := h; exact ho)
  have HEB := Lib.hid (show ∀ e ∈ o.E, EnB w e from by obtain ⟨_, _, _, _, _, _, he, _⟩ := h; exact he)
  have H0 := Lib.hid h
  have HSR := Lib.hid hsr
  have HVA := Lib.hid hva
  rw [hva] at c4
  have HEL := Lib.hid hE
  have HLE := Lib.hid (show (srt ltE o.E).length ≤ 65536 from by rw [srt_length]; exact HEL.out)
  have HLB := Lib.hid (show ∀ e ∈ srt ltE o.E, EnB w e from fun e he => HEB.out e ((srt_perm ltE _ _ (Nat.le_refl _)).mem_iff.1 he))
  clear h hsr hva hE hF hce
  go_enter Try.func12, Try.ntmps12
  go_wp2_with fail
  refine (missing_any H0.out false).mono ?_
  rintro e w0 ⟨rfl, rfl⟩
  rw [HSR.out]
  go_wp2_with fail
  refine (inOrder_own HOE.out rfl (fun e he => (HEB.out e he).ok) (by have := HEL.out; omega) hlo).mono ?_
  rintro e w2 ⟨v1, rfl, ho1, ho2, hb1⟩
  have HO1 := Lib.hid ho1
  have HO2 := Lib.hid ho2
  have HB1 := Lib.hid hb1
  have H1 := Lib.hid (H0.out.on hb1)
  have d2 := (hb1.cell (p := ⟨s, 2, none⟩) (block_lt_of_cell c2)).trans c2
  rw [hd] at d2
  clear ho1 ho2 hb1 c2 c4 hd
  have HO3 := HO1
  have HB2 := HB1
  clear HO2
  obtain ⟨A1, n1, hv1, hn1, hm1, hr1⟩ := HO3.out.form
  subst hv1
  generalize hL : srt ltE o.E = L at *
  have H2 := Lib.hid (H0.out.on HB2.out)
  have HLL := Lib.hid hL
  generalize hn : L.length = n at hn1 ⊢
  have hn2 : n ≤ 65536 := by rw [← hn]; exact HLE.out
  have hmk := run_makeY n (by omega) w2
  have H3 := Lib.hid (H2.out.on ((Below.refl w2.heap.size w2).alloc (Nat.le_refl _) (.cells (madeCells #[.slice none 0 0] n) 62)))
  obtain ⟨D3, dc3, _, _, _, _, _, _, c53, _, hf3⟩ := H3.out.cells
  have f53 := hf3 5
  have HN := Lib.hid hn
  clear hf3 hL hr1 hn
  go_wp2_with fail
  have HLB2 := Lib.hid (fun e he => (HLB.out e he).but (P := fun _ => False) (But.of_below HB2.out) (far_none _))
  have HM0 := Lib.hid (sort_mid H2.out HO3.out HLB2.out n HN.out)
  obtain ⟨w4, hw4⟩ : ∃ w4, (w2.alloc (.cells (madeCells #[.slice none 0 0] n) 62)).setCell ⟨s, 5, none⟩ (.slice (some ⟨w2.heap.size, 0, none⟩) n n) = w4 := ⟨_, rfl⟩
  have HM := Lib.hid (show SMid w2 w4 lo s w2.heap.size va (.slice A1 L.length n1) o L by rw [← hw4]; exact HM0.out)
  rw [hw4]
  clear HM0 hw4 hmk c53 f53
  obtain ⟨gr, hgr⟩ : ∃ gr, w2.heap.size = gr := ⟨_, rfl⟩
  rw [hgr] at HM ⊢
  have HGR := Lib.hid hgr
  clear hgr
  go_loopw [31] (fun v31 wr => SrtRel w4 gr L v31 wr) (fun v31 _ => n - (intOf v31).toNat)
  case atStart =>
    obtain ⟨_, _, _, _, _, _, _, _, hg0, _⟩ := HM.out
    exact ⟨0, rfl, Nat.zero_le _, But.refl _ _, hg0⟩
  case round =>
    obtain ⟨i, rfl, hi, hb, hg⟩ := hrel
    have hnl := HN.out
    by_cases hlt : i < n
    · obtain ⟨e, he⟩ : ∃ e, L[i]? = some e := ⟨L[i]'(by omega), List.getElem?_eq_getElem _⟩
      obtain ⟨ho, r5, rs, rg⟩ := sort_round HM.out hb
      obtain ⟨ge, ce2, hge, _, hgl⟩ := World.ownsRow.form ho (by omega)
      simp only [Value.slice.injEq] at hge
      obtain ⟨rfl, _, rfl⟩ := hge
      obtain ⟨x0, x1⟩ := OwnE.at ho rfl i e he
      have x0' : wr.cell? ⟨ge, i * 2, none⟩ = some (.slice e.kA e.kb.length e.kc) := x0
      have x1' : wr.cell? ⟨ge, i * 2 + 1, none⟩ = some (.slice e.rA e.rb.length e.rc) := x1
      have y5 : (wr.alloc (.cells #[.slice e.kA e.kb.length e.kc, .slice e.rA e.rb.length e.rc] 67)).cell? ⟨s, 5, none⟩ = some (.slice (some ⟨gr, 0, none⟩) n n) := by
        rw [World.cell?_alloc_lt wr _ _ rs, r5, hnl]
      have yg : (wr.alloc (.cells #[.slice e.kA e.kb.length e.kc, .slice e.rA e.rb.length e.rc] 67)).cell? ⟨gr, i, none⟩ = some (.slice none 0 0) := by
        rw [World.cell?_alloc_lt wr _ _ rg, cell_of_row wr gr _ _ _ _ hg]
        exact rowsArr_nil L i (by omega)
      have yf : (wr.alloc (.cells #[.slice e.kA e.kb.length e.kc, .slice e.rA e.rb.length e.rc] 67)).frozen? ⟨gr, i, none⟩ = false := by
        rw [((Below.refl wr.heap.size wr).alloc (Nat.le_refl _) _).frozen (p := ⟨gr, i, none⟩) rg]
        exact frozen_of_row wr gr i _ _ hg
      have q1 : (i : Int) < (n : Int) := by omega
      have q2 : (0 : Int) ≤ (i : Int) := by omega
      have HE := Lib.hid he
      have HBW := Lib.hid hb
      have HG := Lib.hid hg
      clear he hb hg ho x0 x1 r5 hnl
      go_wp2_with fail
      go_region
      all_goals go_wp2_with fail
      refine ⟨⟨i + 1, by go_num, by have := HN.out; omega, ?_, ?_⟩, by simp [intOf]; omega⟩
      · have h1 := HBW.out.set ⟨gr, i, none⟩ rfl (.slice e.rA e.rb.length e.rc)
        have h2 := h1.same (But.of_below (P := fun k => k = gr) ((Below.refl _ _).alloc (Nat.le_refl _) (.cells #[.slice e.kA e.kb.length e.kc, .slice e.rA e.rb.length e.rc] 67)))
        exact ⟨h2.os, h2.tape, h2.output, h2.size, h2.block⟩
      · have h3 := heap_setCell_same wr gr i _ _ (.slice e.rA e.rb.length e.rc) HG.out
        have h4 : (rowsArr L i).setIfInBounds i (.slice e.rA e.rb.length e.rc) = rowsArr L (i + 1) := rowsArr_set L i e HE.out
        rw [h4] at h3
        show ((wr.setCell ⟨gr, i, none⟩ (.slice e.rA e.rb.length e.rc)).alloc _).heap[gr]? = _
        rw [Below.heap_alloc _ _ _ (heap_lt h3)]
        exact h3
    · have q1 : ¬ (i : Int) < (n : Int) := by omega
      obtain rfl : i = n := by omega
      have HEND := Lib.hid (sort_end HM.out hb (by rw [hnl]; exact hg))
      obtain ⟨t1, t2, t3, t4, _, _⟩ := HEND.out
      have t1' : (wr.setCell ⟨s, 4, none⟩ (.slice none 0 0)).cell? ⟨s, 3, none⟩ = some (.bool o.srt) := (World.cell?_setCell_other _ _ _ _ (by simp)).trans t3
      have t2' : (wr.setCell ⟨s, 4, none⟩ (.slice none 0 0)).frozen? ⟨s, 3, none⟩ = false := by rw [World.frozen?_setCell]; exact t4
      rw [HVA.out] at t1
      clear hb hg hnl t3 t4
      go_wp2_with fail
      go_ret
      rw [HLL.out]
      exact ⟨rfl, ⟨_, HEND.out.2.2.2.2.1⟩, (But.of_below HB2.out).same HEND.out.2.2.2.2.2⟩
set_option maxRecDepth 100000 in
set_option maxHeartbeats 1000000 in
theorem Sort_dist {w : World} {lo s : Nat} {va vr : Value} {o : So} (h : Sor w lo s va vr o) (hsr : o.srt = false) (hd : o.dist = true) (hlo : lo ≤ w.heap.size) (hE : o.E.length ≤ 65536) :
    Calls Try.prog 12 #[.pointer (some ⟨s, 0, none⟩)] w fun e w' => e = .returned (.int .i64 0) ∧
      ∃ vr', Sor w' lo s (.slice none 0 0) vr' { o with srt := true, E := [], R := (cmpct sameE (srt ltE o.E)).map En.row } ∧ But (fun k => k = s) w w' := by
  obtain ⟨D, dc, hF, _, _, c2, _, c4, _⟩ := h.cells
  obtain ⟨Ae, ce, hva, hce, _, _⟩ := (show OwnE w lo va o.E from by obtain ⟨_, _, _, _, _, ho, _⟩ := h; exact ho).form
  have HOE := Lib.hid (show OwnE w lo (.slice Ae o.E.length ce) o.E from by rw [← hva]; obtain ⟨_, _, _, _, _, ho, _⟩ := h; exact ho)
  have HEB := Lib.hid (show ∀ e ∈ o.E, EnB w e from by obtain ⟨_, _, _, _, _, _, he, _⟩ := h; exact he)
  have H0 := Lib.hid h
  have HSR := Lib.hid hsr
  have HVA := Lib.hid hva
  rw [hva] at c4
  have HEL := Lib.hid hE
  have HLE := Lib.hid (show (cmpct sameE (srt ltE o.E)).length ≤ 65536 from by exact Nat.le_trans (cmpct_length _ _) (by rw [srt_length]; exact HEL.out))
  have HLB := Lib.hid (show ∀ e ∈ cmpct sameE (srt ltE o.E), EnB w e from fun e he => HEB.out e ((srt_perm ltE _ _ (Nat.le_refl _)).mem_iff.1 (cmpct_mem _ _ _ he)))
  clear h hsr hva hE hF hce
  go_enter Try.func12, Try.ntmps12
  go_wp2_with fail
  refine (missing_any H0.out false).mono ?_
  rintro e w0 ⟨rfl, rfl⟩
  rw [HSR.out]
  go_wp2_with fail
  refine (inOrder_own HOE.out rfl (fun e he => (HEB.out e he).ok) (by have := HEL.out; omega) hlo).mono ?_
  rintro e w1 ⟨v1, rfl, ho1, ho2, hb1⟩
  have HO1 := Lib.hid ho1
  have HO2 := Lib.hid ho2
  have HB1 := Lib.hid hb1
  have H1 := Lib.hid (H0.out.on hb1)
  have d2 := (hb1.cell (p := ⟨s, 2, none⟩) (block_lt_of_cell c2)).trans c2
  rw [hd] at d2
  clear ho1 ho2 hb1 c2 c4 hd
  go_wp2_with fail
  refine (Compact_own HO1.out (fun h => HO2.out (by rw [srt_length] at h; exact h)) (fun e he => ((HEB.out e ((srt_perm ltE _ _ (Nat.le_refl _)).mem_iff.1 he)).ok.below HB1.out)) (by rw [srt_length]; have := HEL.out; omega) hlo HB1.out.size).mono ?_
  rintro e w2 ⟨v2, rfl, ho3, hb2⟩
  have HO3 := Lib.hid ho3
  have HB2 := Lib.hid (HB1.out.trans hb2)
  clear ho3 hb2
  obtain ⟨A1, n1, hv1, hn1, hm1, hr1⟩ := HO3.out.form
  subst hv1
  generalize hL : cmpct sameE (srt ltE o.E) = L at *
  have H2 := Lib.hid (H0.out.on HB2.out)
  have HLL := Lib.hid hL
  generalize hn : L.length = n at hn1 ⊢
  have hn2 : n ≤ 65536 := by rw [← hn]; exact HLE.out
  have hmk := run_makeY n (by omega) w2
  have H3 := Lib.hid (H2.out.on ((Below.refl w2.heap.size w2).alloc (Nat.le_refl _) (.cells (madeCells #[.slice none 0 0] n) 62)))
  obtain ⟨D3, dc3, _, _, _, _, _, _, c53, _, hf3⟩ := H3.out.cells
  have f53 := hf3 5
  have HN := Lib.hid hn
  clear hf3 hL hr1 hn
  go_wp2_with fail
  have HLB2 := Lib.hid (fun e he => (HLB.out e he).but (P := fun _ => False) (But.of_below HB2.out) (far_none _))
  have HM0 := Lib.hid (sort_mid H2.out HO3.out HLB2.out n HN.out)
  obtain ⟨w4, hw4⟩ : ∃ w4, (w2.alloc (.cells (madeCells #[.slice none 0 0] n) 62)).setCell ⟨s, 5, none⟩ (.slice (some ⟨w2.heap.size, 0, none⟩) n n) = w4 := ⟨_, rfl⟩
  have HM := Lib.hid (show SMid w2 w4 lo s w2.heap.size va (.slice A1 L.length n1) o L by rw [← hw4]; exact HM0.out)
  rw [hw4]
  clear HM0 hw4 hmk c53 f53
  obtain ⟨gr, hgr⟩ : ∃ gr, w2.heap.size = gr := ⟨_, rfl⟩
  rw [hgr] at HM ⊢
  have HGR := Lib.hid hgr
  clear hgr
  go_loopw [31] (fun v31 wr => SrtRel w4 gr L v31 wr) (fun v31 _ => n - (intOf v31).toNat)
  case atStart =>
    obtain ⟨_, _, _, _, _, _, _, _, hg0, _⟩ := HM.out
    exact ⟨0, rfl, Nat.zero_le _, But.refl _ _, hg0⟩
  case round =>
    obtain ⟨i, rfl, hi, hb, hg⟩ := hrel
    have hnl := HN.out
    by_cases hlt : i < n
    · obtain ⟨e, he⟩ : ∃ e, L[i]? = some e := ⟨L[i]'(by omega), List.getElem?_eq_getElem _⟩
      obtain ⟨ho, r5, rs, rg⟩ := sort_round HM.out hb
      obtain ⟨ge, ce2, hge, _, hgl⟩ := World.ownsRow.form ho (by omega)
      simp only [Value.slice.injEq] at hge
      obtain ⟨rfl, _, rfl⟩ := hge
      obtain ⟨x0, x1⟩ := OwnE.at ho rfl i e he
      have x0' : wr.cell? ⟨ge, i * 2, none⟩ = some (.slice e.kA e.kb.length e.kc) := x0
      have x1' : wr.cell? ⟨ge, i * 2 + 1, none⟩ = some (.slice e.rA e.rb.length e.rc) := x1
      have y5 : (wr.alloc (.cells #[.slice e.kA e.kb.length e.kc, .slice e.rA e.rb.length e.rc] 67)).cell? ⟨s, 5, none⟩ = some (.slice (some ⟨gr, 0, none⟩) n n) := by
        rw [World.cell?_alloc_lt wr _ _ rs, r5, hnl]
      have yg : (wr.alloc (.cells #[.slice e.kA e.kb.length e.kc, .slice e.rA e.rb.length e.rc] 67)).cell? ⟨gr, i, none⟩ = some (.slice none 0 0) := by
        rw [World.cell?_alloc_lt wr _ _ rg, cell_of_row wr gr _ _ _ _ hg]
        exact rowsArr_nil L i (by omega)
      have yf : (wr.alloc (.cells #[.slice e.kA e.kb.length e.kc, .slice e.rA e.rb.length e.rc] 67)).frozen? ⟨gr, i, none⟩ = false := by
        rw [((Below.refl wr.heap.size wr).alloc (Nat.le_refl _) _).frozen (p := ⟨gr, i, none⟩) rg]
        exact frozen_of_row wr gr i _ _ hg
      have q1 : (i : Int) < (n : Int) := by omega
      have q2 : (0 : Int) ≤ (i : Int) := by omega
      have HE := Lib.hid he
      have HBW := Lib.hid hb
      have HG := Lib.hid hg
      clear he hb hg ho x0 x1 r5 hnl
      go_wp2_with fail
      go_region
      all_goals go_wp2_with fail
      refine ⟨⟨i + 1, by go_num, by have := HN.out; omega, ?_, ?_⟩, by simp [intOf]; omega⟩
      · have h1 := HBW.out.set ⟨gr, i, none⟩ rfl (.slice e.rA e.rb.length e.rc)
        have h2 := h1.same (But.of_below (P := fun k => k = gr) ((Below.refl _ _).alloc (Nat.le_refl _) (.cells #[.slice e.kA e.kb.length e.kc, .slice e.rA e.rb.length e.rc] 67)))
        exact ⟨h2.os, h2.tape, h2.output, h2.size, h2.block⟩
      · have h3 := heap_setCell_same wr gr i _ _ (.slice e.rA e.rb.length e.rc) HG.out
        have h4 : (rowsArr L i).setIfInBounds i (.slice e.rA e.rb.length e.rc) = rowsArr L (i + 1) := rowsArr_set L i e HE.out
        rw [h4] at h3
        show ((wr.setCell ⟨gr, i, none⟩ (.slice e.rA e.rb.length e.rc)).alloc _).heap[gr]? = _
        rw [Below.heap_alloc _ _ _ (heap_lt h3)]
        exact h3
    · have q1 : ¬ (i : Int) < (n : Int) := by omega
      obtain rfl : i = n := by omega
      have HEND := Lib.hid (sort_end HM.out hb (by rw [hnl]; exact hg))
      obtain ⟨t1, t2, t3, t4, _, _⟩ := HEND.out
      have t1' : (wr.setCell ⟨s, 4, none⟩ (.slice none 0 0)).cell? ⟨s, 3, none⟩ = some (.bool o.srt) := (World.cell?_setCell_other _ _ _ _ (by simp)).trans t3
      have t2' : (wr.setCell ⟨s, 4, none⟩ (.slice none 0 0)).frozen? ⟨s, 3, none⟩ = false := by rw [World.frozen?_setCell]; exact t4
      rw [HVA.out] at t1
      clear hb hg hnl t3 t4
      go_wp2_with fail
      go_ret
      rw [HLL.out]
      exact ⟨rfl, ⟨_, HEND.out.2.2.2.2.1⟩, (But.of_below HB2.out).same HEND.out.2.2.2.2.2⟩
end Go.Proofs.Ytdhdfeiobjmdaaa

namespace Go.Proofs.Ytdhdfeiobjmdaaa
open Go.ChangeShapes Go.WideShapes Go.ChangeAt Go.RowKit
set_option linter.unusedVariables false

/-- what a store to a cell of the sorter leaves -/
theorem Sor.setAt {w : World} {lo s : Nat} {va vr : Value} {o : So} (h : Sor w lo s va vr o) (k : Nat) :
    Sor (w.setCell ⟨s, 6, none⟩ (.int .i64 (k : Int))) lo s va vr { o with at_ := k } ∧ But (fun k => k = s) w (w.setCell ⟨s, 6, none⟩ (.int .i64 (k : Int))) := by
  have hset : But (fun k => k = s) w (w.setCell ⟨s, 6, none⟩ (.int .i64 (k : Int))) := (But.refl (fun k => k = s) w).set ⟨s, 6, none⟩ rfl _
  obtain ⟨D, dc, hs, hlo, hd, hO, hE, hr, hrb⟩ := h
  have hf : Far w (fun k => k = s) := fun k hk => by subst hk; exact ⟨_, _, _, hs, .inl rfl⟩
  refine ⟨⟨D, dc, ?_, hlo, hd.but hset hf, ownsRow_but hO hset (fun k hk e => ?_), fun e hm => (hE e hm).but hset hf, hr.but hset hf, fun r hm => (hrb r hm).but hset hf⟩, hset⟩
  · rw [heap_setCell_same _ s 6 _ _ _ hs]
    rfl
  · obtain ⟨cur, hc, _⟩ := hO.heap k hk
    rw [e, hs] at hc
    simp only [Option.some.injEq, Obj.cells.injEq] at hc
    exact absurd hc.2.1 (by decide)
set_option maxRecDepth 100000 in
set_option maxHeartbeats 1000000 in
theorem Next_some {w : World} {lo s : Nat} {va vr : Value} {o : So} (h : Sor w lo s va vr o) (hsr : o.srt = true) (r : Rw) (hr : o.R[o.at_]? = some r) (rs : List Trip) (hg : getN r.b = some rs) (hl : o.R.length ≤ 65536) :
    Calls Try.prog 13 #[.pointer (some ⟨s, 0, none⟩)] w fun e w' => ∃ v, e = .returned (.tuple #[v, .bool true]) ∧ OwnR w' w.heap.size v rs ∧ Sor w' lo s va vr { o with at_ := o.at_ + 1 } ∧ But (fun k => k = s) w w' := by
  have H0 := Lib.hid h
  obtain ⟨D, dc, _, _, _, _, _, _, c5, c6, _⟩ := h.cells
  obtain ⟨_, _, _, _, _, _, _, hrows, hrb⟩ := h
  obtain ⟨A, c, rfl, hc, hcell⟩ := hrows
  have hk := (List.getElem?_eq_some_iff.1 hr).1
  obtain ⟨g, cur, fr, rfl, hgh, hcl⟩ := hcell (by omega)
  have x0 : w.cell? ⟨g, o.at_, none⟩ = some (.slice r.A r.b.length r.c) := hcl _ _ hr
  have HRB := Lib.hid (hrb r (List.mem_of_getElem? hr))
  have HG := Lib.hid hg
  have HSR := Lib.hid hsr
  generalize o.at_ = k at *
  generalize o.R.length = n at *
  have q1 : (k : Int) < (n : Int) := by omega
  have q2 : ¬ (n : Int) ≤ (k : Int) := by omega
  have q3 : (0 : Int) ≤ (k : Int) := by omega
  have q4 : decide ((n : Int) ≤ (k : Int)) = false := decide_eq_false q2
  have q5 : decide (n ≤ k) = false := decide_eq_false (by omega)
  have HC := Lib.hid (And.intro c5 (And.intro c6 x0))
  clear hr hg hsr hcl hrb hgh hk x0
  go_enter Try.func13, Try.ntmps13
  go_wp2_with fail
  go_region_held3 (fun X => X.cell? ⟨s, 5, none⟩ = some (.slice (some ⟨g, 0, none⟩) n c) ∧ X.cell? ⟨s, 6, none⟩ = some (.int .i64 (k : Int))) (first | exact ⟨HC.out.1, HC.out.2.1⟩)
    (first
      | (go_at_call 25; refine (missing_any (w := w.drew) H0.out true).mono ?_; rintro e w1 ⟨rfl, rfl⟩; rw [HSR.out]))
  have HRD := Lib.hid (show Rd w.drew.drew w.drew.drew.heap.size r.A r.b from HRB.out.1.rd)
  have HS6 := Lib.hid (show s < w.heap.size from block_lt_of_cell HC.out.1)
  have HG6 := Lib.hid (show g < w.heap.size from block_lt_of_cell HC.out.2.2)
  go_wp2_with fail
  go_region_held3 (fun X => X.cell? ⟨s, 5, none⟩ = some (.slice (some ⟨g, 0, none⟩) n c) ∧ X.cell? ⟨s, 6, none⟩ = some (.int .i64 (k : Int)) ∧ X.cell? ⟨g, k, none⟩ = some (.slice r.A r.b.length r.c)) (first | exact HC.out | exact HC2.out)
    (first
      | (go_at_call 42; refine (Get_any r.A r.b.length r.c r.b _ rfl HRD.out HRB.out.2.1 HRB.out.2.2).mono ?_; rintro e w1 ⟨hp, hb1⟩; rw [HG.out] at hp; obtain ⟨v, rfl, hov⟩ := hp; have HB1 := Lib.hid (show Below w.heap.size w w1 from ⟨hb1.os, hb1.tape, hb1.output, hb1.size, hb1.block⟩); have HOV := Lib.hid hov; have HC2 := Lib.hid (And.intro ((HB1.out.cell (p := ⟨s, 5, none⟩) HS6.out).trans HC.out.1) (And.intro ((HB1.out.cell (p := ⟨s, 6, none⟩) HS6.out).trans HC.out.2.1) ((HB1.out.cell (p := ⟨g, k, none⟩) HG6.out).trans HC.out.2.2))); clear hb1 hov))
  have H1 := Lib.hid (H0.out.on HB1.out)
  obtain ⟨_, _, _, _, _, _, _, _, _, _, hf1⟩ := H1.out.cells
  have f6 := hf1 6
  have c61 := HC2.out.2.1
  have HST := Lib.hid (H1.out.setAt (k + 1))
  obtain ⟨A3, c3, rfl, _, _, _⟩ := HOV.out.form
  have q7 : IntKind.i64.wrap ((k : Int) + 1) = (k : Int) + 1 := IntWalk.i64_in _ (by omega)
  clear hf1
  go_wp2_with fail
  go_ret2
  exact ⟨_, rfl, ownsRow_setCell_below HOV.out (a := ⟨s, 6, none⟩) HS6.out _, HST.out.1, (But.of_below HB1.out).same HST.out.2⟩
theorem But.of_drew {P : Nat → Prop} (w : World) : But P w w.drew := ⟨rfl, rfl, rfl, Nat.le_refl _, fun _ _ _ => rfl⟩
set_option maxRecDepth 100000 in
set_option maxHeartbeats 1000000 in
theorem Next_end {w : World} {lo s : Nat} {va vr : Value} {o : So} (h : Sor w lo s va vr o) (hsr : o.srt = true) (hr : o.R.length ≤ o.at_) (hl : o.at_ ≤ 1000000) :
    Calls Try.prog 13 #[.pointer (some ⟨s, 0, none⟩)] w fun e w' => e = .returned (.tuple #[.slice none 0 0, .bool false]) ∧ But (fun _ => False) w w' := by
  have H0 := Lib.hid h
  obtain ⟨D, dc, _, _, _, _, _, _, c5, c6, _⟩ := h.cells
  obtain ⟨_, _, _, _, _, _, _, hrows, hrb⟩ := h
  obtain ⟨A, c, rfl, hc, hcell⟩ := hrows
  have HSR := Lib.hid hsr
  generalize o.at_ = k at *
  generalize o.R.length = n at *
  have q2 : (n : Int) ≤ (k : Int) := by omega
  have q4 : decide ((n : Int) ≤ (k : Int)) = true := decide_eq_true q2
  have q5 : decide (n ≤ k) = true := decide_eq_true (by omega)
  have HC := Lib.hid (And.intro c5 c6)
  clear hsr hrb hcell
  go_enter Try.func13, Try.ntmps13
  go_wp2_with fail
  go_region_held3 (fun X => X.cell? ⟨s, 5, none⟩ = some (.slice A n c) ∧ X.cell? ⟨s, 6, none⟩ = some (.int .i64 (k : Int))) (first | exact HC.out)
    (first
      | (go_at_call 25; refine (missing_any (w := w.drew) H0.out true).mono ?_; rintro e w1 ⟨rfl, rfl⟩; rw [HSR.out]))
  go_wp2_with fail
  go_ret2
  exact ⟨rfl, But.of_drew w⟩
set_option maxRecDepth 100000 in
set_option maxHeartbeats 1000000 in
theorem Next_early {w : World} {lo s : Nat} {va vr : Value} {o : So} (h : Sor w lo s va vr o) (hsr : o.srt = false) :
    Calls Try.prog 13 #[.pointer (some ⟨s, 0, none⟩)] w fun e w' => e = .returned (.tuple #[.slice none 0 0, .bool false]) ∧ But (fun _ => False) w w' := by
  have HMS := Lib.hid (show ∀ n : Nat, Calls Try.prog 25 #[.pointer (some ⟨s, 0, none⟩), .bool true] (w.drewN n) fun e w' => e = .returned (.int .i64 70) ∧ w' = w.drewN n from fun n => by
    refine (missing_any (show Sor (w.drewN n) lo s va vr o from h) true).mono ?_
    rintro e w1 ⟨rfl, rfl⟩
    rw [hsr]
    exact ⟨rfl, rfl⟩)
  clear h hsr
  go_enter Try.func13, Try.ntmps13
  go_wp2_with fail
  go_quiet ((go_at_call 25; exact quietR (HMS.out _)))
  go_wp2_with fail
  go_ret2
  exact ⟨rfl, ⟨rfl, rfl, rfl, Nat.le_refl _, fun _ _ _ => rfl⟩⟩
set_option maxRecDepth 100000 in
theorem Rewind_ok {w : World} {lo s : Nat} {va vr : Value} {o : So} (h : Sor w lo s va vr o) (hsr : o.srt = true) :
    Calls Try.prog 11 #[.pointer (some ⟨s, 0, none⟩)] w fun e w' => e = .returned (.int .i64 0) ∧ Sor w' lo s va vr { o with at_ := 0 } ∧ But (fun k => k = s) w w' := by
  have H0 := Lib.hid h
  have HSR := Lib.hid hsr
  obtain ⟨D, dc, _, _, _, _, _, _, c5, c6, hf⟩ := h.cells
  have f6 := hf 6
  have HST := Lib.hid (h.setAt 0)
  clear h hsr hf
  go_enter Try.func11, Try.ntmps11
  go_wp2_with fail
  refine (missing_any H0.out true).mono ?_
  rintro e w1 ⟨rfl, rfl⟩
  rw [HSR.out]
  go_wp2_with fail
  go_ret
  exact ⟨rfl, HST.out.1, HST.out.2⟩
set_option maxRecDepth 100000 in
theorem Rewind_early {w : World} {lo s : Nat} {va vr : Value} {o : So} (h : Sor w lo s va vr o) (hsr : o.srt = false) :
    Calls Try.prog 11 #[.pointer (some ⟨s, 0, none⟩)] w fun e w' => e = .returned (.int .i64 70) ∧ w' = w := by
  have H0 := Lib.hid h
  have HSR := Lib.hid hsr
  clear h hsr
  go_enter Try.func11, Try.ntmps11
  go_wp2_with fail
  refine (missing_any H0.out true).mono ?_
  rintro e w1 ⟨rfl, rfl⟩
  rw [HSR.out]
  go_wp2_with fail
  go_ret
  exact ⟨rfl, rfl⟩
set_option maxRecDepth 100000 in
theorem Sort_again {w : World} {lo s : Nat} {va vr : Value} {o : So} (h : Sor w lo s va vr o) (hsr : o.srt = true) :
    Calls Try.prog 12 #[.pointer (some ⟨s, 0, none⟩)] w fun e w' => e = .returned (.int .i64 70) ∧ w' = w := by
  have H0 := Lib.hid h
  have HSR := Lib.hid hsr
  clear h hsr
  go_enter Try.func12, Try.ntmps12
  go_wp2_with fail
  refine (missing_any H0.out false).mono ?_
  rintro e w1 ⟨rfl, rfl⟩
  rw [HSR.out]
  go_wp2_with fail
  go_ret
  exact ⟨rfl, rfl⟩
set_option maxRecDepth 100000 in
theorem Add_late {w : World} {lo s : Nat} {va vr : Value} {o : So} (h : Sor w lo s va vr o) (hsr : o.srt = true) (A : Option Addr) (n c : Nat) (B : Option Addr) (m d : Nat) :
    Calls Try.prog 7 #[.pointer (some ⟨s, 0, none⟩), .slice A n c, .slice B m d] w fun e w' => e = .returned (.int .i64 70) ∧ w' = w := by
  have H0 := Lib.hid h
  have HSR := Lib.hid hsr
  clear h hsr
  go_enter Try.func7, Try.ntmps7
  go_wp2_with fail
  refine (missing_any H0.out false).mono ?_
  rintro e w1 ⟨rfl, rfl⟩
  rw [HSR.out]
  go_wp2_with fail
  go_ret
  exact ⟨rfl, rfl⟩
set_option maxRecDepth 100000 in
theorem isMade_any {w : World} {lo s : Nat} {va vr : Value} {o : So} (h : Sor w lo s va vr o) :
    Calls Try.prog 35 #[.pointer (some ⟨s, 0, none⟩)] w fun e w' => e = .returned (.bool true) ∧ w' = w := by
  obtain ⟨D, dc, _, c0, _, _, c3, _⟩ := h.cells
  clear h
  obtain ⟨jz, hjz⟩ : ∃ j, Try.prog.info? 60 = some j := Option.isSome_iff_exists.1 (by kernel_rfl)
  have hpe := run_eql_ptr_same (P := Try.prog) w (⟨s, 0, none⟩ : Addr) Try.underlying22 hjz
  clear hjz
  go_enter Try.func35, Try.ntmps35
  go_wp2_with fail
  go_ret
  exact ⟨rfl, rfl⟩
set_option maxRecDepth 100000 in
set_option maxHeartbeats 1000000 in
theorem Len_any {w : World} {lo s : Nat} {va vr : Value} {o : So} (h : Sor w lo s va vr o) (hl : o.E.length + o.R.length ≤ 1000000) :
    Calls Try.prog 10 #[.pointer (some ⟨s, 0, none⟩)] w fun e w' => e = .returned (.int .i64 ((o.E.length + o.R.length : Nat) : Int)) ∧ But (fun _ => False) w w' := by
  have H0 := Lib.hid h
  obtain ⟨D, dc, _, _, _, _, _, c4, c5, c6, _⟩ := h.cells
  obtain ⟨_, _, _, _, _, ho, _, hrows, hrb⟩ := h
  obtain ⟨A, c, rfl, hc, hcell⟩ := hrows
  obtain ⟨A2, c2, rfl, _, _, _⟩ := ho.form
  generalize o.E.length = m at *
  generalize o.R.length = n at *
  have HC := Lib.hid (And.intro c4 c5)
  have q1 : IntKind.i64.wrap ((m : Int) + (n : Int)) = (m : Int) + (n : Int) := IntWalk.i64_in _ (by omega)
  clear hrb hcell ho
  go_enter Try.func10, Try.ntmps10
  go_wp2_with fail
  refine (isMade_any H0.out).mono ?_
  rintro e w1 ⟨rfl, rfl⟩
  go_wp2_with fail
  go_region_held3 (fun X => X.cell? ⟨s, 4, none⟩ = some (.slice A2 m c2) ∧ X.cell? ⟨s, 5, none⟩ = some (.slice A n c)) (first | exact HC.out) (fail)
  go_wp2_with fail
  go_ret
  exact ⟨rfl, But.of_drew _⟩
end Go.Proofs.Ytdhdfeiobjmdaaa

namespace Go.Proofs.Ytdhdfeiobjmdaaa
open Go.ChangeShapes Go.WideShapes Go.ChangeAt Go.RowKit
set_option linter.unusedVariables false

/-- a key's bytes, a row's bytes -/
abbrev KR := List UInt8 × List UInt8
def En.kr (e : En) : KR := (e.kb, e.rb)
def ltK (x y : KR) : Bool := decide (Lib.compareBytes x.1 y.1 < 0)
def sameK (x y : KR) : Bool := x.1 == y.1
/-- what is left behind Sort -/
def left (dist : Bool) (L : List KR) : List KR := if dist then cmpct sameK (srt ltK L) else srt ltK L
theorem left_rows (L : List En) : ((srt ltE L).map En.row).map Rw.b = (left false (L.map En.kr)).map Prod.snd := by
  rw [left, if_neg (by decide), srt_map En.kr ltK L.length L (Nat.le_refl _)]
  show _ = ((srt ltE L).map En.kr).map Prod.snd
  rw [List.map_map, List.map_map]
  rfl
theorem left_rows_d (L : List En) : ((cmpct sameE (srt ltE L)).map En.row).map Rw.b = (left true (L.map En.kr)).map Prod.snd := by
  rw [left, if_pos rfl, srt_map En.kr ltK L.length L (Nat.le_refl _)]
  show _ = (cmpct sameK ((srt ltE L).map En.kr)).map Prod.snd
  rw [cmpct_map En.kr sameK]
  show _ = ((cmpct sameE (srt ltE L)).map En.kr).map Prod.snd
  rw [List.map_map, List.map_map]
  rfl
theorem left_length (d : Bool) (L : List KR) : (left d L).length ≤ L.length := by
  unfold left
  split
  · exact Nat.le_trans (cmpct_length _ _) (by rw [srt_length]; exact Nat.le_refl _)
  · rw [srt_length]; exact Nat.le_refl _

/-- not sorted yet -/
def SorU (w : World) (lo s : Nat) (va : Value) (ds : List Bool) (dist : Bool) (L : List KR) : Prop :=
  ∃ o : So, Sor w lo s va (.slice none 0 0) o ∧ o.ds = ds ∧ o.dist = dist ∧ o.srt = false ∧ o.E.map En.kr = L ∧ o.R = [] ∧ o.at_ = 0
/-- sorted: its place is behind k rows -/
def SorS (w : World) (lo s : Nat) (B : List (List UInt8)) (k : Nat) : Prop :=
  ∃ vr, ∃ o : So, Sor w lo s (.slice none 0 0) vr o ∧ o.srt = true ∧ o.E = [] ∧ o.R.map Rw.b = B ∧ o.at_ = k
def One (s : Nat) (k : Nat) : Prop := k = s
theorem SorU.far {w : World} {lo s : Nat} {va : Value} {ds : List Bool} {dist : Bool} {L : List KR} (h : SorU w lo s va ds dist L) : Far w (Ft s va) := by obtain ⟨o, h, _⟩ := h; exact h.far
theorem SorU.lo {w : World} {lo s : Nat} {va : Value} {ds : List Bool} {dist : Bool} {L : List KR} (h : SorU w lo s va ds dist L) : ∀ k, Ft s va k → lo ≤ k ∧ k < w.heap.size := by obtain ⟨o, h, _⟩ := h; exact h.lo
theorem SorU.but {P : Nat → Prop} {w w' : World} {lo s : Nat} {va : Value} {ds : List Bool} {dist : Bool} {L : List KR} (h : SorU w lo s va ds dist L) (hb : But P w w') (hf : Far w P) (hn : ∀ k, Ft s va k → ¬ P k) : SorU w' lo s va ds dist L := by
  obtain ⟨o, h, r⟩ := h; exact ⟨o, h.but hb hf hn, r⟩
theorem SorU.on {w w' : World} {lo s : Nat} {va : Value} {ds : List Bool} {dist : Bool} {L : List KR} (h : SorU w lo s va ds dist L) (hb : Below w.heap.size w w') : SorU w' lo s va ds dist L := by
  obtain ⟨o, h, r⟩ := h; exact ⟨o, h.on hb, r⟩
theorem SorS.far {w : World} {lo s : Nat} {B : List (List UInt8)} {k : Nat} (h : SorS w lo s B k) : Far w (fun k => k = s) := by
  obtain ⟨vr, o, h, _⟩ := h
  exact fun k hk => h.far k (.inl hk)
theorem SorS.lo {w : World} {lo s : Nat} {B : List (List UInt8)} {k : Nat} (h : SorS w lo s B k) : lo ≤ s ∧ s < w.heap.size := by
  obtain ⟨vr, o, h, _⟩ := h
  exact h.lo s (.inl rfl)
theorem ft_nil {s k : Nat} (h : Ft s (.slice none 0 0) k) : k = s := h.elim id fun e => by cases e
theorem SorS.but {P : Nat → Prop} {w w' : World} {lo s : Nat} {B : List (List UInt8)} {k : Nat} (h : SorS w lo s B k) (hb : But P w w') (hf : Far w P) (hn : ¬ P s) : SorS w' lo s B k := by
  obtain ⟨vr, o, h, r⟩ := h
  exact ⟨vr, o, h.but hb hf (fun k hk => by rw [ft_nil hk]; exact hn), r⟩
theorem SorS.on {w w' : World} {lo s : Nat} {B : List (List UInt8)} {k : Nat} (h : SorS w lo s B k) (hb : Below w.heap.size w w') : SorS w' lo s B k := by
  obtain ⟨vr, o, h, r⟩ := h; exact ⟨vr, o, h.on hb, r⟩

theorem New_u (A : Option Addr) (n c : Nat) (ds : List Bool) (dist : Bool) (w : World) (hn : n = ds.length) (hF : RdF w w.heap.size A ds) (hl : ds.length ≤ 200) (hnil : A = none → ds = [] ∧ c = 0) :
    Calls Try.prog 5 #[.slice A n c, .bool dist] w fun e w' => ∃ s, e = .returned (.tuple #[.pointer (some ⟨s, 0, none⟩), .int .i64 0]) ∧ SorU w' w.heap.size s (.slice none 0 0) ds dist [] ∧ Below w.heap.size w w' := by
  subst hn
  refine (New_ok A c ds dist w hF hl hnil).mono ?_
  rintro e w' ⟨s, rfl, h, hb⟩
  exact ⟨s, rfl, ⟨_, h, rfl, rfl, rfl, rfl, rfl, rfl⟩, hb⟩
theorem Add_u {w : World} {lo s : Nat} {va : Value} {ds : List Bool} {dist : Bool} {L : List KR} (h : SorU w lo s va ds dist L) (hlo : lo ≤ w.heap.size) (A : Option Addr) (ca : Nat) (ks : List Trip) (B : Option Addr) (cb : Nat) (rs : List Trip) (hK : RdR w w.heap.size A ks) (hR : RdR w w.heap.size B rs)
    (hk : KeyOk ks) (hr : RowOk rs) (hd : ds.length = ks.length) (hE : L.length < 65536) (nk nr : Nat) (hnk : nk = ks.length) (hnr : nr = rs.length) :
    Calls Try.prog 7 #[.pointer (some ⟨s, 0, none⟩), .slice A nk ca, .slice B nr cb] w fun e w' => e = .returned (.int .i64 0) ∧
      ∃ va', SorU w' lo s va' ds dist (L ++ [(keyL ks ds, putL rs)]) ∧ (va'.ownBlock = va.ownBlock ∨ ∃ g, va'.ownBlock = some g ∧ w.heap.size ≤ g) ∧ But (Ft s va) w w' := by
  obtain ⟨o, ho, rfl, rfl, h3, rfl, h5, h6⟩ := h
  refine (Add_ok ho h3 hlo A ca ks B cb rs hK hR hk hr hd (by rw [List.length_map] at hE; exact hE) nk nr hnk hnr).mono ?_
  rintro e w' ⟨rfl, va', en, e1, e2, hs, hv, hb⟩
  refine ⟨rfl, va', ⟨_, hs, rfl, rfl, h3, ?_, h5, h6⟩, hv, hb⟩
  show (o.E ++ [en]).map En.kr = _
  rw [List.map_append, List.map_cons, List.map_nil, En.kr, e1, e2]
theorem Sort_u {w : World} {lo s : Nat} {va : Value} {ds : List Bool} {dist : Bool} {L : List KR} (h : SorU w lo s va ds dist L) (hlo : lo ≤ w.heap.size) (hE : L.length ≤ 65536) :
    Calls Try.prog 12 #[.pointer (some ⟨s, 0, none⟩)] w fun e w' => e = .returned (.int .i64 0) ∧ SorS w' lo s ((left dist L).map Prod.snd) 0 ∧ But (fun k => k = s) w w' := by
  obtain ⟨o, ho, rfl, rfl, h3, rfl, h5, h6⟩ := h
  rw [List.length_map] at hE
  cases hd : o.dist with
  | false =>
    refine (Sort_all ho h3 hd hlo hE).mono ?_
    rintro e w' ⟨rfl, vr, hs, hb⟩
    exact ⟨rfl, ⟨vr, _, hs, rfl, rfl, left_rows o.E, h6⟩, hb⟩
  | true =>
    refine (Sort_dist ho h3 hd hlo hE).mono ?_
    rintro e w' ⟨rfl, vr, hs, hb⟩
    exact ⟨rfl, ⟨vr, _, hs, rfl, rfl, left_rows_d o.E, h6⟩, hb⟩
theorem Next_s {w : World} {lo s : Nat} {B : List (List UInt8)} {k : Nat} (h : SorS w lo s B k) (b : List UInt8) (hr : B[k]? = some b) (rs : List Trip) (hg : getN b = some rs) (hl : B.length ≤ 65536) :
    Calls Try.prog 13 #[.pointer (some ⟨s, 0, none⟩)] w fun e w' => ∃ v, e = .returned (.tuple #[v, .bool true]) ∧ OwnR w' w.heap.size v rs ∧ SorS w' lo s B (k + 1) ∧ But (fun k => k = s) w w' := by
  obtain ⟨vr, o, ho, h1, h2, rfl, rfl⟩ := h
  rw [List.getElem?_map] at hr
  obtain ⟨r, hr2, rfl⟩ := Option.map_eq_some_iff.1 hr
  refine (Next_some ho h1 r hr2 rs hg (by rw [List.length_map] at hl; exact hl)).mono ?_
  rintro e w' ⟨v, rfl, hv, hs, hb⟩
  exact ⟨v, rfl, hv, ⟨vr, _, hs, h1, h2, rfl, rfl⟩, hb⟩
theorem Next_s_end {w : World} {lo s : Nat} {B : List (List UInt8)} {k : Nat} (h : SorS w lo s B k) (hr : B.length ≤ k) (hk : k ≤ 1000000) :
    Calls Try.prog 13 #[.pointer (some ⟨s, 0, none⟩)] w fun e w' => e = .returned (.tuple #[.slice none 0 0, .bool false]) ∧ SorS w' lo s B k ∧ Below w.heap.size w w' := by
  have h' := h
  obtain ⟨vr, o, ho, h1, h2, rfl, rfl⟩ := h
  refine (Next_end ho h1 (by rw [List.length_map] at hr; exact hr) hk).mono ?_
  rintro e w' ⟨rfl, hb⟩
  have hb2 := hb.below (base := w.heap.size) (Nat.le_refl _) (fun _ hk => hk.elim)
  exact ⟨rfl, h'.on hb2, hb2⟩
theorem Rewind_s {w : World} {lo s : Nat} {B : List (List UInt8)} {k : Nat} (h : SorS w lo s B k) :
    Calls Try.prog 11 #[.pointer (some ⟨s, 0, none⟩)] w fun e w' => e = .returned (.int .i64 0) ∧ SorS w' lo s B 0 ∧ But (fun k => k = s) w w' := by
  obtain ⟨vr, o, ho, h1, h2, rfl, rfl⟩ := h
  refine (Rewind_ok ho h1).mono ?_
  rintro e w' ⟨rfl, hs, hb⟩
  exact ⟨rfl, ⟨vr, _, hs, h1, h2, rfl, rfl⟩, hb⟩
theorem Len_s {w : World} {lo s : Nat} {B : List (List UInt8)} {k : Nat} (h : SorS w lo s B k) (hl : B.length ≤ 1000000) :
    Calls Try.prog 10 #[.pointer (some ⟨s, 0, none⟩)] w fun e w' => e = .returned (.int .i64 (B.length : Int)) ∧ Below w.heap.size w w' := by
  obtain ⟨vr, o, ho, h1, h2, rfl, rfl⟩ := h
  refine (Len_any ho (by rw [h2]; rw [List.length_map] at hl; simpa using hl)).mono ?_
  rintro e w' ⟨rfl, hb⟩
  exact ⟨by rw [h2, List.length_map]; simp, hb.below (Nat.le_refl _) (fun _ hk => hk.elim)⟩
end Go.Proofs.Ytdhdfeiobjmdaaa
