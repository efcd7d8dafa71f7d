/-
  An argument of flags, opened, with what a nil one is. No conditions.
  SorterPlays returns true: the walk. No conditions.
  SorterPlays returns true for every input, and every argument reads behind the call as it read before. No conditions.
-/
import Derived.Test.YtdhdfeiobjmdaaaRClose
import Derived.Test.YtdhdfeiobjmdaaaQPlS
import Derived.Deep.CutRange
namespace Go.Proofs.Ytdhdfeiobjmdaaa
open Go.ChangeShapes Go.WideShapes Go.ChangeAt Go.RowKit Go.Deep
section
variable {H : Type} {enc : TypeId × Value → H} {W : World} {base fuel : Nat} {held : Bool} {x : DataW H × List MemPlace}
theorem openFn {a0 : Option Addr} {n0 c0 : Nat} (h : DataW.trod enc Try.prog W base (fun _ => true) held fuel 26 [.slice a0 n0 c0] = some x) :
    ∃ l : List Bool, n0 = l.length ∧ l.length ≤ c0 ∧ c0 ≤ maxLen ∧ RdF W W.heap.size a0 l ∧ (a0 = none → l = [] ∧ c0 = 0) := by
  obtain ⟨l, e, h1, h2, h3⟩ := openF h
  refine ⟨l, e, h1, h2, h3, fun hn => ?_⟩
  rcases open_bools Try.underlying26 Try.underlying4 (by kernel_rfl) h with ⟨h0, _⟩ | ⟨a, len, cap, B, h0, _⟩
  · obtain ⟨_, rfl, rfl⟩ : a0 = none ∧ n0 = 0 ∧ c0 = 0 := by simpa using h0
    exact ⟨List.eq_nil_of_length_eq_zero e.symm, rfl⟩
  · rw [hn] at h0
    simp at h0
end
end Go.Proofs.Ytdhdfeiobjmdaaa

namespace Go.Proofs.Ytdhdfeiobjmdaaa
open Go.ChangeShapes Go.WideShapes Go.ChangeAt Go.RowKit
set_option linter.unusedVariables false

def PlU (w X : World) (s b : Nat) (D : Option Addr) (dc : Nat) (ds : List Bool) (dist : Bool) (m : Nat) : Prop := ∃ va l, SorU X w.heap.size s va ds dist (l.map krO) ∧ RfB X b D ds.length dc dist false 0 l ∧ l.length ≤ m
def PlS (w X : World) (s b : Nat) (D : Option Addr) (dc : Nat) (ds : List Bool) (dist : Bool) (m : Nat) : Prop := ∃ k Z, SorS X w.heap.size s (Z.map fun e => putL e.rs) k ∧ RfB X b D ds.length dc dist true k Z ∧ Z.length ≤ m ∧ k ≤ Z.length
def Pl (w X : World) (s b : Nat) (D : Option Addr) (dc : Nat) (ds : List Bool) (dist : Bool) (m : Nat) : Prop := Below w.heap.size w X ∧ w.heap.size ≤ b ∧ (PlU w X s b D dc ds dist m ∨ PlS w X s b D dc ds dist m)
theorem Pl.on {w X Y : World} {s b : Nat} {D : Option Addr} {dc : Nat} {ds : List Bool} {dist : Bool} {m : Nat} (h : Pl w X s b D dc ds dist m) (hb : Below X.heap.size X Y) : Pl w Y s b D dc ds dist m := by
  obtain ⟨h1, h2, h3⟩ := h
  refine ⟨h1.trans (hb.mono h1.size), h2, ?_⟩
  rcases h3 with ⟨va, l, a1, a2, a3⟩ | ⟨k, Z, a1, a2, a3, a4⟩
  · exact .inl ⟨va, l, a1.on hb, a2.on hb, a3⟩
  · exact .inr ⟨k, Z, a1.on hb, a2.on hb, a3, a4⟩
theorem Pl.more {w X : World} {s b : Nat} {D : Option Addr} {dc : Nat} {ds : List Bool} {dist : Bool} {m m' : Nat} (h : Pl w X s b D dc ds dist m) (hm : m ≤ m') : Pl w X s b D dc ds dist m' := by
  obtain ⟨h1, h2, h3⟩ := h
  refine ⟨h1, h2, ?_⟩
  rcases h3 with ⟨va, l, a1, a2, a3⟩ | ⟨k, Z, a1, a2, a3, a4⟩
  · exact .inl ⟨va, l, a1, a2, Nat.le_trans a3 hm⟩
  · exact .inr ⟨k, Z, a1, a2, Nat.le_trans a3 hm, a4⟩
/-- a call of the script in a block -/
def OpB (X : World) (b : Nat) (o : Opr) : Prop := X.heap[b]? = some (.cells #[.int .i64 o.k, .slice o.kA o.ks.length o.kc, .slice o.rA o.rs.length o.rc] 47 (0, 0))
theorem OpB.cells {X : World} {b : Nat} {o : Opr} (h : OpB X b o) : X.cell? ⟨b, 0, none⟩ = some (.int .i64 o.k) ∧ X.cell? ⟨b, 1, none⟩ = some (.slice o.kA o.ks.length o.kc) ∧ X.cell? ⟨b, 2, none⟩ = some (.slice o.rA o.rs.length o.rc) :=
  ⟨(cell_of_row X b 0 _ _ _ h).trans rfl, (cell_of_row X b 1 _ _ _ h).trans rfl, (cell_of_row X b 2 _ _ _ h).trans rfl⟩
theorem OpB.on {X Y : World} {b : Nat} {o : Opr} (h : OpB X b o) (hb : Below X.heap.size X Y) : OpB Y b o := (hb.block b (heap_lt h)).trans h
theorem OpB.but {P : Nat → Prop} {X Y : World} {b : Nat} {o : Opr} (h : OpB X b o) (hb : But P X Y) (hf : Far X P) : OpB Y b o := (hb.block b (heap_lt h) (hf.not h (by decide) (by decide) (by decide))).trans h
theorem OpB.butS {P : Nat → Prop} {X Y : World} {b : Nat} {o : Opr} (h : OpB X b o) (hb : But P X Y) (hf : FarS X P) : OpB Y b o := (hb.block b (heap_lt h) (hf.not h (by decide))).trans h
/-- what the program and the document tell is the same -/
def PlOut (w X : World) (s b : Nat) (D : Option Addr) (dc : Nat) (ds : List Bool) (dist : Bool) (bo : Nat) (o : Opr) (m : Nat) (v13 v14 v15 v16 v17 v18 : Value) : Prop :=
  ∃ (E : Int) (q : Bool) (P Q : Option Addr) (pc qc : Nat) (rs : List Trip), (E = 0 ∨ E = 2 ∨ E = 70) ∧ v13 = .int .i64 E ∧ v14 = .int .i64 E ∧ v17 = .bool q ∧ v18 = .bool q ∧ v15 = .slice P rs.length pc ∧ v16 = .slice Q rs.length qc ∧ RdR X X.heap.size P rs ∧ RdR X X.heap.size Q rs ∧ rs.length ≤ 10 ∧ Pl w X s b D dc ds dist m
theorem small_r {l : List Trip} (h : smallV l 10 100 = true) (h64 : ∀ t ∈ l, In64 t.2.1) : SmallR l := by
  simp only [smallV, Bool.and_eq_true, decide_eq_true_eq, List.all_eq_true] at h
  exact ⟨h.1, fun t ht => ⟨by simpa using h.2 t ht, h64 t ht⟩⟩
theorem CopyValues_op {W w' : World} {A : Option Addr} {c : Nat} {l : List Trip} (h : RowIn W A c l) (hl : l.length ≤ 10) {X : World} (hX : Below W.heap.size W X) :
    Calls Try.prog 17 #[.slice A l.length c] X fun e w' => ∃ K kc, e = .returned (.slice K l.length kc) ∧ OkR w' K l ∧ Below X.heap.size X w' := by
  have fin : ∀ (e : Ending) (w' : World), (∃ v, e = .returned v ∧ OwnR w' X.heap.size v l ∧ Below X.heap.size X w') → ∃ K kc, e = .returned (.slice K l.length kc) ∧ OkR w' K l ∧ Below X.heap.size X w' := by
    rintro e w' ⟨v, rfl, ho, hb⟩
    obtain ⟨K, kc, rfl, _, _, _⟩ := ho.form
    exact ⟨K, kc, rfl, OkR.of_own ho, hb⟩
  obtain ⟨_, _, hn, hr, _⟩ := h
  cases A with
  | none =>
    obtain ⟨rfl, rfl⟩ := hn rfl
    exact (CopyValues_none X).mono fin
  | some ad => exact (CopyValues_some ad c l X (by omega) (hr.on hX)).mono fin
theorem copy_op {W w4 : World} {A : Option Addr} {c : Nat} {l : List Trip} (h : RowIn W A c l) (hl : l.length ≤ 10) (hw : Below W.heap.size W w4) {X : World} (hX : Below w4.heap.size w4 X) :
    Calls Try.prog 17 #[.slice A l.length c] X fun e w' => ∃ K kc, e = .returned (.slice K l.length kc) ∧ OkR w' K l ∧ Below w4.heap.size w4 w' ∧ Below X.heap.size X w' := by
  refine (CopyValues_op (w' := w4) h hl (hw.trans (hX.mono hw.size))).mono ?_
  rintro e w' ⟨K, kc, rfl, ho, hb⟩
  exact ⟨K, kc, rfl, ho, hX.trans (hb.mono hX.size), hb⟩
theorem box_set5 {W : World} {b : Nat} {D : Option Addr} {dn dc : Nat} {dist : Bool} {A : Option Addr} {n c : Nat} {srt : Bool} {k : Nat} (h : BoxO W b D dn dc dist A n c srt k) (D' : Option Addr) (dn' dc' : Nat) (dist' : Bool) (A' : Option Addr) (n' c' : Nat) (srt' : Bool) (k' : Nat) :
    BoxO (set5 W b (.slice D' dn' dc') (.bool dist') (.slice A' n' c') (.bool srt') (.int .i64 (k' : Int))) b D' dn' dc' dist' A' n' c' srt' k' := by
  have h1 := heap_setCell_same W b 0 _ _ (.slice D' dn' dc') h
  have h2 := heap_setCell_same _ b 1 _ _ (.bool dist') h1
  have h3 := heap_setCell_same _ b 2 _ _ (.slice A' n' c') h2
  have h4 := heap_setCell_same _ b 3 _ _ (.bool srt') h3
  exact heap_setCell_same _ b 4 _ _ (.int .i64 (k' : Int)) h4
theorem stored_ref {w W : World} {b : Nat} {D : Option Addr} {dn dc : Nat} {dist : Bool} {A : Option Addr} {n c : Nat} {srt : Bool} {k : Nat} (h : BoxO W b D dn dc dist A n c srt k) (hb : w.heap.size ≤ b) (hw : Below w.heap.size w W) (A' : Option Addr) (l' : List On) (c' k' : Nat) (srt' : Bool) (hok : OkO W A' l') (hog : ∀ e ∈ l', OnG W e) :
    But (fun j => j = b) W (set5 W b (.slice D dn dc) (.bool dist) (.slice A' l'.length c') (.bool srt') (.int .i64 (k' : Int))) ∧ RfB (set5 W b (.slice D dn dc) (.bool dist) (.slice A' l'.length c') (.bool srt') (.int .i64 (k' : Int))) b D dn dc dist srt' k' l' ∧ Below w.heap.size w (set5 W b (.slice D dn dc) (.bool dist) (.slice A' l'.length c') (.bool srt') (.int .i64 (k' : Int))) := by
  have hfs : FarS W (fun j => j = b) := fun j hj => by subst hj; exact ⟨_, _, h⟩
  have hbt := but_set5 W b (.slice D dn dc) (.bool dist) (.slice A' l'.length c') (.bool srt') (.int .i64 (k' : Int))
  exact ⟨hbt, ⟨A', c', box_set5 h D dn dc dist A' l'.length c' srt' k', hok.butT hbt hfs (by decide), fun e he => (hog e he).butS hbt hfs⟩, below_set5 hw hb _ _ _ _ _⟩
theorem Len_uP {w : World} {lo s : Nat} {va : Value} {ds : List Bool} {dist : Bool} {L : List KR} (h : SorU w lo s va ds dist L) (hl : L.length ≤ 1000000) :
    Calls Try.prog 10 #[.pointer (some ⟨s, 0, none⟩)] w fun e w' => e = .returned (.int .i64 (L.length : Int)) ∧ Below w.heap.size w w' := by
  obtain ⟨o, ho, _, _, _, rfl, h5, _⟩ := h
  rw [List.length_map] at hl ⊢
  refine (Len_any ho (by rw [h5]; simpa using hl)).mono ?_
  rintro e w' ⟨rfl, hb⟩
  exact ⟨by rw [h5]; rfl, hb.below (Nat.le_refl _) (fun _ hk => hk.elim)⟩
theorem Rewind_u {w : World} {lo s : Nat} {va : Value} {ds : List Bool} {dist : Bool} {L : List KR} (h : SorU w lo s va ds dist L) :
    Calls Try.prog 11 #[.pointer (some ⟨s, 0, none⟩)] w fun e w' => e = .returned (.int .i64 70) ∧ w' = w := by
  obtain ⟨o, ho, _, _, h3, _⟩ := h
  exact Rewind_early ho h3
theorem Sort_s {w : World} {lo s : Nat} {B : List (List UInt8)} {k : Nat} (h : SorS w lo s B k) :
    Calls Try.prog 12 #[.pointer (some ⟨s, 0, none⟩)] w fun e w' => e = .returned (.int .i64 70) ∧ w' = w := by
  obtain ⟨vr, o, ho, h1, _⟩ := h
  exact Sort_again ho h1
theorem pl_len {w X : World} {s b : Nat} {D : Option Addr} {dc : Nat} {ds : List Bool} {dist : Bool} {m : Nat} (h : Pl w X s b D dc ds dist m) (hm : m ≤ 200) :
    ∃ n A c, ∀ Y, Below X.heap.size X Y → Y.cell? ⟨b, 2, none⟩ = some (.slice A n c) ∧ Calls Try.prog 10 #[.pointer (some ⟨s, 0, none⟩)] Y fun e w' => e = .returned (.int .i64 (n : Int)) ∧ Below X.heap.size X w' := by
  rcases h.2.2 with ⟨va, l, h1, h2, h3⟩ | ⟨k, Z, h1, h2, h3, h4⟩
  · obtain ⟨A, c, hbx, _⟩ := h2
    refine ⟨l.length, A, c, fun Y hY => ⟨(hbx.on hY).cells.2.2.1, (Len_uP (h1.on hY) (by rw [List.length_map]; omega)).mono ?_⟩⟩
    rintro e w' ⟨rfl, hb⟩
    exact ⟨by rw [List.length_map], hY.trans (hb.mono hY.size)⟩
  · obtain ⟨A, c, hbx, _⟩ := h2
    refine ⟨Z.length, A, c, fun Y hY => ⟨(hbx.on hY).cells.2.2.1, (Len_s (h1.on hY) (by rw [List.length_map]; omega)).mono ?_⟩⟩
    rintro e w' ⟨rfl, hb⟩
    exact ⟨by rw [List.length_map], hY.trans (hb.mono hY.size)⟩
theorem same_on {W : World} {P Q : Option Addr} {pc qc : Nat} {rs : List Trip} (hp : RdR W W.heap.size P rs) (hq : RdR W W.heap.size Q rs) (hl : rs.length ≤ 10) {X : World} (hX : Below W.heap.size W X) :
    Calls Try.prog 19 #[.slice P rs.length pc, .slice Q rs.length qc] X fun e w' => e = .returned (.bool true) ∧ Below W.heap.size W w' := by
  refine (SameValues_any P pc rs.length rs Q qc rs.length rs X (hp.on hX) (hq.on hX) rfl rfl (by omega) true (by simp)).mono ?_
  rintro e w' ⟨rfl, hb⟩
  exact ⟨rfl, hX.trans (hb.mono hX.size)⟩
def PlRel (w : World) (s b : Nat) (D : Option Addr) (dc : Nat) (ds : List Bool) (dist : Bool) (n : Nat) (v : Value) (wr : World) : Prop := ∃ i : Nat, i ≤ n ∧ v = .int .i64 (i : Int) ∧ Pl w wr s b D dc ds dist i
set_option maxRecDepth 100000 in
set_option maxHeartbeats 8000000 in
theorem plays_walk (D : Option Addr) (ds : List Bool) (dc : Nat) (dist : Bool) (A : Option Addr) (ops : List Opr) (oc : Nat) (w : World) (hF : RdF w w.heap.size D ds) (hD : D = none → ds = [] ∧ dc = 0) (hO : RdOps w A ops) (hR : ∀ o ∈ ops, RowIn w o.kA o.kc o.ks ∧ RowIn w o.rA o.rc o.rs) (hdl : ds.length ≤ 9223372036854775807) (hol : ops.length ≤ 9223372036854775807) :
    Calls Try.prog 4 #[.slice D ds.length dc, .bool dist, .slice A ops.length oc] w fun e w' => e = .returned (.bool true) ∧ Below w.heap.size w w' := by
  have HF := Lib.hid hF
  have HDN := Lib.hid hD
  have HO := Lib.hid hO
  have HR := Lib.hid hR
  have HOL := Lib.hid hol
  clear hF hD hO hR
  by_cases h3 : 300 < ds.length
  · have q1 : (300 : Int) < ds.length := by omega
    go_enter Try.func4, Try.ntmps4
    go_wp2_with fail
    refine (awk7_any _).mono ?_
    rintro e w1 ⟨rfl, hb⟩
    go_wp2_with fail
    go_ret
    exact ⟨rfl, hb⟩
  · have q1 : ¬ (300 : Int) < ds.length := by omega
    by_cases h2 : 200 < ds.length
    · go_enter Try.func4, Try.ntmps4
      go_wp2_with fail
      refine (New_many D ds.length dc dist _ h2 (by omega)).mono ?_
      rintro e w1 ⟨rfl, rfl⟩
      go_wp2_with fail
      refine (refNew_many D ds.length dc dist _ h2).mono ?_
      rintro e w2 ⟨rfl, hb⟩
      have HB := Lib.hid hb
      unfold refV
      clear hb
      go_wp2_with fail
      refine (awk7_any _).mono ?_
      rintro e w3 ⟨rfl, hb⟩
      go_wp2_with fail
      go_ret
      exact ⟨rfl, (HB.out.trans ((Below.refl _ _).alloc HB.out.size _)).trans (hb.mono (by have := HB.out.size; simp; omega))⟩
    · have HL := Lib.hid (show ds.length ≤ 200 by omega)
      clear h2 h3 hdl hol
      go_enter Try.func4, Try.ntmps4
      go_wp2_with fail
      refine (New_u D ds.length dc ds dist _ rfl HF.out HL.out HDN.out).mono ?_
      rintro e w1 ⟨s, rfl, hs, hb⟩
      have HS1 := Lib.hid hs
      have HB1 := Lib.hid hb
      clear hs hb
      go_wp2_with fail
      refine (refNew_ok D ds.length dc dist _ HL.out).mono ?_
      rintro e w2 ⟨rfl, hb⟩
      have HS2 := Lib.hid (HS1.out.on hb)
      have HB2 := Lib.hid (HB1.out.trans (hb.mono HB1.out.size))
      unfold refV
      clear hb
      go_upto_region 8 with (fail)
      have hbx := BoxO.new w2 D ds.length dc dist none 0 0 false 0
      have hal : Below w2.heap.size w2 (w2.alloc (refO D ds.length dc dist none 0 0 false 0)) := (Below.refl _ _).alloc (Nat.le_refl _) _
      have hpl : Pl w (w2.alloc (refO D ds.length dc dist none 0 0 false 0)) s w2.heap.size D dc ds dist 0 :=
        ⟨HB2.out.trans (hal.mono HB2.out.size), HB2.out.size, .inl ⟨_, [], HS2.out.on hal, ⟨none, 0, hbx, fun h => absurd h (by simp), fun e he => (by cases he)⟩, Nat.le_refl _⟩⟩
      have HPL := Lib.hid hpl
      clear hbx hal hpl
      obtain ⟨b, hb⟩ : ∃ n, w2.heap.size = n := ⟨_, rfl⟩
      obtain ⟨w3, hw3⟩ : ∃ X, w2.alloc (refO D ds.length dc dist none 0 0 false 0) = X := ⟨_, rfl⟩
      rw [hb, hw3] at HPL
      rw [show w2.alloc (.cells #[.slice D ds.length dc, .bool dist, .slice none 0 0, .bool false, .int .i64 0] 43) = w3 from hw3, hb]
      clear hb hw3 HS1 HB1 HS2 HB2 q1
      go_loopw [11] (fun v wr => PlRel w s b D dc ds dist ops.length v wr) (fun v _ => ops.length - (intOf v).toNat)
      case atStart => exact ⟨0, Nat.zero_le _, rfl, HPL.out⟩
      case round =>
        obtain ⟨i, hi, rfl, hpl⟩ := hrel
        have HP := Lib.hid hpl
        clear hpl HPL
        have HOLN := HOL.out
        by_cases hlt : i < ops.length ∧ i < 100
        · obtain ⟨hlt, h100⟩ := hlt
          have hx : ops[i]? = some ops[i] := List.getElem?_eq_getElem hlt
          obtain ⟨ad, rfl, hal, hc⟩ := HO.out (by omega)
          obtain ⟨c0, c1, c2⟩ := hc i _ hx
          have HRO := Lib.hid (HR.out _ (List.mem_of_getElem? hx))
          have HLT := Lib.hid (And.intro hlt h100)
          generalize ops[i] = o at *
          have e0 := (HP.out.1.cell (p := ad.add (i * 3)) (by rw [blockAdd]; exact hal)).trans c0
          have e1 := (HP.out.1.cell (p := ⟨(ad.add (i * 3)).block, (ad.add (i * 3)).off + 1, none⟩) (by show (ad.add (i * 3)).block < _; rw [blockAdd]; exact hal)).trans c1
          have e2 := (HP.out.1.cell (p := ⟨(ad.add (i * 3)).block, (ad.add (i * 3)).off + 2, none⟩) (by show (ad.add (i * 3)).block < _; rw [blockAdd]; exact hal)).trans c2
          have q1 : (i : Int) < ops.length := by omega
          have q2 : (i : Int) < 100 := by omega
          clear hx hc c0 c1 c2 hal hlt h100 HOLN
          go_upto_region 11 with (fail)
          have HOB := Lib.hid (show OpB (wr.alloc (.cells #[.int .i64 o.k, .slice o.kA o.ks.length o.kc, .slice o.rA o.rs.length o.rc] 47)) wr.heap.size o from heap_alloc_new _ _)
          have hal : Below wr.heap.size wr (wr.alloc (.cells #[.int .i64 o.k, .slice o.kA o.ks.length o.kc, .slice o.rA o.rs.length o.rc] 47)) := (Below.refl _ _).alloc (Nat.le_refl _) _
          have HP4 := Lib.hid (HP.out.on hal)
          obtain ⟨w4, hw4⟩ : ∃ X, wr.alloc (.cells #[.int .i64 o.k, .slice o.kA o.ks.length o.kc, .slice o.rA o.rs.length o.rc] 47) = X := ⟨_, rfl⟩
          obtain ⟨bo, hbo⟩ : ∃ n, wr.heap.size = n := ⟨_, rfl⟩
          rw [hw4, hbo] at HOB
          rw [hw4] at HP4
          rw [hw4, hbo]
          clear hw4 hbo hal HP e0 e1 e2 q1 q2
          obtain ⟨c0, c1, c2⟩ := HOB.out.cells
          have HKS := Lib.hid (HRO.out.1.2.2.2.1.on HP4.out.1)
          have HRS := Lib.hid (HRO.out.2.2.2.2.1.on HP4.out.1)
          have HSM := Lib.hid (Small_any o.kA o.kc o.ks 10 100 w4 HKS.out (by decide) (by decide) (fun t ht => by have := (HRO.out.1.2.2.2.2 t ht).2; unfold maxLen at this; exact Nat.le_trans this (by decide)) (by have h1 := HRO.out.1.1; have h2 := HRO.out.1.2.1; exact Nat.le_trans (Nat.le_trans h1 h2) (by unfold maxLen; decide)))
          have HSN := Lib.hid (Small_any o.rA o.rc o.rs 10 100 w4 HRS.out (by decide) (by decide) (fun t ht => by have := (HRO.out.2.2.2.2.2 t ht).2; unfold maxLen at this; exact Nat.le_trans this (by decide)) (by have h1 := HRO.out.2.1; have h2 := HRO.out.2.2.1; exact Nat.le_trans (Nat.le_trans h1 h2) (by unfold maxLen; decide)))
          have b1 : i < 100 := HLT.out.2
          by_cases hsm : smallV o.ks 10 100 = true ∧ smallV o.rs 10 100 = true
          · have HSK := Lib.hid (show SmallR o.ks from small_r hsm.1 fun t ht => (HRO.out.1.2.2.2.2 t ht).1)
            have HSR := Lib.hid (show SmallR o.rs from small_r hsm.2 fun t ht => (HRO.out.2.2.2.2.2 t ht).1)
            rw [hsm.1] at HSM
            rw [hsm.2] at HSN
            clear hsm
            go_wp2_with fail
            refine HSM.out.mono ?_
            rintro e w5 ⟨rfl, hw⟩
            rw [hw]
            clear hw w5
            go_wp2_with fail
            refine HSN.out.mono ?_
            rintro e w6 ⟨rfl, hw⟩
            rw [hw]
            clear hw w6
            clear HSM HSN
            go_upto_block 2 with (fail)
            go_cut [13, 14, 15, 16, 17, 18] from 54 to 148 (fun v13 v14 v15 v16 v17 v18 wx => PlOut w wx s b D dc ds dist bo o (i + 1) v13 v14 v15 v16 v17 v18)
            case first =>
              obtain ⟨kd, hkd⟩ : ∃ z, o.k = z := ⟨_, rfl⟩
              rw [hkd] at c0
              have HKD := Lib.hid hkd
              (try rw [hkd])
              clear hkd
              go_step
              go_step
              go_cut [80] from 81 to 85 (fun v wx => v = .bool (decide (1 ≤ kd ∧ kd ≤ 5)) ∧ wx = w4)
              case first =>
                have hkc : kd = 1 ∨ kd = 2 ∨ kd = 3 ∨ kd = 4 ∨ kd = 5 ∨ ¬ (1 ≤ kd ∧ kd ≤ 5) := by omega
                rcases hkc with rfl | rfl | rfl | rfl | rfl | hk
                · go_wp2_with fail; go_meet; exact ⟨rfl, rfl⟩
                · go_wp2_with fail; go_meet; exact ⟨rfl, rfl⟩
                · go_wp2_with fail; go_meet; exact ⟨rfl, rfl⟩
                · go_wp2_with fail; go_meet; exact ⟨rfl, rfl⟩
                · go_wp2_with fail; go_meet; exact ⟨rfl, rfl⟩
                · have HKN := Lib.hid hk
                  have d1 : (kd == 1) = false := by simp; omega
                  have d2 : (kd == 2) = false := by simp; omega
                  have d3 : (kd == 3) = false := by simp; omega
                  have d4 : (kd == 4) = false := by simp; omega
                  have d5 : (kd == 5) = false := by simp; omega
                  clear hk
                  go_wp2_with fail
                  go_meet
                  exact ⟨by rw [decide_eq_false HKN.out], rfl⟩
              case rest =>
                obtain ⟨rfl, hwx⟩ := hcut
                rw [hwx]
                clear hwx
                by_cases hA : 1 ≤ kd ∧ kd ≤ 5
                · rw [decide_eq_true hA]
                  clear hA
                  go_upto_region 21 with (fail)
                  go_cut [19, 20] from 86 to 91 (fun v19 v20 wx => ∃ K kc' R rc', v19 = .slice K o.ks.length kc' ∧ v20 = .slice R o.rs.length rc' ∧ OkR wx K o.ks ∧ OkR wx R o.rs ∧ Below w4.heap.size w4 wx)
                  case first =>
                    have HCK := Lib.hid (fun X hX => copy_op HRO.out.1 HSK.out.1 (HP4.out.1) (X := X) hX)
                    have HCR := Lib.hid (fun X hX => copy_op HRO.out.2 HSR.out.1 (HP4.out.1) (X := X) hX)
                    have HCE := Lib.hid (fun (X : World) (hX : Below w4.heap.size w4 X) => (HOB.out.on hX).cells)
                    go_region_held3 (fun X => X.cell? ⟨bo, 0, none⟩ = some (.int .i64 kd) ∧ X.cell? ⟨bo, 1, none⟩ = some (.slice o.kA o.ks.length o.kc) ∧ X.cell? ⟨bo, 2, none⟩ = some (.slice o.rA o.rs.length o.rc))
                      (first | (rw [← HKD.out]; exact HCE.out _ (Below.refl _ _)) | (rw [← HKD.out]; exact HCE.out _ (Below.refl _ _).drew) | (rw [← HKD.out]; exact HCE.out _ HBZ.out))
                      (first
                        | (go_at_call 17; (with_reducible refine (HCK.out _ ?_).mono ?_); (first | exact HBZ.out | exact (Below.refl _ _).drew); rintro e x1 ⟨K, kc', rfl, hk, hbz, hb⟩; have HKK := Lib.hid hk; have HBZ := Lib.hid hbz; (try (have HRR := Lib.hid (HRR.out.but (P := fun _ => False) (But.of_below hb) (far_none _)))); clear hk hbz hb)
                        | (go_at_call 17; (with_reducible refine (HCR.out _ ?_).mono ?_); (first | exact HBZ.out | exact (Below.refl _ _).drew); rintro e x1 ⟨R, rc', rfl, hk, hbz, hb⟩; have HRR := Lib.hid hk; have HBZ := Lib.hid hbz; (try (have HKK := Lib.hid (HKK.out.but (P := fun _ => False) (But.of_below hb) (far_none _)))); clear hk hbz hb))
                    all_goals (go_wp2_with fail; go_meet; exact ⟨_, _, _, _, rfl, rfl, HKK.out, HRR.out, HBZ.out⟩)
                  case rest =>
                    obtain ⟨K, kc', R, rc', rfl, rfl, hkk, hrr, hbz⟩ := hcut
                    have HKK := Lib.hid hkk
                    have HRR := Lib.hid hrr
                    have HOB5 := Lib.hid (HOB.out.on hbz)
                    have HP5 := Lib.hid (HP4.out.on hbz)
                    clear hkk hrr hbz c0 c1 c2
                    obtain ⟨hw5, hbw, hst⟩ := HP5.out
                    have HW5 := Lib.hid hw5
                    have HBW := Lib.hid hbw
                    clear HP4 HP5 hw5 hbw
                    rcases hst with ⟨va, l, hsu, hrf, hlm⟩ | ⟨kq, Z, hss, hrf, hzm, hkq⟩
                    · have HSU := Lib.hid hsu
                      have HRF := Lib.hid hrf
                      have HLM := Lib.hid hlm
                      clear hsu hrf hlm
                      go_wp2_with fail
                      refine (sAdd HSU.out HW5.out.size HL.out K kc' o.ks R rc' o.rs HKK.out.rd HRR.out.rd HSK.out HSR.out (by rw [List.length_map]; have := HLM.out; omega)).mono ?_
                      rintro e x6 ⟨rfl, va', hsu, hb6⟩
                      have HSU6 := Lib.hid hsu
                      have hf := HSU.out.far
                      have HRF6 := Lib.hid (HRF.out.but hb6 hf)
                      have HOB6 := Lib.hid (HOB5.out.but hb6 hf)
                      have HKK6 := Lib.hid (HKK.out.but hb6 hf)
                      have HRR6 := Lib.hid (HRR.out.but hb6 hf)
                      have HW6 := Lib.hid (HW5.out.trans (hb6.below HW5.out.size fun j hj => (HSU.out.lo j hj).1))
                      clear hsu hb6 hf HSU HRF HOB5 HKK HRR HW5
                      obtain ⟨lA, lc, hbox, hok, hog⟩ := HRF6.out
                      have HBX6 := Lib.hid hbox
                      have HOK6 := Lib.hid (And.intro hok hog)
                      clear hbox hok hog
                      obtain ⟨c0, c1, c2⟩ := HOB6.out.cells
                      obtain ⟨z0, z1, z2, z3, z4⟩ := HBX6.out.cells
                      go_wp2_with fail
                      refine (rAdd D ds dc dist lA l lc 0 o.kA o.ks o.kc o.rA o.rs o.rc (rdf_on HF.out HW6.out) HOK6.out.1 HOK6.out.2 (by have := HLM.out; omega) (HRO.out.1.2.2.2.1.on HW6.out) (HRO.out.2.2.2.2.1.on HW6.out) HSK.out HSR.out).mono ?_
                      rintro e x7 ⟨A', c', l', rfl, hok, hog, hmap, hlen, hb7⟩
                      clear c0 c1 c2 z0 z1 z2 z3 z4
                      have HW7 := Lib.hid (HW6.out.trans (hb7.mono HW6.out.size))
                      have HBX7 := Lib.hid (HBX6.out.on hb7)
                      have HSU7 := Lib.hid (show SorU x7 w.heap.size s va' ds dist (l'.map krO) by rw [hmap]; exact HSU6.out.on hb7)
                      have HOB7 := Lib.hid (HOB6.out.on hb7)
                      have HKK7 := Lib.hid (HKK6.out.but (P := fun _ => False) (But.of_below hb7) (far_none _))
                      have HRR7 := Lib.hid (HRR6.out.but (P := fun _ => False) (But.of_below hb7) (far_none _))
                      have HNW := Lib.hid (And.intro hok (And.intro hog hlen))
                      clear hok hog hmap hlen hb7 HBX6 HSU6 HOB6 HKK6 HRR6 HW6 HRF6 HOK6
                      obtain ⟨z0, z1, z2, z3, z4⟩ := HBX7.out.cells
                      have f0 := HBX7.out.frz 0
                      have f1 := HBX7.out.frz 1
                      have f2 := HBX7.out.frz 2
                      have f3 := HBX7.out.frz 3
                      have f4 := HBX7.out.frz 4
                      have HST := Lib.hid (stored_ref HBX7.out HBW.out HW7.out A' l' c' 0 false HNW.out.1 HNW.out.2.1)
                      have hfs : FarS x7 (fun j => j = b) := fun j hj => by subst hj; exact ⟨_, _, HBX7.out⟩
                      have HSU8 := Lib.hid (HSU7.out.butS HST.out.1 hfs)
                      have HOB8 := Lib.hid (HOB7.out.butS HST.out.1 hfs)
                      have HKK8 := Lib.hid (HKK7.out.butT HST.out.1 hfs (by decide))
                      have HRR8 := Lib.hid (HRR7.out.butT HST.out.1 hfs (by decide))
                      unfold refV
                      clear hfs
                      go_upto_region 24 with (fail)
                      obtain ⟨x8, hx8⟩ : ∃ X, set5 x7 b (.slice D ds.length dc) (.bool dist) (.slice A' l'.length c') (.bool false) (.int .i64 ((0 : Nat) : Int)) = X := ⟨_, rfl⟩
                      rw [show ((((x7.setCell ⟨b, 0, none⟩ (.slice D ds.length dc)).setCell ⟨b, 1, none⟩ (.bool dist)).setCell ⟨b, 2, none⟩ (.slice A' l'.length c')).setCell ⟨b, 3, none⟩ (.bool false)).setCell ⟨b, 4, none⟩ (.int .i64 0) = x8 from hx8]
                      rw [hx8] at HST HSU8 HOB8 HKK8 HRR8
                      clear hx8 z0 z1 z2 z3 z4 f0 f1 f2 f3 f4 HBX7 HSU7 HOB7 HKK7 HRR7 HW7
                      obtain ⟨c0, c1, c2⟩ := HOB8.out.cells
                      go_wp2_with fail
                      refine (SameValues_any K kc' o.ks.length o.ks o.kA o.kc o.ks.length o.ks x8 HKK8.out.rd (HRO.out.1.2.2.2.1.on HST.out.2.2) rfl rfl (by have := HSK.out.1; omega) true (by simp)).mono ?_
                      rintro e x9 ⟨rfl, hb9⟩
                      clear c0 c1 c2
                      have HB9 := Lib.hid hb9
                      clear hb9
                      obtain ⟨c0, c1, c2⟩ := (HOB8.out.on HB9.out).cells
                      go_wp2_with fail
                      refine (SameValues_any R rc' o.rs.length o.rs o.rA o.rc o.rs.length o.rs x9 (HRR8.out.but (P := fun _ => False) (But.of_below HB9.out) (far_none _)).rd (HRO.out.2.2.2.2.1.on (HST.out.2.2.trans (HB9.out.mono HST.out.2.2.size))) rfl rfl (by have := HSR.out.1; omega) true (by simp)).mono ?_
                      rintro e x10 ⟨rfl, hb10⟩
                      have HB10 := Lib.hid (HB9.out.trans (hb10.mono HB9.out.size))
                      clear hb10 c0 c1 c2
                      go_wp2_with fail
                      go_meet
                      exact ⟨eAdd ds o.ks o.rs, true, none, none, 0, 0, [], by unfold eAdd; split <;> simp, rfl, rfl, rfl, rfl, rfl, rfl, fun h => absurd h (by simp), fun h => absurd h (by simp), by simp, Pl.on ⟨HST.out.2.2, HBW.out, .inl ⟨va', l', HSU8.out, HST.out.2.1, Nat.le_trans HNW.out.2.2 (Nat.succ_le_succ HLM.out)⟩⟩ HB10.out⟩
                    · have HSS := Lib.hid hss
                      have HRF := Lib.hid hrf
                      have HZM := Lib.hid (And.intro hzm hkq)
                      clear hss hrf hzm hkq
                      go_wp2_with fail
                      refine (Add_s HSS.out _ _ _ _ _ _).mono ?_
                      rintro e x6 ⟨rfl, hwx⟩
                      rw [hwx]
                      clear hwx x6
                      obtain ⟨lA, lc, hbox, hok, hog⟩ := HRF.out
                      have HBX6 := Lib.hid hbox
                      have HOK6 := Lib.hid (And.intro hok hog)
                      clear hbox hok hog
                      obtain ⟨c0, c1, c2⟩ := HOB5.out.cells
                      obtain ⟨z0, z1, z2, z3, z4⟩ := HBX6.out.cells
                      go_wp2_with fail
                      refine (refAdd_late D ds.length dc dist lA Z.length lc kq _ _ _ ⟨_, _, _, rfl⟩ ⟨_, _, _, rfl⟩).mono ?_
                      rintro e x7 ⟨rfl, hb7⟩
                      clear c0 c1 c2 z0 z1 z2 z3 z4
                      have HW7 := Lib.hid (HW5.out.trans (hb7.mono HW5.out.size))
                      have HBX7 := Lib.hid (HBX6.out.on hb7)
                      have HSS7 := Lib.hid (HSS.out.on hb7)
                      have HOB7 := Lib.hid (HOB5.out.on hb7)
                      have HKK7 := Lib.hid (HKK.out.but (P := fun _ => False) (But.of_below hb7) (far_none _))
                      have HRR7 := Lib.hid (HRR.out.but (P := fun _ => False) (But.of_below hb7) (far_none _))
                      have HOK7 := Lib.hid (show OkO x7 lA Z ∧ ∀ e ∈ Z, OnG x7 e from ⟨HOK6.out.1.on hb7, fun e he => (HOK6.out.2 e he).on hb7⟩)
                      clear hb7 HBX6 HSS HOB5 HKK HRR HRF HOK6
                      obtain ⟨z0, z1, z2, z3, z4⟩ := HBX7.out.cells
                      have f0 := HBX7.out.frz 0
                      have f1 := HBX7.out.frz 1
                      have f2 := HBX7.out.frz 2
                      have f3 := HBX7.out.frz 3
                      have f4 := HBX7.out.frz 4
                      have HST := Lib.hid (stored_ref HBX7.out HBW.out HW7.out lA Z lc kq true HOK7.out.1 HOK7.out.2)
                      have hfs : FarS x7 (fun j => j = b) := fun j hj => by subst hj; exact ⟨_, _, HBX7.out⟩
                      have HSS8 := Lib.hid (HSS7.out.butS HST.out.1 hfs)
                      have HOB8 := Lib.hid (HOB7.out.butS HST.out.1 hfs)
                      have HKK8 := Lib.hid (HKK7.out.butT HST.out.1 hfs (by decide))
                      have HRR8 := Lib.hid (HRR7.out.butT HST.out.1 hfs (by decide))
                      unfold refV
                      clear hfs
                      go_upto_region 24 with (fail)
                      obtain ⟨x8, hx8⟩ : ∃ X, set5 x7 b (.slice D ds.length dc) (.bool dist) (.slice lA Z.length lc) (.bool true) (.int .i64 (kq : Int)) = X := ⟨_, rfl⟩
                      rw [show ((((x7.setCell ⟨b, 0, none⟩ (.slice D ds.length dc)).setCell ⟨b, 1, none⟩ (.bool dist)).setCell ⟨b, 2, none⟩ (.slice lA Z.length lc)).setCell ⟨b, 3, none⟩ (.bool true)).setCell ⟨b, 4, none⟩ (.int .i64 (kq : Int)) = x8 from hx8]
                      rw [hx8] at HST HSS8 HOB8 HKK8 HRR8
                      clear hx8 z0 z1 z2 z3 z4 f0 f1 f2 f3 f4 HBX7 HSS7 HOB7 HKK7 HRR7 HW7
                      obtain ⟨c0, c1, c2⟩ := HOB8.out.cells
                      go_wp2_with fail
                      refine (SameValues_any K kc' o.ks.length o.ks o.kA o.kc o.ks.length o.ks x8 HKK8.out.rd (HRO.out.1.2.2.2.1.on HST.out.2.2) rfl rfl (by have := HSK.out.1; omega) true (by simp)).mono ?_
                      rintro e x9 ⟨rfl, hb9⟩
                      clear c0 c1 c2
                      have HB9 := Lib.hid hb9
                      clear hb9
                      obtain ⟨c0, c1, c2⟩ := (HOB8.out.on HB9.out).cells
                      go_wp2_with fail
                      refine (SameValues_any R rc' o.rs.length o.rs o.rA o.rc o.rs.length o.rs x9 (HRR8.out.but (P := fun _ => False) (But.of_below HB9.out) (far_none _)).rd (HRO.out.2.2.2.2.1.on (HST.out.2.2.trans (HB9.out.mono HST.out.2.2.size))) rfl rfl (by have := HSR.out.1; omega) true (by simp)).mono ?_
                      rintro e x10 ⟨rfl, hb10⟩
                      have HB10 := Lib.hid (HB9.out.trans (hb10.mono HB9.out.size))
                      clear hb10 c0 c1 c2
                      go_wp2_with fail
                      go_meet
                      exact ⟨70, true, none, none, 0, 0, [], .inr (.inr rfl), rfl, rfl, rfl, rfl, rfl, rfl, fun h => absurd h (by simp), fun h => absurd h (by simp), by simp, Pl.on ⟨HST.out.2.2, HBW.out, .inr ⟨kq, Z, HSS8.out, HST.out.2.1, Nat.le_trans HZM.out.1 (Nat.le_succ _), HZM.out.2⟩⟩ HB10.out⟩
                · have hkf : (kd == 1) = false ∧ True := ⟨by simp; omega, trivial⟩
                  rw [decide_eq_false hA]
                  obtain ⟨hw5, hbw, hst⟩ := HP4.out
                  have HW5 := Lib.hid hw5
                  have HBW := Lib.hid hbw
                  have hkc : kd = 6 ∨ kd = 7 ∨ kd = 8 ∨ kd = 9 ∨ (¬ kd = 6 ∧ ¬ kd = 7 ∧ ¬ kd = 8 ∧ ¬ kd = 9) := by omega
                  clear hkf hA hw5 hbw c0 c1 c2
                  rcases hkc with rfl | rfl | rfl | rfl | ⟨n6, n7, n8, n9⟩
                  · clear HP4
                    rcases hst with ⟨va, l, hsu, hrf, hlm⟩ | ⟨kq, Z, hss, hrf, hzm, hkq⟩
                    · have HSU := Lib.hid hsu
                      have HRF := Lib.hid hrf
                      have HLM := Lib.hid hlm
                      clear hsu hrf hlm
                      go_wp2_with fail
                      refine (Sort_u HSU.out HW5.out.size (by rw [List.length_map]; have := HLM.out; omega)).mono ?_
                      rintro e x6 ⟨rfl, hss, hb6⟩
                      have hf : Far w4 (fun j => j = s) := fun j hj => HSU.out.far j (.inl hj)
                      have HSO6 := Lib.hid (show SorS x6 w.heap.size s ((leftG On.kb dist l).map fun e => putL e.rs) 0 by rw [left_krO, List.map_map] at hss; exact hss)
                      have HRF6 := Lib.hid (HRF.out.but hb6 hf)
                      have HW6 := Lib.hid (HW5.out.trans (hb6.below HW5.out.size fun j hj => (HSU.out.lo j (.inl hj)).1))
                      clear hb6 hss hf HRF HW5
                      obtain ⟨lA, lc, hbox, hok, hog⟩ := HRF6.out
                      have HBX6 := Lib.hid hbox
                      have HOK6 := Lib.hid (And.intro hok hog)
                      clear hbox hok hog
                      obtain ⟨z0, z1, z2, z3, z4⟩ := HBX6.out.cells
                      go_wp2_with fail
                      refine (refSort_ok D ds.length dc dist lA l lc 0 x6 HOK6.out.1 (fun e he => ⟨(HOK6.out.2 e he).1, (HOK6.out.2 e he).2.1⟩) (by have := HLM.out; omega)).mono ?_
                      rintro e x7 ⟨A', c', rfl, hlc, hok7, hb7⟩
                      clear z0 z1 z2 z3 z4
                      have HW7 := Lib.hid (HW6.out.trans (hb7.mono HW6.out.size))
                      have HBX7 := Lib.hid (HBX6.out.on hb7)
                      have HSO7 := Lib.hid (HSO6.out.on hb7)
                      have HNW := Lib.hid (show OkO x7 A' (leftG On.kb dist l) ∧ ∀ e ∈ (leftG On.kb dist l), OnG x7 e from ⟨hok7, (fun e he => (HOK6.out.2 e (leftG_mem he)).on hb7)⟩)
                      obtain ⟨z0, z1, z2, z3, z4⟩ := HBX7.out.cells
                      have f0 := HBX7.out.frz 0
                      have f1 := HBX7.out.frz 1
                      have f2 := HBX7.out.frz 2
                      have f3 := HBX7.out.frz 3
                      have f4 := HBX7.out.frz 4
                      have HST := Lib.hid (stored_ref HBX7.out HBW.out HW7.out A' (leftG On.kb dist l) c' 0 true HNW.out.1 HNW.out.2)
                      have hfs : FarS x7 (fun j => j = b) := fun j hj => by subst hj; exact ⟨_, _, HBX7.out⟩
                      have HSO8 := Lib.hid (HSO7.out.butS HST.out.1 hfs)
                      unfold refV
                      clear hfs hb7
                      go_wp2_with fail
                      go_meet
                      exact ⟨0, true, none, none, 0, 0, [], .inl rfl, rfl, rfl, rfl, rfl, rfl, rfl, fun h => absurd h (by simp), fun h => absurd h (by simp), by simp, Pl.more (m := i) ⟨HST.out.2.2, HBW.out, .inr ⟨0, leftG On.kb dist l, HSO8.out, HST.out.2.1, Nat.le_trans (leftG_length _ _) HLM.out, Nat.zero_le _⟩⟩ (Nat.le_succ i)⟩
                    · have HSS := Lib.hid hss
                      have HRF := Lib.hid hrf
                      have HZM := Lib.hid (And.intro hzm hkq)
                      clear hss hrf hzm hkq
                      go_wp2_with fail
                      refine (Sort_s HSS.out).mono ?_
                      rintro e x6 ⟨rfl, hwx⟩
                      rw [hwx]
                      clear hwx x6
                      have HSO6 := HSS
                      have HRF6 := HRF
                      have HW6 := HW5
                      clear HRF HW5
                      obtain ⟨lA, lc, hbox, hok, hog⟩ := HRF6.out
                      have HBX6 := Lib.hid hbox
                      have HOK6 := Lib.hid (And.intro hok hog)
                      clear hbox hok hog
                      obtain ⟨z0, z1, z2, z3, z4⟩ := HBX6.out.cells
                      go_wp2_with fail
                      refine (refSort_late D ds.length dc dist lA Z.length lc kq _).mono ?_
                      rintro e x7 ⟨rfl, hb7⟩
                      clear z0 z1 z2 z3 z4
                      have HW7 := Lib.hid (HW6.out.trans (hb7.mono HW6.out.size))
                      have HBX7 := Lib.hid (HBX6.out.on hb7)
                      have HSO7 := Lib.hid (HSO6.out.on hb7)
                      have HNW := Lib.hid (show OkO x7 lA Z ∧ ∀ e ∈ Z, OnG x7 e from ⟨(HOK6.out.1.on hb7), (fun e he => (HOK6.out.2 e he).on hb7)⟩)
                      obtain ⟨z0, z1, z2, z3, z4⟩ := HBX7.out.cells
                      have f0 := HBX7.out.frz 0
                      have f1 := HBX7.out.frz 1
                      have f2 := HBX7.out.frz 2
                      have f3 := HBX7.out.frz 3
                      have f4 := HBX7.out.frz 4
                      have HST := Lib.hid (stored_ref HBX7.out HBW.out HW7.out lA Z lc kq true HNW.out.1 HNW.out.2)
                      have hfs : FarS x7 (fun j => j = b) := fun j hj => by subst hj; exact ⟨_, _, HBX7.out⟩
                      have HSO8 := Lib.hid (HSO7.out.butS HST.out.1 hfs)
                      unfold refV
                      clear hfs hb7
                      go_wp2_with fail
                      go_meet
                      exact ⟨70, true, none, none, 0, 0, [], .inr (.inr rfl), rfl, rfl, rfl, rfl, rfl, rfl, fun h => absurd h (by simp), fun h => absurd h (by simp), by simp, Pl.more (m := i) ⟨HST.out.2.2, HBW.out, .inr ⟨kq, Z, HSO8.out, HST.out.2.1, HZM.out.1, HZM.out.2⟩⟩ (Nat.le_succ i)⟩
                  · clear HP4
                    rcases hst with ⟨va, l, hsu, hrf, hlm⟩ | ⟨kq, Z, hss, hrf, hzm, hkq⟩
                    · have HSU := Lib.hid hsu
                      have HRF := Lib.hid hrf
                      have HLM := Lib.hid hlm
                      clear hsu hrf hlm
                      go_wp2_with fail
                      refine (Next_u HSU.out).mono ?_
                      rintro e x6 ⟨rfl, hb6⟩
                      have HSO6 := Lib.hid (HSU.out.on hb6)
                      have HRF6 := Lib.hid (HRF.out.on hb6)
                      have HW6 := Lib.hid (HW5.out.trans (hb6.mono HW5.out.size))
                      clear hb6 HRF HW5
                      obtain ⟨lA, lc, hbox, hok, hog⟩ := HRF6.out
                      have HBX6 := Lib.hid hbox
                      have HOK6 := Lib.hid (And.intro hok hog)
                      clear hbox hok hog
                      obtain ⟨z0, z1, z2, z3, z4⟩ := HBX6.out.cells
                      go_wp2_with fail
                      refine (refNext_early D ds.length dc dist lA l.length lc 0 _).mono ?_
                      rintro e x7 ⟨rfl, hb7⟩
                      clear z0 z1 z2 z3 z4
                      have HW7 := Lib.hid (HW6.out.trans (hb7.mono HW6.out.size))
                      have HBX7 := Lib.hid (HBX6.out.on hb7)
                      have HSO7 := Lib.hid (HSO6.out.on hb7)
                      have HNW := Lib.hid (show OkO x7 lA l ∧ ∀ e ∈ l, OnG x7 e from ⟨(HOK6.out.1.on hb7), (fun e he => (HOK6.out.2 e he).on hb7)⟩)
                      obtain ⟨z0, z1, z2, z3, z4⟩ := HBX7.out.cells
                      have f0 := HBX7.out.frz 0
                      have f1 := HBX7.out.frz 1
                      have f2 := HBX7.out.frz 2
                      have f3 := HBX7.out.frz 3
                      have f4 := HBX7.out.frz 4
                      have HST := Lib.hid (stored_ref HBX7.out HBW.out HW7.out lA l lc 0 false HNW.out.1 HNW.out.2)
                      have hfs : FarS x7 (fun j => j = b) := fun j hj => by subst hj; exact ⟨_, _, HBX7.out⟩
                      have HSO8 := Lib.hid (HSO7.out.butS HST.out.1 hfs)
                      unfold refV
                      clear hfs hb7
                      go_wp2_with fail
                      go_meet
                      exact ⟨0, false, none, none, 0, 0, [], .inl rfl, rfl, rfl, rfl, rfl, rfl, rfl, fun h => absurd h (by simp), fun h => absurd h (by simp), by simp, Pl.more (m := i) ⟨HST.out.2.2, HBW.out, .inl ⟨va, l, HSO8.out, HST.out.2.1, HLM.out⟩⟩ (Nat.le_succ i)⟩
                    · have HSS := Lib.hid hss
                      have HRF := Lib.hid hrf
                      have HZM := Lib.hid (And.intro hzm hkq)
                      clear hss hrf hzm hkq
                      by_cases hkl : kq < Z.length
                      · have HKL := Lib.hid hkl
                        obtain ⟨en, hen⟩ : ∃ en, Z[kq]? = some en := ⟨_, List.getElem?_eq_getElem hkl⟩
                        have HGE := Lib.hid (show (Z.map fun e => putL e.rs)[kq]? = some (putL en.rs) ∧ getN (putL en.rs) = some en.rs ∧ Z[kq]? = some en from by
                          obtain ⟨_, _, _, _, hog⟩ := HRF.out
                          have hg := hog en (List.mem_of_getElem? hen)
                          exact ⟨by rw [List.getElem?_map, hen]; rfl, getN_good en.rs (by have := hg.2.2.2; omega) hg.2.2.1, hen⟩)
                        clear hkl hen
                        go_wp2_with fail
                        refine (Next_s HSS.out (putL en.rs) HGE.out.1 en.rs HGE.out.2.1 (by rw [List.length_map]; have := HZM.out.1; omega)).mono ?_
                        rintro e x6 ⟨v, rfl, hov, hss, hb6⟩
                        have hf := HSS.out.far
                        obtain ⟨vA, vc, rfl, _, _, _⟩ := hov.form
                        have HOV := Lib.hid (OkR.of_own hov)
                        have HSO6 := Lib.hid hss
                        have HRF6 := Lib.hid (HRF.out.but hb6 hf)
                        have HW6 := Lib.hid (HW5.out.trans (hb6.below HW5.out.size fun j hj => by rw [hj]; exact HSS.out.lo.1))
                        clear hb6 hss hf HRF HW5 hov
                        obtain ⟨lA, lc, hbox, hok, hog⟩ := HRF6.out
                        have HBX6 := Lib.hid hbox
                        have HOK6 := Lib.hid (And.intro hok hog)
                        clear hbox hok hog
                        obtain ⟨z0, z1, z2, z3, z4⟩ := HBX6.out.cells
                        go_wp2_with fail
                        refine (refNext_ok D ds.length dc dist lA Z lc kq en _ HOK6.out.1 HGE.out.2.2 (by have := HZM.out.1; omega)).mono ?_
                        rintro e x7 ⟨rfl, hb7⟩
                        clear z0 z1 z2 z3 z4
                        have HW7 := Lib.hid (HW6.out.trans (hb7.mono HW6.out.size))
                        have HBX7 := Lib.hid (HBX6.out.on hb7)
                        have HSO7 := Lib.hid (HSO6.out.on hb7)
                        have HNW := Lib.hid (show OkO x7 lA Z ∧ ∀ e ∈ Z, OnG x7 e from ⟨(HOK6.out.1.on hb7), (fun e he => (HOK6.out.2 e he).on hb7)⟩)
                        have HV7 := Lib.hid (HOV.out.but (P := fun _ => False) (But.of_below hb7) (far_none _))
                        obtain ⟨z0, z1, z2, z3, z4⟩ := HBX7.out.cells
                        have f0 := HBX7.out.frz 0
                        have f1 := HBX7.out.frz 1
                        have f2 := HBX7.out.frz 2
                        have f3 := HBX7.out.frz 3
                        have f4 := HBX7.out.frz 4
                        have HST := Lib.hid (stored_ref HBX7.out HBW.out HW7.out lA Z lc (kq + 1) true HNW.out.1 HNW.out.2)
                        have hfs : FarS x7 (fun j => j = b) := fun j hj => by subst hj; exact ⟨_, _, HBX7.out⟩
                        have HSO8 := Lib.hid (HSO7.out.butS HST.out.1 hfs)
                        have HV8 := Lib.hid (show _ ∧ _ ∧ en.rs.length ≤ 10 from ⟨HV7.out.butT HST.out.1 hfs (by decide), (HNW.out.2 en (List.mem_of_getElem? HGE.out.2.2)).1.2.2.2.1.butT HST.out.1 hfs (by decide), (HNW.out.2 en (List.mem_of_getElem? HGE.out.2.2)).2.2.2⟩)
                        unfold On.rv
                        unfold refV
                        clear hfs hb7
                        go_wp2_with fail
                        go_meet
                        exact ⟨0, true, vA, en.rA, vc, en.rc, en.rs, .inl rfl, rfl, rfl, rfl, rfl, rfl, rfl, HV8.out.1.rd, HV8.out.2.1.rd, HV8.out.2.2, Pl.more (m := i) ⟨HST.out.2.2, HBW.out, .inr ⟨(kq + 1), Z, HSO8.out, HST.out.2.1, HZM.out.1, HKL.out⟩⟩ (Nat.le_succ i)⟩
                      · have HKL := Lib.hid hkl
                        clear hkl
                        go_wp2_with fail
                        refine (Next_s_end HSS.out (by rw [List.length_map]; exact Nat.le_of_not_lt HKL.out) (by have h1 := HZM.out.1; have h2 := HZM.out.2; omega)).mono ?_
                        rintro e x6 ⟨rfl, hss, hb6⟩
                        have HSO6 := Lib.hid hss
                        have HRF6 := Lib.hid (HRF.out.on hb6)
                        have HW6 := Lib.hid (HW5.out.trans (hb6.mono HW5.out.size))
                        clear hb6 hss HRF HW5
                        obtain ⟨lA, lc, hbox, hok, hog⟩ := HRF6.out
                        have HBX6 := Lib.hid hbox
                        have HOK6 := Lib.hid (And.intro hok hog)
                        clear hbox hok hog
                        obtain ⟨z0, z1, z2, z3, z4⟩ := HBX6.out.cells
                        go_wp2_with fail
                        refine (refNext_end D ds.length dc dist lA Z.length lc kq _ (Nat.le_of_not_lt HKL.out)).mono ?_
                        rintro e x7 ⟨rfl, hb7⟩
                        clear z0 z1 z2 z3 z4
                        have HW7 := Lib.hid (HW6.out.trans (hb7.mono HW6.out.size))
                        have HBX7 := Lib.hid (HBX6.out.on hb7)
                        have HSO7 := Lib.hid (HSO6.out.on hb7)
                        have HNW := Lib.hid (show OkO x7 lA Z ∧ ∀ e ∈ Z, OnG x7 e from ⟨(HOK6.out.1.on hb7), (fun e he => (HOK6.out.2 e he).on hb7)⟩)
                        obtain ⟨z0, z1, z2, z3, z4⟩ := HBX7.out.cells
                        have f0 := HBX7.out.frz 0
                        have f1 := HBX7.out.frz 1
                        have f2 := HBX7.out.frz 2
                        have f3 := HBX7.out.frz 3
                        have f4 := HBX7.out.frz 4
                        have HST := Lib.hid (stored_ref HBX7.out HBW.out HW7.out lA Z lc kq true HNW.out.1 HNW.out.2)
                        have hfs : FarS x7 (fun j => j = b) := fun j hj => by subst hj; exact ⟨_, _, HBX7.out⟩
                        have HSO8 := Lib.hid (HSO7.out.butS HST.out.1 hfs)
                        unfold refV
                        clear hfs hb7
                        go_wp2_with fail
                        go_meet
                        exact ⟨0, false, none, none, 0, 0, [], .inl rfl, rfl, rfl, rfl, rfl, rfl, rfl, fun h => absurd h (by simp), fun h => absurd h (by simp), by simp, Pl.more (m := i) ⟨HST.out.2.2, HBW.out, .inr ⟨kq, Z, HSO8.out, HST.out.2.1, HZM.out.1, HZM.out.2⟩⟩ (Nat.le_succ i)⟩
                  · clear HP4
                    rcases hst with ⟨va, l, hsu, hrf, hlm⟩ | ⟨kq, Z, hss, hrf, hzm, hkq⟩
                    · have HSU := Lib.hid hsu
                      have HRF := Lib.hid hrf
                      have HLM := Lib.hid hlm
                      clear hsu hrf hlm
                      go_wp2_with fail
                      refine (Next_u HSU.out).mono ?_
                      rintro e x6 ⟨rfl, hb6⟩
                      have HSO6 := Lib.hid (HSU.out.on hb6)
                      have HRF6 := Lib.hid (HRF.out.on hb6)
                      have HW6 := Lib.hid (HW5.out.trans (hb6.mono HW5.out.size))
                      clear hb6 HRF HW5
                      obtain ⟨lA, lc, hbox, hok, hog⟩ := HRF6.out
                      have HBX6 := Lib.hid hbox
                      have HOK6 := Lib.hid (And.intro hok hog)
                      clear hbox hok hog
                      obtain ⟨z0, z1, z2, z3, z4⟩ := HBX6.out.cells
                      go_wp2_with fail
                      refine (refNext_early D ds.length dc dist lA l.length lc 0 _).mono ?_
                      rintro e x7 ⟨rfl, hb7⟩
                      clear z0 z1 z2 z3 z4
                      have HW7 := Lib.hid (HW6.out.trans (hb7.mono HW6.out.size))
                      have HBX7 := Lib.hid (HBX6.out.on hb7)
                      have HSO7 := Lib.hid (HSO6.out.on hb7)
                      have HNW := Lib.hid (show OkO x7 lA l ∧ ∀ e ∈ l, OnG x7 e from ⟨(HOK6.out.1.on hb7), (fun e he => (HOK6.out.2 e he).on hb7)⟩)
                      obtain ⟨z0, z1, z2, z3, z4⟩ := HBX7.out.cells
                      have f0 := HBX7.out.frz 0
                      have f1 := HBX7.out.frz 1
                      have f2 := HBX7.out.frz 2
                      have f3 := HBX7.out.frz 3
                      have f4 := HBX7.out.frz 4
                      have HST := Lib.hid (stored_ref HBX7.out HBW.out HW7.out lA l lc 0 false HNW.out.1 HNW.out.2)
                      have hfs : FarS x7 (fun j => j = b) := fun j hj => by subst hj; exact ⟨_, _, HBX7.out⟩
                      have HSO8 := Lib.hid (HSO7.out.butS HST.out.1 hfs)
                      unfold refV
                      clear hfs hb7
                      go_wp2_with fail
                      go_meet
                      exact ⟨0, false, none, none, 0, 0, [], .inl rfl, rfl, rfl, rfl, rfl, rfl, rfl, fun h => absurd h (by simp), fun h => absurd h (by simp), by simp, Pl.more (m := i) ⟨HST.out.2.2, HBW.out, .inl ⟨va, l, HSO8.out, HST.out.2.1, HLM.out⟩⟩ (Nat.le_succ i)⟩
                    · have HSS := Lib.hid hss
                      have HRF := Lib.hid hrf
                      have HZM := Lib.hid (And.intro hzm hkq)
                      clear hss hrf hzm hkq
                      by_cases hkl : kq < Z.length
                      · have HKL := Lib.hid hkl
                        obtain ⟨en, hen⟩ : ∃ en, Z[kq]? = some en := ⟨_, List.getElem?_eq_getElem hkl⟩
                        have HGE := Lib.hid (show (Z.map fun e => putL e.rs)[kq]? = some (putL en.rs) ∧ getN (putL en.rs) = some en.rs ∧ Z[kq]? = some en from by
                          obtain ⟨_, _, _, _, hog⟩ := HRF.out
                          have hg := hog en (List.mem_of_getElem? hen)
                          exact ⟨by rw [List.getElem?_map, hen]; rfl, getN_good en.rs (by have := hg.2.2.2; omega) hg.2.2.1, hen⟩)
                        clear hkl hen
                        go_wp2_with fail
                        refine (Next_s HSS.out (putL en.rs) HGE.out.1 en.rs HGE.out.2.1 (by rw [List.length_map]; have := HZM.out.1; omega)).mono ?_
                        rintro e x6 ⟨v, rfl, hov, hss, hb6⟩
                        have hf := HSS.out.far
                        obtain ⟨vA, vc, rfl, _, _, _⟩ := hov.form
                        have HOV := Lib.hid (OkR.of_own hov)
                        have HSO6 := Lib.hid hss
                        have HRF6 := Lib.hid (HRF.out.but hb6 hf)
                        have HW6 := Lib.hid (HW5.out.trans (hb6.below HW5.out.size fun j hj => by rw [hj]; exact HSS.out.lo.1))
                        clear hb6 hss hf HRF HW5 hov
                        obtain ⟨lA, lc, hbox, hok, hog⟩ := HRF6.out
                        have HBX6 := Lib.hid hbox
                        have HOK6 := Lib.hid (And.intro hok hog)
                        clear hbox hok hog
                        obtain ⟨z0, z1, z2, z3, z4⟩ := HBX6.out.cells
                        go_wp2_with fail
                        refine (refNext_ok D ds.length dc dist lA Z lc kq en _ HOK6.out.1 HGE.out.2.2 (by have := HZM.out.1; omega)).mono ?_
                        rintro e x7 ⟨rfl, hb7⟩
                        clear z0 z1 z2 z3 z4
                        have HW7 := Lib.hid (HW6.out.trans (hb7.mono HW6.out.size))
                        have HBX7 := Lib.hid (HBX6.out.on hb7)
                        have HSO7 := Lib.hid (HSO6.out.on hb7)
                        have HNW := Lib.hid (show OkO x7 lA Z ∧ ∀ e ∈ Z, OnG x7 e from ⟨(HOK6.out.1.on hb7), (fun e he => (HOK6.out.2 e he).on hb7)⟩)
                        have HV7 := Lib.hid (HOV.out.but (P := fun _ => False) (But.of_below hb7) (far_none _))
                        obtain ⟨z0, z1, z2, z3, z4⟩ := HBX7.out.cells
                        have f0 := HBX7.out.frz 0
                        have f1 := HBX7.out.frz 1
                        have f2 := HBX7.out.frz 2
                        have f3 := HBX7.out.frz 3
                        have f4 := HBX7.out.frz 4
                        have HST := Lib.hid (stored_ref HBX7.out HBW.out HW7.out lA Z lc (kq + 1) true HNW.out.1 HNW.out.2)
                        have hfs : FarS x7 (fun j => j = b) := fun j hj => by subst hj; exact ⟨_, _, HBX7.out⟩
                        have HSO8 := Lib.hid (HSO7.out.butS HST.out.1 hfs)
                        have HV8 := Lib.hid (show _ ∧ _ ∧ en.rs.length ≤ 10 from ⟨HV7.out.butT HST.out.1 hfs (by decide), (HNW.out.2 en (List.mem_of_getElem? HGE.out.2.2)).1.2.2.2.1.butT HST.out.1 hfs (by decide), (HNW.out.2 en (List.mem_of_getElem? HGE.out.2.2)).2.2.2⟩)
                        unfold On.rv
                        unfold refV
                        clear hfs hb7
                        go_wp2_with fail
                        go_meet
                        exact ⟨0, true, vA, en.rA, vc, en.rc, en.rs, .inl rfl, rfl, rfl, rfl, rfl, rfl, rfl, HV8.out.1.rd, HV8.out.2.1.rd, HV8.out.2.2, Pl.more (m := i) ⟨HST.out.2.2, HBW.out, .inr ⟨(kq + 1), Z, HSO8.out, HST.out.2.1, HZM.out.1, HKL.out⟩⟩ (Nat.le_succ i)⟩
                      · have HKL := Lib.hid hkl
                        clear hkl
                        go_wp2_with fail
                        refine (Next_s_end HSS.out (by rw [List.length_map]; exact Nat.le_of_not_lt HKL.out) (by have h1 := HZM.out.1; have h2 := HZM.out.2; omega)).mono ?_
                        rintro e x6 ⟨rfl, hss, hb6⟩
                        have HSO6 := Lib.hid hss
                        have HRF6 := Lib.hid (HRF.out.on hb6)
                        have HW6 := Lib.hid (HW5.out.trans (hb6.mono HW5.out.size))
                        clear hb6 hss HRF HW5
                        obtain ⟨lA, lc, hbox, hok, hog⟩ := HRF6.out
                        have HBX6 := Lib.hid hbox
                        have HOK6 := Lib.hid (And.intro hok hog)
                        clear hbox hok hog
                        obtain ⟨z0, z1, z2, z3, z4⟩ := HBX6.out.cells
                        go_wp2_with fail
                        refine (refNext_end D ds.length dc dist lA Z.length lc kq _ (Nat.le_of_not_lt HKL.out)).mono ?_
                        rintro e x7 ⟨rfl, hb7⟩
                        clear z0 z1 z2 z3 z4
                        have HW7 := Lib.hid (HW6.out.trans (hb7.mono HW6.out.size))
                        have HBX7 := Lib.hid (HBX6.out.on hb7)
                        have HSO7 := Lib.hid (HSO6.out.on hb7)
                        have HNW := Lib.hid (show OkO x7 lA Z ∧ ∀ e ∈ Z, OnG x7 e from ⟨(HOK6.out.1.on hb7), (fun e he => (HOK6.out.2 e he).on hb7)⟩)
                        obtain ⟨z0, z1, z2, z3, z4⟩ := HBX7.out.cells
                        have f0 := HBX7.out.frz 0
                        have f1 := HBX7.out.frz 1
                        have f2 := HBX7.out.frz 2
                        have f3 := HBX7.out.frz 3
                        have f4 := HBX7.out.frz 4
                        have HST := Lib.hid (stored_ref HBX7.out HBW.out HW7.out lA Z lc kq true HNW.out.1 HNW.out.2)
                        have hfs : FarS x7 (fun j => j = b) := fun j hj => by subst hj; exact ⟨_, _, HBX7.out⟩
                        have HSO8 := Lib.hid (HSO7.out.butS HST.out.1 hfs)
                        unfold refV
                        clear hfs hb7
                        go_wp2_with fail
                        go_meet
                        exact ⟨0, false, none, none, 0, 0, [], .inl rfl, rfl, rfl, rfl, rfl, rfl, rfl, fun h => absurd h (by simp), fun h => absurd h (by simp), by simp, Pl.more (m := i) ⟨HST.out.2.2, HBW.out, .inr ⟨kq, Z, HSO8.out, HST.out.2.1, HZM.out.1, HZM.out.2⟩⟩ (Nat.le_succ i)⟩
                  · clear HP4
                    rcases hst with ⟨va, l, hsu, hrf, hlm⟩ | ⟨kq, Z, hss, hrf, hzm, hkq⟩
                    · have HSU := Lib.hid hsu
                      have HRF := Lib.hid hrf
                      have HLM := Lib.hid hlm
                      clear hsu hrf hlm
                      go_wp2_with fail
                      refine (Rewind_u HSU.out).mono ?_
                      rintro e x6 ⟨rfl, hwx⟩
                      rw [hwx]
                      clear hwx x6
                      have HSO6 := HSU
                      have HRF6 := HRF
                      have HW6 := HW5
                      clear HRF HW5
                      obtain ⟨lA, lc, hbox, hok, hog⟩ := HRF6.out
                      have HBX6 := Lib.hid hbox
                      have HOK6 := Lib.hid (And.intro hok hog)
                      clear hbox hok hog
                      obtain ⟨z0, z1, z2, z3, z4⟩ := HBX6.out.cells
                      go_wp2_with fail
                      refine (refRewind_early D ds.length dc dist lA l.length lc 0 _).mono ?_
                      rintro e x7 ⟨rfl, hb7⟩
                      clear z0 z1 z2 z3 z4
                      have HW7 := Lib.hid (HW6.out.trans (hb7.mono HW6.out.size))
                      have HBX7 := Lib.hid (HBX6.out.on hb7)
                      have HSO7 := Lib.hid (HSO6.out.on hb7)
                      have HNW := Lib.hid (show OkO x7 lA l ∧ ∀ e ∈ l, OnG x7 e from ⟨(HOK6.out.1.on hb7), (fun e he => (HOK6.out.2 e he).on hb7)⟩)
                      obtain ⟨z0, z1, z2, z3, z4⟩ := HBX7.out.cells
                      have f0 := HBX7.out.frz 0
                      have f1 := HBX7.out.frz 1
                      have f2 := HBX7.out.frz 2
                      have f3 := HBX7.out.frz 3
                      have f4 := HBX7.out.frz 4
                      have HST := Lib.hid (stored_ref HBX7.out HBW.out HW7.out lA l lc 0 false HNW.out.1 HNW.out.2)
                      have hfs : FarS x7 (fun j => j = b) := fun j hj => by subst hj; exact ⟨_, _, HBX7.out⟩
                      have HSO8 := Lib.hid (HSO7.out.butS HST.out.1 hfs)
                      unfold refV
                      clear hfs hb7
                      go_wp2_with fail
                      go_meet
                      exact ⟨70, true, none, none, 0, 0, [], .inr (.inr rfl), rfl, rfl, rfl, rfl, rfl, rfl, fun h => absurd h (by simp), fun h => absurd h (by simp), by simp, Pl.more (m := i) ⟨HST.out.2.2, HBW.out, .inl ⟨va, l, HSO8.out, HST.out.2.1, HLM.out⟩⟩ (Nat.le_succ i)⟩
                    · have HSS := Lib.hid hss
                      have HRF := Lib.hid hrf
                      have HZM := Lib.hid (And.intro hzm hkq)
                      clear hss hrf hzm hkq
                      go_wp2_with fail
                      refine (Rewind_s HSS.out).mono ?_
                      rintro e x6 ⟨rfl, hss, hb6⟩
                      have hf := HSS.out.far
                      have HSO6 := Lib.hid hss
                      have HRF6 := Lib.hid (HRF.out.but hb6 hf)
                      have HW6 := Lib.hid (HW5.out.trans (hb6.below HW5.out.size fun j hj => by rw [hj]; exact HSS.out.lo.1))
                      clear hb6 hss hf HRF HW5 HSS
                      obtain ⟨lA, lc, hbox, hok, hog⟩ := HRF6.out
                      have HBX6 := Lib.hid hbox
                      have HOK6 := Lib.hid (And.intro hok hog)
                      clear hbox hok hog
                      obtain ⟨z0, z1, z2, z3, z4⟩ := HBX6.out.cells
                      go_wp2_with fail
                      refine (refRewind_ok D ds.length dc dist lA Z.length lc kq _).mono ?_
                      rintro e x7 ⟨rfl, hb7⟩
                      clear z0 z1 z2 z3 z4
                      have HW7 := Lib.hid (HW6.out.trans (hb7.mono HW6.out.size))
                      have HBX7 := Lib.hid (HBX6.out.on hb7)
                      have HSO7 := Lib.hid (HSO6.out.on hb7)
                      have HNW := Lib.hid (show OkO x7 lA Z ∧ ∀ e ∈ Z, OnG x7 e from ⟨(HOK6.out.1.on hb7), (fun e he => (HOK6.out.2 e he).on hb7)⟩)
                      obtain ⟨z0, z1, z2, z3, z4⟩ := HBX7.out.cells
                      have f0 := HBX7.out.frz 0
                      have f1 := HBX7.out.frz 1
                      have f2 := HBX7.out.frz 2
                      have f3 := HBX7.out.frz 3
                      have f4 := HBX7.out.frz 4
                      have HST := Lib.hid (stored_ref HBX7.out HBW.out HW7.out lA Z lc 0 true HNW.out.1 HNW.out.2)
                      have hfs : FarS x7 (fun j => j = b) := fun j hj => by subst hj; exact ⟨_, _, HBX7.out⟩
                      have HSO8 := Lib.hid (HSO7.out.butS HST.out.1 hfs)
                      unfold refV
                      clear hfs hb7
                      go_wp2_with fail
                      go_meet
                      exact ⟨0, true, none, none, 0, 0, [], .inl rfl, rfl, rfl, rfl, rfl, rfl, rfl, fun h => absurd h (by simp), fun h => absurd h (by simp), by simp, Pl.more (m := i) ⟨HST.out.2.2, HBW.out, .inr ⟨0, Z, HSO8.out, HST.out.2.1, HZM.out.1, Nat.zero_le _⟩⟩ (Nat.le_succ i)⟩
                  · have d6 : (kd == 6) = false := by simpa using n6
                    have d7 : (kd == 7) = false := by simpa using n7
                    have d8 : (kd == 8) = false := by simpa using n8
                    have d9 : (kd == 9) = false := by simpa using n9
                    clear n6 n7 n8 n9 hst
                    go_wp2_with fail
                    go_meet
                    exact ⟨0, true, none, none, 0, 0, [], .inl rfl, rfl, rfl, rfl, rfl, rfl, rfl, fun h => absurd h (by simp), fun h => absurd h (by simp), by simp, Pl.more HP4.out (Nat.le_succ i)⟩
            case rest =>
              obtain ⟨E, q, P, Q, pc, qc, rs, hE, rfl, rfl, rfl, rfl, rfl, rfl, hp, hq, hl, hpl⟩ := hcut
              have HPQ := Lib.hid hpl
              obtain ⟨n, lA, lc, hlen⟩ := pl_len hpl (by have := HLT.out.2; omega)
              have HLN := Lib.hid hlen
              have HSV := Lib.hid (fun (X : World) (hX : Below wc.heap.size wc X) => same_on (pc := pc) (qc := qc) hp hq hl hX)
              clear hp hq hl hpl hlen HP4 HOB HKS HRS hE
              go_upto_region 36 with (fail)
              go_region_held3 (fun X => X.cell? ⟨b, 2, none⟩ = some (.slice lA n lc))
                (first | exact (HLN.out _ (Below.refl _ _)).1 | exact (HLN.out _ (Below.refl _ _).drew).1 | exact (HLN.out _ HBZ.out).1)
                (first
                  | (go_at_call 19; (with_reducible refine (HSV.out _ ?_).mono ?_); (first | exact HBZ.out | exact (Below.refl _ _).drew); rintro e x1 ⟨rfl, hbz⟩; have HBZ := Lib.hid hbz; clear hbz)
                  | (go_at_call 10; (with_reducible refine (HLN.out _ ?_).2.mono ?_); (first | exact HBZ.out | exact (Below.refl _ _).drew); rintro e x1 ⟨rfl, hbz⟩; have HBZ := Lib.hid hbz; clear hbz))
              all_goals (have b2 : i < 100 := HLT.out.2; go_wp2_with fail; exact ⟨⟨i + 1, HLT.out.1, by go_num, HPQ.out.on HBZ.out⟩, meas_step HLT.out.1⟩)
          · clear c0 c1 c2
            obtain ⟨c0, c1, c2⟩ := HOB.out.cells
            by_cases hk1 : smallV o.ks 10 100 = true
            · have hk2 : smallV o.rs 10 100 = false := by
                cases h : smallV o.rs 10 100 with
                | false => rfl
                | true => exact absurd ⟨hk1, h⟩ hsm
              rw [hk1] at HSM
              rw [hk2] at HSN
              clear hk1 hk2 hsm
              go_wp2_with fail
              refine HSM.out.mono ?_
              rintro e w5 ⟨rfl, hw⟩
              rw [hw]
              clear hw w5
              go_wp2_with fail
              refine HSN.out.mono ?_
              rintro e w6 ⟨rfl, hw⟩
              rw [hw]
              clear hw w6
              go_wp2_with fail
              exact ⟨⟨i + 1, HLT.out.1, by go_num, Pl.more HP4.out (Nat.le_succ i)⟩, meas_step HLT.out.1⟩
            · have hk2 : smallV o.ks 10 100 = false := by simpa using hk1
              rw [hk2] at HSM
              clear hk1 hk2 hsm
              go_wp2_with fail
              refine HSM.out.mono ?_
              rintro e w5 ⟨rfl, hw⟩
              rw [hw]
              clear hw w5
              go_wp2_with fail
              exact ⟨⟨i + 1, HLT.out.1, by go_num, Pl.more HP4.out (Nat.le_succ i)⟩, meas_step HLT.out.1⟩
        · by_cases hlt2 : i < ops.length
          · have q1 : (i : Int) < ops.length := by omega
            have q2 : ¬ (i : Int) < 100 := by omega
            go_wp2_with fail
            refine (awk7_any _).mono ?_
            rintro e w4 ⟨rfl, hb⟩
            go_wp2_with fail
            go_ret
            exact ⟨rfl, HP.out.1.trans (hb.mono HP.out.1.size)⟩
          · have q1 : ¬ (i : Int) < ops.length := by omega
            go_wp2_with fail
            refine (awk7_any _).mono ?_
            rintro e w4 ⟨rfl, hb⟩
            go_wp2_with fail
            go_ret
            exact ⟨rfl, HP.out.1.trans (hb.mono HP.out.1.size)⟩
end Go.Proofs.Ytdhdfeiobjmdaaa

namespace Go.Proofs.Ytdhdfeiobjmdaaa.sorterPlays
open Go.ChangeShapes Go.WideShapes Go.ChangeAt Go.RowKit
set_option linter.unusedVariables false

set_option maxRecDepth 100000 in
theorem lifted (os : Os) (started : os.Started) (H : Type) (enc : TypeId × Value → H) :
    ReturnsInHanded {} Try.checked os 4 .any (Rows.sorterPlaysSpec.pre6 enc Try.prog Try.f4 Rows.sorterPlaysRow.domain false) (Rows.sorterPlaysSpec.post enc Try.prog Try.f4 false true false false) := by
  refine returnsInHanded_of_change (C := Try.checked) Try.own started (by kernel_rfl) Try.func4
    (ChangeSpec.witness6 (enc := enc) (C := Try.checked) false ⟨#[], #[.slice none 0 0, .bool false, .slice none 0 0], []⟩ 8 (by kernel_rfl) (by kernel_rfl) (by kernel_rfl) (by kernel_rfl)) ?_
  intro W base args ds gs before hval0 hW hcnd _
  have hval : ∀ (j : Nat) t v, Try.f4.params[j]? = some t → args[j]? = some v → Value.okWide Try.prog W .any base t v := hval0
  have hW' := hW
  obtain ⟨p, q, hA0, hV, rfl, hfz, hnd⟩ := hW
  have hA : DataW.TrodAll enc Try.prog W 0 (fun _ => true) true Try.f4.params.toList args.toList ds p := hA0
  rw [Try.params4] at hA hval
  obtain ⟨v0, vs0, d0, ds0, p0, q0, hargs, rfl, rfl, h0, r0⟩ := trodAll_cons hA
  obtain ⟨v1, vs1, d1, ds1, p1, q1, rfl, rfl, rfl, h1, r1⟩ := trodAll_cons r0
  obtain ⟨v2, vs2, d2, ds2, p2, q2, rfl, rfl, rfl, h2, r2⟩ := trodAll_cons r1
  obtain ⟨rfl, rfl, rfl⟩ := trodAll_nil r2
  obtain rfl : args = #[v0, v1, v2] := by cases args; simp_all
  obtain ⟨rfl, rfl⟩ := trodVars_none hV
  obtain ⟨a0, n0, c0, fu0, rfl, t0⟩ := arg_slice Try.underlying26 (hval 0 26 v0 rfl rfl) h0
  obtain ⟨l0, rfl, hc0, hm0, hr0, hs0⟩ := openFn t0
  obtain ⟨b1, rfl, rfl, rfl⟩ := open_bool Try.underlying4 (hval 1 4 v1 rfl rfl) h1
  obtain ⟨a2, n2, c2, fu2, rfl, t2⟩ := arg_slice Try.underlying40 (hval 2 40 v2 rfl rfl) h2
  obtain ⟨l2, rfl, hc2, hm2, hr2, hs2⟩ := openOps t2
  clear hA0 hval0
  have key : Calls Try.prog 4 #[.slice a0 l0.length c0, .bool b1, .slice a2 l2.length c2] W fun e w' => e = .returned (.bool true) ∧ Below W.heap.size W w' := by
    exact plays_walk a0 l0 c0 b1 a2 l2 c2 W hr0 hs0 hr2 hs2 (Nat.le_trans (Nat.le_trans hc0 hm0) (by unfold maxLen; decide)) (Nat.le_trans (Nat.le_trans hc2 hm2) (by unfold maxLen; decide))
  refine key.mono fun e W' ⟨he, hb⟩ => ?_
  subst he
  exact ⟨_, rfl, law_post hW' rfl rfl (by decide +kernel) (by kernel_rfl) hb⟩

theorem over : Rows.sorterPlaysRow.holds Try.pinned (OpenSpec.ofChange Rows.sorterPlaysSpec) :=
  OpenClaim.holds_of_wide 4 Try.f4 rfl rfl rfl rfl rfl rfl rfl ⟨rfl, rfl, rfl, rfl, rfl⟩ rfl rfl rfl rfl rfl (by kernel_rfl) Try.func4 (by kernel_rfl)
    (of_decide_eq_true (by kernel_rfl)) (by unfold Func.isWrapper; first | (rw [if_pos (by decide +kernel)]; kernel_rfl) | (rw [if_neg (by decide +kernel)]; exact ⟨rfl, rfl⟩))
    (fun os started H enc _ => lifted os started H enc)
end Go.Proofs.Ytdhdfeiobjmdaaa.sorterPlays

namespace Go.Proofs.Ytdhdfeiobjmdaaa
theorem sorterPlays_holds : Rows.SorterPlaysSaid := sorterPlays.over
end Go.Proofs.Ytdhdfeiobjmdaaa
