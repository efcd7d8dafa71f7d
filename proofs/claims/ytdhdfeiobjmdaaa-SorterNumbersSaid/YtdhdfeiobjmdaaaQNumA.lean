/-
  SorterNumbers' parts: a sorter beside values that are stored into; the calls that are refused; a row of long texts, filled one by one. Conditions: as stated.
-/
import Derived.Test.YtdhdfeiobjmdaaaQRefu
import Derived.Test.YtdhdfeiobjmdaaaQHelp
import Derived.Test.YtdhdfeiobjmdaaaRNumB
namespace Go.Proofs.Ytdhdfeiobjmdaaa
open Go.ChangeShapes Go.WideShapes Go.ChangeAt Go.RowKit
set_option linter.unusedVariables false

/-- blocks of values -/
def FarV (w : World) (P : Nat → Prop) : Prop := ∀ k, P k → ∃ cur fr, w.heap[k]? = some (.cells cur 29 fr)
theorem FarV.not {w : World} {P : Nat → Prop} (h : FarV w P) {g : Nat} {cur : Array Value} {t : TypeId} {fr : Nat × Nat} (hg : w.heap[g]? = some (.cells cur t fr)) (h1 : t ≠ 29) : ¬ P g := by
  intro hp
  obtain ⟨cur', fr', hg'⟩ := h g hp
  have e := hg.symm.trans hg'
  simp only [Option.some.injEq, Obj.cells.injEq] at e
  exact h1 e.2.1
theorem OkB.butV {P : Nat → Prop} {w w' : World} {A : Option Addr} {l : List UInt8} (h : OkB w A l) (hb : But P w w') (hf : FarV w P) : OkB w' A l := by
  intro hp
  obtain ⟨g, cur, fr, e, hg, hc⟩ := h hp
  have hn := hf.not hg (by decide)
  exact ⟨g, cur, fr, e, (hb.block g (heap_lt hg) hn).trans hg, fun j u hj => (hb.cell hn (heap_lt hg)).trans (hc j u hj)⟩
theorem OkF.butV {P : Nat → Prop} {w w' : World} {A : Option Addr} {l : List Bool} (h : OkF w A l) (hb : But P w w') (hf : FarV w P) : OkF w' A l := by
  intro hp
  obtain ⟨g, cur, fr, e, hg, hc⟩ := h hp
  have hn := hf.not hg (by decide)
  exact ⟨g, cur, fr, e, (hb.block g (heap_lt hg) hn).trans hg, fun j u hj => (hb.cell hn (heap_lt hg)).trans (hc j u hj)⟩
theorem EnB.butV {P : Nat → Prop} {w w' : World} {e : En} (h : EnB w e) (hb : But P w w') (hf : FarV w P) : EnB w' e := ⟨h.1.butV hb hf, h.2.1, h.2.2.1, h.2.2.2.1.butV hb hf, h.2.2.2.2⟩
theorem RwB.butV {P : Nat → Prop} {w w' : World} {r : Rw} (h : RwB w r) (hb : But P w w') (hf : FarV w P) : RwB w' r := ⟨h.1.butV hb hf, h.2⟩
theorem RowsB.butV {P : Nat → Prop} {w w' : World} {v : Value} {R : List Rw} (h : RowsB w v R) (hb : But P w w') (hf : FarV w P) : RowsB w' v R := by
  obtain ⟨A, c, e, hc, h⟩ := h
  refine ⟨A, c, e, hc, fun hp => ?_⟩
  obtain ⟨g, cur, fr, e, hg, hc⟩ := h hp
  have hn := hf.not hg (by decide)
  exact ⟨g, cur, fr, e, (hb.block g (heap_lt hg) hn).trans hg, fun j u hj => (hb.cell hn (heap_lt hg)).trans (hc j u hj)⟩
theorem FarV.ft {P : Nat → Prop} {w : World} {lo s : Nat} {va vr : Value} {o : So} (h : Sor w lo s va vr o) (hf : FarV w P) : ∀ k, Ft s va k → ¬ P k := by
  intro k hk
  obtain ⟨cur, t, fr, hg, ht⟩ := h.far k hk
  refine hf.not hg ?_
  rcases ht with rfl | rfl | rfl <;> decide
theorem Sor.butV {P : Nat → Prop} {w w' : World} {lo s : Nat} {va vr : Value} {o : So} (h : Sor w lo s va vr o) (hb : But P w w') (hf : FarV w P) : Sor w' lo s va vr o := by
  have hn := hf.ft h
  obtain ⟨D, dc, hs, hl, hd, ho, he, hr, hrb⟩ := h
  exact ⟨D, dc, (hb.block s (heap_lt hs) (hn s (.inl rfl))).trans hs, hl, hd.butV hb hf, ownsRow_but ho hb (fun k hk => hn k (.inr hk)), fun e hm => (he e hm).butV hb hf, hr.butV hb hf, fun r hm => (hrb r hm).butV hb hf⟩
theorem SorU.butV {P : Nat → Prop} {w w' : World} {lo s : Nat} {va : Value} {ds : List Bool} {dist : Bool} {L : List KR} (h : SorU w lo s va ds dist L) (hb : But P w w') (hf : FarV w P) : SorU w' lo s va ds dist L := by
  obtain ⟨o, h, r⟩ := h; exact ⟨o, h.butV hb hf, r⟩
theorem SorS.butV {P : Nat → Prop} {w w' : World} {lo s : Nat} {B : List (List UInt8)} {k : Nat} (h : SorS w lo s B k) (hb : But P w w') (hf : FarV w P) : SorS w' lo s B k := by
  obtain ⟨vr, o, h, r⟩ := h
  exact ⟨vr, o, h.butV hb hf, r⟩

/-- one value in a block of its own -/
def ValB (X : World) (g : Nat) (t : Trip) : Prop := X.heap[g]? = some (.cells #[.int .u8 t.1, .int .i64 t.2.1, .string t.2.2] 29 (0, 0))
theorem ValB.new (W : World) (k n : Int) (s : ByteArray) : ValB (W.alloc (.cells #[.int .u8 k, .int .i64 n, .string s] 29)) W.heap.size (k, n, s) := heap_alloc_new _ _
theorem ValB.on {w w' : World} {g : Nat} {t : Trip} (h : ValB w g t) (hb : Below w.heap.size w w') : ValB w' g t := (hb.block g (heap_lt h)).trans h
theorem ValB.but {P : Nat → Prop} {w w' : World} {g : Nat} {t : Trip} (h : ValB w g t) (hb : But P w w') (hf : Far w P) : ValB w' g t :=
  (hb.block g (heap_lt h) (hf.not h (by decide) (by decide) (by decide))).trans h
theorem ValB.cells {w : World} {g : Nat} {t : Trip} (h : ValB w g t) : w.cell? ⟨g, 0, none⟩ = some (.int .u8 t.1) ∧ w.cell? ⟨g, 1, none⟩ = some (.int .i64 t.2.1) ∧ w.cell? ⟨g, 2, none⟩ = some (.string t.2.2) :=
  ⟨(cell_of_row w g 0 _ _ _ h).trans rfl, (cell_of_row w g 1 _ _ _ h).trans rfl, (cell_of_row w g 2 _ _ _ h).trans rfl⟩
theorem ValB.frz {w : World} {g : Nat} {t : Trip} (h : ValB w g t) (j : Nat) : w.frozen? ⟨g, j, none⟩ = false := frozen_of_row w g j _ _ h
theorem ValB.rd {w : World} {g : Nat} {t : Trip} (h : ValB w g t) : RdR w w.heap.size (some ⟨g, 0, none⟩) [t] := by
  intro _
  obtain ⟨k, n, s⟩ := t
  obtain ⟨h0, h1, h2⟩ := h.cells
  refine ⟨_, rfl, heap_lt h, fun j a b c hj => ?_⟩
  match j, hj with
  | 0, hj =>
    obtain ⟨rfl, rfl, rfl⟩ : k = a ∧ n = b ∧ s = c := by simpa using hj
    exact ⟨h0, h1, h2⟩
  | j + 1, hj => simp at hj
/-- what a store into it leaves -/
theorem ValB.farV {w : World} {g : Nat} {t : Trip} (h : ValB w g t) : FarV w (fun k => k = g) := fun k hk => by subst hk; exact ⟨_, _, h⟩

theorem keyNo_nil {w : World} : KeyNo 2 w [false] none 0 0 := fun X F fc hb hF =>
  Key_uneven none 0 [] F 1 fc X (fun h => absurd h (by simp)) (by simp) (by decide) (by decide) (by simp) rfl
theorem keyNo_bad {w : World} {g c : Nat} (h : ValB w g (9, 0, ⟨#[]⟩)) : KeyNo 2 w [false] (some ⟨g, 0, none⟩) 1 c := fun X F fc hb hF =>
  Key_bad (some ⟨g, 0, none⟩) c [(9, 0, ⟨#[]⟩)] F 1 fc X (h.on hb).rd (by decide) (by decide) (by decide +kernel)
theorem putNo_bad {w : World} {g c : Nat} (h : ValB w g (0, 1, ⟨#[]⟩)) : PutNo 2 w (some ⟨g, 0, none⟩) 1 c := fun X hb =>
  Put_bad (some ⟨g, 0, none⟩) c [(0, 1, ⟨#[]⟩)] X (h.on hb).rd (by decide) (by decide) (by decide +kernel)
theorem keyNo_many {w : World} {A : Option Addr} {c : Nat} {ds : List Bool} : KeyNo 3 w ds A 201 c := fun X F fc hb hF => Key_many A 201 c F _ fc X (by decide) (by decide)
theorem putNo_many {w : World} {A : Option Addr} {c : Nat} : PutNo 3 w A 201 c := fun X hb => Put_many A 201 c X (by decide) (by decide)
theorem keyOk_one : KeyOk [(1, 1, ⟨#[]⟩)] := keyOk_good _ (by decide) (fun t ht => by obtain rfl := List.mem_singleton.1 ht; decide)
theorem keyOk_nulls : KeyOk (nulls 200) := ⟨by simp, by decide +kernel, fun t ht => by obtain rfl := List.eq_of_mem_replicate ht; exact ⟨by decide, by decide⟩, by decide +kernel⟩
theorem rowOk_nulls : RowOk (nulls 200) := ⟨by simp, by decide +kernel, fun t ht => by obtain rfl := List.eq_of_mem_replicate ht; exact ⟨by decide, by decide⟩, by
  have h2 := headL_len (nulls 200) (by simp) (fun t ht => by obtain rfl := List.eq_of_mem_replicate ht; decide)
  have h3 : sumB (nulls 200) ≤ 100 := by decide +kernel
  omega⟩

/-- all the same: one is left -/
theorem cmpct_same {α : Type} (q : α → α → Bool) (x : α) (hq : q x x = true) : ∀ n, cmpct q (List.replicate (n + 1) x) = [x] := by
  have h : ∀ n, cmpA q x (List.replicate n x) = [] := by
    intro n
    induction n with
    | zero => rfl
    | succ n ih => rw [List.replicate_succ, cmpA, if_pos hq, ih]
  intro n
  rw [List.replicate_succ, cmpct, h n]
theorem left_same (n : Nat) (x : KR) : left true (List.replicate (n + 1) x) = [x] := by
  rw [left, if_pos rfl, (List.perm_replicate.1 (srt_perm ltK _ _ (Nat.le_refl _)))]
  exact cmpct_same sameK x (by simp [sameK]) n

/-- what is there ahead of the calls that are refused -/
structure N7 (w X : World) (kg s sw : Nat) : Prop where
  a : Below w.heap.size w X
  k : ValB X kg (1, 1, ⟨#[]⟩)
  su : SorU X w.heap.size s (.slice none 0 0) [false] false []
  tu : SorU X w.heap.size sw (.slice none 0 0) ((List.range 200).map fun _ => false) false []
  n : ¬ s = sw
theorem N7.on {w X Y : World} {kg s sw : Nat} (h : N7 w X kg s sw) (hb : Below X.heap.size X Y) : N7 w Y kg s sw :=
  ⟨h.a.trans (hb.mono h.a.size), h.k.on hb, h.su.on hb, h.tu.on hb, h.n⟩
theorem N7.eqv {w X Z : World} {kg s sw : Nat} (h : N7 w X kg s sw) (he : Eqv Z X) : N7 w Z kg s sw := h.on (he.below (Below.refl _ _))
theorem N7.al {w X Z : World} {kg s sw : Nat} {o : Obj} (h : N7 w X kg s sw) (he : Eqv Z (X.alloc o)) : N7 w Z kg s sw := h.on (he.below ((Below.refl _ _).alloc (Nat.le_refl _) _))
theorem N7.al2 {w X Z : World} {kg s sw : Nat} {o o2 : Obj} (h : N7 w X kg s sw) (he : Eqv Z ((X.alloc o).alloc o2)) : N7 w Z kg s sw := h.on (he.below (((Below.refl _ _).alloc (Nat.le_refl _) _).trans ((Below.refl _ _).alloc (by simp) _)))
theorem ValB.eqv {X Z : World} {g : Nat} {t : Trip} (h : ValB X g t) (he : Eqv Z X) : ValB Z g t := h.on (he.below (Below.refl _ _))
theorem n7_1 {w X Z : World} {kg s sw : Nat} (h : N7 w X kg s sw) (he : Eqv Z X) : Calls Try.prog 7 #[.pointer (some ⟨s, 0, none⟩), .slice none 0 0, .slice (some ⟨kg, 0, none⟩) 1 1] Z fun e w' => e = .returned (.int .i64 2) ∧ N7 w w' kg s sw := by
  refine (Add_key (h.eqv he).su none 0 0 _ 1 1 2 rfl rfl keyNo_nil).mono ?_
  rintro e w' ⟨rfl, hb⟩
  exact ⟨rfl, (h.eqv he).on hb⟩
theorem n7_2 {w X Z : World} {kg s sw : Nat} (h : N7 w X kg s sw) (he : Eqv Z (X.alloc (.cells #[.int .u8 9, .int .i64 0, .string ⟨#[]⟩] 29))) : Calls Try.prog 7 #[.pointer (some ⟨s, 0, none⟩), .slice (some ⟨X.heap.size, 0, none⟩) 1 1, .slice (some ⟨kg, 0, none⟩) 1 1] Z fun e w' => e = .returned (.int .i64 2) ∧ N7 w w' kg s sw := by
  refine (Add_key (h.al he).su _ 1 1 _ 1 1 2 rfl rfl (keyNo_bad ((ValB.new X 9 0 ⟨#[]⟩).eqv he))).mono ?_
  rintro e w' ⟨rfl, hb⟩
  exact ⟨rfl, (h.al he).on hb⟩
theorem n7_3 {w X Z : World} {kg s sw : Nat} (h : N7 w X kg s sw) (he : Eqv Z (X.alloc (.cells #[.int .u8 0, .int .i64 1, .string ⟨#[]⟩] 29))) : Calls Try.prog 7 #[.pointer (some ⟨s, 0, none⟩), .slice (some ⟨kg, 0, none⟩) 1 1, .slice (some ⟨X.heap.size, 0, none⟩) 1 1] Z fun e w' => e = .returned (.int .i64 2) ∧ N7 w w' kg s sw := by
  refine (Add_put (h.al he).su _ 1 [(1, 1, ⟨#[]⟩)] _ 1 1 2 rfl rfl (h.al he).k.rd keyOk_one rfl 1 rfl (putNo_bad ((ValB.new X 0 1 ⟨#[]⟩).eqv he))).mono ?_
  rintro e w' ⟨rfl, hb⟩
  exact ⟨rfl, (h.al he).on hb⟩
theorem n7_4 {w X Z : World} {kg s sw : Nat} {o : Obj} (h : N7 w X kg s sw) (he : Eqv Z (X.alloc o)) : Calls Try.prog 7 #[.pointer (some ⟨s, 0, none⟩), .slice (some ⟨kg, 0, none⟩) 1 1, .slice (some ⟨X.heap.size, 0, none⟩) 201 201] Z fun e w' => e = .returned (.int .i64 3) ∧ N7 w w' kg s sw := by
  refine (Add_put (h.al he).su _ 1 [(1, 1, ⟨#[]⟩)] _ 201 201 3 rfl rfl (h.al he).k.rd keyOk_one rfl 1 rfl putNo_many).mono ?_
  rintro e w' ⟨rfl, hb⟩
  exact ⟨rfl, (h.al he).on hb⟩
theorem n7_5 {w X Z : World} {kg s sw : Nat} {o : Obj} (h : N7 w X kg s sw) (he : Eqv Z (X.alloc o)) : Calls Try.prog 7 #[.pointer (some ⟨s, 0, none⟩), .slice (some ⟨X.heap.size, 0, none⟩) 201 201, .slice (some ⟨kg, 0, none⟩) 1 1] Z fun e w' => e = .returned (.int .i64 3) ∧ N7 w w' kg s sw := by
  refine (Add_key (h.al he).su _ 201 201 _ 1 1 3 rfl rfl keyNo_many).mono ?_
  rintro e w' ⟨rfl, hb⟩
  exact ⟨rfl, (h.al he).on hb⟩
/-- what is there behind them -/
structure N8 (w X : World) (kg s : Nat) : Prop where
  a : Below w.heap.size w X
  k : ValB X kg (1, 1, ⟨#[]⟩)
  su : SorU X w.heap.size s (.slice none 0 0) [false] false []
theorem N8.on {w X Y : World} {kg s : Nat} (h : N8 w X kg s) (hb : Below X.heap.size X Y) : N8 w Y kg s :=
  ⟨h.a.trans (hb.mono h.a.size), h.k.on hb, h.su.on hb⟩
theorem ft_none {s k : Nat} (h : Ft s (.slice none 0 0) k) : k = s := h.elim id fun e => by cases e
theorem n7_6 {w X Z : World} {kg s sw : Nat} {o o2 : Obj} (h : N7 w X kg s sw) (ho : o = Obj.cells (madeCells (vv 0 0 ⟨#[]⟩).cells (200 * 3)) 29) (ho2 : o2 = Obj.cells (madeCells (vv 0 0 ⟨#[]⟩).cells (200 * 3)) 29) (he : Eqv Z ((X.alloc o).alloc o2)) : Calls Try.prog 7 #[.pointer (some ⟨sw, 0, none⟩), .slice (some ⟨X.heap.size, 0, none⟩) 200 200, .slice (some ⟨X.heap.size + 1, 0, none⟩) 200 200] Z fun e w' => e = .returned (.int .i64 0) ∧ N8 w w' kg s := by
  have hz := h.al2 he
  subst ho ho2
  have hal : Below (X.alloc (.cells (madeCells (vv 0 0 ⟨#[]⟩).cells (200 * 3)) 29)).heap.size (X.alloc (.cells (madeCells (vv 0 0 ⟨#[]⟩).cells (200 * 3)) 29)) Z := he.below ((Below.refl _ _).alloc (Nat.le_refl _) _)
  have r1 := rdr_made X 200 200 (Nat.le_refl _) Z hal
  have r2 := rdr_made (X.alloc (.cells (madeCells (vv 0 0 ⟨#[]⟩).cells (200 * 3)) 29)) 200 200 (Nat.le_refl _) Z (he.below (Below.refl _ _))
  rw [show (X.alloc (.cells (madeCells (vv 0 0 ⟨#[]⟩).cells (200 * 3)) 29)).heap.size = X.heap.size + 1 by simp] at r2
  refine (Add_u hz.tu hz.a.size _ 200 (nulls 200) _ 200 (nulls 200) r1 r2 keyOk_nulls rowOk_nulls (by simp) (by simp) 200 200 (by simp) (by simp)).mono ?_
  rintro e w' ⟨rfl, va', _, _, hb⟩
  refine ⟨rfl, hz.a.trans (hb.below hz.a.size fun i hi => (hz.tu.lo i hi).1), hz.k.but hb hz.tu.far, hz.su.but hb hz.tu.far fun k hk hk2 => hz.n ?_⟩
  rw [← ft_none hk, ← ft_none hk2]
end Go.Proofs.Ytdhdfeiobjmdaaa
