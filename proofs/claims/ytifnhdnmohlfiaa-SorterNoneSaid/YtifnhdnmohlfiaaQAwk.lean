/-
  Layer 7, sorter: the law's helper awake. No conditions.
-/
import Derived.Test.YtifnhdnmohlfiaaQEval
namespace Go.Proofs.Ytifnhdnmohlfiaa
open Go.ChangeShapes Go.WideShapes Go.ChangeAt Go.RowKit
set_option linter.unusedVariables false

theorem Next_u {w : World} {lo s : Nat} {va : Value} {ds : List Bool} {dist : Bool} {L : List KR} (h : SorU w lo s va ds dist L) :
    Calls Try.prog 18 #[.pointer (some ⟨s, 0, none⟩)] w fun e w' => e = .returned (.tuple #[.slice none 0 0, .bool false]) ∧ Below w.heap.size w w' := by
  obtain ⟨o, h, _, _, h3, _⟩ := h
  refine (Next_early h h3).mono ?_
  rintro e w' ⟨rfl, hb⟩
  exact ⟨rfl, hb.below (Nat.le_refl _) (fun _ hk => hk.elim)⟩
theorem Add_s {w : World} {lo s : Nat} {B : List (List UInt8)} {k : Nat} (h : SorS w lo s B k) (A : Option Addr) (n c : Nat) (D : Option Addr) (m d : Nat) :
    Calls Try.prog 12 #[.pointer (some ⟨s, 0, none⟩), .slice A n c, .slice D m d] w fun e w' => e = .returned (.int .i64 70) ∧ w' = w := by
  obtain ⟨vr, o, h, h1, _⟩ := h
  exact Add_late h h1 A n c D m d
/-- the box of NULL, and the list of letters -/
def NulB (X : World) (n1 : Nat) : Prop := ∃ fr, X.heap[n1]? = some (.cells #[.int .u8 0, .int .i64 0, .string ⟨#[]⟩] 29 fr)
def StrB (X : World) (g : Nat) : Prop := ∃ fr, X.heap[g]? = some (.cells #[.string ⟨#[65]⟩, .string ⟨#[66]⟩, .string ⟨#[67]⟩] 9 fr)
theorem NulB.but {P : Nat → Prop} {w w' : World} {n : Nat} (h : NulB w n) (hb : But P w w') (hf : Far w P) : NulB w' n := by
  obtain ⟨fr, h⟩ := h
  exact ⟨fr, (hb.block n (heap_lt h) (hf.not h (by decide) (by decide))).trans h⟩
theorem StrB.but {P : Nat → Prop} {w w' : World} {n : Nat} (h : StrB w n) (hb : But P w w') (hf : Far w P) : StrB w' n := by
  obtain ⟨fr, h⟩ := h
  exact ⟨fr, (hb.block n (heap_lt h) (hf.not h (by decide) (by decide))).trans h⟩
def abc (j : Nat) : ByteArray := ⟨#[UInt8.ofNat (65 + j)]⟩
def rowS (t : ByteArray) : List Trip := [(2, 0, t)]
theorem good_s (t : ByteArray) (h : t.size ≤ 100) : GoodR (rowS t) := by
  intro x hx
  obtain rfl : x = (2, 0, t) := by simpa [rowS] using hx
  exact ⟨.inr (.inr ⟨.inl rfl, rfl, by show t.size ≤ 65536; omega⟩), h, by show In64 0; unfold In64; decide⟩
/-- while rows are added to both -/
def Two (w X : World) (n1 s t : Nat) (va vt : Value) (L : List KR) : Prop :=
  Below w.heap.size w X ∧ NulB X n1 ∧ SorU X w.heap.size s va [] false L ∧ SorU X w.heap.size t vt [] true L ∧ (∀ k, Ft s va k → ¬ Ft t vt k)
theorem Two.on {w X Y : World} {n1 s t : Nat} {va vt : Value} {L : List KR} (h : Two w X n1 s t va vt L) (hb : Below X.heap.size X Y) : Two w Y n1 s t va vt L :=
  ⟨h.1.trans (hb.mono h.1.size), h.2.1.but (P := fun _ => False) (But.of_below hb) (far_none _), h.2.2.1.on hb, h.2.2.2.1.on hb, h.2.2.2.2⟩
theorem ft_new {X : World} {lo s t : Nat} {va va' vt : Value} {ds : List Bool} {d : Bool} {L : List KR} (h : ∀ k, Ft s va k → ¬ Ft t vt k) (ht : SorU X lo t vt ds d L) (hv : va'.ownBlock = va.ownBlock ∨ ∃ g, va'.ownBlock = some g ∧ X.heap.size ≤ g) : ∀ k, Ft s va' k → ¬ Ft t vt k := by
  intro k hk hk2
  rcases hk with hk | hk
  · exact h k (.inl hk) hk2
  · rcases hv with hv | ⟨g, hv, hg⟩
    · exact h k (.inr (hk.trans hv)) hk2
    · have h1 := (ht.lo k hk2).2
      rw [hv] at hk
      injection hk with hk
      omega
theorem keyOk_nil : KeyOk [] := keyOk_good [] (Nat.zero_le _) (fun t ht => by cases ht)
/-- s.Add(nil, row) beside the other sorter -/
theorem awkAddS {w X : World} {n1 s t : Nat} {va vt : Value} {L : List KR} {B : Option Addr} {c : Nat} {x : ByteArray} (h : Two w X n1 s t va vt L) (hR : RdR X X.heap.size B [(2, 0, x)]) (hx : x.size ≤ 100) (hL : L.length < 65536) :
    Calls Try.prog 12 #[.pointer (some ⟨s, 0, none⟩), .slice none 0 0, .slice B 1 c] X fun e w' => e = .returned (.int .i64 0) ∧
      ∃ va', Below w.heap.size w w' ∧ NulB w' n1 ∧ (∀ g, StrB X g → StrB w' g) ∧ SorU w' w.heap.size s va' [] false (L ++ [([], putL (rowS x))]) ∧ SorU w' w.heap.size t vt [] true L ∧ (∀ k, Ft s va' k → ¬ Ft t vt k) := by
  obtain ⟨h1, h2, h3, h4, h5⟩ := h
  refine (Add_u h3 h1.size none 0 [] B c [(2, 0, x)] (fun hp => absurd hp (by simp)) hR keyOk_nil (rowOk_good _ (by show 1 ≤ 150; omega) (good_s x hx)) rfl hL 0 1 rfl rfl).mono ?_
  rintro e w' ⟨rfl, va', hs, hv, hb⟩
  exact ⟨rfl, va', h1.trans (hb.below h1.size fun i hi => (h3.lo i hi).1), h2.but hb h3.far, fun g hg => hg.but hb h3.far, hs, h4.but hb h3.far (fun k hk hk2 => h5 k hk2 hk), ft_new h5 h4 hv⟩
theorem awkAddT {w X : World} {n1 s t : Nat} {va vt : Value} {L M : List KR} {B : Option Addr} {c : Nat} {x : ByteArray} (h1 : Below w.heap.size w X) (h2 : NulB X n1) (h3 : SorU X w.heap.size s va [] false M) (h4 : SorU X w.heap.size t vt [] true L) (h5 : ∀ k, Ft s va k → ¬ Ft t vt k) (hR : RdR X X.heap.size B [(2, 0, x)]) (hx : x.size ≤ 100) (hL : L.length < 65536) :
    Calls Try.prog 12 #[.pointer (some ⟨t, 0, none⟩), .slice none 0 0, .slice B 1 c] X fun e w' => e = .returned (.int .i64 0) ∧
      ∃ vt', Below w.heap.size w w' ∧ NulB w' n1 ∧ (∀ g, StrB X g → StrB w' g) ∧ SorU w' w.heap.size s va [] false M ∧ SorU w' w.heap.size t vt' [] true (L ++ [([], putL (rowS x))]) ∧ (∀ k, Ft s va k → ¬ Ft t vt' k) := by
  refine (Add_u h4 h1.size none 0 [] B c [(2, 0, x)] (fun hp => absurd hp (by simp)) hR keyOk_nil (rowOk_good _ (by show 1 ≤ 150; omega) (good_s x hx)) rfl hL 0 1 rfl rfl).mono ?_
  rintro e w' ⟨rfl, vt', hs, hv, hb⟩
  exact ⟨rfl, vt', h1.trans (hb.below h1.size fun i hi => (h4.lo i hi).1), h2.but hb h4.far, fun g hg => hg.but hb h4.far, h3.but hb h4.far (fun k hk hk2 => h5 k hk hk2), hs, fun k hk hk2 => ft_new (fun k a b => h5 k b a) h3 hv k hk2 hk⟩
def rA : List UInt8 := putL (rowS (abc 0))
def rB : List UInt8 := putL (rowS (abc 1))
def rC : List UInt8 := putL (rowS (abc 2))
/-- when both are sorted -/
def AwkS (w X : World) (n1 s t : Nat) (ks kt : Nat) : Prop := Below w.heap.size w X ∧ NulB X n1 ∧ SorS X w.heap.size s [rA, rB, rC] ks ∧ SorS X w.heap.size t [rA] kt ∧ ¬ s = t
theorem AwkS.on {w X Y : World} {n1 s t ks kt : Nat} (h : AwkS w X n1 s t ks kt) (hb : Below X.heap.size X Y) : AwkS w Y n1 s t ks kt :=
  ⟨h.1.trans (hb.mono h.1.size), h.2.1.but (P := fun _ => False) (But.of_below hb) (far_none _), h.2.2.1.on hb, h.2.2.2.1.on hb, h.2.2.2.2⟩
theorem AwkS.eqv {w X Y : World} {n1 s t ks kt : Nat} (h : AwkS w X n1 s t ks kt) (he : Eqv Y X) : AwkS w Y n1 s t ks kt := h.on (he.below (Below.refl _ _))
theorem AwkS.step {w X Y Z : World} {n1 s t ks kt : Nat} (h : AwkS w X n1 s t ks kt) (hb : Below Z.heap.size Z Y) (he : Eqv Z X) : AwkS w Y n1 s t ks kt := (h.eqv he).on hb
theorem AwkS.stepA {w X Y Z : World} {n1 s t ks kt : Nat} {o : Obj} (h : AwkS w X n1 s t ks kt) (hb : Below Z.heap.size Z Y) (he : Eqv Z (X.alloc o)) : AwkS w Y n1 s t ks kt :=
  ((h.on ((Below.refl X.heap.size X).alloc (Nat.le_refl _) o)).eqv he).on hb
theorem NulB.cells {X : World} {n : Nat} (h : NulB X n) : X.cell? ⟨n, 0, none⟩ = some (.int .u8 0) ∧ X.cell? ⟨n, 1, none⟩ = some (.int .i64 0) ∧ X.cell? ⟨n, 2, none⟩ = some (.string ⟨#[]⟩) := by
  obtain ⟨fr, h⟩ := h
  refine ⟨?_, ?_, ?_⟩ <;> (rw [cell_of_row X n _ _ _ _ h]; rfl)
theorem AwkS.nul {w X : World} {n1 s t ks kt : Nat} (h : AwkS w X n1 s t ks kt) : X.cell? ⟨n1, 0, none⟩ = some (.int .u8 0) ∧ X.cell? ⟨n1, 1, none⟩ = some (.int .i64 0) ∧ X.cell? ⟨n1, 2, none⟩ = some (.string ⟨#[]⟩) := h.2.1.cells
theorem AwkS.nulA {w X : World} {n1 s t ks kt : Nat} {o : Obj} (h : AwkS w X n1 s t ks kt) : (X.alloc o).cell? ⟨n1, 0, none⟩ = some (.int .u8 0) ∧ (X.alloc o).cell? ⟨n1, 1, none⟩ = some (.int .i64 0) ∧ (X.alloc o).cell? ⟨n1, 2, none⟩ = some (.string ⟨#[]⟩) :=
  (h.on ((Below.refl X.heap.size X).alloc (Nat.le_refl _) o)).nul
def fourC : Array Value := #[.int .u8 1, .int .i64 2, .string ⟨#[]⟩, .int .u8 1, .int .i64 1, .string ⟨#[]⟩, .int .u8 1, .int .i64 2, .string ⟨#[]⟩, .int .u8 0, .int .i64 0, .string ⟨#[]⟩]
theorem rd_four {X Z : World} (he : Eqv Z (X.alloc (.cells fourC 29))) : RdR Z Z.heap.size (some ⟨X.heap.size, 0, none⟩) ex4 := by
  refine he.rdR fun _ => ⟨_, rfl, by simp, fun j k n s hj => ?_⟩
  have hb := heap_alloc_new X (.cells fourC 29)
  rw [add0]
  match j, hj with
  | 0, hj => obtain ⟨rfl, rfl, rfl⟩ : (1 : Int) = k ∧ (2 : Int) = n ∧ (⟨#[]⟩ : ByteArray) = s := by simpa [ex4, n2] using hj
             exact ⟨by rw [cell_of_row _ _ _ _ _ _ hb]; rfl, by rw [cell_of_row _ _ _ _ _ _ hb]; rfl, by rw [cell_of_row _ _ _ _ _ _ hb]; rfl⟩
  | 1, hj => obtain ⟨rfl, rfl, rfl⟩ : (1 : Int) = k ∧ (1 : Int) = n ∧ (⟨#[]⟩ : ByteArray) = s := by simpa [ex4, n1] using hj
             exact ⟨by rw [cell_of_row _ _ _ _ _ _ hb]; rfl, by rw [cell_of_row _ _ _ _ _ _ hb]; rfl, by rw [cell_of_row _ _ _ _ _ _ hb]; rfl⟩
  | 2, hj => obtain ⟨rfl, rfl, rfl⟩ : (1 : Int) = k ∧ (2 : Int) = n ∧ (⟨#[]⟩ : ByteArray) = s := by simpa [ex4, n2] using hj
             exact ⟨by rw [cell_of_row _ _ _ _ _ _ hb]; rfl, by rw [cell_of_row _ _ _ _ _ _ hb]; rfl, by rw [cell_of_row _ _ _ _ _ _ hb]; rfl⟩
  | 3, hj => obtain ⟨rfl, rfl, rfl⟩ : (0 : Int) = k ∧ (0 : Int) = n ∧ (⟨#[]⟩ : ByteArray) = s := by simpa [ex4, n0] using hj
             exact ⟨by rw [cell_of_row _ _ _ _ _ _ hb]; rfl, by rw [cell_of_row _ _ _ _ _ _ hb]; rfl, by rw [cell_of_row _ _ _ _ _ _ hb]; rfl⟩
  | j + 4, hj => simp [ex4] at hj
def exT (desc dist : Bool) : ByteArray := if desc then ⟨#[65, 67, 66, 68]⟩ else if dist then ⟨#[68, 66, 65]⟩ else ⟨#[68, 66, 65, 67]⟩
theorem good_ex : ∀ k ∈ ex4, KeyOk [k] := by
  intro k hk
  refine keyOk_good [k] (by show 1 ≤ 150; omega) fun t ht => ?_
  obtain rfl : t = k := by simpa using ht
  simp only [ex4, List.mem_cons, List.mem_nil_iff, or_false] at hk
  rcases hk with rfl | rfl | rfl | rfl
  · exact ⟨.inr (.inl ⟨rfl, rfl⟩), by show 0 ≤ 100; omega, by show In64 2; unfold In64; decide⟩
  · exact ⟨.inr (.inl ⟨rfl, rfl⟩), by show 0 ≤ 100; omega, by show In64 1; unfold In64; decide⟩
  · exact ⟨.inr (.inl ⟨rfl, rfl⟩), by show 0 ≤ 100; omega, by show In64 2; unfold In64; decide⟩
  · exact ⟨.inl ⟨rfl, rfl, rfl⟩, by show 0 ≤ 100; omega, by show In64 0; unfold In64; decide⟩
theorem order7 (desc dist : Bool) (h : (desc && dist) = false) (A : Option Addr) (Z : World) (hR : RdR Z Z.heap.size A ex4) :
    Calls Try.prog 51 #[.bool desc, .bool dist, .slice A 4 4] Z fun e w' => e = .returned (.string (exT desc dist)) ∧ Below Z.heap.size Z w' := by
  have hl : ex4.length ≤ 8 := by show 4 ≤ 8; omega
  cases desc <;> cases dist
  · have := order_any false false A 4 4 ex4 Z hR rfl hl good_ex [3, 1, 0, 2] ex_f
    rw [ex_text.1] at this
    exact this
  · have := order_any false true A 4 4 ex4 Z hR rfl hl good_ex [3, 1, 0] ex_d
    rw [ex_text.2.1] at this
    exact this
  · have := order_any true false A 4 4 ex4 Z hR rfl hl good_ex [0, 2, 1, 3] ex_t
    rw [ex_text.2.2] at this
    exact this
  · cases h
theorem get_abc (j : Nat) : getN (putL (rowS (abc j))) = some [(2, 0, abc j)] := getN_good _ (by show 1 ≤ 150; omega) (good_s _ (by show 1 ≤ 100; omega))
theorem all_s {w Z : World} {n1 s t kt : Nat} (h : AwkS w Z n1 s t 0 kt) : Calls Try.prog 52 #[.pointer (some ⟨s, 0, none⟩)] Z fun e w' => e = .returned (.string ⟨#[65, 66, 67]⟩) ∧ AwkS w w' n1 s t 3 kt := by
  refine (all_any h.2.2.1 [abc 0, abc 1, abc 2] rfl (fun j x hx => ?_) (by show 3 < 100; omega)).mono ?_
  · match j, hx with
    | 0, hx => obtain rfl : abc 0 = x := by simpa using hx
               exact ⟨by show 1 ≤ 100; omega, rA, rfl, 2, 0, get_abc 0⟩
    | 1, hx => obtain rfl : abc 1 = x := by simpa using hx
               exact ⟨by show 1 ≤ 100; omega, rB, rfl, 2, 0, get_abc 1⟩
    | 2, hx => obtain rfl : abc 2 = x := by simpa using hx
               exact ⟨by show 1 ≤ 100; omega, rC, rfl, 2, 0, get_abc 2⟩
    | j + 3, hx => simp at hx
  · rintro e w' ⟨rfl, hs, hb⟩
    have hf := h.2.2.1.far
    exact ⟨by rw [show catT [abc 0, abc 1, abc 2] = ⟨#[65, 66, 67]⟩ by decide +kernel], h.1.trans (hb.below h.1.size fun i hi => by rw [hi]; exact h.2.2.1.lo.1), h.2.1.but hb hf, hs, h.2.2.2.1.but hb hf (fun e => h.2.2.2.2 e.symm), h.2.2.2.2⟩
theorem all_t {w Z : World} {n1 s t ks : Nat} (h : AwkS w Z n1 s t ks 0) : Calls Try.prog 52 #[.pointer (some ⟨t, 0, none⟩)] Z fun e w' => e = .returned (.string ⟨#[65]⟩) ∧ AwkS w w' n1 s t ks 1 := by
  refine (all_any h.2.2.2.1 [abc 0] rfl (fun j x hx => ?_) (by show 1 < 100; omega)).mono ?_
  · match j, hx with
    | 0, hx => obtain rfl : abc 0 = x := by simpa using hx
               exact ⟨by show 1 ≤ 100; omega, rA, rfl, 2, 0, get_abc 0⟩
    | j + 1, hx => simp at hx
  · rintro e w' ⟨rfl, hs, hb⟩
    have hf := h.2.2.2.1.far
    exact ⟨by rw [show catT [abc 0] = ⟨#[65]⟩ by decide +kernel], h.1.trans (hb.below h.1.size fun i hi => by rw [hi]; exact h.2.2.2.1.lo.1), h.2.1.but hb hf, h.2.2.1.but hb hf h.2.2.2.2, hs, h.2.2.2.2⟩
def AwkRel (w : World) (n1 s t g : Nat) (v27 : Value) (wr : World) : Prop :=
  ∃ (j : Nat) (va vt : Value), j ≤ 3 ∧ v27 = .int .i64 (j : Int) ∧ StrB wr g ∧ Two w wr n1 s t va vt ((List.range j).map fun i => ([], putL (rowS (abc i))))
set_option maxRecDepth 100000 in
set_option maxHeartbeats 4000000 in
theorem awk7_any (w : World) : Calls Try.prog 19 #[] w fun e w' => e = .returned (.bool true) ∧ Below w.heap.size w w' := by
  go_enter Try.func19, Try.ntmps19
  go_wp2_with fail
  refine (New_u none 0 0 [] false _ rfl (fun h => absurd h (by simp)) (by simp) (fun _ => ⟨rfl, rfl⟩)).mono ?_
  rintro e w1 ⟨s, rfl, hs, hb⟩
  have hn0 : NulB (w.alloc (.cells #[.int .u8 0, .int .i64 0, .string ⟨#[]⟩] 29)) w.heap.size := ⟨_, heap_alloc_new _ _⟩
  have HN1 := Lib.hid (hn0.but (P := fun _ => False) (But.of_below hb) (far_none _))
  have HS1 := Lib.hid (hs.mono (show w.heap.size ≤ _ by simp))
  have HB1 := Lib.hid (((Below.refl w.heap.size w).alloc (Nat.le_refl _) (.cells #[.int .u8 0, .int .i64 0, .string ⟨#[]⟩] 29)).trans (hb.mono (by simp)))
  clear hs hb hn0
  go_wp2_with fail
  refine (New_u none 0 0 [] true _ rfl (fun h => absurd h (by simp)) (by simp) (fun _ => ⟨rfl, rfl⟩)).mono ?_
  rintro e w2 ⟨t, rfl, ht, hb⟩
  have HTW := Lib.hid (show Two w w2 w.heap.size s t (.slice none 0 0) (.slice none 0 0) [] from ⟨HB1.out.trans (hb.mono HB1.out.size), HN1.out.but (P := fun _ => False) (But.of_below hb) (far_none _), HS1.out.on hb, ht.mono HB1.out.size, fun k hk hk2 => by
    have h1 := (HS1.out.lo k hk).2
    have h2 := (ht.lo k hk2).1
    omega⟩)
  clear ht hb
  go_wp2_with fail
  have HLT := Lib.hid (HTW.out.on ((Below.refl w2.heap.size w2).alloc (Nat.le_refl _) (.cells #[.string ⟨#[65]⟩, .string ⟨#[66]⟩, .string ⟨#[67]⟩] 9)))
  have HST := Lib.hid (show StrB (w2.alloc (.cells #[.string ⟨#[65]⟩, .string ⟨#[66]⟩, .string ⟨#[67]⟩] 9)) w2.heap.size from ⟨_, heap_alloc_new _ _⟩)
  obtain ⟨g, hg⟩ : ∃ g, w2.heap.size = g := ⟨_, rfl⟩
  obtain ⟨w3, hw3⟩ : ∃ w3, w2.alloc (.cells #[.string ⟨#[65]⟩, .string ⟨#[66]⟩, .string ⟨#[67]⟩] 9) = w3 := ⟨_, rfl⟩
  rw [hw3, hg] at HST
  rw [hw3] at HLT ⊢
  rw [hg]
  clear hg hw3
  go_loopw [27] (fun v27 wr => AwkRel w w.heap.size s t g v27 wr) (fun v27 _ => 3 - (intOf v27).toNat)
  case atStart => exact ⟨0, _, _, Nat.zero_le _, rfl, HST.out, HLT.out⟩
  case round =>
    obtain ⟨j, va, vt, hj, rfl, hst, htw⟩ := hrel
    by_cases hlt : j < 3
    · have x0 : wr.cell? ⟨g, j, none⟩ = some (.string (abc j)) := by
        obtain ⟨fr, hst⟩ := hst
        rw [cell_of_row wr g j _ _ _ hst]
        have : j = 0 ∨ j = 1 ∨ j = 2 := by omega
        rcases this with rfl | rfl | rfl <;> rfl
      have q1 : (j : Int) < 3 := by omega
      have q2 : (0 : Int) ≤ (j : Int) := by omega
      have HT0 := Lib.hid htw
      have HS0 := Lib.hid hst
      have HLN := Lib.hid (show ((List.range j).map fun i => (([] : List UInt8), putL (rowS (abc i)))).length < 65536 by rw [List.length_map, List.length_range]; omega)
      have HSN := Lib.hid (show ((List.range (j + 1)).map fun i => (([] : List UInt8), putL (rowS (abc i)))) = ((List.range j).map fun i => (([] : List UInt8), putL (rowS (abc i)))) ++ [([], putL (rowS (abc j)))] by rw [List.range_succ, List.map_append]; rfl)
      have HXZ := Lib.hid (show (abc j).size ≤ 100 by show 1 ≤ 100; omega)
      generalize ((List.range j).map fun i => (([] : List UInt8), putL (rowS (abc i)))) = L at *
      generalize abc j = x at *
      clear htw hst
      go_wp2_with fail
      refine (text7_any x _).mono ?_
      rintro e w4 ⟨rfl, hb4⟩
      have HT4 := Lib.hid ((HT0.out.on hb4).on ((Below.refl w4.heap.size w4).alloc (Nat.le_refl _) (.cells #[.int .u8 2, .int .i64 0, .string x] 29)))
      have HS4 := Lib.hid ((HS0.out.but (P := fun _ => False) (But.of_below hb4) (far_none _)).but (P := fun _ => False) (But.of_below ((Below.refl w4.heap.size w4).alloc (Nat.le_refl _) (.cells #[.int .u8 2, .int .i64 0, .string x] 29))) (far_none _))
      clear hb4
      go_wp2_with fail
      refine (awkAddS HT4.out (rd_one w4 2 0 x _ rfl) HXZ.out HLN.out).mono ?_
      rintro e w5 ⟨rfl, va', h1, h2, h3, h4, h5, h6⟩
      have HS5 := Lib.hid (h3 _ HS4.out)
      have H5 := Lib.hid (And.intro h1 (And.intro h2 (And.intro h4 (And.intro h5 h6))))
      clear h1 h2 h3 h4 h5 h6
      go_wp2_with fail
      refine (text7_any x _).mono ?_
      rintro e w6 ⟨rfl, hb6⟩
      have hal := (Below.refl w6.heap.size w6).alloc (Nat.le_refl _) (.cells #[.int .u8 2, .int .i64 0, .string x] 29)
      have hb7 : Below w5.heap.size w5 (w6.alloc (.cells #[.int .u8 2, .int .i64 0, .string x] 29)) := hb6.trans (hal.mono hb6.size)
      have HB7 := Lib.hid hb7
      clear hal hb7 hb6
      go_wp2_with fail
      refine (awkAddT (H5.out.1.trans (HB7.out.mono H5.out.1.size)) (H5.out.2.1.but (P := fun _ => False) (But.of_below HB7.out) (far_none _)) (H5.out.2.2.1.on HB7.out) (H5.out.2.2.2.1.on HB7.out) H5.out.2.2.2.2 (rd_one w6 2 0 x _ rfl) HXZ.out HLN.out).mono ?_
      rintro e w8 ⟨rfl, vt', h1, h2, h3, h4, h5, h6⟩
      have HS8 := Lib.hid (h3 _ (HS5.out.but (P := fun _ => False) (But.of_below HB7.out) (far_none _)))
      have H8 := Lib.hid (And.intro h1 (And.intro h2 (And.intro h4 (And.intro h5 h6))))
      clear h1 h2 h3 h4 h5 h6
      go_wp2_with fail
      refine ⟨⟨j + 1, va', vt', by omega, by go_num, HS8.out, ?_⟩, by simp [intOf]; omega⟩
      rw [HSN.out]
      exact H8.out
    · obtain rfl : j = 3 := by omega
      have HT0 := Lib.hid (show Two w wr w.heap.size s t va vt [([], rA), ([], rB), ([], rC)] from htw)
      clear htw hst
      go_wp2_with fail
      refine (Next_u HT0.out.2.2.1).mono ?_
      rintro e w4 ⟨rfl, hb4⟩
      have HT4 := Lib.hid (HT0.out.on hb4)
      clear hb4
      go_wp2_with fail
      refine (Sort_u HT4.out.2.2.1 HT4.out.1.size (by show 3 ≤ 65536; omega)).mono ?_
      rintro e w5 ⟨rfl, hs5, hb5⟩
      rw [ex_a] at hs5
      have hst : ¬ s = t := fun e => HT4.out.2.2.2.2 s (.inl rfl) (.inl e)
      have hf5 : Far w4 (fun k => k = s) := fun k hk => HT4.out.2.2.1.far k (.inl hk)
      have H5 := Lib.hid (show Below w.heap.size w w5 ∧ NulB w5 w.heap.size ∧ SorS w5 w.heap.size s [rA, rB, rC] 0 ∧ SorU w5 w.heap.size t vt [] true [([], rA), ([], rB), ([], rC)] from
        ⟨HT4.out.1.trans (hb5.below HT4.out.1.size fun i hi => by rw [hi]; exact (HT4.out.2.2.1.lo s (.inl rfl)).1), HT4.out.2.1.but hb5 hf5, hs5, HT4.out.2.2.2.1.but hb5 hf5 (fun k hk e => HT4.out.2.2.2.2 k (.inl e) hk)⟩)
      clear hs5 hb5 hf5
      go_wp2_with fail
      refine (Sort_u H5.out.2.2.2 H5.out.1.size (by show 3 ≤ 65536; omega)).mono ?_
      rintro e w6 ⟨rfl, hs6, hb6⟩
      rw [ex_b] at hs6
      have hf6 : Far w5 (fun k => k = t) := fun k hk => H5.out.2.2.2.far k (.inl hk)
      have HA := Lib.hid (show AwkS w w6 w.heap.size s t 0 0 from
        ⟨H5.out.1.trans (hb6.below H5.out.1.size fun i hi => by rw [hi]; exact (H5.out.2.2.2.lo t (.inl rfl)).1), H5.out.2.1.but hb6 hf6, H5.out.2.2.1.but hb6 hf6 hst, hs6, hst⟩)
      clear hs6 hb6 hf6 hst
      obtain ⟨n1, hn1⟩ : ∃ n, w.heap.size = n := ⟨_, rfl⟩
      have HA := Lib.hid (show AwkS w w6 n1 s t 0 0 by rw [← hn1]; exact HA.out)
      rw [hn1]
      clear hn1
      go_wp2_with fail
      go_region_held3 (fun X => X.cell? ⟨n1, 0, none⟩ = some (.int .u8 0) ∧ X.cell? ⟨n1, 1, none⟩ = some (.int .i64 0) ∧ X.cell? ⟨n1, 2, none⟩ = some (.string ⟨#[]⟩))
        (first | exact HA.out.nul | exact HA.out.nulA)
        (first
          | (go_at_call 11; refine (num7_any _ _).mono ?_; rintro e x1 ⟨rfl, hb⟩; have HA := Lib.hid (HA.out.step hb ⟨rfl, rfl, rfl, rfl⟩); clear hb)
          | (go_at_call 51; refine (order7 _ _ rfl _ _ (rd_four ⟨rfl, rfl, rfl, rfl⟩)).mono ?_; rintro e x1 ⟨rfl, hb⟩; have HA := Lib.hid (HA.out.stepA hb ⟨rfl, rfl, rfl, rfl⟩); clear hb; first | rw [show exT false false = ⟨#[68, 66, 65, 67]⟩ from rfl] | rw [show exT false true = ⟨#[68, 66, 65]⟩ from rfl] | rw [show exT true false = ⟨#[65, 67, 66, 68]⟩ from rfl])
          | (go_at_call 52; refine (all_s (HA.out.eqv ⟨rfl, rfl, rfl, rfl⟩)).mono ?_; rintro e x1 ⟨rfl, ha⟩; have HA := Lib.hid ha; clear ha)
          | (go_at_call 52; refine (all_t (HA.out.eqv ⟨rfl, rfl, rfl, rfl⟩)).mono ?_; rintro e x1 ⟨rfl, ha⟩; have HA := Lib.hid ha; clear ha)
          | (go_at_call 12; refine (Add_s (HA.out.eqv ⟨rfl, rfl, rfl, rfl⟩).2.2.1 _ _ _ _ _ _).mono ?_; rintro e x1 ⟨rfl, rfl⟩))
      go_wp2_with fail
      go_ret
      exact ⟨rfl, HA.out.1⟩
end Go.Proofs.Ytifnhdnmohlfiaa
