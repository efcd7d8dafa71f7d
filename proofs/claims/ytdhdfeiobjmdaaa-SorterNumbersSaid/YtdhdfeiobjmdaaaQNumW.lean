/-
  SorterNumbers returns true: the walk. No conditions.
-/
import Derived.Test.YtdhdfeiobjmdaaaQNumA
import Derived.Deep.RegionHeld3
namespace Go.Proofs.Ytdhdfeiobjmdaaa
open Go.ChangeShapes Go.WideShapes Go.ChangeAt Go.RowKit
set_option linter.unusedVariables false

theorem n7_7 {w X Z : World} {kg s sw : Nat} {o o2 : Obj} (h : N7 w X kg s sw) (ho : o = Obj.cells (madeCells (vv 0 0 ⟨#[]⟩).cells (200 * 3)) 29) (ho2 : o2 = Obj.cells (madeCells (vv 0 0 ⟨#[]⟩).cells (200 * 3)) 29) (he : Eqv Z ((X.alloc o).alloc o2)) : Calls Try.prog 7 #[.pointer (some ⟨sw, 0, none⟩), .slice (some ⟨X.heap.size + 1, 0, none⟩) 200 200, .slice (some ⟨X.heap.size, 0, none⟩) 200 200] Z fun e w' => e = .returned (.int .i64 0) ∧ N8 w w' kg s := by
  have hz := h.al2 he
  subst ho ho2
  have hal : Below (X.alloc (.cells (madeCells (vv 0 0 ⟨#[]⟩).cells (200 * 3)) 29)).heap.size (X.alloc (.cells (madeCells (vv 0 0 ⟨#[]⟩).cells (200 * 3)) 29)) Z := he.below ((Below.refl _ _).alloc (Nat.le_refl _) _)
  have r1 := rdr_made X 200 200 (Nat.le_refl _) Z hal
  have r2 := rdr_made (X.alloc (.cells (madeCells (vv 0 0 ⟨#[]⟩).cells (200 * 3)) 29)) 200 200 (Nat.le_refl _) Z (he.below (Below.refl _ _))
  rw [show (X.alloc (.cells (madeCells (vv 0 0 ⟨#[]⟩).cells (200 * 3)) 29)).heap.size = X.heap.size + 1 by simp] at r2
  refine (Add_u hz.tu hz.a.size _ 200 (nulls 200) _ 200 (nulls 200) r2 r1 keyOk_nulls rowOk_nulls (by simp) (by simp) 200 200 (by simp) (by simp)).mono ?_
  rintro e w' ⟨rfl, va', _, _, hb⟩
  refine ⟨rfl, hz.a.trans (hb.below hz.a.size fun i hi => (hz.tu.lo i hi).1), hz.k.but hb hz.tu.far, hz.su.but hb hz.tu.far fun k hk hk2 => hz.n ?_⟩
  rw [← ft_none hk, ← ft_none hk2]
theorem make_v200 : ∃ o, o = Obj.cells (madeCells (vv 0 0 ⟨#[]⟩).cells (200 * 3)) 29 ∧ ∀ w, (Instr.makeSlice 31 (.int .i64 200) (.int .i64 200)).run Try.prog w = .ok (.slice (some ⟨w.heap.size, 0, none⟩) 200 200) (w.alloc o) :=
  ⟨_, rfl, fun w => run_makeV 200 (by omega) w⟩
theorem make_b200 : ∃ o, o = Obj.cells (madeCells #[.bool false] 200) 4 ∧ ∀ w, (Instr.makeSlice 26 (.int .i64 200) (.int .i64 200)).run Try.prog w = .ok (.slice (some ⟨w.heap.size, 0, none⟩) 200 200) (w.alloc o) :=
  ⟨_, rfl, fun w => run_makeB 200 (by omega) w⟩
theorem rdf_made200 (X : World) : RdF (X.alloc (.cells (madeCells #[.bool false] 200) 4)) (X.alloc (.cells (madeCells #[.bool false] 200) 4)).heap.size (some ⟨X.heap.size, 0, none⟩) ((List.range 200).map fun _ => false) := by
  have h0 := flags_made X 200
  exact FlagsAt.rdf (g := X.heap.size) (n := 200) (f := fun _ => false) ⟨by simp, fun j hj => h0.2 j (by omega)⟩
theorem rdf_one (X : World) : RdF (X.alloc (.cells #[.bool false] 4)) (X.alloc (.cells #[.bool false] 4)).heap.size (some ⟨X.heap.size, 0, none⟩) [false] := by
  intro _
  refine ⟨_, rfl, by simp, fun j d hj => ?_⟩
  match j, hj with
  | 0, hj =>
    obtain rfl : false = d := by simpa using hj
    simp [go_sem]
  | j + 1, hj => simp at hj
theorem uB {w a b : World} (h : Below w.heap.size w a) (hb : Below a.heap.size a b) : Below w.heap.size w b := h.trans (hb.mono h.size)
theorem uA {w a : World} (h : Below w.heap.size w a) (o : Obj) : Below w.heap.size w (a.alloc o) := h.trans ((Below.refl _ _).alloc h.size o)

theorem make_v16 : ∃ o, o = Obj.cells (madeCells (vv 0 0 ⟨#[]⟩).cells (16 * 3)) 29 ∧ ∀ w, (Instr.makeSlice 31 (.int .i64 16) (.int .i64 16)).run Try.prog w = .ok (.slice (some ⟨w.heap.size, 0, none⟩) 16 16) (w.alloc o) :=
  ⟨_, rfl, fun w => run_makeV 16 (by omega) w⟩
/-- the first j of 16 are that long text -/
def LongAt (W : World) (g : Nat) (X : ByteArray) (j : Nat) : Prop := ∃ cur, W.heap[g]? = some (.cells cur 29 (0, 0)) ∧ cur.size = 48 ∧
  ∀ i, i < 16 → cur[i * 3]? = some (.int .u8 (if i < j then 2 else 0)) ∧ cur[i * 3 + 1]? = some (.int .i64 0) ∧ cur[i * 3 + 2]? = some (.string (if i < j then X else ⟨#[]⟩))
theorem LongAt.on {W W' : World} {g : Nat} {X : ByteArray} {j : Nat} (h : LongAt W g X j) (hb : Below W.heap.size W W') : LongAt W' g X j := by
  obtain ⟨cur, hg, r⟩ := h
  exact ⟨cur, (hb.block g (heap_lt hg)).trans hg, r⟩
theorem LongAt.zero (W : World) (X : ByteArray) : LongAt (W.alloc (.cells (madeCells (vv 0 0 ⟨#[]⟩).cells (16 * 3)) 29)) W.heap.size X 0 := by
  have hz : (vv 0 0 ⟨#[]⟩).cells.size = 3 := by decide
  refine ⟨_, heap_alloc_new _ _, by simp [madeCells], fun i hi => ⟨?_, ?_, ?_⟩⟩
  · rw [made_get _ _ _ (by omega), hz, show i * 3 % 3 = 0 by omega]; rfl
  · rw [made_get _ _ _ (by omega), hz, show (i * 3 + 1) % 3 = 1 by omega]; rfl
  · rw [made_get _ _ _ (by omega), hz, show (i * 3 + 2) % 3 = 2 by omega]; rfl
theorem LongAt.rd {W : World} {g : Nat} {X : ByteArray} (h : LongAt W g X 16) : RdR W W.heap.size (some ⟨g, 0, none⟩) (longs X 16) := by
  obtain ⟨cur, hg, hs, hc⟩ := h
  intro _
  refine ⟨_, rfl, heap_lt hg, fun j k q s hj => ?_⟩
  have hj2 : j < 16 := by
    rcases Nat.lt_or_ge j 16 with h | h
    · exact h
    · rw [List.getElem?_eq_none (by simpa using h)] at hj; cases hj
  rw [List.getElem?_replicate, if_pos hj2] at hj
  obtain ⟨rfl, rfl, rfl⟩ : 2 = k ∧ 0 = q ∧ X = s := by simpa using hj
  have ha : ((⟨g, 0, none⟩ : Addr).add (j * 3)) = ⟨g, j * 3, none⟩ := by
    unfold Addr.add
    by_cases hj0 : j * 3 = 0 <;> simp [hj0]
  rw [ha]
  obtain ⟨h0, h1, h2⟩ := hc j hj2
  rw [if_pos hj2] at h0 h2
  exact ⟨(cell_of_row W g _ _ _ _ hg).trans h0, (cell_of_row W g _ _ _ _ hg).trans h1, (cell_of_row W g _ _ _ _ hg).trans h2⟩
def storedV (W : World) (g o : Nat) (k n : Int) (x : ByteArray) : World := ((W.setCell ⟨g, o, none⟩ (.int .u8 k)).setCell ⟨g, o + 1, none⟩ (.int .i64 n)).setCell ⟨g, o + 2, none⟩ (.string x)
theorem storedV_but (W : World) (g o : Nat) (k n : Int) (x : ByteArray) : But (fun i => i = g) W (storedV W g o k n x) := (((But.refl (fun i => i = g) W).set ⟨g, o, none⟩ rfl _).set ⟨g, o + 1, none⟩ rfl _).set ⟨g, o + 2, none⟩ rfl _
theorem storedV_heap {W : World} {g o : Nat} {k n : Int} {x : ByteArray} {cur : Array Value} {t : TypeId} (h : W.heap[g]? = some (.cells cur t (0, 0))) : (storedV W g o k n x).heap[g]? = some (.cells (((cur.setIfInBounds o (.int .u8 k)).setIfInBounds (o + 1) (.int .i64 n)).setIfInBounds (o + 2) (.string x)) t (0, 0)) := by
  have h1 := heap_setCell_same W g o _ _ (.int .u8 k) h
  have h2 := heap_setCell_same _ g (o + 1) _ _ (.int .i64 n) h1
  exact heap_setCell_same _ g (o + 2) _ _ (.string x) h2
theorem LongAt.cells {W : World} {g : Nat} {X : ByteArray} {j : Nat} (h : LongAt W g X j) (hj : j < 16) : (W.cell? ⟨g, j * 3, none⟩ = some (.int .u8 0) ∧ W.cell? ⟨g, j * 3 + 1, none⟩ = some (.int .i64 0) ∧ W.cell? ⟨g, j * 3 + 2, none⟩ = some (.string ⟨#[]⟩)) ∧ (W.frozen? ⟨g, j * 3, none⟩ = false ∧ W.frozen? ⟨g, j * 3 + 1, none⟩ = false ∧ W.frozen? ⟨g, j * 3 + 2, none⟩ = false) ∧ FarV W (fun k => k = g) := by
  obtain ⟨cur, hg, hs, hc⟩ := h
  obtain ⟨h0, h1, h2⟩ := hc j hj
  rw [if_neg (Nat.lt_irrefl j)] at h0 h2
  exact ⟨⟨(cell_of_row W g _ _ _ _ hg).trans h0, (cell_of_row W g _ _ _ _ hg).trans h1, (cell_of_row W g _ _ _ _ hg).trans h2⟩, ⟨frozen_of_row W g _ _ _ hg, frozen_of_row W g _ _ _ hg, frozen_of_row W g _ _ _ hg⟩, fun k hk => by subst hk; exact ⟨_, _, hg⟩⟩
theorem LongAt.set {W : World} {g : Nat} {X : ByteArray} {j : Nat} (h : LongAt W g X j) (hj : j < 16) : LongAt (storedV W g (j * 3) 2 0 X) g X (j + 1) := by
  obtain ⟨cur, hg, hs, hc⟩ := h
  refine ⟨_, storedV_heap hg, by simp [hs], fun i hi => ?_⟩
  obtain ⟨h0, h1, h2⟩ := hc i hi
  simp only [Array.getElem?_setIfInBounds, Array.size_setIfInBounds, hs]
  by_cases hij : i = j
  · subst hij
    refine ⟨?_, ?_, ?_⟩
    · simp; omega
    · simp; omega
    · simp; omega
  · have e1 : (i < j + 1) = (i < j) := propext ⟨fun h => by omega, fun h => by omega⟩
    refine ⟨?_, ?_, ?_⟩
    · rw [if_neg (by omega), if_neg (by omega), if_neg (by omega), h0]; simp only [e1]
    · rw [if_neg (by omega), if_neg (by omega), if_neg (by omega), h1]
    · rw [if_neg (by omega), if_neg (by omega), if_neg (by omega), h2]; simp only [e1]
theorem N8.butV {w Y Z : World} {kg s g : Nat} (h : N8 w Y kg s) (hb : But (fun k => k = g) Y Z) (hf : FarV Y (fun k => k = g)) (hn : kg ≠ g) (hg : w.heap.size ≤ g) : N8 w Z kg s :=
  ⟨h.a.trans (hb.below h.a.size fun i hi => by rw [hi]; exact hg), (hb.block kg (heap_lt h.k) hn).trans h.k, h.su.butV hb hf⟩
def LgRel (w w6 : World) (kg s gl : Nat) (X : ByteArray) (v : Value) (wr : World) : Prop := ∃ j : Nat, j ≤ 16 ∧ v = .int .i64 (j : Int) ∧ N8 w wr kg s ∧ LongAt wr gl X j

theorem putNo_long {w : World} {g : Nat} {X : ByteArray} (hX : X.size = 65536) (h : LongAt w g X 16) : PutNo 3 w (some ⟨g, 0, none⟩) 16 16 := fun Y hb =>
  put_long16 (some ⟨g, 0, none⟩) 16 X hX Y (h.on hb).rd
theorem Len_u {w : World} {lo s : Nat} {va : Value} {ds : List Bool} {dist : Bool} {L : List KR} (h : SorU w lo s va ds dist L) (hl : L.length ≤ 1000000) :
    Calls Try.prog 10 #[.pointer (some ⟨s, 0, none⟩)] w fun e w' => e = .returned (.int .i64 (L.length : Int)) ∧ Below w.heap.size w w' := by
  obtain ⟨o, ho, _, _, _, rfl, h5, _⟩ := h
  rw [List.length_map] at hl ⊢
  refine (Len_any ho (by rw [h5]; simpa using hl)).mono ?_
  rintro e w' ⟨rfl, hb⟩
  exact ⟨by rw [h5]; rfl, hb.below (Nat.le_refl _) (fun _ hk => hk.elim)⟩
theorem Rewind_u {w : World} {lo s : Nat} {va : Value} {ds : List Bool} {dist : Bool} {L : List KR} (h : SorU w lo s va ds dist L) :
    Calls Try.prog 11 #[.pointer (some ⟨s, 0, none⟩)] w fun e w' => e = .returned (.int .i64 70) ∧ w' = w := by
  obtain ⟨o, ho, _, _, h3, _⟩ := h
  exact Rewind_early ho h3
theorem Sort_s {w : World} {lo s : Nat} {B : List (List UInt8)} {k : Nat} (h : SorS w lo s B k) :
    Calls Try.prog 12 #[.pointer (some ⟨s, 0, none⟩)] w fun e w' => e = .returned (.int .i64 70) ∧ w' = w := by
  obtain ⟨vr, o, ho, h1, _⟩ := h
  exact Sort_again ho h1
/-- a row of one value, in a block of its own -/
theorem ownR_one {w : World} {base : Nat} {v : Value} {k n : Int} {s : ByteArray} (h : OwnR w base v [(k, n, s)]) : ∃ g c cur, v = .slice (some ⟨g, 0, none⟩) 1 c ∧ base ≤ g ∧ w.heap[g]? = some (.cells cur 29 (0, 0)) ∧
    w.cell? ⟨g, 0, none⟩ = some (.int .u8 k) ∧ w.cell? ⟨g, 1, none⟩ = some (.int .i64 n) ∧ w.cell? ⟨g, 2, none⟩ = some (.string s) := by
  have h' := h
  obtain ⟨h1, h2⟩ := h
  rcases h2 with ⟨hv, h0⟩ | ⟨g, cap, cur, rfl, hg, hh, r⟩
  · simp at h0
  · exact ⟨g, _, cur, rfl, hg, hh, (World.ownsRow.cellAt h' 0 (by show 0 < 3; omega)).trans rfl, (World.ownsRow.cellAt h' 1 (by show 1 < 3; omega)).trans rfl, (World.ownsRow.cellAt h' 2 (by show 2 < 3; omega)).trans rfl⟩
abbrev tIn : ByteArray := ⟨#[105, 110]⟩
abbrev tOut : ByteArray := ⟨#[111, 117, 116]⟩
theorem good_in : GoodR [(2, 0, tIn)] := fun t ht => by obtain rfl := List.mem_singleton.1 ht; decide
theorem get_in : getN (putL [(2, 0, tIn)]) = some [(2, 0, tIn)] := getN_good _ (by decide) good_in
theorem left_one (x : KR) : left false [x] = [x] := by rw [left, if_neg (by decide)]; exact srt_short _ _ (by simp)
theorem ft_two {s k : Nat} {va va' : Value} (hv : va'.ownBlock = va.ownBlock) (h : Ft s va' k) : Ft s va k := h.imp id fun e => e.trans hv
def FRel (wf : World) (f : Nat) (v : Value) (wr : World) : Prop := ∃ n : Nat, n ≤ 65536 ∧ v = .int .i64 (n : Int) ∧ Below wf.heap.size wf wr ∧ ∃ va, SorU wr wf.heap.size f va [] true (List.replicate n (keyL [] [], putL []))
theorem rdr_nil7 {w : World} {B : Nat} {A : Option Addr} : RdR w B A [] := fun h => absurd h (by simp)
theorem keyOk_none : KeyOk [] := keyOk_nil
theorem rowOk_none : RowOk [] := rowOk_good [] (by simp) (fun t ht => by cases ht)
theorem full_step {wf wr : World} {f : Nat} {va : Value} {n : Nat} (hb : Below wf.heap.size wf wr) (h : SorU wr wf.heap.size f va [] true (List.replicate n (keyL [] [], putL []))) (hn : n < 65536) :
    Calls Try.prog 7 #[.pointer (some ⟨f, 0, none⟩), .slice none 0 0, .slice none 0 0] wr fun e w' => e = .returned (.int .i64 0) ∧ FRel wf f (.int .i64 ((n + 1 : Nat) : Int)) w' := by
  refine (Add_u h hb.size none 0 [] none 0 [] rdr_nil7 rdr_nil7 keyOk_none rowOk_none rfl (by simpa using hn) 0 0 rfl rfl).mono ?_
  rintro e w' ⟨rfl, va', hs, _, hbb⟩
  refine ⟨rfl, n + 1, by omega, rfl, hb.trans (hbb.below hb.size fun i hi => (h.lo i hi).1), va', ?_⟩
  rw [List.replicate_succ']
  exact hs
theorem full_end {wf wr : World} {f : Nat} {va : Value} (hb : Below wf.heap.size wf wr) (h : SorU wr wf.heap.size f va [] true (List.replicate 65536 (keyL [] [], putL []))) :
    Calls Try.prog 7 #[.pointer (some ⟨f, 0, none⟩), .slice none 0 0, .slice none 0 0] wr fun e w' => e = .returned (.int .i64 5) ∧ Below wf.heap.size wf w' ∧ SorU w' wf.heap.size f va [] true (List.replicate 65536 (keyL [] [], putL [])) := by
  refine (Add_full h hb.size none 0 [] none 0 [] rdr_nil7 rdr_nil7 keyOk_none rowOk_none rfl (by rw [List.length_replicate]) 0 0 rfl rfl).mono ?_
  rintro e w' ⟨rfl, hbb⟩
  exact ⟨rfl, hb.trans (hbb.mono hb.size), h.on hbb⟩
theorem full_sort {wf wr : World} {f : Nat} {va : Value} (hb : Below wf.heap.size wf wr) (h : SorU wr wf.heap.size f va [] true (List.replicate 65536 (keyL [] [], putL []))) :
    Calls Try.prog 12 #[.pointer (some ⟨f, 0, none⟩)] wr fun e w' => e = .returned (.int .i64 0) ∧ Below wf.heap.size wf w' ∧ SorS w' wf.heap.size f [putL []] 0 := by
  refine (Sort_u h hb.size (by rw [List.length_replicate]; exact Nat.le_refl _)).mono ?_
  rintro e w' ⟨rfl, hs, hbb⟩
  refine ⟨rfl, hb.trans (hbb.below hb.size fun i hi => by rw [hi]; exact (h.lo f (.inl rfl)).1), ?_⟩
  rw [left_same 65535] at hs
  exact hs

structure FEnd (wf X : World) (ga f : Nat) : Prop where
  a : Below wf.heap.size wf X
  s : SorS X wf.heap.size f [putL []] 0
  g : ga < wf.heap.size ∧ wf.cell? ⟨ga, 0, none⟩ = some (.int .u8 2) ∧ wf.cell? ⟨ga, 1, none⟩ = some (.int .i64 0) ∧ wf.cell? ⟨ga, 2, none⟩ = some (.string tIn)
theorem FEnd.on {wf X Y : World} {ga f : Nat} (h : FEnd wf X ga f) (hb : Below X.heap.size X Y) : FEnd wf Y ga f := ⟨h.a.trans (hb.mono h.a.size), h.s.on hb, h.g⟩
theorem FEnd.eqv {wf X Y : World} {ga f : Nat} (h : FEnd wf X ga f) (he : Eqv Y X) : FEnd wf Y ga f := h.on (he.below (Below.refl _ _))
theorem FEnd.step {wf X Y Z : World} {ga f : Nat} (h : FEnd wf X ga f) (hb : Below Z.heap.size Z Y) (he : Eqv Z X) : FEnd wf Y ga f := (h.eqv he).on hb
theorem FEnd.cells {wf X : World} {ga f : Nat} (h : FEnd wf X ga f) : X.cell? ⟨ga, 0, none⟩ = some (.int .u8 2) ∧ X.cell? ⟨ga, 1, none⟩ = some (.int .i64 0) ∧ X.cell? ⟨ga, 2, none⟩ = some (.string ⟨#[105, 110]⟩) :=
  ⟨(h.a.cell (p := ⟨ga, 0, none⟩) h.g.1).trans h.g.2.1, (h.a.cell (p := ⟨ga, 1, none⟩) h.g.1).trans h.g.2.2.1, (h.a.cell (p := ⟨ga, 2, none⟩) h.g.1).trans h.g.2.2.2⟩
set_option maxRecDepth 100000 in
set_option maxHeartbeats 8000000 in
theorem num7_walk (w : World) : Calls Try.prog 3 #[] w fun e w' => e = .returned (.bool true) ∧ Below w.heap.size w w' := by
  obtain ⟨oM, hoM, hmM⟩ := make_v
  obtain ⟨oN, hoN, hmN⟩ := make_v200
  obtain ⟨oB, hoB, hmB⟩ := make_b
  obtain ⟨oC, hoC, hmC⟩ := make_b200
  have HMM := Lib.hid hmM
  have HMN := Lib.hid hmN
  have HMC := Lib.hid hmC
  have HON := Lib.hid hoN
  have HOC := Lib.hid hoC
  obtain ⟨oL, hoL, hmL⟩ := make_v16
  obtain ⟨X, hX, hrep⟩ := repeat_x
  have HOL := Lib.hid hoL
  have HML := Lib.hid hmL
  have HXS := Lib.hid hX
  have HREP := Lib.hid hrep
  clear hoL hmL hX hrep
  have hm1 := hmB w
  clear hoM hoN hoB hoC hmM hmN hmB hmC
  go_enter Try.func3, Try.ntmps3
  go_wp2_with fail
  clear hm1
  refine (New_many _ 201 201 false _ (by decide) (by decide)).mono ?_
  rintro e w1 ⟨rfl, rfl⟩
  have HB1 := Lib.hid (uA (Below.refl w.heap.size w) oB)
  obtain ⟨w1, hw1⟩ : ∃ w1, w.alloc oB = w1 := ⟨_, rfl⟩
  rw [hw1] at HB1 ⊢
  clear hw1
  have hm1 := HMC.out w1
  go_wp2_with fail
  clear hm1
  refine (New_u _ 200 200 ((List.range 200).map fun _ => false) false _ (by simp) (by rw [HOC.out]; exact rdf_made200 w1) (by simp) (fun h => by cases h)).mono ?_
  rintro e w2 ⟨sw, rfl, ht, hb⟩
  have HT2 := Lib.hid ht
  have HB2 := Lib.hid (uB (uA HB1.out oC) hb)
  have HZ1 := Lib.hid (uA HB1.out oC).size
  clear ht hb
  go_wp2_with fail
  refine (New_u _ 1 1 [false] false _ rfl (rdf_one w2) (by decide) (fun h => by cases h)).mono ?_
  rintro e w3 ⟨s, rfl, hs, hb⟩
  have HT3 := Lib.hid (HT2.out.on (((Below.refl w2.heap.size w2).alloc (Nat.le_refl _) _).trans (hb.mono (by simp))))
  have HS3 := Lib.hid hs
  have HB3 := Lib.hid (uB (uA HB2.out (.cells #[.bool false] 4)) hb)
  have HZ2 := Lib.hid (uA HB2.out (.cells #[.bool false] 4)).size
  have HNE := Lib.hid (show ¬ s = sw by
    have h1 := (HT2.out.lo sw (.inl rfl)).2
    have h2 := (hs.lo s (.inl rfl)).1
    simp at h2
    omega)
  clear hs hb
  go_wp2_with fail
  refine (num7_any 1 _).mono ?_
  rintro e w4 ⟨rfl, hb⟩
  have HT4 := Lib.hid (HT3.out.on hb)
  have HS4 := Lib.hid (HS3.out.on hb)
  have HB4 := Lib.hid (uB HB3.out hb)
  clear hb
  have HA := Lib.hid (show N7 w (w4.alloc (.cells #[.int .u8 1, .int .i64 1, .string ⟨#[]⟩] 29)) w4.heap.size s sw from
    ⟨uA HB4.out _, ValB.new _ _ _ _, (HS4.out.on ((Below.refl _ _).alloc (Nat.le_refl _) _)).mono HZ2.out, (HT4.out.on ((Below.refl _ _).alloc (Nat.le_refl _) _)).mono HZ1.out, HNE.out⟩)
  go_upto_region 7 with (fail)
  obtain ⟨w5, hw5⟩ : ∃ w5, w4.alloc (.cells #[.int .u8 1, .int .i64 1, .string ⟨#[]⟩] 29) = w5 := ⟨_, rfl⟩
  obtain ⟨kg, hkg⟩ : ∃ n, w4.heap.size = n := ⟨_, rfl⟩
  rw [hw5, hkg] at HA
  rw [hw5, hkg]
  clear hw5 hkg HT2 HB2 HT3 HS3 HB3 HT4 HS4 HB4 HZ1 HZ2 HB1
  go_cut [8] from 56 to 97 (fun v wx => v = .bool true ∧ N8 w wx kg s)
  case first =>
    have hmM := HMM.out
    have hmN := HMN.out
    go_region_held3 (fun X => True) (trivial)
      (first
        | (go_at_call 7; (with_reducible refine (n7_1 HA.out ?_).mono ?_); exact ⟨rfl, rfl, rfl, rfl⟩; rintro e x1 ⟨rfl, ha⟩; have HA := Lib.hid ha; clear ha)
        | (go_at_call 7; (with_reducible refine (n7_2 HA.out ?_).mono ?_); exact ⟨rfl, rfl, rfl, rfl⟩; rintro e x1 ⟨rfl, ha⟩; have HA := Lib.hid ha; clear ha)
        | (go_at_call 7; (with_reducible refine (n7_3 HA.out ?_).mono ?_); exact ⟨rfl, rfl, rfl, rfl⟩; rintro e x1 ⟨rfl, ha⟩; have HA := Lib.hid ha; clear ha)
        | (go_at_call 7; (with_reducible refine (n7_4 (o := oM) HA.out ?_).mono ?_); exact ⟨rfl, rfl, rfl, rfl⟩; rintro e x1 ⟨rfl, ha⟩; have HA := Lib.hid ha; clear ha)
        | (go_at_call 7; (with_reducible refine (n7_5 (o := oM) HA.out ?_).mono ?_); exact ⟨rfl, rfl, rfl, rfl⟩; rintro e x1 ⟨rfl, ha⟩; have HA := Lib.hid ha; clear ha)
        | (go_at_call 7; (with_reducible refine (n7_6 HA.out HON.out HON.out ?_).mono ?_); exact ⟨rfl, rfl, rfl, rfl⟩; rintro e x1 ⟨rfl, ha⟩; have HA := Lib.hid ha; clear ha)
        | (go_at_call 7; (with_reducible refine (n7_7 HA.out HON.out HON.out ?_).mono ?_); exact ⟨rfl, rfl, rfl, rfl⟩; rintro e x1 ⟨rfl, ha⟩; have HA := Lib.hid ha; clear ha))
    all_goals (go_wp2_with fail; go_meet; exact ⟨rfl, HA.out⟩)
  case rest =>
    obtain ⟨rfl, ha⟩ := hcut
    have HA := Lib.hid ha
    clear ha
    have hm1 := HML.out wc
    go_upto_region 9 with (fail)
    clear hm1
    have HZc := Lib.hid (HA.out.on ((Below.refl _ _).alloc (Nat.le_refl _) oL))
    have HL0 := Lib.hid (show LongAt (wc.alloc oL) wc.heap.size X 0 by rw [HOL.out]; exact LongAt.zero wc X)
    obtain ⟨gl, hgl⟩ : ∃ n, wc.heap.size = n := ⟨_, rfl⟩
    obtain ⟨w6, hw6⟩ : ∃ w6, wc.alloc oL = w6 := ⟨_, rfl⟩
    have hwz : w.heap.size ≤ wc.heap.size := HA.out.a.size
    have hnk : kg ≠ wc.heap.size := fun e => by have := heap_lt HA.out.k; omega
    rw [hw6] at HZc HL0
    rw [hgl] at HL0 hnk hwz
    rw [hw6, hgl]
    have HNK := Lib.hid (And.intro hnk hwz)
    clear hw6 hgl hnk hwz HA
    go_wp2_with fail
    go_loopw [100] (fun v wr => LgRel w w6 kg s gl X v wr) (fun v _ => 16 - (intOf v).toNat)
    case atStart => exact ⟨0, by omega, rfl, HZc.out, HL0.out⟩
    case round =>
      obtain ⟨j, hj, rfl, ha, hl⟩ := hrel
      have HA := Lib.hid ha
      have HL := Lib.hid hl
      clear ha hl
      by_cases hlt : j < 16
      · have q1 : (j : Int) < 16 := by omega
        go_wp2_with fail
        refine (HREP.out _).mono ?_
        rintro e x1 ⟨rfl, hb⟩
        have HA1 := Lib.hid (HA.out.on hb)
        have HL1 := Lib.hid (HL.out.on hb)
        clear hb
        go_wp2_with fail
        refine (text7_any X _).mono ?_
        rintro e x2 ⟨rfl, hb⟩
        have HA2 := Lib.hid (HA1.out.on hb)
        have HL2 := Lib.hid (HL1.out.on hb)
        clear hb
        obtain ⟨⟨c0, c1, c2⟩, ⟨f0, f1, f2⟩, hfv⟩ := HL2.out.cells hlt
        have HA3 := Lib.hid (HA2.out.butV (storedV_but x2 gl (j * 3) 2 0 X) hfv HNK.out.1 HNK.out.2)
        have HL3 := Lib.hid (HL2.out.set hlt)
        clear hfv
        go_wp2_with fail
        exact ⟨⟨j + 1, by omega, by go_num, HA3.out, HL3.out⟩, by simp [intOf]; omega⟩
      · obtain rfl : j = 16 := by omega
        have HX := Lib.hid (putNo_long HXS.out HL.out)
        generalize hwr : wr = y0 at *
        clear hwr HL0 HZc HREP HML HOL HMM HMN HMC HON HOC
        go_upto_region 14 with (fail)
        go_wp2_with fail
        refine (Add_put HA.out.su _ 1 [(1, 1, ⟨#[]⟩)] _ 16 16 3 rfl rfl HA.out.k.rd keyOk_one rfl 1 rfl HX.out).mono ?_
        rintro e x1 ⟨rfl, hb⟩
        have HA := Lib.hid (HA.out.on hb)
        clear hb HX HL
        go_wp2_with fail
        refine (Len_u HA.out.su (by simp)).mono ?_
        rintro e x2 ⟨rfl, hb⟩
        have HA := Lib.hid (HA.out.on hb)
        clear hb
        go_wp2_with fail
        refine (Rewind_u HA.out.su).mono ?_
        rintro e x3 ⟨rfl, rfl⟩
        go_wp2_with fail
        refine (text7_any tIn _).mono ?_
        rintro e x4 ⟨rfl, hb⟩
        have HA := Lib.hid (HA.out.on hb)
        clear hb
        have HV := Lib.hid (ValB.new x4 2 0 tIn)
        have HZ4 := Lib.hid HA.out.a.size
        have HA := Lib.hid (HA.out.on ((Below.refl _ _).alloc (Nat.le_refl _) (.cells #[.int .u8 2, .int .i64 0, .string tIn] 29)))
        obtain ⟨gi, hgi⟩ : ∃ n, x4.heap.size = n := ⟨_, rfl⟩
        obtain ⟨x5, hx5⟩ : ∃ x5, x4.alloc (.cells #[.int .u8 2, .int .i64 0, .string ⟨#[105, 110]⟩] 29) = x5 := ⟨_, rfl⟩
        rw [hx5] at HA
        rw [hx5, hgi] at HV
        go_upto_region 16 with (fail)
        (try rw [hgi])
        have HGI0 := Lib.hid (show w.heap.size ≤ gi from by rw [← hgi]; exact HZ4.out)
        clear hx5 hgi HZ4
        go_wp2_with fail
        refine (Add_u HA.out.su HA.out.a.size _ 1 [(1, 1, ⟨#[]⟩)] _ 1 [(2, 0, tIn)] HA.out.k.rd HV.out.rd keyOk_one (rowOk_good _ (by decide) good_in) rfl (by decide) 1 1 rfl rfl).mono ?_
        rintro e x6 ⟨rfl, va, hs, _, hb⟩
        have HV6 := Lib.hid (HV.out.but hb HA.out.su.far)
        have HB6 := Lib.hid (HA.out.a.trans (hb.below HA.out.a.size fun i hi => (HA.out.su.lo i hi).1))
        have HS6 := Lib.hid hs
        have HGI := Lib.hid (show w.heap.size ≤ gi from HGI0.out)
        clear hs hb HA HV HGI0
        go_wp2_with fail
        refine (text7_any tOut _).mono ?_
        rintro e x7 ⟨rfl, hb⟩
        have HV7 := Lib.hid (HV6.out.on hb)
        have HB7 := Lib.hid (uB HB6.out hb)
        have HS7 := Lib.hid (HS6.out.on hb)
        clear hb HV6 HB6 HS6
        obtain ⟨c0, c1, c2⟩ := HV7.out.cells
        have f0 := HV7.out.frz 0
        have f1 := HV7.out.frz 1
        have f2 := HV7.out.frz 2
        have HS8 := Lib.hid (HS7.out.butV (storedV_but x7 gi 0 2 0 tOut) HV7.out.farV)
        have HB8 := Lib.hid (HB7.out.trans ((storedV_but x7 gi 0 2 0 tOut).below HB7.out.size fun i hi => by rw [hi]; exact HGI.out))
        go_upto_region 18 with (fail)
        clear c0 c1 c2 f0 f1 f2
        obtain ⟨x8, hx8⟩ : ∃ x8, storedV x7 gi 0 2 0 tOut = x8 := ⟨_, rfl⟩
        rw [show ((x7.setCell ⟨gi, 0, none⟩ (.int .u8 2)).setCell ⟨gi, 1, none⟩ (.int .i64 0)).setCell ⟨gi, 2, none⟩ (.string ⟨#[111, 117, 116]⟩) = x8 from hx8]
        rw [hx8] at HS8 HB8
        clear hx8 HV7 HB7 HS7
        go_wp2_with fail
        refine (Sort_u HS8.out HB8.out.size (by simp)).mono ?_
        rintro e x9 ⟨rfl, hs, hb⟩
        rw [List.nil_append, left_one] at hs
        have HS9 := Lib.hid (show SorS x9 w.heap.size s [putL [(2, 0, tIn)]] 0 from hs)
        have HB9 := Lib.hid (HB8.out.trans (hb.below HB8.out.size fun i hi => by rw [hi]; exact (HS8.out.lo s (.inl rfl)).1))
        clear hs hb HS8 HB8
        go_wp2_with fail
        refine (Sort_s HS9.out).mono ?_
        rintro e x10 ⟨rfl, rfl⟩
        go_wp2_with fail
        refine (Next_s HS9.out _ rfl _ get_in (by simp)).mono ?_
        rintro e x11 ⟨v, rfl, hv, hs, hb⟩
        obtain ⟨g, c, cur, rfl, hg, hh, c0, c1, c2⟩ := ownR_one hv
        have HS11 := Lib.hid hs
        have HB11 := Lib.hid (HB9.out.trans (hb.below HB9.out.size fun i hi => by rw [hi]; exact (HS9.out.lo).1))
        have HG := Lib.hid (Nat.le_trans HB9.out.size hg)
        have HH := Lib.hid hh
        have CC := Lib.hid (And.intro ((cell_of_row x11 g 0 _ _ _ hh).symm.trans c0) (And.intro ((cell_of_row x11 g 1 _ _ _ hh).symm.trans c1) ((cell_of_row x11 g 2 _ _ _ hh).symm.trans c2)))
        clear hv hs hb hg hh c0 c1 c2 HS9 HB9
        go_wp2_with fail
        refine (text7_any tOut _).mono ?_
        rintro e x12 ⟨rfl, hb⟩
        have HS12 := Lib.hid (HS11.out.on hb)
        have HB12 := Lib.hid (uB HB11.out hb)
        have hh := (hb.block g (heap_lt HH.out)).trans HH.out
        have c0 := (cell_of_row x12 g 0 _ _ _ hh).trans (CC.out.1)
        have c1 := (cell_of_row x12 g 1 _ _ _ hh).trans (CC.out.2.1)
        have c2 := (cell_of_row x12 g 2 _ _ _ hh).trans (CC.out.2.2)
        have f0 := frozen_of_row x12 g 0 _ _ hh
        have f1 := frozen_of_row x12 g 1 _ _ hh
        have f2 := frozen_of_row x12 g 2 _ _ hh
        have HS13 := Lib.hid (HS12.out.butV (storedV_but x12 g 0 2 0 tOut) (fun k hk => by subst hk; exact ⟨_, _, hh⟩))
        have HB13 := Lib.hid (HB12.out.trans ((storedV_but x12 g 0 2 0 tOut).below HB12.out.size fun i hi => by rw [hi]; exact HG.out))
        clear hh
        go_upto_region 24 with (fail)
        clear c0 c1 c2 f0 f1 f2
        obtain ⟨x13, hx13⟩ : ∃ x13, storedV x12 g 0 2 0 tOut = x13 := ⟨_, rfl⟩
        rw [show ((x12.setCell ⟨g, 0, none⟩ (.int .u8 2)).setCell ⟨g, 1, none⟩ (.int .i64 0)).setCell ⟨g, 2, none⟩ (.string ⟨#[111, 117, 116]⟩) = x13 from hx13]
        rw [hx13] at HS13 HB13
        clear hx13 HH HS12 HB12 CC
        go_wp2_with fail
        refine (Next_s_end HS13.out (by simp) (by decide)).mono ?_
        rintro e x14 ⟨rfl, hs, hb⟩
        have HS14 := Lib.hid hs
        have HB14 := Lib.hid (uB HB13.out hb)
        clear hs hb HS13 HB13
        go_wp2_with fail
        refine (Rewind_s HS14.out).mono ?_
        rintro e x15 ⟨rfl, hs, hb⟩
        have HS15 := Lib.hid hs
        have HB15 := Lib.hid (HB14.out.trans (hb.below HB14.out.size fun i hi => by rw [hi]; exact HS14.out.lo.1))
        clear hs hb HS14 HB14
        go_wp2_with fail
        refine (Next_s HS15.out _ rfl _ get_in (by simp)).mono ?_
        rintro e x16 ⟨v, rfl, hv, hs, hb⟩
        obtain ⟨ga, ca, cur2, rfl, hg, hh, c0, c1, c2⟩ := ownR_one hv
        have HB16 := Lib.hid (HB15.out.trans (hb.below HB15.out.size fun i hi => by rw [hi]; exact HS15.out.lo.1))
        have HGA := Lib.hid (show ga < x16.heap.size ∧ x16.cell? ⟨ga, 0, none⟩ = some (.int .u8 2) ∧ x16.cell? ⟨ga, 1, none⟩ = some (.int .i64 0) ∧ x16.cell? ⟨ga, 2, none⟩ = some (.string tIn) from ⟨heap_lt hh, c0, c1, c2⟩)
        clear hv hs hb hg hh c0 c1 c2 HS15 HB15
        go_wp2_with fail
        refine (New_u none 0 0 [] true _ rfl (fun h => absurd h (by simp)) (by simp) (fun _ => ⟨rfl, rfl⟩)).mono ?_
        rintro e x17 ⟨f, rfl, hf, hb⟩
        have HF17 := Lib.hid hf
        have HB17 := Lib.hid hb
        clear hf hb
        go_upto_region 29 with (fail)
        go_loopw [25] (fun v wr => FRel x16 f v wr) (fun v _ => 65536 - (intOf v).toNat)
        case atStart => exact ⟨0, by omega, rfl, HB17.out, _, HF17.out⟩
        case round =>
          obtain ⟨n, hn, rfl, hb, va2, hs⟩ := hrel
          have HB := Lib.hid hb
          have HS := Lib.hid hs
          clear hb hs
          by_cases hlt : n < 65536
          · have q1 : (n : Int) < 65536 := by omega
            go_wp2_with fail
            refine (full_step HB.out HS.out hlt).mono ?_
            rintro e x18 ⟨rfl, hr⟩
            have HR := Lib.hid hr
            clear hr
            go_wp2_with fail
            exact ⟨by have := HR.out; rwa [show ((n + 1 : Nat) : Int) = (n : Int) + 1 from rfl] at this, by simp [intOf]; omega⟩
          · obtain rfl : n = 65536 := by omega
            clear HF17 HB17 hn hlt
            have q1 : ¬ ((65536 : Nat) : Int) < 65536 := by omega
            go_upto_region 33 with (fail)
            go_wp2_with fail
            refine (full_end HB.out HS.out).mono ?_
            rintro e x18 ⟨rfl, hb, hs⟩
            have HB := Lib.hid hb
            have HS := Lib.hid hs
            clear hb hs q1
            go_wp2_with fail
            refine (Len_u HS.out (by rw [List.length_replicate]; decide)).mono ?_
            rintro e x19 ⟨rfl, hb⟩
            rw [List.length_replicate]
            have HB := Lib.hid (uB HB.out hb)
            have HS := Lib.hid (HS.out.on hb)
            clear hb
            go_wp2_with fail
            refine (full_sort HB.out HS.out).mono ?_
            rintro e x20 ⟨rfl, hb, hs⟩
            have HB := Lib.hid hb
            have HS := Lib.hid hs
            clear hb hs
            go_upto_region 36 with (fail)
            have HE := Lib.hid (show FEnd x16 x20 ga f from ⟨HB.out, HS.out, HGA.out⟩)
            clear HB HS HGA
            go_region_held3 (fun X => X.cell? ⟨ga, 0, none⟩ = some (.int .u8 2) ∧ X.cell? ⟨ga, 1, none⟩ = some (.int .i64 0) ∧ X.cell? ⟨ga, 2, none⟩ = some (.string ⟨#[105, 110]⟩))
              (first | exact HE.out.cells)
              (first
                | (go_at_call 8; refine (text7_any _ _).mono ?_; rintro e x1 ⟨rfl, hb⟩; have HE := Lib.hid (HE.out.step hb ⟨rfl, rfl, rfl, rfl⟩); clear hb)
                | (go_at_call 10; refine (Len_s (HE.out.eqv ⟨rfl, rfl, rfl, rfl⟩).s (by simp)).mono ?_; rintro e x1 ⟨rfl, hb⟩; have HE := Lib.hid (HE.out.step hb ⟨rfl, rfl, rfl, rfl⟩); clear hb)
                | (go_at_call 14; refine (awk7_any _).mono ?_; rintro e x1 ⟨rfl, hb⟩; have HE := Lib.hid (HE.out.step hb ⟨rfl, rfl, rfl, rfl⟩); clear hb))
            all_goals (go_wp2_with fail; go_ret; exact ⟨rfl, HB16.out.trans (HE.out.a.mono HB16.out.size)⟩)
end Go.Proofs.Ytdhdfeiobjmdaaa
