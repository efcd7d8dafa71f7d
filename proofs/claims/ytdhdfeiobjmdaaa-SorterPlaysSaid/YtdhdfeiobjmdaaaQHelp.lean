/-
  Layer 7, sorter: the law's helper all: the texts of all rows, one behind the other. Conditions: fewer than 100 rows of one text each.
  Layer 7, sorter: the law's helper order. Conditions: no more than eight keys.
  Layer 7, sorter: the chapter's examples, as orders of keys. No conditions.
  Layer 7, sorter: the law's helper awake. No conditions.
  Layer 7, sorter: keys of two columns as arguments; the law's helper right. Conditions: sizes.
-/
import Derived.Test.YtdhdfeiobjmdaaaQMeth
import Derived.Test.YtdhdfeiobjmdaaaRHelp
namespace Go.Proofs.Ytdhdfeiobjmdaaa
open Go.ChangeShapes Go.WideShapes Go.ChangeAt Go.RowKit
set_option linter.unusedVariables false

theorem num7_any (n : Int) (w : World) : Calls Try.prog 6 #[.int .i64 n] w fun e w' => e = .returned (vv 1 n ⟨#[]⟩) ∧ Below w.heap.size w w' := by
  have h : ∀ w, Calls Try.prog 24 #[.int .i64 n] w fun e w' => e = .returned (vv 1 n ⟨#[]⟩) ∧ Below w.heap.size w w' := fun w => by
    go_enter Try.func24, Try.ntmps24
    go_wp2
    exact bodyPost_ret (v := vv 1 n ⟨#[]⟩) (by simp [results, Try.results24, go_sem]) rfl ⟨rfl, (Below.refl _ _).alloc (Nat.le_refl _) _⟩
  go_enter Try.func6, Try.ntmps6
  go_wp2_with (go_at_call 24; refine (h _).mono ?_; rintro e wb ⟨rfl, bb⟩; obtain ⟨u0, u1, u2, v0, v1, v2⟩ := w1_out w _ bb; have hz : w.heap.size < wb.heap.size := (by have := bb.size; simp at this; omega))
  exact bodyPost_ret (v := vv 1 n ⟨#[]⟩) (by simp [results, Try.results6, go_sem, u0, u1, u2]) rfl ⟨rfl, w1_end _ _ bb _ _ _⟩
theorem text7_any (s : ByteArray) (w : World) : Calls Try.prog 8 #[.string s] w fun e w' => e = .returned (vv 2 0 s) ∧ Below w.heap.size w w' := by
  have h : ∀ w, Calls Try.prog 28 #[.string s] w fun e w' => e = .returned (vv 2 0 s) ∧ Below w.heap.size w w' := fun w => by
    go_enter Try.func28, Try.ntmps28
    go_wp2
    exact bodyPost_ret (v := vv 2 0 s) (by simp [results, Try.results28, go_sem]) rfl ⟨rfl, (Below.refl _ _).alloc (Nat.le_refl _) _⟩
  go_enter Try.func8, Try.ntmps8
  go_wp2_with (go_at_call 28; refine (h _).mono ?_; rintro e wb ⟨rfl, bb⟩; obtain ⟨u0, u1, u2, v0, v1, v2⟩ := w1_out w _ bb; have hz : w.heap.size < wb.heap.size := (by have := bb.size; simp at this; omega))
  exact bodyPost_ret (v := vv 2 0 s) (by simp [results, Try.results8, go_sem, u0, u1, u2]) rfl ⟨rfl, w1_end _ _ bb _ _ _⟩
def catT (T : List ByteArray) : ByteArray := T.foldl (· ++ ·) ⟨#[]⟩
theorem catT_snoc (T : List ByteArray) (t : ByteArray) : catT (T ++ [t]) = catT T ++ t := by simp [catT]
def AllRel (w : World) (lo s : Nat) (B : List (List UInt8)) (T : List ByteArray) (v3 v4 : Value) (wr : World) : Prop :=
  ∃ j : Nat, j ≤ T.length ∧ v3 = .string (catT (T.take j)) ∧ v4 = .int .i64 (j : Int) ∧ (catT (T.take j)).size ≤ 100 * j ∧ SorS wr lo s B j ∧ But (fun k => k = s) w wr
set_option maxRecDepth 100000 in
set_option maxHeartbeats 1000000 in
theorem all_any {w : World} {lo s : Nat} {B : List (List UInt8)} (h : SorS w lo s B 0) (T : List ByteArray) (hT : B.length = T.length) (hg : ∀ (j : Nat) (t : ByteArray), T[j]? = some t → t.size ≤ 100 ∧ ∃ b, B[j]? = some b ∧ ∃ kk nn, getN b = some [(kk, nn, t)]) (hl : T.length < 100) :
    Calls Try.prog 44 #[.pointer (some ⟨s, 0, none⟩)] w fun e w' => e = .returned (.string (catT T)) ∧ SorS w' lo s B T.length ∧ But (fun k => k = s) w w' := by
  have H0 := Lib.hid h
  have HG := Lib.hid hg
  have HT := Lib.hid hT
  obtain ⟨n, hn⟩ : ∃ n, T.length = n := ⟨_, rfl⟩
  have HN := Lib.hid hn
  have hl2 : n < 100 := by omega
  clear h hg hT hn hl
  go_enter Try.func44, Try.ntmps44
  go_wp2_with fail
  go_loopw [3, 4] (fun v3 v4 wr => AllRel w lo s B T v3 v4 wr) (fun _ v4 _ => 100 - (intOf v4).toNat)
  case atStart => exact ⟨0, Nat.zero_le _, rfl, rfl, Nat.le_refl _, H0.out, But.refl _ _⟩
  case round =>
    obtain ⟨j, hj, rfl, rfl, hsz, hs, hb⟩ := hrel
    have hnl := HN.out
    have q1 : (j : Int) < 100 := by omega
    by_cases hlt : j < n
    · obtain ⟨t, ht⟩ : ∃ t, T[j]? = some t := ⟨T[j]'(by omega), List.getElem?_eq_getElem _⟩
      obtain ⟨hts, b, hb1, kk, nn, hgb⟩ := HG.out j t ht
      have HS := Lib.hid hs
      have HB := Lib.hid hb
      have HTT := Lib.hid (show catT (T.take (j + 1)) = catT (T.take j) ++ t by rw [List.take_add_one, ht]; exact catT_snoc _ _)
      generalize catT (T.take j) = acc at *
      clear hs hb hnl
      go_wp2_with fail
      refine (Next_s HS.out b hb1 [(kk, nn, t)] hgb (by have := HT.out; have := HN.out; omega)).mono ?_
      rintro e w1 ⟨v, rfl, hov, hs1, hb2⟩
      have hsz1 := HB.out.size
      obtain ⟨g, c, rfl, _, hgl⟩ := World.ownsRow.form hov (by show 0 < 1; omega)
      have c2 : w1.cell? ⟨g, 2, none⟩ = some (.string t) := (World.ownsRow.cellAt hov 2 (by show 2 < 3; omega)).trans rfl
      have HS1 := Lib.hid hs1
      have HB2 := Lib.hid hb2
      clear hov hs1 hb2
      go_wp2_with fail
      exact ⟨⟨j + 1, by have := HN.out; omega, by rw [HTT.out], by go_num, by rw [HTT.out, ByteArray.size_append]; omega, HS1.out, HB.out.same HB2.out⟩, by simp [intOf]; omega⟩
    · obtain rfl : j = n := by omega
      go_wp2_with fail
      refine (Next_s_end hs (by have := HT.out; omega) (by omega)).mono ?_
      rintro e w1 ⟨rfl, hs1, hb1⟩
      go_wp2_with fail
      go_ret
      rw [← hnl, List.take_length, hnl]
      exact ⟨rfl, hs1, hb.same (But.of_below hb1)⟩
end Go.Proofs.Ytdhdfeiobjmdaaa

namespace Go.Proofs.Ytdhdfeiobjmdaaa
open Go.ChangeShapes Go.WideShapes Go.ChangeAt Go.RowKit
set_option linter.unusedVariables false

def letters : ByteArray := ⟨#[65, 66, 67, 68, 69, 70, 71, 72]⟩
def letterT (i : Nat) : ByteArray := letters.extract i (i + 1)
def rowT (i : Nat) : List Trip := [(2, 0, letterT i)]
theorem keyOk_good (vs : List Trip) (hl : vs.length ≤ 150) (hg : GoodR vs) : KeyOk vs :=
  ⟨by omega, hg.bad, fun t ht => ⟨by have := (hg t ht).2.1; omega, (hg t ht).2.2⟩, by have := sumP_good vs hg; omega⟩
theorem rowOk_good (vs : List Trip) (hl : vs.length ≤ 150) (hg : GoodR vs) : RowOk vs := by
  have h1 := headL_len vs (by omega) (fun t ht => by have := (hg t ht).2.1; omega)
  have h2 := sumB_good vs hg
  exact ⟨by omega, hg.bad, fun t ht => ⟨by have := (hg t ht).2.1; omega, (hg t ht).2.2⟩, by omega⟩
theorem getN_good (vs : List Trip) (hl : vs.length ≤ 150) (hg : GoodR vs) : getN (putL vs) = some vs := by
  have h1 := headL_len vs (by omega) (fun t ht => by have := (hg t ht).2.1; omega)
  have h2 := sumB_good vs hg
  have h3 := bodies_len vs fun v hv => ⟨(hg v hv).1, (hg v hv).2.2⟩
  have h := getN_put vs [] (fun v hv => ⟨(hg v hv).1, (hg v hv).2.2⟩) (by omega) (by rw [List.append_nil, putL, List.length_append, h3]; omega)
  rw [List.append_nil, if_pos rfl] at h
  exact h
theorem letter_size (j : Nat) : (letters.extract j (j + 1)).size ≤ 8 := by
  rw [ByteArray.size_extract]
  have : letters.size = 8 := rfl
  omega
theorem good_letter (j : Nat) : GoodR (rowT j) := by
  intro t ht
  obtain rfl : t = (2, 0, letterT j) := by simpa [rowT] using ht
  have := letter_size j
  exact ⟨.inr (.inr ⟨.inl rfl, rfl, by show (letterT j).size ≤ 65536; unfold letterT; omega⟩), by show (letterT j).size ≤ 100; unfold letterT; omega, by show In64 0; unfold In64; decide⟩
theorem row_letter (j : Nat) : RowOk [(2, 0, letters.extract j (j + 1))] := rowOk_good _ (by show 1 ≤ 150; omega) (good_letter j)
/-- what order adds -/
def ordL (ds : List Bool) : List Trip → Nat → List KR
  | [], _ => []
  | k :: ks, i => (keyL [k] ds, putL (rowT i)) :: ordL ds ks (i + 1)
theorem ordL_snoc (ds : List Bool) : ∀ (a : List Trip) (i : Nat) (k : Trip), ordL ds (a ++ [k]) i = ordL ds a i ++ [(keyL [k] ds, putL (rowT (i + a.length)))]
  | [], i, k => rfl
  | x :: a, i, k => by
    have ih := ordL_snoc ds a (i + 1) k
    simp only [List.cons_append, ordL, ih, List.length_cons]
    rw [show i + 1 + a.length = i + (a.length + 1) by omega]
theorem ordL_length (ds : List Bool) : ∀ (a : List Trip) (i : Nat), (ordL ds a i).length = a.length
  | [], i => rfl
  | x :: a, i => by simp [ordL, ordL_length ds a (i + 1)]
def Eqv (x y : World) : Prop := x.os = y.os ∧ x.tape = y.tape ∧ x.output = y.output ∧ x.heap = y.heap
theorem Eqv.below {x y a : World} {B : Nat} (h : Eqv x y) (hb : Below B a y) : Below B a x := ⟨h.1.trans hb.os, h.2.1.trans hb.tape, h.2.2.1.trans hb.output, by rw [h.2.2.2]; exact hb.size, fun k hk => by rw [h.2.2.2]; exact hb.block k hk⟩
theorem cell_heap {x y : World} (h : x.heap = y.heap) (p : Addr) : x.cell? p = y.cell? p := by simp [World.cell?, h]
theorem Eqv.rdR {x y : World} {A : Option Addr} {vs : List Trip} (h : Eqv x y) (hr : RdR y y.heap.size A vs) : RdR x x.heap.size A vs := by
  intro hp
  obtain ⟨ad, e, hl, hc⟩ := hr hp
  refine ⟨ad, e, by rw [h.2.2.2]; exact hl, fun j k n s hj => ?_⟩
  obtain ⟨a, b, c⟩ := hc j k n s hj
  exact ⟨(cell_heap h.2.2.2 _).trans a, (cell_heap h.2.2.2 _).trans b, (cell_heap h.2.2.2 _).trans c⟩
theorem rd_one (W : World) (k n : Int) (t : ByteArray) (g : Nat) (hg : g = W.heap.size) : RdR (W.alloc (.cells #[.int .u8 k, .int .i64 n, .string t] 29)) (W.alloc (.cells #[.int .u8 k, .int .i64 n, .string t] 29)).heap.size (some ⟨g, 0, none⟩) [(k, n, t)] := by
  subst hg
  intro _
  refine ⟨_, rfl, by simp, fun j k' n' s' hj => ?_⟩
  match j, hj with
  | 0, hj =>
    simp only [List.getElem?_cons_zero, Option.some.injEq, Prod.mk.injEq] at hj
    obtain ⟨rfl, rfl, rfl⟩ := hj
    rw [add0]
    refine ⟨?_, ?_, ?_⟩ <;> simp [go_sem]
  | j + 1, hj => simp at hj
def OrdFacts (wr X : World) (A B : Option Addr) (k n : Int) (t l : ByteArray) : Prop := Below wr.heap.size wr X ∧ RdR X X.heap.size A [(k, n, t)] ∧ RdR X X.heap.size B [(2, 0, l)]
theorem ordV1 {wr Y w3 X : World} {o1 : Obj} {k n : Int} {t l : ByteArray} (hb3 : Below Y.heap.size Y w3) (hY : Eqv Y ((wr.alloc o1).alloc (.cells #[.int .u8 k, .int .i64 n, .string t] 29))) (hX : Eqv X (w3.alloc (.cells #[.int .u8 2, .int .i64 0, .string l] 29))) :
    OrdFacts wr X (some ⟨wr.heap.size + 1, 0, none⟩) (some ⟨w3.heap.size, 0, none⟩) k n t l := by
  have h1 := hY.below (below_two wr o1 (.cells #[.int .u8 k, .int .i64 n, .string t] 29))
  have h2 := h1.trans (hb3.mono h1.size)
  have h3 := h2.alloc h2.size (.cells #[.int .u8 2, .int .i64 0, .string l] 29)
  refine ⟨hX.below h3, hX.rdR ?_, hX.rdR (rd_one w3 2 0 l _ rfl)⟩
  exact ((hY.rdR (rd_one (wr.alloc o1) k n t _ (by simp))).on hb3).on ((Below.refl _ _).alloc (Nat.le_refl _) _)
theorem ordV2 {wr Y w3 X : World} {o1 : Obj} {k n : Int} {t l : ByteArray} (hb3 : Below Y.heap.size Y w3) (hY : Eqv Y (wr.alloc o1)) (hX : Eqv X ((w3.alloc (.cells #[.int .u8 k, .int .i64 n, .string t] 29)).alloc (.cells #[.int .u8 2, .int .i64 0, .string l] 29))) :
    OrdFacts wr X (some ⟨w3.heap.size, 0, none⟩) (some ⟨w3.heap.size + 1, 0, none⟩) k n t l := by
  have h1 := hY.below ((Below.refl wr.heap.size wr).alloc (Nat.le_refl _) o1)
  have h2 := h1.trans (hb3.mono h1.size)
  have h3 := (h2.alloc h2.size (.cells #[.int .u8 k, .int .i64 n, .string t] 29)).alloc (by simp; exact Nat.le_succ_of_le h2.size) (.cells #[.int .u8 2, .int .i64 0, .string l] 29)
  refine ⟨hX.below h3, hX.rdR ?_, hX.rdR (rd_one _ 2 0 l _ (by simp))⟩
  exact (rd_one w3 k n t _ rfl).on ((Below.refl _ _).alloc (Nat.le_refl _) _)
theorem ordV3 {wr Y w3 X : World} {o1 : Obj} {k n : Int} {t l : ByteArray} (hb3 : Below Y.heap.size Y w3) (hY : Eqv Y (wr.alloc o1)) (hX : Eqv X ((w3.alloc (.cells #[.int .u8 2, .int .i64 0, .string l] 29)).alloc (.cells #[.int .u8 k, .int .i64 n, .string t] 29))) :
    OrdFacts wr X (some ⟨w3.heap.size + 1, 0, none⟩) (some ⟨w3.heap.size, 0, none⟩) k n t l := by
  have h1 := hY.below ((Below.refl wr.heap.size wr).alloc (Nat.le_refl _) o1)
  have h2 := h1.trans (hb3.mono h1.size)
  have h3 := (h2.alloc h2.size (.cells #[.int .u8 2, .int .i64 0, .string l] 29)).alloc (by simp; exact Nat.le_succ_of_le h2.size) (.cells #[.int .u8 k, .int .i64 n, .string t] 29)
  refine ⟨hX.below h3, hX.rdR (rd_one _ k n t _ (by simp)), hX.rdR ?_⟩
  exact (rd_one w3 2 0 l _ rfl).on ((Below.refl _ _).alloc (Nat.le_refl _) _)
theorem ord_add {wr X : World} {lo s : Nat} {va : Value} {ds : List Bool} {dist : Bool} {L : List KR} {A B : Option Addr} {k n : Int} {t l : ByteArray} (h : SorU wr lo s va ds dist L) (hlo : lo ≤ wr.heap.size) (hX : OrdFacts wr X A B k n t l) (hk : KeyOk [(k, n, t)]) (hr : RowOk [(2, 0, l)]) (hd : ds.length = 1) (hE : L.length < 65536) (ca cb : Nat) :
    Calls Try.prog 7 #[.pointer (some ⟨s, 0, none⟩), .slice A 1 ca, .slice B 1 cb] X fun e w' => e = .returned (.int .i64 0) ∧ ∃ va', SorU w' lo s va' ds dist (L ++ [(keyL [(k, n, t)] ds, putL [(2, 0, l)])]) ∧ Below lo wr w' := by
  have hs := h.on hX.1
  refine (Add_u hs (Nat.le_trans hlo hX.1.size) A ca [(k, n, t)] B cb [(2, 0, l)] hX.2.1 hX.2.2 hk hr hd hE 1 1 rfl rfl).mono ?_
  rintro e w' ⟨rfl, va', hs2, _, hb⟩
  exact ⟨rfl, va', hs2, (hX.1.mono hlo).trans (hb.below (Nat.le_trans hlo hX.1.size) fun i hi => (hs.lo i hi).1)⟩
theorem SorU.mono {w : World} {lo lo' s : Nat} {va : Value} {ds : List Bool} {dist : Bool} {L : List KR} (h : SorU w lo s va ds dist L) (hl : lo' ≤ lo) : SorU w lo' s va ds dist L := by
  obtain ⟨o, ⟨D, dc, h1, h2, h3, h4, h5⟩, r⟩ := h
  exact ⟨o, ⟨D, dc, h1, Nat.le_trans hl h2, h3, h4.mono hl, h5⟩, r⟩
def OrdRel (w : World) (lo s : Nat) (ds : List Bool) (dist : Bool) (ks : List Trip) (v22 : Value) (wr : World) : Prop :=
  ∃ (j : Nat) (va : Value), j ≤ ks.length ∧ v22 = .int .i64 (j : Int) ∧ SorU wr lo s va ds dist (ordL ds (ks.take j) 0) ∧ Below lo w wr
set_option maxRecDepth 100000 in
set_option maxHeartbeats 2000000 in
theorem order_any (desc dist : Bool) (A : Option Addr) (n c : Nat) (ks : List Trip) (w : World) (hR : RdR w w.heap.size A ks) (hn : n = ks.length) (hl : ks.length ≤ 8) (hk : ∀ k ∈ ks, KeyOk [k]) (I : List Nat) (hI : (left dist (ordL [desc] ks 0)).map Prod.snd = I.map fun i => putL (rowT i)) :
    Calls Try.prog 43 #[.bool desc, .bool dist, .slice A n c] w fun e w' => e = .returned (.string (catT (I.map letterT))) ∧ Below w.heap.size w w' := by
  have HI := Lib.hid hI
  have HR := Lib.hid hR
  have HN := Lib.hid hn
  have HK := Lib.hid hk
  have HF0 := Lib.hid (show RdF (w.alloc (.cells #[.bool desc] 4)) (w.alloc (.cells #[.bool desc] 4)).heap.size (some ⟨w.heap.size, 0, none⟩) [desc] from fun _ => ⟨_, rfl, by simp, fun j d hj => by
    rw [add0]
    match j, hj with
    | 0, hj =>
      obtain rfl : desc = d := by simpa using hj
      simp [go_sem]
    | j + 1, hj => simp at hj⟩)
  have hl2 : n ≤ 8 := by omega
  clear hR hn hk hl hI
  go_enter Try.func43, Try.ntmps43
  go_wp2_with fail
  refine (New_u _ _ _ [desc] dist _ rfl HF0.out (by simp) (fun h => by cases h)).mono ?_
  rintro e w1 ⟨s, rfl, hs, hb⟩
  have hal : Below w.heap.size w (w.alloc (.cells #[.bool desc] 4)) := (Below.refl _ _).alloc (Nat.le_refl _) _
  have HS := Lib.hid (hs.mono (show w.heap.size ≤ _ by simp))
  have HB := Lib.hid (hal.trans (hb.mono (by simp)))
  clear hs hb hal
  go_wp2_with fail
  go_loopw [22] (fun v22 wr => OrdRel w w.heap.size s [desc] dist ks v22 wr) (fun v22 _ => n - (intOf v22).toNat)
  case atStart => exact ⟨0, _, Nat.zero_le _, rfl, HS.out, HB.out⟩
  case round =>
    obtain ⟨j, va, hj, rfl, hs, hb⟩ := hrel
    have hnl := HN.out
    by_cases hlt : j < n
    · obtain ⟨⟨kk, nn, t⟩, ht⟩ : ∃ t, ks[j]? = some t := ⟨ks[j]'(by omega), List.getElem?_eq_getElem _⟩
      have hR2 := HR.out.below hb
      obtain ⟨ad, rfl, hal, hcs⟩ := hR2 (by omega)
      obtain ⟨x0, x1, x2⟩ := hcs j kk nn t ht
      have q1 : (j : Int) < (n : Int) := by omega
      have q2 : (0 : Int) ≤ (j : Int) := by omega
      have q3 : IntKind.i64.wrap ((j : Int) + 1) = (j : Int) + 1 := IntWalk.i64_in _ (by omega)
      have q4 : (j : Int) + 1 ≤ 8 := by omega
      have q5 : (0 : Int) ≤ (j : Int) + 1 := by omega
      have q6 : (j : Int) ≤ (j : Int) + 1 := by omega
      have HSW := Lib.hid hs
      have HLO := Lib.hid hb.size
      have HKT := Lib.hid (HK.out _ (List.mem_of_getElem? ht))
      have HTT := Lib.hid ht
      have HBW := Lib.hid hb
      have HLL := Lib.hid (show (ordL [desc] (ks.take j) 0).length < 65536 by rw [ordL_length, List.length_take]; omega)
      have HRO := Lib.hid (row_letter j)
      clear hnl hcs hs hb ht
      go_wp2_with fail
      go_region_law (first
        | (go_simp; go_at_call 8; refine (text7_any _ _).mono ?_; rintro e w3 ⟨rfl, hb3⟩; have hz : wr.heap.size < w3.heap.size := Nat.lt_of_lt_of_le (by simp <;> omega) hb3.size; have z0 : w3.cell? ⟨wr.heap.size, 0, none⟩ = some (.int .u8 kk) := (hb3.cell (p := ⟨wr.heap.size, 0, none⟩) (by simp <;> omega)).trans (by simp [go_sem]); have z1 : w3.cell? ⟨wr.heap.size, 1, none⟩ = some (.int .i64 nn) := (hb3.cell (p := ⟨wr.heap.size, 1, none⟩) (by simp <;> omega)).trans (by simp [go_sem]); have z2 : w3.cell? ⟨wr.heap.size, 2, none⟩ = some (.string t) := (hb3.cell (p := ⟨wr.heap.size, 2, none⟩) (by simp <;> omega)).trans (by simp [go_sem]))
        | (go_simp; go_at_call 7; refine (ord_add HSW.out HLO.out (by first | exact ordV1 hb3 ⟨rfl, rfl, rfl, rfl⟩ ⟨rfl, rfl, rfl, rfl⟩ | exact ordV2 hb3 ⟨rfl, rfl, rfl, rfl⟩ ⟨rfl, rfl, rfl, rfl⟩ | exact ordV3 hb3 ⟨rfl, rfl, rfl, rfl⟩ ⟨rfl, rfl, rfl, rfl⟩) HKT.out HRO.out rfl HLL.out _ _).mono ?_; rintro e w5 ⟨rfl, va', hs5, hb5⟩))
      all_goals go_wp2_with fail
      all_goals
        exact ⟨⟨j + 1, va', by have := HN.out; omega, by go_num, by
          rw [List.take_add_one, HTT.out]
          show SorU _ _ _ _ _ _ (ordL [desc] (ks.take j ++ [(kk, nn, t)]) 0)
          rw [ordL_snoc, List.length_take, show 0 + min j ks.length = j by have := HN.out; omega]
          exact hs5, HBW.out.trans hb5⟩, by simp [intOf]; omega⟩
    · have q1 : ¬ (j : Int) < (n : Int) := by omega
      have hjn : j = n := by omega
      have HLL := Lib.hid (show (ordL [desc] (ks.take j) 0).length ≤ 65536 by rw [ordL_length, List.length_take]; omega)
      have HTK := Lib.hid (show ks.take j = ks by rw [List.take_of_length_le (by omega)])
      have HSW := Lib.hid hs
      have HBW := Lib.hid hb
      clear hs hb hjn hnl
      go_wp2_with fail
      refine (Sort_u HSW.out HBW.out.size HLL.out).mono ?_
      rintro e w5 ⟨rfl, hs5, hb5⟩
      rw [HTK.out] at hs5
      have HB5 := Lib.hid (HBW.out.trans (hb5.below HBW.out.size fun i hi => by rw [hi]; exact (HSW.out.lo _ (.inl rfl)).1))
      have HS5 := Lib.hid hs5
      clear hs5 hb5
      go_wp2_with fail
      have hlI : I.length ≤ 8 := by
        have h1 := congrArg List.length HI.out
        rw [List.length_map, List.length_map] at h1
        have h2 := left_length dist (ordL [desc] ks 0)
        rw [ordL_length] at h2
        have := HN.out
        omega
      refine (all_any HS5.out (I.map letterT) (by rw [HI.out, List.length_map, List.length_map]) (fun j t ht => ?_) (by rw [List.length_map]; omega)).mono ?_
      · rw [List.getElem?_map] at ht
        obtain ⟨i, hi, rfl⟩ := Option.map_eq_some_iff.1 ht
        exact ⟨by have := letter_size i; unfold letterT; omega, putL (rowT i), by rw [HI.out, List.getElem?_map, hi]; rfl, 2, 0, getN_good _ (by show 1 ≤ 150; omega) (good_letter i)⟩
      rintro e w6 ⟨rfl, hs6, hb6⟩
      have HB6 := Lib.hid (HB5.out.trans (hb6.below HB5.out.size fun i hi => by rw [hi]; exact HS5.out.lo.1))
      clear hs6 hb6
      go_wp2_with fail
      go_ret
      exact ⟨rfl, HB6.out⟩
end Go.Proofs.Ytdhdfeiobjmdaaa

namespace Go.Proofs.Ytdhdfeiobjmdaaa
open Go.ChangeShapes Go.WideShapes Go.ChangeAt Go.RowKit
set_option linter.unusedVariables false

theorem srt4 {α : Type} (lt : α → α → Bool) (a b c d : α) : srt lt [a, b, c, d] = mrg lt (mrg lt [a] [b]) (mrg lt [c] [d]) := by
  have s2 : ∀ x y : α, srt lt [x, y] = mrg lt [x] [y] := fun x y => by
    rw [srt_long lt _ (by simp)]
    rw [show List.take ([x, y].length / 2) [x, y] = [x] by simp, show List.drop ([x, y].length / 2) [x, y] = [y] by simp, srt_short lt _ (by simp), srt_short lt _ (by simp)]
  rw [srt_long lt _ (by simp)]
  rw [show List.take ([a, b, c, d].length / 2) [a, b, c, d] = [a, b] by simp, show List.drop ([a, b, c, d].length / 2) [a, b, c, d] = [c, d] by simp, s2, s2]
theorem srt3 {α : Type} (lt : α → α → Bool) (a b c : α) : srt lt [a, b, c] = mrg lt [a] (mrg lt [b] [c]) := by
  rw [srt_long lt _ (by simp)]
  rw [show List.take ([a, b, c].length / 2) [a, b, c] = [a] by simp, show List.drop ([a, b, c].length / 2) [a, b, c] = [b, c] by simp, srt_short lt [a] (by simp), srt_long lt [b, c] (by simp), show List.take ([b, c].length / 2) [b, c] = [b] by simp, show List.drop ([b, c].length / 2) [b, c] = [c] by simp, srt_short lt [b] (by simp), srt_short lt [c] (by simp)]
def n2 : Trip := (1, 2, ⟨#[]⟩)
def n1 : Trip := (1, 1, ⟨#[]⟩)
def n0 : Trip := (0, 0, ⟨#[]⟩)
def ex4 : List Trip := [n2, n1, n2, n0]
theorem lt_f : (∀ r r' : List UInt8, ltK (keyL [n1] [false], r) (keyL [n2] [false], r') = true) ∧ (∀ r r', ltK (keyL [n2] [false], r) (keyL [n1] [false], r') = false) ∧ (∀ r r', ltK (keyL [n2] [false], r) (keyL [n2] [false], r') = false) ∧
    (∀ r r', ltK (keyL [n0] [false], r) (keyL [n2] [false], r') = true) ∧ (∀ r r', ltK (keyL [n0] [false], r) (keyL [n1] [false], r') = true) := by
  refine ⟨fun r r' => ?_, fun r r' => ?_, fun r r' => ?_, fun r r' => ?_, fun r r' => ?_⟩
  · show decide (Lib.compareBytes (keyL [n1] [false]) (keyL [n2] [false]) < 0) = true
    decide +kernel
  · show decide (Lib.compareBytes (keyL [n2] [false]) (keyL [n1] [false]) < 0) = false
    decide +kernel
  · show decide (Lib.compareBytes (keyL [n2] [false]) (keyL [n2] [false]) < 0) = false
    decide +kernel
  · show decide (Lib.compareBytes (keyL [n0] [false]) (keyL [n2] [false]) < 0) = true
    decide +kernel
  · show decide (Lib.compareBytes (keyL [n0] [false]) (keyL [n1] [false]) < 0) = true
    decide +kernel
theorem lt_t : (∀ r r' : List UInt8, ltK (keyL [n1] [true], r) (keyL [n2] [true], r') = false) ∧ (∀ r r', ltK (keyL [n2] [true], r) (keyL [n1] [true], r') = true) ∧ (∀ r r', ltK (keyL [n2] [true], r) (keyL [n2] [true], r') = false) ∧
    (∀ r r', ltK (keyL [n0] [true], r) (keyL [n2] [true], r') = false) ∧ (∀ r r', ltK (keyL [n0] [true], r) (keyL [n1] [true], r') = false) := by
  refine ⟨fun r r' => ?_, fun r r' => ?_, fun r r' => ?_, fun r r' => ?_, fun r r' => ?_⟩
  · show decide (Lib.compareBytes (keyL [n1] [true]) (keyL [n2] [true]) < 0) = false
    decide +kernel
  · show decide (Lib.compareBytes (keyL [n2] [true]) (keyL [n1] [true]) < 0) = true
    decide +kernel
  · show decide (Lib.compareBytes (keyL [n2] [true]) (keyL [n2] [true]) < 0) = false
    decide +kernel
  · show decide (Lib.compareBytes (keyL [n0] [true]) (keyL [n2] [true]) < 0) = false
    decide +kernel
  · show decide (Lib.compareBytes (keyL [n0] [true]) (keyL [n1] [true]) < 0) = false
    decide +kernel
theorem same_f : (∀ r r' : List UInt8, sameK (keyL [n2] [false], r) (keyL [n2] [false], r') = true) ∧ (∀ r r', sameK (keyL [n2] [false], r) (keyL [n1] [false], r') = false) ∧ (∀ r r', sameK (keyL [n1] [false], r) (keyL [n0] [false], r') = false) := by
  refine ⟨fun r r' => ?_, fun r r' => ?_, fun r r' => ?_⟩
  · show (keyL [n2] [false] == keyL [n2] [false]) = true
    decide +kernel
  · show (keyL [n2] [false] == keyL [n1] [false]) = false
    decide +kernel
  · show (keyL [n1] [false] == keyL [n0] [false]) = false
    decide +kernel
theorem srt_f : srt ltK (ordL [false] ex4 0) = [(keyL [n0] [false], putL (rowT 3)), (keyL [n1] [false], putL (rowT 1)), (keyL [n2] [false], putL (rowT 0)), (keyL [n2] [false], putL (rowT 2))] := by
  obtain ⟨h1, h2, h3, h4, h5⟩ := lt_f
  simp only [ex4, ordL]
  rw [srt4]
  simp only [mrg_cons, mrg_nil_left, mrg_nil_right, h1, h2, h3, h4, h5, if_true, if_false, Bool.false_eq_true]
theorem ex_f : (left false (ordL [false] ex4 0)).map Prod.snd = [3, 1, 0, 2].map fun i => putL (rowT i) := by
  rw [left, if_neg (by decide), srt_f]
  rfl
theorem ex_d : (left true (ordL [false] ex4 0)).map Prod.snd = [3, 1, 0].map fun i => putL (rowT i) := by
  obtain ⟨h1, h2, h3⟩ := same_f
  rw [left, if_pos rfl, srt_f]
  simp only [cmpct, cmpA, h1, h2, h3, if_true, if_false, Bool.false_eq_true]
  rfl
theorem ex_t : (left false (ordL [true] ex4 0)).map Prod.snd = [0, 2, 1, 3].map fun i => putL (rowT i) := by
  obtain ⟨h1, h2, h3, h4, h5⟩ := lt_t
  rw [left, if_neg (by decide)]
  simp only [ex4, ordL]
  rw [srt4]
  simp only [mrg_cons, mrg_nil_left, mrg_nil_right, h1, h2, h3, h4, h5, if_true, if_false, Bool.false_eq_true]
  rfl
/-- rows of no key -/
theorem lt_none (r r' : List UInt8) : ltK ([], r) ([], r') = false := by
  show decide (Lib.compareBytes [] [] < 0) = false
  decide +kernel
theorem ex_a (a b c : List UInt8) : (left false [(([] : List UInt8), a), ([], b), ([], c)]).map Prod.snd = [a, b, c] := by
  rw [left, if_neg (by decide), srt3]
  simp only [mrg_cons, mrg_nil_left, mrg_nil_right, lt_none, if_false, Bool.false_eq_true]
  rfl
theorem ex_b (a b c : List UInt8) : (left true [(([] : List UInt8), a), ([], b), ([], c)]).map Prod.snd = [a] := by
  rw [left, if_pos rfl, srt3]
  simp only [mrg_cons, mrg_nil_left, mrg_nil_right, lt_none, if_false, Bool.false_eq_true]
  rfl
theorem ex_text : catT ([3, 1, 0, 2].map letterT) = ⟨#[68, 66, 65, 67]⟩ ∧ catT ([3, 1, 0].map letterT) = ⟨#[68, 66, 65]⟩ ∧ catT ([0, 2, 1, 3].map letterT) = ⟨#[65, 67, 66, 68]⟩ := by
  refine ⟨?_, ?_, ?_⟩ <;> decide +kernel
end Go.Proofs.Ytdhdfeiobjmdaaa

namespace Go.Proofs.Ytdhdfeiobjmdaaa
open Go.ChangeShapes Go.WideShapes Go.ChangeAt Go.RowKit
set_option linter.unusedVariables false

theorem Next_u {w : World} {lo s : Nat} {va : Value} {ds : List Bool} {dist : Bool} {L : List KR} (h : SorU w lo s va ds dist L) :
    Calls Try.prog 13 #[.pointer (some ⟨s, 0, none⟩)] w fun e w' => e = .returned (.tuple #[.slice none 0 0, .bool false]) ∧ Below w.heap.size w w' := by
  obtain ⟨o, h, _, _, h3, _⟩ := h
  refine (Next_early h h3).mono ?_
  rintro e w' ⟨rfl, hb⟩
  exact ⟨rfl, hb.below (Nat.le_refl _) (fun _ hk => hk.elim)⟩
theorem Add_s {w : World} {lo s : Nat} {B : List (List UInt8)} {k : Nat} (h : SorS w lo s B k) (A : Option Addr) (n c : Nat) (D : Option Addr) (m d : Nat) :
    Calls Try.prog 7 #[.pointer (some ⟨s, 0, none⟩), .slice A n c, .slice D m d] w fun e w' => e = .returned (.int .i64 70) ∧ w' = w := by
  obtain ⟨vr, o, h, h1, _⟩ := h
  exact Add_late h h1 A n c D m d
/-- the box of NULL, and the list of letters -/
def NulB (X : World) (n1 : Nat) : Prop := ∃ fr, X.heap[n1]? = some (.cells #[.int .u8 0, .int .i64 0, .string ⟨#[]⟩] 29 fr)
def StrB (X : World) (g : Nat) : Prop := ∃ fr, X.heap[g]? = some (.cells #[.string ⟨#[65]⟩, .string ⟨#[66]⟩, .string ⟨#[67]⟩] 9 fr)
theorem NulB.but {P : Nat → Prop} {w w' : World} {n : Nat} (h : NulB w n) (hb : But P w w') (hf : Far w P) : NulB w' n := by
  obtain ⟨fr, h⟩ := h
  exact ⟨fr, (hb.block n (heap_lt h) (hf.not h (by decide) (by decide) (by decide))).trans h⟩
theorem StrB.but {P : Nat → Prop} {w w' : World} {n : Nat} (h : StrB w n) (hb : But P w w') (hf : Far w P) : StrB w' n := by
  obtain ⟨fr, h⟩ := h
  exact ⟨fr, (hb.block n (heap_lt h) (hf.not h (by decide) (by decide) (by decide))).trans h⟩
def abc (j : Nat) : ByteArray := ⟨#[UInt8.ofNat (65 + j)]⟩
def rowS (t : ByteArray) : List Trip := [(2, 0, t)]
theorem good_s (t : ByteArray) (h : t.size ≤ 100) : GoodR (rowS t) := by
  intro x hx
  obtain rfl : x = (2, 0, t) := by simpa [rowS] using hx
  exact ⟨.inr (.inr ⟨.inl rfl, rfl, by show t.size ≤ 65536; omega⟩), h, by show In64 0; unfold In64; decide⟩
/-- while rows are added to both -/
def Two (w X : World) (n1 s t : Nat) (va vt : Value) (L : List KR) : Prop :=
  Below w.heap.size w X ∧ NulB X n1 ∧ SorU X w.heap.size s va [] false L ∧ SorU X w.heap.size t vt [] true L ∧ (∀ k, Ft s va k → ¬ Ft t vt k)
theorem Two.on {w X Y : World} {n1 s t : Nat} {va vt : Value} {L : List KR} (h : Two w X n1 s t va vt L) (hb : Below X.heap.size X Y) : Two w Y n1 s t va vt L :=
  ⟨h.1.trans (hb.mono h.1.size), h.2.1.but (P := fun _ => False) (But.of_below hb) (far_none _), h.2.2.1.on hb, h.2.2.2.1.on hb, h.2.2.2.2⟩
theorem ft_new {X : World} {lo s t : Nat} {va va' vt : Value} {ds : List Bool} {d : Bool} {L : List KR} (h : ∀ k, Ft s va k → ¬ Ft t vt k) (ht : SorU X lo t vt ds d L) (hv : va'.ownBlock = va.ownBlock ∨ ∃ g, va'.ownBlock = some g ∧ X.heap.size ≤ g) : ∀ k, Ft s va' k → ¬ Ft t vt k := by
  intro k hk hk2
  rcases hk with hk | hk
  · exact h k (.inl hk) hk2
  · rcases hv with hv | ⟨g, hv, hg⟩
    · exact h k (.inr (hk.trans hv)) hk2
    · have h1 := (ht.lo k hk2).2
      rw [hv] at hk
      injection hk with hk
      omega
theorem keyOk_nil : KeyOk [] := keyOk_good [] (Nat.zero_le _) (fun t ht => by cases ht)
/-- s.Add(nil, row) beside the other sorter -/
theorem awkAddS {w X : World} {n1 s t : Nat} {va vt : Value} {L : List KR} {B : Option Addr} {c : Nat} {x : ByteArray} (h : Two w X n1 s t va vt L) (hR : RdR X X.heap.size B [(2, 0, x)]) (hx : x.size ≤ 100) (hL : L.length < 65536) :
    Calls Try.prog 7 #[.pointer (some ⟨s, 0, none⟩), .slice none 0 0, .slice B 1 c] X fun e w' => e = .returned (.int .i64 0) ∧
      ∃ va', Below w.heap.size w w' ∧ NulB w' n1 ∧ (∀ g, StrB X g → StrB w' g) ∧ SorU w' w.heap.size s va' [] false (L ++ [([], putL (rowS x))]) ∧ SorU w' w.heap.size t vt [] true L ∧ (∀ k, Ft s va' k → ¬ Ft t vt k) := by
  obtain ⟨h1, h2, h3, h4, h5⟩ := h
  refine (Add_u h3 h1.size none 0 [] B c [(2, 0, x)] (fun hp => absurd hp (by simp)) hR keyOk_nil (rowOk_good _ (by show 1 ≤ 150; omega) (good_s x hx)) rfl hL 0 1 rfl rfl).mono ?_
  rintro e w' ⟨rfl, va', hs, hv, hb⟩
  exact ⟨rfl, va', h1.trans (hb.below h1.size fun i hi => (h3.lo i hi).1), h2.but hb h3.far, fun g hg => hg.but hb h3.far, hs, h4.but hb h3.far (fun k hk hk2 => h5 k hk2 hk), ft_new h5 h4 hv⟩
theorem awkAddT {w X : World} {n1 s t : Nat} {va vt : Value} {L M : List KR} {B : Option Addr} {c : Nat} {x : ByteArray} (h1 : Below w.heap.size w X) (h2 : NulB X n1) (h3 : SorU X w.heap.size s va [] false M) (h4 : SorU X w.heap.size t vt [] true L) (h5 : ∀ k, Ft s va k → ¬ Ft t vt k) (hR : RdR X X.heap.size B [(2, 0, x)]) (hx : x.size ≤ 100) (hL : L.length < 65536) :
    Calls Try.prog 7 #[.pointer (some ⟨t, 0, none⟩), .slice none 0 0, .slice B 1 c] X fun e w' => e = .returned (.int .i64 0) ∧
      ∃ vt', Below w.heap.size w w' ∧ NulB w' n1 ∧ (∀ g, StrB X g → StrB w' g) ∧ SorU w' w.heap.size s va [] false M ∧ SorU w' w.heap.size t vt' [] true (L ++ [([], putL (rowS x))]) ∧ (∀ k, Ft s va k → ¬ Ft t vt' k) := by
  refine (Add_u h4 h1.size none 0 [] B c [(2, 0, x)] (fun hp => absurd hp (by simp)) hR keyOk_nil (rowOk_good _ (by show 1 ≤ 150; omega) (good_s x hx)) rfl hL 0 1 rfl rfl).mono ?_
  rintro e w' ⟨rfl, vt', hs, hv, hb⟩
  exact ⟨rfl, vt', h1.trans (hb.below h1.size fun i hi => (h4.lo i hi).1), h2.but hb h4.far, fun g hg => hg.but hb h4.far, h3.but hb h4.far (fun k hk hk2 => h5 k hk hk2), hs, fun k hk hk2 => ft_new (fun k a b => h5 k b a) h3 hv k hk2 hk⟩
def rA : List UInt8 := putL (rowS (abc 0))
def rB : List UInt8 := putL (rowS (abc 1))
def rC : List UInt8 := putL (rowS (abc 2))
/-- when both are sorted -/
def AwkS (w X : World) (n1 s t : Nat) (ks kt : Nat) : Prop := Below w.heap.size w X ∧ NulB X n1 ∧ SorS X w.heap.size s [rA, rB, rC] ks ∧ SorS X w.heap.size t [rA] kt ∧ ¬ s = t
theorem AwkS.on {w X Y : World} {n1 s t ks kt : Nat} (h : AwkS w X n1 s t ks kt) (hb : Below X.heap.size X Y) : AwkS w Y n1 s t ks kt :=
  ⟨h.1.trans (hb.mono h.1.size), h.2.1.but (P := fun _ => False) (But.of_below hb) (far_none _), h.2.2.1.on hb, h.2.2.2.1.on hb, h.2.2.2.2⟩
theorem AwkS.eqv {w X Y : World} {n1 s t ks kt : Nat} (h : AwkS w X n1 s t ks kt) (he : Eqv Y X) : AwkS w Y n1 s t ks kt := h.on (he.below (Below.refl _ _))
theorem AwkS.step {w X Y Z : World} {n1 s t ks kt : Nat} (h : AwkS w X n1 s t ks kt) (hb : Below Z.heap.size Z Y) (he : Eqv Z X) : AwkS w Y n1 s t ks kt := (h.eqv he).on hb
theorem AwkS.stepA {w X Y Z : World} {n1 s t ks kt : Nat} {o : Obj} (h : AwkS w X n1 s t ks kt) (hb : Below Z.heap.size Z Y) (he : Eqv Z (X.alloc o)) : AwkS w Y n1 s t ks kt :=
  ((h.on ((Below.refl X.heap.size X).alloc (Nat.le_refl _) o)).eqv he).on hb
theorem NulB.cells {X : World} {n : Nat} (h : NulB X n) : X.cell? ⟨n, 0, none⟩ = some (.int .u8 0) ∧ X.cell? ⟨n, 1, none⟩ = some (.int .i64 0) ∧ X.cell? ⟨n, 2, none⟩ = some (.string ⟨#[]⟩) := by
  obtain ⟨fr, h⟩ := h
  refine ⟨?_, ?_, ?_⟩ <;> (rw [cell_of_row X n _ _ _ _ h]; rfl)
theorem AwkS.nul {w X : World} {n1 s t ks kt : Nat} (h : AwkS w X n1 s t ks kt) : X.cell? ⟨n1, 0, none⟩ = some (.int .u8 0) ∧ X.cell? ⟨n1, 1, none⟩ = some (.int .i64 0) ∧ X.cell? ⟨n1, 2, none⟩ = some (.string ⟨#[]⟩) := h.2.1.cells
theorem AwkS.nulA {w X : World} {n1 s t ks kt : Nat} {o : Obj} (h : AwkS w X n1 s t ks kt) : (X.alloc o).cell? ⟨n1, 0, none⟩ = some (.int .u8 0) ∧ (X.alloc o).cell? ⟨n1, 1, none⟩ = some (.int .i64 0) ∧ (X.alloc o).cell? ⟨n1, 2, none⟩ = some (.string ⟨#[]⟩) :=
  (h.on ((Below.refl X.heap.size X).alloc (Nat.le_refl _) o)).nul
def fourC : Array Value := #[.int .u8 1, .int .i64 2, .string ⟨#[]⟩, .int .u8 1, .int .i64 1, .string ⟨#[]⟩, .int .u8 1, .int .i64 2, .string ⟨#[]⟩, .int .u8 0, .int .i64 0, .string ⟨#[]⟩]
theorem rd_four {X Z : World} (he : Eqv Z (X.alloc (.cells fourC 29))) : RdR Z Z.heap.size (some ⟨X.heap.size, 0, none⟩) ex4 := by
  refine he.rdR fun _ => ⟨_, rfl, by simp, fun j k n s hj => ?_⟩
  have hb := heap_alloc_new X (.cells fourC 29)
  rw [add0]
  match j, hj with
  | 0, hj => obtain ⟨rfl, rfl, rfl⟩ : (1 : Int) = k ∧ (2 : Int) = n ∧ (⟨#[]⟩ : ByteArray) = s := by simpa [ex4, n2] using hj
             exact ⟨by rw [cell_of_row _ _ _ _ _ _ hb]; rfl, by rw [cell_of_row _ _ _ _ _ _ hb]; rfl, by rw [cell_of_row _ _ _ _ _ _ hb]; rfl⟩
  | 1, hj => obtain ⟨rfl, rfl, rfl⟩ : (1 : Int) = k ∧ (1 : Int) = n ∧ (⟨#[]⟩ : ByteArray) = s := by simpa [ex4, n1] using hj
             exact ⟨by rw [cell_of_row _ _ _ _ _ _ hb]; rfl, by rw [cell_of_row _ _ _ _ _ _ hb]; rfl, by rw [cell_of_row _ _ _ _ _ _ hb]; rfl⟩
  | 2, hj => obtain ⟨rfl, rfl, rfl⟩ : (1 : Int) = k ∧ (2 : Int) = n ∧ (⟨#[]⟩ : ByteArray) = s := by simpa [ex4, n2] using hj
             exact ⟨by rw [cell_of_row _ _ _ _ _ _ hb]; rfl, by rw [cell_of_row _ _ _ _ _ _ hb]; rfl, by rw [cell_of_row _ _ _ _ _ _ hb]; rfl⟩
  | 3, hj => obtain ⟨rfl, rfl, rfl⟩ : (0 : Int) = k ∧ (0 : Int) = n ∧ (⟨#[]⟩ : ByteArray) = s := by simpa [ex4, n0] using hj
             exact ⟨by rw [cell_of_row _ _ _ _ _ _ hb]; rfl, by rw [cell_of_row _ _ _ _ _ _ hb]; rfl, by rw [cell_of_row _ _ _ _ _ _ hb]; rfl⟩
  | j + 4, hj => simp [ex4] at hj
def exT (desc dist : Bool) : ByteArray := if desc then ⟨#[65, 67, 66, 68]⟩ else if dist then ⟨#[68, 66, 65]⟩ else ⟨#[68, 66, 65, 67]⟩
theorem good_ex : ∀ k ∈ ex4, KeyOk [k] := by
  intro k hk
  refine keyOk_good [k] (by show 1 ≤ 150; omega) fun t ht => ?_
  obtain rfl : t = k := by simpa using ht
  simp only [ex4, List.mem_cons, List.mem_nil_iff, or_false] at hk
  rcases hk with rfl | rfl | rfl | rfl
  · exact ⟨.inr (.inl ⟨rfl, rfl⟩), by show 0 ≤ 100; omega, by show In64 2; unfold In64; decide⟩
  · exact ⟨.inr (.inl ⟨rfl, rfl⟩), by show 0 ≤ 100; omega, by show In64 1; unfold In64; decide⟩
  · exact ⟨.inr (.inl ⟨rfl, rfl⟩), by show 0 ≤ 100; omega, by show In64 2; unfold In64; decide⟩
  · exact ⟨.inl ⟨rfl, rfl, rfl⟩, by show 0 ≤ 100; omega, by show In64 0; unfold In64; decide⟩
theorem order7 (desc dist : Bool) (h : (desc && dist) = false) (A : Option Addr) (Z : World) (hR : RdR Z Z.heap.size A ex4) :
    Calls Try.prog 43 #[.bool desc, .bool dist, .slice A 4 4] Z fun e w' => e = .returned (.string (exT desc dist)) ∧ Below Z.heap.size Z w' := by
  have hl : ex4.length ≤ 8 := by show 4 ≤ 8; omega
  cases desc <;> cases dist
  · have := order_any false false A 4 4 ex4 Z hR rfl hl good_ex [3, 1, 0, 2] ex_f
    rw [ex_text.1] at this
    exact this
  · have := order_any false true A 4 4 ex4 Z hR rfl hl good_ex [3, 1, 0] ex_d
    rw [ex_text.2.1] at this
    exact this
  · have := order_any true false A 4 4 ex4 Z hR rfl hl good_ex [0, 2, 1, 3] ex_t
    rw [ex_text.2.2] at this
    exact this
  · cases h
theorem get_abc (j : Nat) : getN (putL (rowS (abc j))) = some [(2, 0, abc j)] := getN_good _ (by show 1 ≤ 150; omega) (good_s _ (by show 1 ≤ 100; omega))
theorem all_s {w Z : World} {n1 s t kt : Nat} (h : AwkS w Z n1 s t 0 kt) : Calls Try.prog 44 #[.pointer (some ⟨s, 0, none⟩)] Z fun e w' => e = .returned (.string ⟨#[65, 66, 67]⟩) ∧ AwkS w w' n1 s t 3 kt := by
  refine (all_any h.2.2.1 [abc 0, abc 1, abc 2] rfl (fun j x hx => ?_) (by show 3 < 100; omega)).mono ?_
  · match j, hx with
    | 0, hx => obtain rfl : abc 0 = x := by simpa using hx
               exact ⟨by show 1 ≤ 100; omega, rA, rfl, 2, 0, get_abc 0⟩
    | 1, hx => obtain rfl : abc 1 = x := by simpa using hx
               exact ⟨by show 1 ≤ 100; omega, rB, rfl, 2, 0, get_abc 1⟩
    | 2, hx => obtain rfl : abc 2 = x := by simpa using hx
               exact ⟨by show 1 ≤ 100; omega, rC, rfl, 2, 0, get_abc 2⟩
    | j + 3, hx => simp at hx
  · rintro e w' ⟨rfl, hs, hb⟩
    have hf := h.2.2.1.far
    exact ⟨by rw [show catT [abc 0, abc 1, abc 2] = ⟨#[65, 66, 67]⟩ by decide +kernel], h.1.trans (hb.below h.1.size fun i hi => by rw [hi]; exact h.2.2.1.lo.1), h.2.1.but hb hf, hs, h.2.2.2.1.but hb hf (fun e => h.2.2.2.2 e.symm), h.2.2.2.2⟩
theorem all_t {w Z : World} {n1 s t ks : Nat} (h : AwkS w Z n1 s t ks 0) : Calls Try.prog 44 #[.pointer (some ⟨t, 0, none⟩)] Z fun e w' => e = .returned (.string ⟨#[65]⟩) ∧ AwkS w w' n1 s t ks 1 := by
  refine (all_any h.2.2.2.1 [abc 0] rfl (fun j x hx => ?_) (by show 1 < 100; omega)).mono ?_
  · match j, hx with
    | 0, hx => obtain rfl : abc 0 = x := by simpa using hx
               exact ⟨by show 1 ≤ 100; omega, rA, rfl, 2, 0, get_abc 0⟩
    | j + 1, hx => simp at hx
  · rintro e w' ⟨rfl, hs, hb⟩
    have hf := h.2.2.2.1.far
    exact ⟨by rw [show catT [abc 0] = ⟨#[65]⟩ by decide +kernel], h.1.trans (hb.below h.1.size fun i hi => by rw [hi]; exact h.2.2.2.1.lo.1), h.2.1.but hb hf, h.2.2.1.but hb hf h.2.2.2.2, hs, h.2.2.2.2⟩
def AwkRel (w : World) (n1 s t g : Nat) (v27 : Value) (wr : World) : Prop :=
  ∃ (j : Nat) (va vt : Value), j ≤ 3 ∧ v27 = .int .i64 (j : Int) ∧ StrB wr g ∧ Two w wr n1 s t va vt ((List.range j).map fun i => ([], putL (rowS (abc i))))
set_option maxRecDepth 100000 in
set_option maxHeartbeats 4000000 in
theorem awk7_any (w : World) : Calls Try.prog 14 #[] w fun e w' => e = .returned (.bool true) ∧ Below w.heap.size w w' := by
  go_enter Try.func14, Try.ntmps14
  go_wp2_with fail
  refine (New_u none 0 0 [] false _ rfl (fun h => absurd h (by simp)) (by simp) (fun _ => ⟨rfl, rfl⟩)).mono ?_
  rintro e w1 ⟨s, rfl, hs, hb⟩
  have hn0 : NulB (w.alloc (.cells #[.int .u8 0, .int .i64 0, .string ⟨#[]⟩] 29)) w.heap.size := ⟨_, heap_alloc_new _ _⟩
  have HN1 := Lib.hid (hn0.but (P := fun _ => False) (But.of_below hb) (far_none _))
  have HS1 := Lib.hid (hs.mono (show w.heap.size ≤ _ by simp))
  have HB1 := Lib.hid (((Below.refl w.heap.size w).alloc (Nat.le_refl _) (.cells #[.int .u8 0, .int .i64 0, .string ⟨#[]⟩] 29)).trans (hb.mono (by simp)))
  clear hs hb hn0
  go_wp2_with fail
  refine (New_u none 0 0 [] true _ rfl (fun h => absurd h (by simp)) (by simp) (fun _ => ⟨rfl, rfl⟩)).mono ?_
  rintro e w2 ⟨t, rfl, ht, hb⟩
  have HTW := Lib.hid (show Two w w2 w.heap.size s t (.slice none 0 0) (.slice none 0 0) [] from ⟨HB1.out.trans (hb.mono HB1.out.size), HN1.out.but (P := fun _ => False) (But.of_below hb) (far_none _), HS1.out.on hb, ht.mono HB1.out.size, fun k hk hk2 => by
    have h1 := (HS1.out.lo k hk).2
    have h2 := (ht.lo k hk2).1
    omega⟩)
  clear ht hb
  go_wp2_with fail
  have HLT := Lib.hid (HTW.out.on ((Below.refl w2.heap.size w2).alloc (Nat.le_refl _) (.cells #[.string ⟨#[65]⟩, .string ⟨#[66]⟩, .string ⟨#[67]⟩] 9)))
  have HST := Lib.hid (show StrB (w2.alloc (.cells #[.string ⟨#[65]⟩, .string ⟨#[66]⟩, .string ⟨#[67]⟩] 9)) w2.heap.size from ⟨_, heap_alloc_new _ _⟩)
  obtain ⟨g, hg⟩ : ∃ g, w2.heap.size = g := ⟨_, rfl⟩
  obtain ⟨w3, hw3⟩ : ∃ w3, w2.alloc (.cells #[.string ⟨#[65]⟩, .string ⟨#[66]⟩, .string ⟨#[67]⟩] 9) = w3 := ⟨_, rfl⟩
  rw [hw3, hg] at HST
  rw [hw3] at HLT ⊢
  rw [hg]
  clear hg hw3
  go_loopw [27] (fun v27 wr => AwkRel w w.heap.size s t g v27 wr) (fun v27 _ => 3 - (intOf v27).toNat)
  case atStart => exact ⟨0, _, _, Nat.zero_le _, rfl, HST.out, HLT.out⟩
  case round =>
    obtain ⟨j, va, vt, hj, rfl, hst, htw⟩ := hrel
    by_cases hlt : j < 3
    · have x0 : wr.cell? ⟨g, j, none⟩ = some (.string (abc j)) := by
        obtain ⟨fr, hst⟩ := hst
        rw [cell_of_row wr g j _ _ _ hst]
        have : j = 0 ∨ j = 1 ∨ j = 2 := by omega
        rcases this with rfl | rfl | rfl <;> rfl
      have q1 : (j : Int) < 3 := by omega
      have q2 : (0 : Int) ≤ (j : Int) := by omega
      have HT0 := Lib.hid htw
      have HS0 := Lib.hid hst
      have HLN := Lib.hid (show ((List.range j).map fun i => (([] : List UInt8), putL (rowS (abc i)))).length < 65536 by rw [List.length_map, List.length_range]; omega)
      have HSN := Lib.hid (show ((List.range (j + 1)).map fun i => (([] : List UInt8), putL (rowS (abc i)))) = ((List.range j).map fun i => (([] : List UInt8), putL (rowS (abc i)))) ++ [([], putL (rowS (abc j)))] by rw [List.range_succ, List.map_append]; rfl)
      have HXZ := Lib.hid (show (abc j).size ≤ 100 by show 1 ≤ 100; omega)
      generalize ((List.range j).map fun i => (([] : List UInt8), putL (rowS (abc i)))) = L at *
      generalize abc j = x at *
      clear htw hst
      go_wp2_with fail
      refine (text7_any x _).mono ?_
      rintro e w4 ⟨rfl, hb4⟩
      have HT4 := Lib.hid ((HT0.out.on hb4).on ((Below.refl w4.heap.size w4).alloc (Nat.le_refl _) (.cells #[.int .u8 2, .int .i64 0, .string x] 29)))
      have HS4 := Lib.hid ((HS0.out.but (P := fun _ => False) (But.of_below hb4) (far_none _)).but (P := fun _ => False) (But.of_below ((Below.refl w4.heap.size w4).alloc (Nat.le_refl _) (.cells #[.int .u8 2, .int .i64 0, .string x] 29))) (far_none _))
      clear hb4
      go_wp2_with fail
      refine (awkAddS HT4.out (rd_one w4 2 0 x _ rfl) HXZ.out HLN.out).mono ?_
      rintro e w5 ⟨rfl, va', h1, h2, h3, h4, h5, h6⟩
      have HS5 := Lib.hid (h3 _ HS4.out)
      have H5 := Lib.hid (And.intro h1 (And.intro h2 (And.intro h4 (And.intro h5 h6))))
      clear h1 h2 h3 h4 h5 h6
      go_wp2_with fail
      refine (text7_any x _).mono ?_
      rintro e w6 ⟨rfl, hb6⟩
      have hal := (Below.refl w6.heap.size w6).alloc (Nat.le_refl _) (.cells #[.int .u8 2, .int .i64 0, .string x] 29)
      have hb7 : Below w5.heap.size w5 (w6.alloc (.cells #[.int .u8 2, .int .i64 0, .string x] 29)) := hb6.trans (hal.mono hb6.size)
      have HB7 := Lib.hid hb7
      clear hal hb7 hb6
      go_wp2_with fail
      refine (awkAddT (H5.out.1.trans (HB7.out.mono H5.out.1.size)) (H5.out.2.1.but (P := fun _ => False) (But.of_below HB7.out) (far_none _)) (H5.out.2.2.1.on HB7.out) (H5.out.2.2.2.1.on HB7.out) H5.out.2.2.2.2 (rd_one w6 2 0 x _ rfl) HXZ.out HLN.out).mono ?_
      rintro e w8 ⟨rfl, vt', h1, h2, h3, h4, h5, h6⟩
      have HS8 := Lib.hid (h3 _ (HS5.out.but (P := fun _ => False) (But.of_below HB7.out) (far_none _)))
      have H8 := Lib.hid (And.intro h1 (And.intro h2 (And.intro h4 (And.intro h5 h6))))
      clear h1 h2 h3 h4 h5 h6
      go_wp2_with fail
      refine ⟨⟨j + 1, va', vt', by omega, by go_num, HS8.out, ?_⟩, by simp [intOf]; omega⟩
      rw [HSN.out]
      exact H8.out
    · obtain rfl : j = 3 := by omega
      have HT0 := Lib.hid (show Two w wr w.heap.size s t va vt [([], rA), ([], rB), ([], rC)] from htw)
      clear htw hst
      go_wp2_with fail
      refine (Next_u HT0.out.2.2.1).mono ?_
      rintro e w4 ⟨rfl, hb4⟩
      have HT4 := Lib.hid (HT0.out.on hb4)
      clear hb4
      go_wp2_with fail
      refine (Sort_u HT4.out.2.2.1 HT4.out.1.size (by show 3 ≤ 65536; omega)).mono ?_
      rintro e w5 ⟨rfl, hs5, hb5⟩
      rw [ex_a] at hs5
      have hst : ¬ s = t := fun e => HT4.out.2.2.2.2 s (.inl rfl) (.inl e)
      have hf5 : Far w4 (fun k => k = s) := fun k hk => HT4.out.2.2.1.far k (.inl hk)
      have H5 := Lib.hid (show Below w.heap.size w w5 ∧ NulB w5 w.heap.size ∧ SorS w5 w.heap.size s [rA, rB, rC] 0 ∧ SorU w5 w.heap.size t vt [] true [([], rA), ([], rB), ([], rC)] from
        ⟨HT4.out.1.trans (hb5.below HT4.out.1.size fun i hi => by rw [hi]; exact (HT4.out.2.2.1.lo s (.inl rfl)).1), HT4.out.2.1.but hb5 hf5, hs5, HT4.out.2.2.2.1.but hb5 hf5 (fun k hk e => HT4.out.2.2.2.2 k (.inl e) hk)⟩)
      clear hs5 hb5 hf5
      go_wp2_with fail
      refine (Sort_u H5.out.2.2.2 H5.out.1.size (by show 3 ≤ 65536; omega)).mono ?_
      rintro e w6 ⟨rfl, hs6, hb6⟩
      rw [ex_b] at hs6
      have hf6 : Far w5 (fun k => k = t) := fun k hk => H5.out.2.2.2.far k (.inl hk)
      have HA := Lib.hid (show AwkS w w6 w.heap.size s t 0 0 from
        ⟨H5.out.1.trans (hb6.below H5.out.1.size fun i hi => by rw [hi]; exact (H5.out.2.2.2.lo t (.inl rfl)).1), H5.out.2.1.but hb6 hf6, H5.out.2.2.1.but hb6 hf6 hst, hs6, hst⟩)
      clear hs6 hb6 hf6 hst
      obtain ⟨n1, hn1⟩ : ∃ n, w.heap.size = n := ⟨_, rfl⟩
      have HA := Lib.hid (show AwkS w w6 n1 s t 0 0 by rw [← hn1]; exact HA.out)
      rw [hn1]
      clear hn1
      go_wp2_with fail
      go_region_held3 (fun X => X.cell? ⟨n1, 0, none⟩ = some (.int .u8 0) ∧ X.cell? ⟨n1, 1, none⟩ = some (.int .i64 0) ∧ X.cell? ⟨n1, 2, none⟩ = some (.string ⟨#[]⟩))
        (first | exact HA.out.nul | exact HA.out.nulA)
        (first
          | (go_at_call 6; refine (num7_any _ _).mono ?_; rintro e x1 ⟨rfl, hb⟩; have HA := Lib.hid (HA.out.step hb ⟨rfl, rfl, rfl, rfl⟩); clear hb)
          | (go_at_call 43; refine (order7 _ _ rfl _ _ (rd_four ⟨rfl, rfl, rfl, rfl⟩)).mono ?_; rintro e x1 ⟨rfl, hb⟩; have HA := Lib.hid (HA.out.stepA hb ⟨rfl, rfl, rfl, rfl⟩); clear hb; first | rw [show exT false false = ⟨#[68, 66, 65, 67]⟩ from rfl] | rw [show exT false true = ⟨#[68, 66, 65]⟩ from rfl] | rw [show exT true false = ⟨#[65, 67, 66, 68]⟩ from rfl])
          | (go_at_call 44; refine (all_s (HA.out.eqv ⟨rfl, rfl, rfl, rfl⟩)).mono ?_; rintro e x1 ⟨rfl, ha⟩; have HA := Lib.hid ha; clear ha)
          | (go_at_call 44; refine (all_t (HA.out.eqv ⟨rfl, rfl, rfl, rfl⟩)).mono ?_; rintro e x1 ⟨rfl, ha⟩; have HA := Lib.hid ha; clear ha)
          | (go_at_call 7; refine (Add_s (HA.out.eqv ⟨rfl, rfl, rfl, rfl⟩).2.2.1 _ _ _ _ _ _).mono ?_; rintro e x1 ⟨rfl, rfl⟩))
      go_wp2_with fail
      go_ret
      exact ⟨rfl, HA.out.1⟩
end Go.Proofs.Ytdhdfeiobjmdaaa

namespace Go.Proofs.Ytdhdfeiobjmdaaa
open Go.ChangeShapes Go.WideShapes Go.ChangeAt Go.RowKit Go.Deep
set_option linter.unusedVariables false

abbrev Pr := Trip × Trip
def flat (ps : List Pr) : List Trip := ps.flatMap fun p => [p.1, p.2]
theorem flat_length (ps : List Pr) : (flat ps).length = 2 * ps.length := by
  induction ps with
  | nil => rfl
  | cons p r ih => simp only [flat, List.flatMap_cons, List.length_append, List.length_cons, List.length_nil] at ih ⊢; omega
theorem flat_get : ∀ (ps : List Pr) (i : Nat) (p : Pr), ps[i]? = some p → (flat ps)[2 * i]? = some p.1 ∧ (flat ps)[2 * i + 1]? = some p.2
  | [], i, p, h => by simp at h
  | x :: r, 0, p, h => by
    obtain rfl : x = p := by simpa using h
    exact ⟨rfl, rfl⟩
  | x :: r, i + 1, p, h => by
    have ih := flat_get r i p (by simpa using h)
    have e : 2 * (i + 1) = 2 * i + 1 + 1 := by omega
    rw [e]
    simpa [flat] using ih
/-- the i-th pair, where it lies -/
theorem pair_at {w : World} {B : Nat} {ad : Addr} {ps : List Pr} (h : RdR w B (some ad) (flat ps)) (i : Nat) (p : Pr) (hi : ps[i]? = some p) :
    RowAt w (ad.add (i * 6)) p.1.1 p.1.2.1 p.1.2.2 ∧ RowAt w ((ad.add (i * 6)).add 3) p.2.1 p.2.2.1 p.2.2.2 := by
  obtain ⟨g0, g1⟩ := flat_get ps i p hi
  have hl := (List.getElem?_eq_some_iff.1 hi).1
  obtain ⟨ad', e, hlt, hc⟩ := h (by rw [flat_length]; omega)
  injection e with e
  subst e
  have h0 := hc (2 * i) p.1.1 p.1.2.1 p.1.2.2 g0
  have h1 := hc (2 * i + 1) p.2.1 p.2.2.1 p.2.2.2 g1
  rw [show 2 * i * 3 = i * 6 by omega] at h0
  rw [show (2 * i + 1) * 3 = i * 6 + 3 by omega, ← addAdd] at h1
  exact ⟨h0, h1⟩
theorem pair_rd {w : World} {B : Nat} {ad : Addr} {ps : List Pr} (h : RdR w B (some ad) (flat ps)) (i : Nat) (p : Pr) (hi : ps[i]? = some p) : RdR w B (some (ad.add (i * 6))) [p.1, p.2] := by
  have hl := (List.getElem?_eq_some_iff.1 hi).1
  obtain ⟨h0, h1⟩ := pair_at h i p hi
  obtain ⟨ad', e, hlt, _⟩ := h (by rw [flat_length]; omega)
  injection e with e
  subst e
  intro _
  refine ⟨_, rfl, by rw [blockAdd]; exact hlt, fun j k n s hj => ?_⟩
  match j, hj with
  | 0, hj =>
    obtain ⟨x, y⟩ := p
    obtain rfl : x = (k, n, s) := by simpa using hj
    have z : ∀ q : Addr, q.add (0 * 3) = q := fun q => by simp [Addr.add]
    rw [z]
    exact h0
  | 1, hj =>
    obtain ⟨x, y⟩ := p
    obtain rfl : y = (k, n, s) := by simpa using hj
    exact h1
  | j + 2, hj => simp at hj
section
variable {H : Type} {enc : TypeId × Value → H} {W : World} {base fuel : Nat} {held : Bool} {x : DataW H × List MemPlace}
set_option maxRecDepth 100000 in
theorem open_trip {m : Nat} {cs : List Value} {y : DataW H × List MemPlace} {a : Addr} (ht : DataW.trod enc Try.prog W base (fun _ => true) held m 29 cs = some y) (hcl : cs.length = 3) (hat : ∀ i, i < 3 → W.cell? (a.add i) = cs[i]?) :
    ∃ t : Trip, RowAt W a t.1 t.2.1 t.2.2 ∧ In64 t.2.1 ∧ t.2.2.size ≤ maxLen := by
  obtain ⟨y0, y1, y2, n', _, _, g0, g1, g2⟩ := Go.Deep.trod_struct3 Try.underlying29 ht
  match cs, hcl with
  | [q0, q1, q2], _ =>
    obtain ⟨k, e0, _, w0⟩ := DataW.trod_int Try.underlying27 g0
    obtain ⟨z, e1, _, w1⟩ := DataW.trod_int Try.underlying2 g1
    obtain ⟨s, e2, _, w2⟩ := DataW.trod_string Try.underlying9 g2
    have b0 : q0 = .int .u8 k := by
      have : [q0] = [.int .u8 k] := e0
      injection this
    have b1 : q1 = .int .i64 z := by
      have : [q1] = [.int .i64 z] := e1
      injection this
    have b2 : q2 = .string s := by
      have : [q2] = [.string s] := e2
      injection this
    subst b0 b1 b2
    refine ⟨(k, z, s), ⟨?_, ?_, ?_⟩, ?_, w2⟩
    · have := hat 0 (by omega)
      simpa [Addr.add] using this
    · have := hat 1 (by omega)
      simpa [Addr.add] using this
    · have := hat 2 (by omega)
      simpa [Addr.add] using this
    · simpa [Lit.wf, IntKind.min, IntKind.max, IntKind.signed, IntKind.bits] using w1
end
def okT (t : Trip) : Bool := decide (Rt t.1 t.2.1 t.2.2) && decide (t.2.2.size ≤ 100)
def okP (p : Pr) : Bool := okT p.1 && okT p.2
def okPs (ps : List Pr) : Bool := decide (ps.length ≤ 120) && ps.all okP
def RigRel (w : World) (ps : List Pr) (v3 : Value) (wr : World) : Prop := ∃ i : Nat, i ≤ ps.length ∧ v3 = .int .i64 (i : Int) ∧ (ps.take i).all okP = true ∧ Below w.heap.size w wr
def RigRel2 (w : World) (ps : List Pr) (i : Nat) (p : Pr) (v4 : Value) (wr : World) : Prop := ∃ k : Nat, k ≤ 2 ∧ v4 = .int .i64 (k : Int) ∧ (1 ≤ k → okT p.1 = true) ∧ (2 ≤ k → okT p.2 = true) ∧ Below w.heap.size w wr
end Go.Proofs.Ytdhdfeiobjmdaaa
