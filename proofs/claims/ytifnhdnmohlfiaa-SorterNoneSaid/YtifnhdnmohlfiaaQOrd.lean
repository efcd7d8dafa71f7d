/-
  Layer 7, sorter: the law's helper order. Conditions: no more than eight keys.
-/
import Derived.Test.YtifnhdnmohlfiaaQAll
namespace Go.Proofs.Ytifnhdnmohlfiaa
open Go.ChangeShapes Go.WideShapes Go.ChangeAt Go.RowKit
set_option linter.unusedVariables false

def letters : ByteArray := ⟨#[65, 66, 67, 68, 69, 70, 71, 72]⟩
def letterT (i : Nat) : ByteArray := letters.extract i (i + 1)
def rowT (i : Nat) : List Trip := [(2, 0, letterT i)]
theorem keyOk_good (vs : List Trip) (hl : vs.length ≤ 150) (hg : GoodR vs) : KeyOk vs :=
  ⟨by omega, hg.bad, fun t ht => ⟨by have := (hg t ht).2.1; omega, (hg t ht).2.2⟩, by have := sumP_good vs hg; omega⟩
theorem rowOk_good (vs : List Trip) (hl : vs.length ≤ 150) (hg : GoodR vs) : RowOk vs := by
  have h1 := headL_len vs (by omega) (fun t ht => by have := (hg t ht).2.1; omega)
  have h2 := sumB_good vs hg
  exact ⟨by omega, hg.bad, fun t ht => ⟨by have := (hg t ht).2.1; omega, (hg t ht).2.2⟩, by omega⟩
theorem getN_good (vs : List Trip) (hl : vs.length ≤ 150) (hg : GoodR vs) : getN (putL vs) = some vs := by
  have h1 := headL_len vs (by omega) (fun t ht => by have := (hg t ht).2.1; omega)
  have h2 := sumB_good vs hg
  have h3 := bodies_len vs fun v hv => ⟨(hg v hv).1, (hg v hv).2.2⟩
  have h := getN_put vs [] (fun v hv => ⟨(hg v hv).1, (hg v hv).2.2⟩) (by omega) (by rw [List.append_nil, putL, List.length_append, h3]; omega)
  rw [List.append_nil, if_pos rfl] at h
  exact h
theorem letter_size (j : Nat) : (letters.extract j (j + 1)).size ≤ 8 := by
  rw [ByteArray.size_extract]
  have : letters.size = 8 := rfl
  omega
theorem good_letter (j : Nat) : GoodR (rowT j) := by
  intro t ht
  obtain rfl : t = (2, 0, letterT j) := by simpa [rowT] using ht
  have := letter_size j
  exact ⟨.inr (.inr ⟨.inl rfl, rfl, by show (letterT j).size ≤ 65536; unfold letterT; omega⟩), by show (letterT j).size ≤ 100; unfold letterT; omega, by show In64 0; unfold In64; decide⟩
theorem row_letter (j : Nat) : RowOk [(2, 0, letters.extract j (j + 1))] := rowOk_good _ (by show 1 ≤ 150; omega) (good_letter j)
/-- what order adds -/
def ordL (ds : List Bool) : List Trip → Nat → List KR
  | [], _ => []
  | k :: ks, i => (keyL [k] ds, putL (rowT i)) :: ordL ds ks (i + 1)
theorem ordL_snoc (ds : List Bool) : ∀ (a : List Trip) (i : Nat) (k : Trip), ordL ds (a ++ [k]) i = ordL ds a i ++ [(keyL [k] ds, putL (rowT (i + a.length)))]
  | [], i, k => rfl
  | x :: a, i, k => by
    have ih := ordL_snoc ds a (i + 1) k
    simp only [List.cons_append, ordL, ih, List.length_cons]
    rw [show i + 1 + a.length = i + (a.length + 1) by omega]
theorem ordL_length (ds : List Bool) : ∀ (a : List Trip) (i : Nat), (ordL ds a i).length = a.length
  | [], i => rfl
  | x :: a, i => by simp [ordL, ordL_length ds a (i + 1)]
def Eqv (x y : World) : Prop := x.os = y.os ∧ x.tape = y.tape ∧ x.output = y.output ∧ x.heap = y.heap
theorem Eqv.below {x y a : World} {B : Nat} (h : Eqv x y) (hb : Below B a y) : Below B a x := ⟨h.1.trans hb.os, h.2.1.trans hb.tape, h.2.2.1.trans hb.output, by rw [h.2.2.2]; exact hb.size, fun k hk => by rw [h.2.2.2]; exact hb.block k hk⟩
theorem cell_heap {x y : World} (h : x.heap = y.heap) (p : Addr) : x.cell? p = y.cell? p := by simp [World.cell?, h]
theorem Eqv.rdR {x y : World} {A : Option Addr} {vs : List Trip} (h : Eqv x y) (hr : RdR y y.heap.size A vs) : RdR x x.heap.size A vs := by
  intro hp
  obtain ⟨ad, e, hl, hc⟩ := hr hp
  refine ⟨ad, e, by rw [h.2.2.2]; exact hl, fun j k n s hj => ?_⟩
  obtain ⟨a, b, c⟩ := hc j k n s hj
  exact ⟨(cell_heap h.2.2.2 _).trans a, (cell_heap h.2.2.2 _).trans b, (cell_heap h.2.2.2 _).trans c⟩
theorem rd_one (W : World) (k n : Int) (t : ByteArray) (g : Nat) (hg : g = W.heap.size) : RdR (W.alloc (.cells #[.int .u8 k, .int .i64 n, .string t] 29)) (W.alloc (.cells #[.int .u8 k, .int .i64 n, .string t] 29)).heap.size (some ⟨g, 0, none⟩) [(k, n, t)] := by
  subst hg
  intro _
  refine ⟨_, rfl, by simp, fun j k' n' s' hj => ?_⟩
  match j, hj with
  | 0, hj =>
    simp only [List.getElem?_cons_zero, Option.some.injEq, Prod.mk.injEq] at hj
    obtain ⟨rfl, rfl, rfl⟩ := hj
    rw [add0]
    refine ⟨?_, ?_, ?_⟩ <;> simp [go_sem]
  | j + 1, hj => simp at hj
def OrdFacts (wr X : World) (A B : Option Addr) (k n : Int) (t l : ByteArray) : Prop := Below wr.heap.size wr X ∧ RdR X X.heap.size A [(k, n, t)] ∧ RdR X X.heap.size B [(2, 0, l)]
theorem ordV1 {wr Y w3 X : World} {o1 : Obj} {k n : Int} {t l : ByteArray} (hb3 : Below Y.heap.size Y w3) (hY : Eqv Y ((wr.alloc o1).alloc (.cells #[.int .u8 k, .int .i64 n, .string t] 29))) (hX : Eqv X (w3.alloc (.cells #[.int .u8 2, .int .i64 0, .string l] 29))) :
    OrdFacts wr X (some ⟨wr.heap.size + 1, 0, none⟩) (some ⟨w3.heap.size, 0, none⟩) k n t l := by
  have h1 := hY.below (below_two wr o1 (.cells #[.int .u8 k, .int .i64 n, .string t] 29))
  have h2 := h1.trans (hb3.mono h1.size)
  have h3 := h2.alloc h2.size (.cells #[.int .u8 2, .int .i64 0, .string l] 29)
  refine ⟨hX.below h3, hX.rdR ?_, hX.rdR (rd_one w3 2 0 l _ rfl)⟩
  exact ((hY.rdR (rd_one (wr.alloc o1) k n t _ (by simp))).on hb3).on ((Below.refl _ _).alloc (Nat.le_refl _) _)
theorem ordV2 {wr Y w3 X : World} {o1 : Obj} {k n : Int} {t l : ByteArray} (hb3 : Below Y.heap.size Y w3) (hY : Eqv Y (wr.alloc o1)) (hX : Eqv X ((w3.alloc (.cells #[.int .u8 k, .int .i64 n, .string t] 29)).alloc (.cells #[.int .u8 2, .int .i64 0, .string l] 29))) :
    OrdFacts wr X (some ⟨w3.heap.size, 0, none⟩) (some ⟨w3.heap.size + 1, 0, none⟩) k n t l := by
  have h1 := hY.below ((Below.refl wr.heap.size wr).alloc (Nat.le_refl _) o1)
  have h2 := h1.trans (hb3.mono h1.size)
  have h3 := (h2.alloc h2.size (.cells #[.int .u8 k, .int .i64 n, .string t] 29)).alloc (by simp; exact Nat.le_succ_of_le h2.size) (.cells #[.int .u8 2, .int .i64 0, .string l] 29)
  refine ⟨hX.below h3, hX.rdR ?_, hX.rdR (rd_one _ 2 0 l _ (by simp))⟩
  exact (rd_one w3 k n t _ rfl).on ((Below.refl _ _).alloc (Nat.le_refl _) _)
theorem ordV3 {wr Y w3 X : World} {o1 : Obj} {k n : Int} {t l : ByteArray} (hb3 : Below Y.heap.size Y w3) (hY : Eqv Y (wr.alloc o1)) (hX : Eqv X ((w3.alloc (.cells #[.int .u8 2, .int .i64 0, .string l] 29)).alloc (.cells #[.int .u8 k, .int .i64 n, .string t] 29))) :
    OrdFacts wr X (some ⟨w3.heap.size + 1, 0, none⟩) (some ⟨w3.heap.size, 0, none⟩) k n t l := by
  have h1 := hY.below ((Below.refl wr.heap.size wr).alloc (Nat.le_refl _) o1)
  have h2 := h1.trans (hb3.mono h1.size)
  have h3 := (h2.alloc h2.size (.cells #[.int .u8 2, .int .i64 0, .string l] 29)).alloc (by simp; exact Nat.le_succ_of_le h2.size) (.cells #[.int .u8 k, .int .i64 n, .string t] 29)
  refine ⟨hX.below h3, hX.rdR (rd_one _ k n t _ (by simp)), hX.rdR ?_⟩
  exact (rd_one w3 2 0 l _ rfl).on ((Below.refl _ _).alloc (Nat.le_refl _) _)
theorem ord_add {wr X : World} {lo s : Nat} {va : Value} {ds : List Bool} {dist : Bool} {L : List KR} {A B : Option Addr} {k n : Int} {t l : ByteArray} (h : SorU wr lo s va ds dist L) (hlo : lo ≤ wr.heap.size) (hX : OrdFacts wr X A B k n t l) (hk : KeyOk [(k, n, t)]) (hr : RowOk [(2, 0, l)]) (hd : ds.length = 1) (hE : L.length < 65536) (ca cb : Nat) :
    Calls Try.prog 12 #[.pointer (some ⟨s, 0, none⟩), .slice A 1 ca, .slice B 1 cb] X fun e w' => e = .returned (.int .i64 0) ∧ ∃ va', SorU w' lo s va' ds dist (L ++ [(keyL [(k, n, t)] ds, putL [(2, 0, l)])]) ∧ Below lo wr w' := by
  have hs := h.on hX.1
  refine (Add_u hs (Nat.le_trans hlo hX.1.size) A ca [(k, n, t)] B cb [(2, 0, l)] hX.2.1 hX.2.2 hk hr hd hE 1 1 rfl rfl).mono ?_
  rintro e w' ⟨rfl, va', hs2, _, hb⟩
  exact ⟨rfl, va', hs2, (hX.1.mono hlo).trans (hb.below (Nat.le_trans hlo hX.1.size) fun i hi => (hs.lo i hi).1)⟩
theorem SorU.mono {w : World} {lo lo' s : Nat} {va : Value} {ds : List Bool} {dist : Bool} {L : List KR} (h : SorU w lo s va ds dist L) (hl : lo' ≤ lo) : SorU w lo' s va ds dist L := by
  obtain ⟨o, ⟨D, dc, h1, h2, h3, h4, h5⟩, r⟩ := h
  exact ⟨o, ⟨D, dc, h1, Nat.le_trans hl h2, h3, h4.mono hl, h5⟩, r⟩
def OrdRel (w : World) (lo s : Nat) (ds : List Bool) (dist : Bool) (ks : List Trip) (v22 : Value) (wr : World) : Prop :=
  ∃ (j : Nat) (va : Value), j ≤ ks.length ∧ v22 = .int .i64 (j : Int) ∧ SorU wr lo s va ds dist (ordL ds (ks.take j) 0) ∧ Below lo w wr
set_option maxRecDepth 100000 in
set_option maxHeartbeats 2000000 in
theorem order_any (desc dist : Bool) (A : Option Addr) (n c : Nat) (ks : List Trip) (w : World) (hR : RdR w w.heap.size A ks) (hn : n = ks.length) (hl : ks.length ≤ 8) (hk : ∀ k ∈ ks, KeyOk [k]) (I : List Nat) (hI : (left dist (ordL [desc] ks 0)).map Prod.snd = I.map fun i => putL (rowT i)) :
    Calls Try.prog 51 #[.bool desc, .bool dist, .slice A n c] w fun e w' => e = .returned (.string (catT (I.map letterT))) ∧ Below w.heap.size w w' := by
  have HI := Lib.hid hI
  have HR := Lib.hid hR
  have HN := Lib.hid hn
  have HK := Lib.hid hk
  have HF0 := Lib.hid (show RdF (w.alloc (.cells #[.bool desc] 4)) (w.alloc (.cells #[.bool desc] 4)).heap.size (some ⟨w.heap.size, 0, none⟩) [desc] from fun _ => ⟨_, rfl, by simp, fun j d hj => by
    rw [add0]
    match j, hj with
    | 0, hj =>
      obtain rfl : desc = d := by simpa using hj
      simp [go_sem]
    | j + 1, hj => simp at hj⟩)
  have hl2 : n ≤ 8 := by omega
  clear hR hn hk hl hI
  go_enter Try.func51, Try.ntmps51
  go_wp2_with fail
  refine (New_u _ _ _ [desc] dist _ rfl HF0.out (by simp) (fun h => by cases h)).mono ?_
  rintro e w1 ⟨s, rfl, hs, hb⟩
  have hal : Below w.heap.size w (w.alloc (.cells #[.bool desc] 4)) := (Below.refl _ _).alloc (Nat.le_refl _) _
  have HS := Lib.hid (hs.mono (show w.heap.size ≤ _ by simp))
  have HB := Lib.hid (hal.trans (hb.mono (by simp)))
  clear hs hb hal
  go_wp2_with fail
  go_loopw [22] (fun v22 wr => OrdRel w w.heap.size s [desc] dist ks v22 wr) (fun v22 _ => n - (intOf v22).toNat)
  case atStart => exact ⟨0, _, Nat.zero_le _, rfl, HS.out, HB.out⟩
  case round =>
    obtain ⟨j, va, hj, rfl, hs, hb⟩ := hrel
    have hnl := HN.out
    by_cases hlt : j < n
    · obtain ⟨⟨kk, nn, t⟩, ht⟩ : ∃ t, ks[j]? = some t := ⟨ks[j]'(by omega), List.getElem?_eq_getElem _⟩
      have hR2 := HR.out.below hb
      obtain ⟨ad, rfl, hal, hcs⟩ := hR2 (by omega)
      obtain ⟨x0, x1, x2⟩ := hcs j kk nn t ht
      have q1 : (j : Int) < (n : Int) := by omega
      have q2 : (0 : Int) ≤ (j : Int) := by omega
      have q3 : IntKind.i64.wrap ((j : Int) + 1) = (j : Int) + 1 := IntWalk.i64_in _ (by omega)
      have q4 : (j : Int) + 1 ≤ 8 := by omega
      have q5 : (0 : Int) ≤ (j : Int) + 1 := by omega
      have q6 : (j : Int) ≤ (j : Int) + 1 := by omega
      have HSW := Lib.hid hs
      have HLO := Lib.hid hb.size
      have HKT := Lib.hid (HK.out _ (List.mem_of_getElem? ht))
      have HTT := Lib.hid ht
      have HBW := Lib.hid hb
      have HLL := Lib.hid (show (ordL [desc] (ks.take j) 0).length < 65536 by rw [ordL_length, List.length_take]; omega)
      have HRO := Lib.hid (row_letter j)
      clear hnl hcs hs hb ht
      go_wp2_with fail
      go_region_law (first
        | (go_simp; go_at_call 13; refine (text7_any _ _).mono ?_; rintro e w3 ⟨rfl, hb3⟩; have hz : wr.heap.size < w3.heap.size := Nat.lt_of_lt_of_le (by simp <;> omega) hb3.size; have z0 : w3.cell? ⟨wr.heap.size, 0, none⟩ = some (.int .u8 kk) := (hb3.cell (p := ⟨wr.heap.size, 0, none⟩) (by simp <;> omega)).trans (by simp [go_sem]); have z1 : w3.cell? ⟨wr.heap.size, 1, none⟩ = some (.int .i64 nn) := (hb3.cell (p := ⟨wr.heap.size, 1, none⟩) (by simp <;> omega)).trans (by simp [go_sem]); have z2 : w3.cell? ⟨wr.heap.size, 2, none⟩ = some (.string t) := (hb3.cell (p := ⟨wr.heap.size, 2, none⟩) (by simp <;> omega)).trans (by simp [go_sem]))
        | (go_simp; go_at_call 12; refine (ord_add HSW.out HLO.out (by first | exact ordV1 hb3 ⟨rfl, rfl, rfl, rfl⟩ ⟨rfl, rfl, rfl, rfl⟩ | exact ordV2 hb3 ⟨rfl, rfl, rfl, rfl⟩ ⟨rfl, rfl, rfl, rfl⟩ | exact ordV3 hb3 ⟨rfl, rfl, rfl, rfl⟩ ⟨rfl, rfl, rfl, rfl⟩) HKT.out HRO.out rfl HLL.out _ _).mono ?_; rintro e w5 ⟨rfl, va', hs5, hb5⟩))
      all_goals go_wp2_with fail
      all_goals
        exact ⟨⟨j + 1, va', by have := HN.out; omega, by go_num, by
          rw [List.take_add_one, HTT.out]
          show SorU _ _ _ _ _ _ (ordL [desc] (ks.take j ++ [(kk, nn, t)]) 0)
          rw [ordL_snoc, List.length_take, show 0 + min j ks.length = j by have := HN.out; omega]
          exact hs5, HBW.out.trans hb5⟩, by simp [intOf]; omega⟩
    · have q1 : ¬ (j : Int) < (n : Int) := by omega
      have hjn : j = n := by omega
      have HLL := Lib.hid (show (ordL [desc] (ks.take j) 0).length ≤ 65536 by rw [ordL_length, List.length_take]; omega)
      have HTK := Lib.hid (show ks.take j = ks by rw [List.take_of_length_le (by omega)])
      have HSW := Lib.hid hs
      have HBW := Lib.hid hb
      clear hs hb hjn hnl
      go_wp2_with fail
      refine (Sort_u HSW.out HBW.out.size HLL.out).mono ?_
      rintro e w5 ⟨rfl, hs5, hb5⟩
      rw [HTK.out] at hs5
      have HB5 := Lib.hid (HBW.out.trans (hb5.below HBW.out.size fun i hi => by rw [hi]; exact (HSW.out.lo _ (.inl rfl)).1))
      have HS5 := Lib.hid hs5
      clear hs5 hb5
      go_wp2_with fail
      have hlI : I.length ≤ 8 := by
        have h1 := congrArg List.length HI.out
        rw [List.length_map, List.length_map] at h1
        have h2 := left_length dist (ordL [desc] ks 0)
        rw [ordL_length] at h2
        have := HN.out
        omega
      refine (all_any HS5.out (I.map letterT) (by rw [HI.out, List.length_map, List.length_map]) (fun j t ht => ?_) (by rw [List.length_map]; omega)).mono ?_
      · rw [List.getElem?_map] at ht
        obtain ⟨i, hi, rfl⟩ := Option.map_eq_some_iff.1 ht
        exact ⟨by have := letter_size i; unfold letterT; omega, putL (rowT i), by rw [HI.out, List.getElem?_map, hi]; rfl, 2, 0, getN_good _ (by show 1 ≤ 150; omega) (good_letter i)⟩
      rintro e w6 ⟨rfl, hs6, hb6⟩
      have HB6 := Lib.hid (HB5.out.trans (hb6.below HB5.out.size fun i hi => by rw [hi]; exact HS5.out.lo.1))
      clear hs6 hb6
      go_wp2_with fail
      go_ret
      exact ⟨rfl, HB6.out⟩
end Go.Proofs.Ytifnhdnmohlfiaa
