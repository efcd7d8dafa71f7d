/-
  Layer 8: sums, in two numbers of 64 bits. Conditions: right values.
-/
import Derived.Test.YtceknmibopnmhaaGreatDoorAUt
import Derived.Deep.QuietTactic
import Derived.BigQuiet
import Derived.Deep.RegionLaw
namespace Go.Proofs.YtceknmibopnmhaaGreatDoor
open Go.ChangeShapes Go.WideShapes Go.ChangeAt Go.RowKit Go.Maps Go.Sort Go.Shelf Go.ChangeMaps Go.Lib
set_option linter.unusedVariables false

def lo64 (S : Int) : Int := S % 18446744073709551616
def hi64 (S : Int) : Int := (S / 18446744073709551616) % 18446744073709551616
def hiOf (n : Int) : Int := if n < 0 then 18446744073709551615 else 0
theorem lo_add (S n : Int) (hn : In64 n) : lo64 (S + n) = (lo64 S + n % 18446744073709551616) % 18446744073709551616 := by
  unfold lo64; omega
theorem hi_add (S n : Int) (hn : In64 n) : hi64 (S + n) = (hi64 S + hiOf n + (lo64 S + n % 18446744073709551616) / 18446744073709551616) % 18446744073709551616 := by
  unfold hi64 hiOf lo64
  unfold In64 at hn
  split <;> omega
theorem wrap_u (n : Int) (hn : In64 n) : IntKind.u64.wrap n = n % 18446744073709551616 := by
  unfold In64 at hn
  rw [IntKind.wrap_u64]
theorem highest_any (n : Int) (w : World) (hn : In64 n) : Calls Tryz.prog 161 #[.int .i64 n] w fun e w' => e = .returned (.int .u64 (hiOf n)) ∧ w' = w := by
  have hq : IntKind.u64.wrap (n / 9223372036854775808) = hiOf n := by
    unfold In64 at hn
    rw [wrap_u _ (by unfold In64; omega)]
    unfold hiOf
    split <;> omega
  have hn' := hn
  unfold In64 at hn'
  go_enter Tryz.func161, Tryz.ntmps161
  go_wp2
  go_ret
  exact ⟨rfl, rfl⟩
theorem run_add64 (x y c : Int) (hx : 0 ≤ x) (hy : 0 ≤ y) (h0 : 0 ≤ c) (h1 : c ≤ 1) (w : World) :
    (callFunc 160 #[.int .u64 x, .int .u64 y, .int .u64 c]).run Tryz.prog w = .ok (.value (.tuple #[.int .u64 ((x + y + c) % 18446744073709551616), .int .u64 ((x + y + c) / 18446744073709551616)])) w := by
  obtain ⟨a, rfl⟩ := Int.eq_ofNat_of_zero_le hx
  obtain ⟨b, rfl⟩ := Int.eq_ofNat_of_zero_le hy
  obtain ⟨d, rfl⟩ := Int.eq_ofNat_of_zero_le h0
  have h := Any7.bits_Add64 Tryz.add64 a b d (by omega) w
  simp only [Int.natCast_emod, Int.natCast_ediv, Int.natCast_add] at h
  exact h
set_option maxRecDepth 100000 in
theorem plus_any (S n : Int) (w : World) (hn : In64 n) :
    Calls Tryz.prog 138 #[.agg #[.int .u64 (lo64 S), .int .u64 (hi64 S)], .int .i64 n] w fun e w' => e = .returned (.agg #[.int .u64 (lo64 (S + n)), .int .u64 (hi64 (S + n))]) ∧ Below w.heap.size w w' := by
  have e1 := lo_add S n hn
  have e2 := hi_add S n hn
  have hwr := wrap_u n hn
  obtain ⟨u, hu⟩ : ∃ u, IntKind.u64.wrap n = u := ⟨_, rfl⟩
  have hu0 : 0 ≤ u ∧ u < 18446744073709551616 := by rw [← hu, hwr]; omega
  rw [← hwr, hu] at e1 e2
  have hl : 0 ≤ lo64 S ∧ lo64 S < 18446744073709551616 := by unfold lo64; omega
  have hh : 0 ≤ hi64 S ∧ hi64 S < 18446744073709551616 := by unfold hi64; omega
  have ho : 0 ≤ hiOf n := by unfold hiOf; split <;> omega
  generalize lo64 S = x at *
  generalize hi64 S = y at *
  generalize lo64 (S + n) = x' at *
  generalize hi64 (S + n) = y' at *
  have A1 := fun W => run_add64 x u 0 hl.1 hu0.1 (by omega) (by omega) W
  rw [show (x + u + 0) % 18446744073709551616 = x' by rw [e1, Int.add_zero]] at A1
  obtain ⟨c, hc⟩ : ∃ c, (x + u + 0) / 18446744073709551616 = c := ⟨_, rfl⟩
  have hc0 : 0 ≤ c ∧ c ≤ 1 := by omega
  have A2 := fun W => run_add64 y (hiOf n) c hh.1 ho hc0.1 hc0.2 W
  rw [show (y + hiOf n + c) % 18446744073709551616 = y' by rw [e2, ← hc, Int.add_zero]] at A2
  simp only [hc] at A1
  have HI := Lib.hid (fun W => highest_any n W hn)
  generalize hiOf n = hv at *
  obtain ⟨c2, hc2⟩ : ∃ c2, (y + hv + c) / 18446744073709551616 = c2 := ⟨_, rfl⟩
  simp only [hc2] at A2
  clear hc2 hc hc0 e1 e2 hwr hl hh ho hu0
  go_enter Tryz.func138, Tryz.ntmps138
  go_wp2_with fail
  go_quiet ((go_at_call 161; refine Calls.quiet_of_same (HI.out _)))
  go_wp2_with fail
  refine bodyPost_ret (v := .agg #[.int .u64 x', .int .u64 y']) (by simp [results, Tryz.results138, go_sem]) rfl ⟨rfl, ?_⟩
  have hA : Below w.heap.size w ((w.alloc (.cells #[.int .u64 x, .int .u64 y] 153)).alloc (.cells #[.int .u64 0, .int .u64 0] 153)) := ((Below.refl _ w).alloc (Nat.le_refl _) _).alloc (by simp) _
  have hA2 : Below w.heap.size w (((w.alloc (.cells #[.int .u64 x, .int .u64 y] 153)).alloc (.cells #[.int .u64 0, .int .u64 0] 153)).drewN nq) := ⟨hA.os, hA.tape, hA.output, hA.size, hA.block⟩
  exact (hA2.setCell (p := ⟨w.heap.size + 1, 0, none⟩) (Nat.le_succ _) _).setCell (p := ⟨w.heap.size + 1, 1, none⟩) (Nat.le_succ _) _
theorem leadInt_in (l : List UInt8) : In64 (leadInt l) := by
  unfold leadInt In64
  split
  · omega
  · rename_i c r _
    have h1 := digsGo_le r 0 (by omega)
    have h2 := digsGo_le (c :: r) 0 (by omega)
    split
    · omega
    · split <;> omega
theorem intV_in {t : Trip} (h : GoodT t) : In64 (intV t.1 t.2.1 t.2.2) := by
  unfold intV
  split
  · exact h.2
  · split
    · exact leadInt_in _
    · unfold In64; omega
/-- the sum -/
def sumT (L : List Trip) : Int := L.foldl (fun S t => S + intV t.1 t.2.1 t.2.2) 0
theorem sumT_snoc (L : List Trip) (t : Trip) : sumT (L ++ [t]) = sumT L + intV t.1 t.2.1 t.2.2 := by
  unfold sumT
  rw [List.foldl_append]
  rfl
def SumSt (b bo bn : Nat) (none : Trip) (w : World) (L : List Trip) : Prop :=
  w.heap[b]? = some (.cells #[.int .u64 (lo64 (sumT L)), .int .u64 (hi64 (sumT L))] 153 (0, 0)) ∧ Boxed w bo 4 (.bool (!L.isEmpty)) ∧ BoxT w bn none ∧ -((L.length : Int) * 9223372036854775808) ≤ sumT L ∧ sumT L ≤ (L.length : Int) * 9223372036854775808
theorem sum_stable (b bo bn : Nat) (none : Trip) : Stable [b, bo, bn] (SumSt b bo bn none) := fun w w' L h hb => ⟨(hb b (by simp) (Array.getElem?_eq_some_iff.1 h.1).1).trans h.1, (hb bo (by simp) h.2.1.lt).trans h.2.1, (hb bn (by simp) h.2.2.1.lt).trans h.2.2.1, h.2.2.2⟩
set_option maxRecDepth 100000 in
set_option maxHeartbeats 1000000 in
theorem sum_step (B b bo bn : Nat) (none : Trip) (h1 : b ≠ bo) (h2 : b ≠ bn) (h3 : bo ≠ bn) : StepOk B 137 #[.pointer (some ⟨b, 0, .none⟩), .pointer (some ⟨bo, 0, .none⟩)] [b, bo] (SumSt b bo bn none) := by
  intro w L ⟨k, z, s⟩ ht hL _ ⟨hs, ho, hn, hlo, hhi⟩
  have hsz : s.size ≤ 65536 := ht.size
  have HI64 := Lib.hid (show In64 (intV k z s) from intV_in ht)
  have HSN := Lib.hid (show sumT (L ++ [(k, z, s)]) = sumT L + intV k z s from sumT_snoc L (k, z, s))
  obtain ⟨w1, hw1⟩ : ∃ w1, w.alloc (.cells #[.int .u8 k, .int .i64 z, .string s] 24) = w1 := ⟨_, rfl⟩
  have hal : Below w.heap.size w w1 := by rw [← hw1]; exact (Below.refl _ _).alloc (Nat.le_refl _) _
  have bv : BoxT w1 w.heap.size (k, z, s) := by rw [← hw1]; exact BoxT.new w (k, z, s)
  have hs1 : w1.heap[b]? = some (.cells #[.int .u64 (lo64 (sumT L)), .int .u64 (hi64 (sumT L))] 153 (0, 0)) := (hal.block b (Array.getElem?_eq_some_iff.1 hs).1).trans hs
  have ho1 : Boxed w1 bo 4 (.bool (!L.isEmpty)) := (hal.block bo ho.lt).trans ho
  have hn1 : BoxT w1 bn none := hn.on hal
  have hbl : b < w1.heap.size := (Array.getElem?_eq_some_iff.1 hs1).1
  have FA := Lib.hid (show ∀ X : World, Below w1.heap.size w1 X → (X.cell? ⟨w.heap.size, 0, .none⟩ = some (.int .u8 k) ∧ X.cell? ⟨w.heap.size, 1, .none⟩ = some (.int .i64 z) ∧ X.cell? ⟨w.heap.size, 2, .none⟩ = some (.string s)) ∧ (X.cell? ⟨b, 0, .none⟩ = some (.int .u64 (lo64 (sumT L))) ∧ X.cell? ⟨b, 1, .none⟩ = some (.int .u64 (hi64 (sumT L)))) from fun X hX =>
    ⟨(bv.on hX).cells, by
      have h := (hX.block b hbl).trans hs1
      exact ⟨by simp [World.cell?, h], by simp [World.cell?, h]⟩⟩)
  have FF := Lib.hid (show ∀ X : World, Below w1.heap.size w1 X → X.frozen? ⟨b, 0, .none⟩ = false ∧ X.frozen? ⟨b, 1, .none⟩ = false ∧ X.frozen? ⟨bo, 0, .none⟩ = false from fun X hX => by
    have h := (hX.block b hbl).trans hs1
    exact ⟨by simp [World.frozen?, h], by simp [World.frozen?, h], Boxed.frozen (show Boxed X bo _ _ from (hX.block bo ho1.lt).trans ho1)⟩)
  have FO := Lib.hid (show ∀ X : World, Below w1.heap.size w1 X → X.cell? ⟨bo, 0, .none⟩ = some (.bool (!L.isEmpty)) from fun X hX => Boxed.cell (show Boxed X bo _ _ from (hX.block bo ho1.lt).trans ho1))
  have HBX := Lib.hid (Below.refl w1.heap.size w1)
  obtain ⟨⟨x0, x1, x2⟩, ⟨y0, y1⟩⟩ := FA.out w1 HBX.out
  clear hs ho hn
  have HEND := Lib.hid (show ∀ Y : World, Below w1.heap.size w1 Y → SumSt b bo bn none (((Y.setCell ⟨b, 0, .none⟩ (.int .u64 (lo64 (sumT L + intV k z s)))).setCell ⟨b, 1, .none⟩ (.int .u64 (hi64 (sumT L + intV k z s)))).setCell ⟨bo, 0, .none⟩ (.bool true)) (L ++ [(k, z, s)]) ∧ Keep (· ∈ [b, bo]) w (((Y.setCell ⟨b, 0, .none⟩ (.int .u64 (lo64 (sumT L + intV k z s)))).setCell ⟨b, 1, .none⟩ (.int .u64 (hi64 (sumT L + intV k z s)))).setCell ⟨bo, 0, .none⟩ (.bool true)) from fun Y hY => by
    have hin := HI64.out
    unfold In64 at hin
    refine ⟨⟨?_, ?_, ?_, by rw [HSN.out, List.length_append, List.length_singleton]; omega, by rw [HSN.out, List.length_append, List.length_singleton]; omega⟩, ((Keep.of_below (hal.trans (hY.mono hal.size))).trans ((Keep.setCell _ _ _ (by simp)).trans (Keep.setCell _ _ _ (by simp)))).trans (Keep.setCell _ _ _ (by simp))⟩
    · rw [HSN.out]
      refine (Below.heap_setCell _ ⟨bo, 0, .none⟩ _ b h1).trans ?_
      exact (set_box 1 _ (set_box 0 _ ((hY.block b hbl).trans hs1))).trans rfl
    · have e : ((L ++ [(k, z, s)]).isEmpty) = false := by cases L <;> rfl
      rw [e]
      refine Boxed.set (v := .bool (!L.isEmpty)) _ ?_
      exact ((Below.heap_setCell _ ⟨b, 1, .none⟩ _ bo (fun e => h1 e.symm)).trans (Below.heap_setCell _ ⟨b, 0, .none⟩ _ bo (fun e => h1 e.symm))).trans ((hY.block bo ho1.lt).trans ho1)
    · refine (Below.heap_setCell _ ⟨bo, 0, .none⟩ _ bn (fun e => h3 e.symm)).trans ?_
      exact ((Below.heap_setCell _ ⟨b, 1, .none⟩ _ bn (fun e => h2 e.symm)).trans (Below.heap_setCell _ ⟨b, 0, .none⟩ _ bn (fun e => h2 e.symm))).trans (hn1.on hY))
  show Calls Tryz.prog 137 #[vv k z s, .pointer (some ⟨b, 0, .none⟩), .pointer (some ⟨bo, 0, .none⟩)] w _
  go_enter Tryz.func137, Tryz.ntmps137
  go_wp2_with fail
  go_region_law (first
      | (go_simp; go_at_call 41; refine (Int_any _ _ _ _ (by omega)).mono ?_; rintro e w2 ⟨rfl, hb2⟩; have HB2 := Lib.hid ((drewR HBX.out).trans (hb2.mono HBX.out.size)); clear hb2; obtain ⟨⟨p0, p1, p2⟩, p3, p4⟩ := FA.out w2 HB2.out)
      | (go_simp; go_at_call 138; refine (plus_any _ _ _ HI64.out).mono ?_; rintro e w3 ⟨rfl, hb3⟩; have HB3 := Lib.hid (HB2.out.trans (show Below w1.heap.size _ w3 from hb3.mono HB2.out.size)); clear hb3; obtain ⟨g0, g1, g2⟩ := FF.out w3 HB3.out; obtain ⟨_, y3, y4⟩ := FA.out w3 HB3.out; have g3 := FO.out w3 HB3.out))
  all_goals (go_wp2_with fail; go_end0; exact ⟨rfl, HEND.out w3 HB3.out⟩)
instance (n : Int) : Decidable (In64 n) := by unfold In64; infer_instance
set_option maxRecDepth 100000 in
theorem number_any (S : Int) (w : World) (h0 : -(922337203685477580800000) ≤ S) (h1 : S ≤ 922337203685477580800000) :
    Calls Tryz.prog 140 #[.agg #[.int .u64 (lo64 S), .int .u64 (hi64 S)]] w fun e w' => ∃ v, e = .returned (.tuple #[.int .i64 v, .bool (decide (In64 S))]) ∧ (In64 S → v = S) ∧ Below w.heap.size w w' := by
  obtain ⟨v, hv⟩ : ∃ v, IntKind.i64.wrap (lo64 S) = v := ⟨_, rfl⟩
  have hv2 : v = if lo64 S ≤ 9223372036854775807 then lo64 S else lo64 S - 18446744073709551616 := by
    rw [← hv, IntKind.wrap_i64]
    unfold lo64
    split <;> omega
  have hl : 0 ≤ lo64 S ∧ lo64 S < 18446744073709551616 := by unfold lo64; omega
  have hvin : In64 v := by unfold In64; rw [hv2]; split <;> omega
  have hq : (hi64 S == hiOf v) = decide (In64 S) := by
    rw [Bool.eq_iff_iff]
    simp only [beq_iff_eq, decide_eq_true_eq]
    rw [hv2]
    unfold hi64 hiOf In64 lo64 at *
    split <;> split <;> omega
  have hvs : In64 S → v = S := by
    rw [hv2]
    unfold In64 lo64
    intro h
    split <;> omega
  have HI := Lib.hid (fun W => highest_any v W hvin)
  generalize decide (In64 S) = β at *
  generalize hiOf v = hh at *
  generalize hi64 S = y at *
  generalize lo64 S = x at *
  have HVS := Lib.hid hvs
  clear hvs hvin hl hv2 h0 h1
  go_enter Tryz.func140, Tryz.ntmps140
  go_wp2_with fail
  go_quiet ((go_at_call 161; refine Calls.quiet_of_same (HI.out _)))
  go_wp2_with fail
  have hA : Below w.heap.size w (w.alloc (.cells #[.int .u64 x, .int .u64 y] 153)) := (Below.refl _ w).alloc (Nat.le_refl _) _
  exact bodyPost_ret (results_tmp2 rfl _ _ _) rfl ⟨v, rfl, HVS.out, ⟨hA.os, hA.tape, hA.output, hA.size, hA.block⟩⟩
def finSum (none : Trip) (L : List Trip) : Trip × Int := if L.isEmpty then (none, 0) else if In64 (sumT L) then ((1, sumT L, ⟨#[]⟩), 0) else ((0, 0, ⟨#[]⟩), 20)
set_option maxRecDepth 100000 in
set_option maxHeartbeats 1000000 in
theorem sum_fin (B b bo bn : Nat) (none : Trip) : FinOk B 139 #[.pointer (some ⟨bo, 0, .none⟩), .pointer (some ⟨bn, 0, .none⟩), .pointer (some ⟨b, 0, .none⟩)] (SumSt b bo bn none) (finSum none) := by
  intro w L hL _ ⟨hs, ho, hn, hlo, hhi⟩
  obtain ⟨w1, hw1⟩ : ∃ w1, w.alloc (.cells #[.int .u8 0, .int .i64 0, .string ⟨#[]⟩] 24) = w1 := ⟨_, rfl⟩
  have hal : Below w.heap.size w w1 := by rw [← hw1]; exact (Below.refl _ _).alloc (Nat.le_refl _) _
  have bv : BoxT w1 w.heap.size (0, 0, ⟨#[]⟩) := by rw [← hw1]; exact BoxT.new w (0, 0, ⟨#[]⟩)
  have ho1 : Boxed w1 bo 4 (.bool (!L.isEmpty)) := (hal.block bo ho.lt).trans ho
  have hc := ho1.cell
  have hs1 : w1.heap[b]? = some (.cells #[.int .u64 (lo64 (sumT L)), .int .u64 (hi64 (sumT L))] 153 (0, 0)) := (hal.block b (Array.getElem?_eq_some_iff.1 hs).1).trans hs
  have y0 : w1.cell? ⟨b, 0, .none⟩ = some (.int .u64 (lo64 (sumT L))) := by simp [World.cell?, hs1]
  have y1 : w1.cell? ⟨b, 1, .none⟩ = some (.int .u64 (hi64 (sumT L))) := by simp [World.cell?, hs1]
  obtain ⟨x0, x1, x2⟩ := bv.cells
  obtain ⟨f0, f1, f2⟩ := bv.frz
  obtain ⟨k, z, t⟩ := none
  obtain ⟨n0, n1, n2⟩ := (hn.on hal).cells
  dsimp only at x0 x1 x2 n0 n1 n2
  have h3 : ∀ Y v0 v1 v2, Below w.heap.size w Y → Below w.heap.size w (((Y.setCell ⟨w.heap.size, 0, .none⟩ v0).setCell ⟨w.heap.size, 1, .none⟩ v1).setCell ⟨w.heap.size, 2, .none⟩ v2) := fun Y v0 v1 v2 hY =>
    ((hY.setCell (p := ⟨w.heap.size, 0, .none⟩) (Nat.le_refl _) _).setCell (p := ⟨w.heap.size, 1, .none⟩) (Nat.le_refl _) _).setCell (p := ⟨w.heap.size, 2, .none⟩) (Nat.le_refl _) _
  have HN := Lib.hid (number_any (sumT L) w1 (by omega) (by omega))
  have HBV := Lib.hid bv
  have HALL := Lib.hid hal
  clear hs ho hn hs1 ho1 bv hlo hhi hal
  cases he : L.isEmpty with
  | true =>
    have hf : finSum (k, z, t) L = ((k, z, t), 0) := by simp [finSum, he]
    rw [he] at hc
    rw [hf]
    go_enter Tryz.func139, Tryz.ntmps139
    go_wp2_with fail
    exact bodyPost_ret (v := .tuple #[vv k z t, .int .i64 0]) (by simp [results, Tryz.results139, go_sem, x0, x1, x2]) rfl ⟨rfl, h3 _ _ _ _ HALL.out⟩
  | false =>
    rw [he] at hc
    obtain ⟨S, hS⟩ : ∃ S, sumT L = S := ⟨_, rfl⟩
    have hf : finSum (k, z, t) L = if In64 S then ((1, S, ⟨#[]⟩), 0) else ((0, 0, ⟨#[]⟩), 20) := by rw [← hS]; simp [finSum, he]
    rw [hS] at y0 y1 HN
    rw [hf]
    clear hf hS
    by_cases hin : In64 S
    · rw [decide_eq_true hin] at HN
      rw [if_pos hin]
      have HIN := Lib.hid hin
      clear hin
      go_enter Tryz.func139, Tryz.ntmps139
      go_wp2_with fail
      refine HN.out.mono ?_
      rintro e w2 ⟨v, rfl, hv, hb2⟩
      clear x0 x1 x2 f0 f1 f2 hc y0 y1 n0 n1 n2
      obtain ⟨x0, x1, x2⟩ := (HBV.out.on hb2).cells
      obtain ⟨f0, f1, f2⟩ := (HBV.out.on hb2).frz
      dsimp only at x0 x1 x2
      have HB2 := Lib.hid (HALL.out.trans (hb2.mono HALL.out.size))
      obtain rfl : v = S := hv HIN.out
      have HBV2 := Lib.hid (HBV.out.on hb2)
      clear hb2 hv
      go_wp2_with fail
      refine (aggInt_any _ _).mono ?_
      rintro e w3 ⟨rfl, hb3⟩
      clear x0 x1 x2 f0 f1 f2
      obtain ⟨x0, x1, x2⟩ := (HBV2.out.on hb3).cells
      obtain ⟨f0, f1, f2⟩ := (HBV2.out.on hb3).frz
      dsimp only at x0 x1 x2
      have HB3 := Lib.hid (HB2.out.trans (hb3.mono HB2.out.size))
      clear hb3
      go_wp2_with fail
      exact bodyPost_ret (v := .tuple #[vv 1 v ⟨#[]⟩, .int .i64 0]) (by simp [results, Tryz.results139, go_sem, x0, x1, x2]) rfl ⟨rfl, h3 _ _ _ _ HB3.out⟩
    · rw [decide_eq_false hin] at HN
      rw [if_neg hin]
      clear hin
      go_enter Tryz.func139, Tryz.ntmps139
      go_wp2_with fail
      refine HN.out.mono ?_
      rintro e w2 ⟨v, rfl, hv, hb2⟩
      clear x0 x1 x2 f0 f1 f2 hc y0 y1 n0 n1 n2
      obtain ⟨x0, x1, x2⟩ := (HBV.out.on hb2).cells
      obtain ⟨f0, f1, f2⟩ := (HBV.out.on hb2).frz
      dsimp only at x0 x1 x2
      have HB2 := Lib.hid (HALL.out.trans (hb2.mono HALL.out.size))
      clear hb2 hv
      go_wp2_with fail
      exact bodyPost_ret (v := .tuple #[nul, .int .i64 20]) (by simp [results, Tryz.results139, go_sem, x0, x1, x2]) rfl ⟨rfl, h3 _ _ _ _ HB2.out⟩
end Go.Proofs.YtceknmibopnmhaaGreatDoor
