/-
  Layer 8: joining. What a step does. Conditions: right values.
-/
import Derived.Test.YtceknmibopnmhaaGreatDoorABeg
import Derived.Deep.CutRange
namespace Go.Proofs.YtceknmibopnmhaaGreatDoor
open Go.ChangeShapes Go.WideShapes Go.ChangeAt Go.RowKit Go.Maps Go.Sort Go.Shelf Go.ChangeMaps Go.Lib
set_option linter.unusedVariables false

/-- how often a value is there -/
def countT (t : Trip) (M : List Trip) : Nat := (M.filter fun u => decide (u = t)).length
theorem countT_pos {t : Trip} {M : List Trip} : 0 < countT t M ↔ t ∈ M := by
  unfold countT
  rw [List.length_pos_iff_exists_mem]
  refine ⟨fun ⟨u, hu⟩ => ?_, fun h => ⟨t, ?_⟩⟩
  · obtain ⟨h1, h2⟩ := List.mem_filter.1 hu
    exact of_decide_eq_true h2 ▸ h1
  · exact List.mem_filter.2 ⟨h, decide_eq_true rfl⟩
theorem countT_snoc (t u : Trip) (M : List Trip) : countT t (M ++ [u]) = if t = u then countT t M + 1 else countT t M := by
  unfold countT
  rw [List.filter_append, List.length_append]
  by_cases e : t = u
  · subst e; simp
  · rw [if_neg e]
    simp [show ¬ u = t from fun h => e h.symm]
theorem countT_le (t : Trip) (M : List Trip) : countT t M ≤ M.length := List.length_filter_le _ _
open Classical in
/-- the Texts' lengths, and the values that are joined -/
noncomputable def jstep (d : Bool) (x : Int × List Trip) (t : Trip) : Int × List Trip :=
  if 65536 < x.1 ∨ (d = true ∧ t ∈ x.2) then x else (x.1 + (1 + ((textV t.1 t.2.1 t.2.2).size : Int)), x.2 ++ [t])
noncomputable def jst (d : Bool) (L : List Trip) : Int × List Trip := L.foldl (jstep d) (-1, [])
theorem jst_snoc (d : Bool) (L : List Trip) (t : Trip) : jst d (L ++ [t]) = jstep d (jst d L) t := by
  unfold jst
  rw [List.foldl_append]
  rfl
def JMap (w : World) (bm : Nat) (M : List Trip) : Prop := ∃ E, MapT w bm E (fun t => .int .i64 (countT t M : Int)) ∧ (∀ t, t ∈ E.map Prod.fst ↔ t ∈ M) ∧ E.length ≤ M.length
def JSt (d : Bool) (bz bd bx bm : Nat) (w : World) (L : List Trip) : Prop :=
  Boxed w bz 3 (.int .i64 (jst d L).1) ∧ Boxed w bd 4 (.bool d) ∧ Boxed w bx 157 (if 65536 < (jst d L).1 then .map none else .map (some bm)) ∧ ((jst d L).1 ≤ 65536 → JMap w bm (jst d L).2) ∧
    -1 ≤ (jst d L).1 ∧ (jst d L).1 ≤ 200000 ∧ (jst d L).2.length ≤ L.length
theorem JMap.of_block {w w' : World} {bm : Nat} {M : List Trip} (h : JMap w bm M) (hb : bm < w.heap.size → w'.heap[bm]? = w.heap[bm]?) : JMap w' bm M := by
  obtain ⟨E, h1, h2⟩ := h
  exact ⟨E, h1.of_block (hb h1.lt), h2⟩
theorem j_stable (d : Bool) (bz bd bx bm : Nat) : Stable [bz, bd, bx, bm] (JSt d bz bd bx bm) := fun w w' L ⟨h1, h2, h3, h4, h5⟩ hb =>
  ⟨(hb bz (by simp) h1.lt).trans h1, (hb bd (by simp) h2.lt).trans h2, (hb bx (by simp) h3.lt).trans h3, fun h => (h4 h).of_block (hb bm (by simp)), h5⟩
theorem zero_int (w : World) : (zeroValue 3).run Tryz.prog w = .ok (.int .i64 0) w := Tryz.zeroValue3 w
theorem dec_len : ∀ (k u : Nat), u < 10 ^ (k + 1) → (Lib.decDigits u).length ≤ k + 1 := by
  intro k
  induction k with
  | zero =>
    intro u hu
    rw [Lib.decDigits_one (by simpa using hu)]
    simp
  | succ k ih =>
    intro u hu
    by_cases h : u < 10
    · rw [Lib.decDigits_one h]
      simp
    · rw [Lib.decDigits, dif_neg h]
      have := ih (u / 10) (by rw [Nat.pow_succ] at hu; omega)
      simp only [List.length_append, List.length_cons, List.length_nil]
      omega
theorem itoa_len (n : Int) (h : In64 n) : (Lib.itoa n).length ≤ 20 := by
  unfold In64 at h
  unfold Lib.itoa
  split
  · have := dec_len 18 n.natAbs (by have : (10 : Nat) ^ 19 = 10000000000000000000 := by decide
                                    omega)
    simp only [List.length_cons]
    omega
  · have := dec_len 18 n.toNat (by have : (10 : Nat) ^ 19 = 10000000000000000000 := by decide
                                   omega)
    omega
theorem text_size {t : Trip} (h : GoodT t) : (textV t.1 t.2.1 t.2.2).size ≤ 65536 := by
  unfold textV
  split
  · have := itoa_len t.2.1 h.2
    show (Lib.itoa t.2.1).toArray.size ≤ _
    simp
    omega
  · split
    · exact h.size
    · exact Nat.zero_le _
set_option maxRecDepth 100000 in
set_option maxHeartbeats 1000000 in
theorem j_step (B : Nat) (d : Bool) (bz bd bx bm : Nat) (h1 : bz ≠ bd) (h2 : bz ≠ bx) (h3 : bz ≠ bm) (h4 : bd ≠ bx) (h5 : bd ≠ bm) (h6 : bx ≠ bm) (hB : B ≤ bm) :
    StepOk B 145 #[.pointer (some ⟨bz, 0, none⟩), .pointer (some ⟨bd, 0, none⟩), .pointer (some ⟨bx, 0, none⟩)] [bz, bx, bm] (JSt d bz bd bx bm) := by
  intro w L ⟨k, z, s⟩ ht hL hwd ⟨hz, hd, hx, hm, hlo, hhi, hlen⟩
  have hsz : s.size ≤ 65536 := ht.size
  have hts := text_size ht
  have hJ := jst_snoc d L (k, z, s)
  obtain ⟨sz, hszv⟩ : ∃ sz, (jst d L).1 = sz := ⟨_, rfl⟩
  obtain ⟨M, hM⟩ : ∃ M, (jst d L).2 = M := ⟨_, rfl⟩
  have hxv : jst d L = (sz, M) := Prod.ext hszv hM
  rw [hxv] at hz hx hm hlo hhi hlen hJ
  dsimp only at hz hx hm hlo hhi hlen
  obtain ⟨w1, hw1⟩ : ∃ w1, w.alloc (.cells #[.int .u8 k, .int .i64 z, .string s] 24) = w1 := ⟨_, rfl⟩
  have hal : Below w.heap.size w w1 := by rw [← hw1]; exact (Below.refl _ _).alloc (Nat.le_refl _) _
  have bv : BoxT w1 w.heap.size (k, z, s) := by rw [← hw1]; exact BoxT.new w (k, z, s)
  have hz1 : Boxed w1 bz 3 (.int .i64 sz) := (hal.block bz hz.lt).trans hz
  have hd1 : Boxed w1 bd 4 (.bool d) := (hal.block bd hd.lt).trans hd
  have cz := hz1.cell
  have cd := hd1.cell
  obtain ⟨x0, x1, x2⟩ := bv.cells
  dsimp only at x0 x1 x2
  -- nothing is done
  have HSKIP := Lib.hid (show jstep d (sz, M) (k, z, s) = (sz, M) → JSt d bz bd bx bm w1 (L ++ [(k, z, s)]) ∧ Keep (· ∈ [bz, bx, bm]) w w1 from fun he => by
    rw [he] at hJ
    refine ⟨?_, Keep.of_below hal⟩
    unfold JSt
    rw [hJ]
    exact ⟨hz1, hd1, (hal.block bx hx.lt).trans hx, fun h => (hm h).of_block (hal.block bm), hlo, hhi, by rw [List.length_append]; exact Nat.le_succ_of_le hlen⟩)
  show Calls Tryz.prog 145 #[vv k z s, .pointer (some ⟨bz, 0, none⟩), .pointer (some ⟨bd, 0, none⟩), .pointer (some ⟨bx, 0, none⟩)] w _
  by_cases hbig : 65536 < sz
  · have hE := HSKIP.out (if_pos (.inl hbig))
    clear hx hm hJ
    go_enter Tryz.func145, Tryz.ntmps145
    go_wp2_with fail
    exact bodyPost_ret (results_none rfl _ _ _) rfl ⟨rfl, hE.1, hE.2.imp (by simp)⟩
  · rw [if_neg hbig] at hx
    have hx1 : Boxed w1 bx 157 (.map (some bm)) := (hal.block bx hx.lt).trans hx
    have cx := hx1.cell
    obtain ⟨E, hmap, hkeys, hEl⟩ := hm (by omega)
    have hmap1 := hmap.on hal
    have hz0 : ∀ t : Trip, t ∉ E.map Prod.fst → (Value.int .i64 (countT t M : Int)) = .int .i64 0 := fun t h => by
      have : ¬ 0 < countT t M := fun h2 => h ((hkeys t).2 (countT_pos.1 h2))
      rw [show countT t M = 0 by omega]
      rfl
    by_cases hdup : d = true ∧ (k, z, s) ∈ M
    · obtain ⟨rfl, hin⟩ := hdup
      have hE := HSKIP.out (if_pos (.inr ⟨rfl, hin⟩))
      have hlk := run_lookupT 157 3 (.int .i64 0) Tryz.underlying157 zero_int w1 bm E _ hmap1 (k, z, s) false (hz0 _)
      have hpos := countT_pos.2 hin
      obtain ⟨c, hc⟩ : ∃ c : Nat, countT (k, z, s) M = c := ⟨_, rfl⟩
      rw [hc] at hpos
      rw [if_neg (by decide)] at hlk
      simp only [hc] at hlk
      dsimp only [vvT] at hlk
      have hcd : decide (0 < c) = true := decide_eq_true hpos
      clear hx hm hJ hc
      go_enter Tryz.func145, Tryz.ntmps145
      go_wp2_with fail
      exact bodyPost_ret (results_none rfl _ _ _) rfl ⟨rfl, hE.1, hE.2.imp (by simp)⟩
    · have hJ2 : jst d (L ++ [(k, z, s)]) = (sz + (1 + ((textV k z s).size : Int)), M ++ [(k, z, s)]) := by
        rw [hJ]
        exact if_neg fun h => h.elim hbig hdup
      have hts' : (textV k z s).size ≤ 65536 := hts
      obtain ⟨c, hc⟩ : ∃ c : Nat, countT (k, z, s) M = c := ⟨_, rfl⟩
      have hcl : c ≤ 100000 := by have := countT_le (k, z, s) M; omega
      have hcd : d = true → decide (0 < c) = false := fun hd => decide_eq_false fun h => hdup ⟨hd, countT_pos.1 (by omega)⟩
      have hlk := run_lookupT 157 3 (.int .i64 0) Tryz.underlying157 zero_int w1 bm E _ hmap1 (k, z, s) false (hz0 _)
      rw [if_neg (by decide)] at hlk
      simp only [hc] at hlk
      dsimp only [vvT] at hlk
      have hbml := hmap.lt
      have HWD := Lib.hid (hwd.on hal)
      have HMAP := Lib.hid hmap1
      have HZ0 := Lib.hid hz0
      have HC := Lib.hid hc
      have HKEYS := Lib.hid hkeys
      have HALL := Lib.hid hal
      have FA := Lib.hid (show ∀ X : World, Below w1.heap.size w1 X → X.cell? ⟨bx, 0, none⟩ = some (.map (some bm)) ∧ (X.cell? ⟨w.heap.size, 0, none⟩ = some (.int .u8 k) ∧ X.cell? ⟨w.heap.size, 1, none⟩ = some (.int .i64 z) ∧ X.cell? ⟨w.heap.size, 2, none⟩ = some (.string s)) from fun X hX =>
        ⟨Boxed.cell (show Boxed X bx _ _ from (hX.block bx hx1.lt).trans hx1), (bv.on hX).cells⟩)
      -- the map, one more of t
      have HMM := Lib.hid (show ∀ X : World, Below w1.heap.size w1 X → ∃ o1 o2 cc E', (Instr.mapEntry 157 (.map (some bm)) (vv k z s)).run Tryz.prog X = .ok (.tuple #[.int .i64 (c : Int), .int .i64 (cc : Nat)]) (setBlock X bm o1) ∧
          (Instr.lookup 157 (.map (some bm)) (vv k z s) false).run Tryz.prog X = .ok (.int .i64 (c : Int)) X ∧ (Instr.lookup 157 (.map (some bm)) (vv k z s) false).run Tryz.prog (setBlock X bm o1) = .ok (.int .i64 (c : Int)) (setBlock X bm o1) ∧
          (Instr.entryStore 157 (.map (some bm)) (.int .i64 (cc : Nat)) (.int .i64 ((c : Int) + 1))).run Tryz.prog (setBlock X bm o1) = .ok () (setBlock (setBlock X bm o1) bm o2) ∧ MapT (setBlock (setBlock X bm o1) bm o2) bm E' (fun t => .int .i64 (countT t (M ++ [(k, z, s)]) : Int)) ∧ E'.map Prod.fst = (if hasE (k, z, s) E then E.map Prod.fst else E.map Prod.fst ++ [(k, z, s)]) from fun X hX => by
        have hmX := HMAP.out.on hX
        obtain ⟨o1, cc, E', r1, m1, i1, k1⟩ := run_entryT 157 3 (.int .i64 0) Tryz.underlying157 zero_int X bm E _ hmX (k, z, s) (HZ0.out _)
        have r0 := run_lookupT 157 3 (.int .i64 0) Tryz.underlying157 zero_int X bm E _ hmX (k, z, s) false (HZ0.out _)
        have r2 := run_lookupT 157 3 (.int .i64 0) Tryz.underlying157 zero_int _ bm E' _ m1 (k, z, s) false (fun h => (h (List.mem_map.2 ⟨_, i1, rfl⟩)).elim)
        rw [if_neg (by decide)] at r0 r2
        simp only [HC.out] at r0 r1 r2
        obtain ⟨o2, r3, m3⟩ := run_storeT 157 (setBlock X bm o1) bm E' _ m1 (k, z, s) cc i1 (.int .i64 ((c : Int) + 1))
        refine ⟨o1, o2, cc, E', r1, r0, r2, r3, ?_, k1⟩
        have e : (fun x : Trip => if x = (k, z, s) then Value.int .i64 ((c : Int) + 1) else .int .i64 (countT x M : Int)) = fun t => .int .i64 (countT t (M ++ [(k, z, s)]) : Int) := by
          funext x
          rw [countT_snoc]
          by_cases hx : x = (k, z, s)
          · rw [if_pos hx, if_pos hx, hx, HC.out]; rfl
          · rw [if_neg hx, if_neg hx]
        rw [e] at m3
        exact m3)
      have HBX := Lib.hid (Below.refl w1.heap.size w1)
      have hcw : IntKind.i64.wrap ((c : Int) + 1) = (c : Int) + 1 := IntWalk.i64_in _ (by omega)
      have HGI := Lib.hid ht.2
      have HJ2 := Lib.hid hJ2
      have hwa : IntKind.i64.wrap (1 + ((textV k z s).size : Int)) = 1 + ((textV k z s).size : Int) := IntWalk.i64_in _ (by omega)
      have hwb : IntKind.i64.wrap (sz + (1 + ((textV k z s).size : Int))) = sz + (1 + ((textV k z s).size : Int)) := IntWalk.i64_in _ (by omega)
      clear hJ2
      clear hx hm hJ hc hmap hmap1 hkeys hz0
      cases d with
      | false =>
        go_enter Tryz.func145, Tryz.ntmps145
        go_wp2_with fail
        clear hlk
        go_cut [] from 16 to 22 (fun wx => ∃ E', MapT wx bm E' (fun t => .int .i64 (countT t (M ++ [(k, z, s)]) : Int)) ∧ E'.map Prod.fst = (if hasE (k, z, s) E then E.map Prod.fst else E.map Prod.fst ++ [(k, z, s)]) ∧ Keep (· = bm) w1 wx)
        case first =>
          go_region_law (first
            | (go_simp; go_at_call 143; refine (own_any _ _ _ _ hsz).mono ?_; rintro e w3 ⟨rfl, hb3⟩; have HB3 := Lib.hid (show Below w1.heap.size w1 w3 from ⟨hb3.os, hb3.tape, hb3.output, hb3.size, hb3.block⟩); clear hb3; obtain ⟨c1, _⟩ := FA.out w3 HB3.out; obtain ⟨o1, o2, cc, E', r1, r0, r2, r3, m3, k3⟩ := HMM.out w3 HB3.out; have HM3 := Lib.hid m3; have HK3 := Lib.hid k3; clear m3 k3))
          all_goals (go_wp2_with fail; go_meet; exact ⟨E', HM3.out, HK3.out, (Keep.of_below HB3.out).trans ((Keep.put _ _ _).trans (Keep.put _ _ _))⟩)
        case rest =>
          generalize wc = w4 at *
          obtain ⟨E', hm3, hk3, hk⟩ := hcut
          have HM3 := Lib.hid hm3
          have HK3 := Lib.hid hk3
          have HKW := Lib.hid hk
          have HZ3 := Lib.hid (show Boxed w4 bz 3 (.int .i64 sz) from (hk.block bz hz1.lt h3).trans hz1)
          have HV3 := Lib.hid (show BoxT w4 w.heap.size (k, z, s) from (hk.block _ bv.lt (fun e => by omega)).trans bv)
          have HWC := Lib.hid (HWD.out.keep hk fun j hj => by rw [hj]; exact hB)
          clear hm3 hk3 hk cz cd x0 x1 x2 cx
          have cz := HZ3.out.cell
          obtain ⟨x0, x1, x2⟩ := HV3.out.cells
          dsimp only at x0 x1 x2
          go_wp2_with fail
          go_cut [] from 23 to 28 (fun wx => Boxed wx bz 3 (.int .i64 (sz + (1 + ((textV k z s).size : Int)))) ∧ Keep (· = bz) w4 wx)
          case first =>
            go_region_law (first
              | (go_simp; go_at_call 42; refine (Text_any _ _ _ _ HGI.out (HWC.out.on (drewR (Below.refl _ _))).wd).mono ?_; rintro e w5 ⟨rfl, hb5⟩; have HB5 := Lib.hid (show Below w4.heap.size w4 w5 from ⟨hb5.os, hb5.tape, hb5.output, hb5.size, hb5.block⟩); clear hb5; have q5 := Boxed.cell (show Boxed w5 bz _ _ from (HB5.out.block bz HZ3.out.lt).trans HZ3.out); have f5 := Boxed.frozen (show Boxed w5 bz _ _ from (HB5.out.block bz HZ3.out.lt).trans HZ3.out)))
            all_goals (go_wp2_with fail; go_meet; exact ⟨Boxed.set (v := .int .i64 sz) _ ((HB5.out.block bz HZ3.out.lt).trans HZ3.out), (Keep.of_below HB5.out).trans (Keep.setCell _ _ _ rfl)⟩)
          case rest =>
            obtain ⟨hz5, hk5⟩ := hcut
            clear cz x0 x1 x2
            have cz := hz5.cell
            have HZ5 := Lib.hid hz5
            have HK5 := Lib.hid (show Keep (fun j => j = bz ∨ j = bm) w1 wc from (HKW.out.imp fun j h => .inr h).trans (hk5.imp fun j h => .inl h))
            have HM5 := Lib.hid (HM3.out.of_block (hk5.block bm HM3.out.lt fun e => h3 e.symm))
            have HX5 := Lib.hid (show Boxed wc bx 157 (.map (some bm)) from (HK5.out.block bx hx1.lt (fun h => h.elim (fun e => h2 e.symm) h6)).trans hx1)
            have HD5 := Lib.hid (show Boxed wc bd 4 (.bool false) from (HK5.out.block bd hd1.lt (fun h => h.elim (fun e => h1 e.symm) h5)).trans hd1)
            clear hz5 hk5
            have hkz := HX5.out.cell
            have hfz := HX5.out.frozen
            obtain ⟨q, hq⟩ : ∃ q, sz + (1 + ((textV k z s).size : Int)) = q := ⟨_, rfl⟩
            have hq1 : -1 ≤ q ∧ q ≤ 200000 := by omega
            have HQ := Lib.hid hq
            rw [hq] at cz
            have HKF := Lib.hid ((Keep.of_below HALL.out : Keep (fun j => j = bz ∨ j = bm) w w1).trans HK5.out)
            have HJM := Lib.hid (show JMap wc bm (M ++ [(k, z, s)]) from ⟨E', HM5.out, fun t => by
              rw [HK3.out]
              cases hh : hasE (k, z, s) E with
              | true =>
                rw [if_pos rfl, HKEYS.out]
                have hin := (HKEYS.out _).1 (hasE_iff.1 hh)
                simp only [List.mem_append, List.mem_singleton]
                exact ⟨.inl, fun h => h.elim id fun e => e ▸ hin⟩
              | false =>
                rw [if_neg (by decide)]
                simp only [List.mem_append, List.mem_singleton]
                rw [HKEYS.out], by
              have h := congrArg List.length HK3.out
              rw [List.length_map] at h
              rw [h, List.length_append]
              cases hasE (k, z, s) E <;> simp <;> omega⟩)
            clear hq
            by_cases hbg : 65536 < q
            · go_wp2_with fail
              refine bodyPost_end (results_none rfl _ _ _) rfl ⟨rfl, ?_, ?_⟩
              · unfold JSt
                rw [HJ2.out, HQ.out]
                dsimp only
                rw [if_pos hbg]
                refine ⟨?_, ?_, HX5.out.set _, fun h => by omega, hq1.1, hq1.2, by rw [List.length_append, List.length_append]; exact Nat.add_le_add_right hlen _⟩
                · have h := HZ5.out
                  rw [HQ.out] at h
                  exact (Below.heap_setCell _ ⟨bx, 0, none⟩ _ bz h2).trans h
                · exact (Below.heap_setCell _ ⟨bx, 0, none⟩ _ bd h4).trans HD5.out
              · exact (HKF.out.imp fun j h => by rcases h with rfl | rfl <;> simp).trans (Keep.setCell _ _ _ (by simp))
            · go_wp2_with fail
              refine bodyPost_end (results_none rfl _ _ _) rfl ⟨rfl, ?_, ?_⟩
              · unfold JSt
                rw [HJ2.out, HQ.out]
                dsimp only
                rw [if_neg (by omega)]
                refine ⟨?_, HD5.out, HX5.out, fun _ => HJM.out, hq1.1, hq1.2, by rw [List.length_append, List.length_append]; exact Nat.add_le_add_right hlen _⟩
                have h := HZ5.out
                rw [HQ.out] at h
                exact h
              · exact HKF.out.imp fun j h => by rcases h with rfl | rfl <;> simp
      | true =>
        have hcd := hcd rfl
        go_enter Tryz.func145, Tryz.ntmps145
        go_wp2_with fail
        clear hlk
        go_cut [] from 16 to 22 (fun wx => ∃ E', MapT wx bm E' (fun t => .int .i64 (countT t (M ++ [(k, z, s)]) : Int)) ∧ E'.map Prod.fst = (if hasE (k, z, s) E then E.map Prod.fst else E.map Prod.fst ++ [(k, z, s)]) ∧ Keep (· = bm) w1 wx)
        case first =>
          go_region_law (first
            | (go_simp; go_at_call 143; refine (own_any _ _ _ _ hsz).mono ?_; rintro e w3 ⟨rfl, hb3⟩; have HB3 := Lib.hid (show Below w1.heap.size w1 w3 from ⟨hb3.os, hb3.tape, hb3.output, hb3.size, hb3.block⟩); clear hb3; obtain ⟨c1, _⟩ := FA.out w3 HB3.out; obtain ⟨o1, o2, cc, E', r1, r0, r2, r3, m3, k3⟩ := HMM.out w3 HB3.out; have HM3 := Lib.hid m3; have HK3 := Lib.hid k3; clear m3 k3))
          all_goals (go_wp2_with fail; go_meet; exact ⟨E', HM3.out, HK3.out, (Keep.of_below HB3.out).trans ((Keep.put _ _ _).trans (Keep.put _ _ _))⟩)
        case rest =>
          generalize wc = w4 at *
          obtain ⟨E', hm3, hk3, hk⟩ := hcut
          have HM3 := Lib.hid hm3
          have HK3 := Lib.hid hk3
          have HKW := Lib.hid hk
          have HZ3 := Lib.hid (show Boxed w4 bz 3 (.int .i64 sz) from (hk.block bz hz1.lt h3).trans hz1)
          have HV3 := Lib.hid (show BoxT w4 w.heap.size (k, z, s) from (hk.block _ bv.lt (fun e => by omega)).trans bv)
          have HWC := Lib.hid (HWD.out.keep hk fun j hj => by rw [hj]; exact hB)
          clear hm3 hk3 hk cz cd x0 x1 x2 cx
          have cz := HZ3.out.cell
          obtain ⟨x0, x1, x2⟩ := HV3.out.cells
          dsimp only at x0 x1 x2
          go_wp2_with fail
          go_cut [] from 23 to 28 (fun wx => Boxed wx bz 3 (.int .i64 (sz + (1 + ((textV k z s).size : Int)))) ∧ Keep (· = bz) w4 wx)
          case first =>
            go_region_law (first
              | (go_simp; go_at_call 42; refine (Text_any _ _ _ _ HGI.out (HWC.out.on (drewR (Below.refl _ _))).wd).mono ?_; rintro e w5 ⟨rfl, hb5⟩; have HB5 := Lib.hid (show Below w4.heap.size w4 w5 from ⟨hb5.os, hb5.tape, hb5.output, hb5.size, hb5.block⟩); clear hb5; have q5 := Boxed.cell (show Boxed w5 bz _ _ from (HB5.out.block bz HZ3.out.lt).trans HZ3.out); have f5 := Boxed.frozen (show Boxed w5 bz _ _ from (HB5.out.block bz HZ3.out.lt).trans HZ3.out)))
            all_goals (go_wp2_with fail; go_meet; exact ⟨Boxed.set (v := .int .i64 sz) _ ((HB5.out.block bz HZ3.out.lt).trans HZ3.out), (Keep.of_below HB5.out).trans (Keep.setCell _ _ _ rfl)⟩)
          case rest =>
            obtain ⟨hz5, hk5⟩ := hcut
            clear cz x0 x1 x2
            have cz := hz5.cell
            have HZ5 := Lib.hid hz5
            have HK5 := Lib.hid (show Keep (fun j => j = bz ∨ j = bm) w1 wc from (HKW.out.imp fun j h => .inr h).trans (hk5.imp fun j h => .inl h))
            have HM5 := Lib.hid (HM3.out.of_block (hk5.block bm HM3.out.lt fun e => h3 e.symm))
            have HX5 := Lib.hid (show Boxed wc bx 157 (.map (some bm)) from (HK5.out.block bx hx1.lt (fun h => h.elim (fun e => h2 e.symm) h6)).trans hx1)
            have HD5 := Lib.hid (show Boxed wc bd 4 (.bool true) from (HK5.out.block bd hd1.lt (fun h => h.elim (fun e => h1 e.symm) h5)).trans hd1)
            clear hz5 hk5
            have hkz := HX5.out.cell
            have hfz := HX5.out.frozen
            obtain ⟨q, hq⟩ : ∃ q, sz + (1 + ((textV k z s).size : Int)) = q := ⟨_, rfl⟩
            have hq1 : -1 ≤ q ∧ q ≤ 200000 := by omega
            have HQ := Lib.hid hq
            rw [hq] at cz
            have HKF := Lib.hid ((Keep.of_below HALL.out : Keep (fun j => j = bz ∨ j = bm) w w1).trans HK5.out)
            have HJM := Lib.hid (show JMap wc bm (M ++ [(k, z, s)]) from ⟨E', HM5.out, fun t => by
              rw [HK3.out]
              cases hh : hasE (k, z, s) E with
              | true =>
                rw [if_pos rfl, HKEYS.out]
                have hin := (HKEYS.out _).1 (hasE_iff.1 hh)
                simp only [List.mem_append, List.mem_singleton]
                exact ⟨.inl, fun h => h.elim id fun e => e ▸ hin⟩
              | false =>
                rw [if_neg (by decide)]
                simp only [List.mem_append, List.mem_singleton]
                rw [HKEYS.out], by
              have h := congrArg List.length HK3.out
              rw [List.length_map] at h
              rw [h, List.length_append]
              cases hasE (k, z, s) E <;> simp <;> omega⟩)
            clear hq
            by_cases hbg : 65536 < q
            · go_wp2_with fail
              refine bodyPost_end (results_none rfl _ _ _) rfl ⟨rfl, ?_, ?_⟩
              · unfold JSt
                rw [HJ2.out, HQ.out]
                dsimp only
                rw [if_pos hbg]
                refine ⟨?_, ?_, HX5.out.set _, fun h => by omega, hq1.1, hq1.2, by rw [List.length_append, List.length_append]; exact Nat.add_le_add_right hlen _⟩
                · have h := HZ5.out
                  rw [HQ.out] at h
                  exact (Below.heap_setCell _ ⟨bx, 0, none⟩ _ bz h2).trans h
                · exact (Below.heap_setCell _ ⟨bx, 0, none⟩ _ bd h4).trans HD5.out
              · exact (HKF.out.imp fun j h => by rcases h with rfl | rfl <;> simp).trans (Keep.setCell _ _ _ (by simp))
            · go_wp2_with fail
              refine bodyPost_end (results_none rfl _ _ _) rfl ⟨rfl, ?_, ?_⟩
              · unfold JSt
                rw [HJ2.out, HQ.out]
                dsimp only
                rw [if_neg (by omega)]
                refine ⟨?_, HD5.out, HX5.out, fun _ => HJM.out, hq1.1, hq1.2, by rw [List.length_append, List.length_append]; exact Nat.add_le_add_right hlen _⟩
                have h := HZ5.out
                rw [HQ.out] at h
                exact h
              · exact HKF.out.imp fun j h => by rcases h with rfl | rfl <;> simp
end Go.Proofs.YtceknmibopnmhaaGreatDoor
