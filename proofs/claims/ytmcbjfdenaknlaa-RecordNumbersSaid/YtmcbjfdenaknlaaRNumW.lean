/-
  RecordNumbers returns true: the walk. No conditions.
-/
import Derived.Test.YtmcbjfdenaknlaaRNumB
import Derived.Deep.CutRange
namespace Go.Proofs.Ytmcbjfdenaknlaa
open Go.ChangeShapes Go.WideShapes Go.ChangeAt Go.RowKit
set_option linter.unusedVariables false

def KRel (w : World) (i : Value) (wr : World) : Prop := ∃ k : Nat, 1 ≤ k ∧ k ≤ 9 ∧ i = .int .i64 k ∧ Below w.heap.size w wr
abbrev tabO (k : Nat) : Obj := .cells #[.int .i64 (endN k), .int .i64 k, .int .i64 (wrap64 (wrap64 (-endN k) - 1)), .int .i64 k, .int .i64 (wrap64 (endN k + 1)), .int .i64 ((k + 1 : Nat) : Int), .int .i64 (wrap64 (wrap64 (-endN k) - 2)), .int .i64 ((k + 1 : Nat) : Int)] 22
theorem tab_at (k : Nat) (w W : World) (h : Below (w.alloc (tabO k)).heap.size (w.alloc (tabO k)) W) (j : Nat) (hj : j < 4) :
    W.cell? ⟨w.heap.size, j * 2, none⟩ = some (.int .i64 (rowN k j)) ∧ W.cell? ⟨w.heap.size, j * 2 + 1, none⟩ = some (.int .i64 (lenN k j : Nat)) := by
  have hc : ∀ o, W.cell? ⟨w.heap.size, o, none⟩ = (w.alloc (tabO k)).cell? ⟨w.heap.size, o, none⟩ := fun o => h.cell (p := ⟨w.heap.size, o, none⟩) (by simp)
  rw [hc, hc, World.cell?_alloc_mark, World.cell?_alloc_mark]
  have h4 : j = 0 ∨ j = 1 ∨ j = 2 ∨ j = 3 := by omega
  rcases h4 with rfl | rfl | rfl | rfl <;> exact ⟨rfl, rfl⟩
def LRel (w M : World) (X : ByteArray) (v i : Value) (wr : World) : Prop := ∃ j : Nat, j ≤ 15 ∧ i = .int .i64 j ∧ OwnR wr M.heap.size v (longs X (j + 1)) ∧ Below w.heap.size w wr ∧ Below M.heap.size M wr
def RowRel (w w0 : World) (k : Nat) (i : Value) (wr : World) : Prop := ∃ j : Nat, j ≤ 4 ∧ i = .int .i64 j ∧ Below w.heap.size w wr ∧ Below (w0.alloc (tabO k)).heap.size (w0.alloc (tabO k)) wr
set_option maxRecDepth 100000 in
set_option maxHeartbeats 12000000 in
theorem numbers_any (w : World) : Calls Try.prog 3 #[] w fun e w' => e = .returned (.bool true) ∧ Below w.heap.size w w' := by
  go_enter Try.func3, Try.ntmps3
  go_wp2_with fail
  go_loopw [1] (fun i wr => KRel w i wr) (fun i _ => 9 - (intOf i).toNat)
  case atStart => exact ⟨1, by omega, by omega, rfl, Below.refl _ _⟩
  case round =>
    obtain ⟨k, hk1, hk9, rfl, hb⟩ := hrel
    have HX := Lib.hid hb
    clear hb
    by_cases hk : k ≤ 8
    · go_upto_region 4 with fail
      go_cut [2] from 36 to 105 (fun v wx => v = .int .i64 (endN k) ∧ wx = wr)
      case first =>
        have hc : k = 1 ∨ k = 2 ∨ k = 3 ∨ k = 4 ∨ k = 5 ∨ k = 6 ∨ k = 7 ∨ k = 8 := by omega
        rcases hc with rfl | rfl | rfl | rfl | rfl | rfl | rfl | rfl
        all_goals (go_wp2_with fail; go_meet; first | exact ⟨rfl, rfl⟩ | exact ⟨congrArg (Value.int .i64) (by decide +kernel), rfl⟩)
      case rest =>
        obtain ⟨rfl, rfl⟩ := hcut
        have HXw := Lib.hid (onC (tabO k) HX.out)
        have HT := Lib.hid (fun (W : World) (h : Below (wc.alloc (tabO k)).heap.size (wc.alloc (tabO k)) W) (j : Nat) (hj : j < 4) => tab_at k wc W h j hj)
        go_wp2_with fail
        go_loopw [67] (fun i wx => RowRel w wc k i wx) (fun i _ => 4 - (intOf i).toNat)
        case atStart => exact ⟨0, by omega, rfl, HXw.out, Below.refl _ _⟩
        case round =>
          obtain ⟨j, hj, rfl, hb, hb2⟩ := hrel
          have HY := Lib.hid hb
          have HY2 := Lib.hid hb2
          clear hb hb2
          by_cases hj4 : j < 4
          · obtain ⟨c0, c1⟩ := HT.out wr HY2.out j hj4
            have HC0 := Lib.hid c0
            have HC1 := Lib.hid c1
            have HR := Lib.hid (row_ok k j hk1 hk hj4)
            clear HT
            generalize rowN k j = N at *
            generalize hL : lenN k j = L at *
            have HL := Lib.hid hL
            clear hL
            go_upto_region 8 with fail
            go_cut [67, 77] from 67 to 105 (fun i c wx => i = .int .i64 j ∧ c = .bool (decide (k = 8 ∧ 1 < j)) ∧ wx = wr.alloc (.cells #[.int .i64 N, .int .i64 L] 22))
            case first =>
              by_cases h8 : k = 8
              · subst h8
                go_wp2_with fail
                go_meet
                exact ⟨rfl, congrArg Value.bool (decide_eq_decide.2 ⟨fun h => ⟨trivial, by omega⟩, fun h => by omega⟩), rfl⟩
              · have hd := Lib.hid (decide_eq_false (p := k = 8 ∧ 1 < j) (fun h => h8 h.1))
                have h8i : ((k : Int) == 8) = false := by simp; omega
                go_wp2_with fail
                go_meet
                exact ⟨rfl, congrArg Value.bool hd.out.symm, rfl⟩
            case rest =>
              obtain ⟨rfl, rfl, rfl⟩ := hcut
              have HZ := Lib.hid (onC (.cells #[.int .i64 N, .int .i64 L] 22) HY.out)
              have HZ2 := Lib.hid (onC (.cells #[.int .i64 N, .int .i64 L] 22) HY2.out)
              by_cases hc : k = 8 ∧ 1 < j
              · rw [decide_eq_true hc]
                clear hc c0 c1
                go_wp2_with fail
                go_roundw
                case rel => exact ⟨j + 1, by omega, by go_num, HZ.out, HZ2.out⟩
                case measure => simp [intOf]; omega
              · rw [decide_eq_false hc]
                obtain ⟨hn, hl, g1, g8⟩ := HR.out hc
                have HN := Lib.hid hn
                have HL2 := Lib.hid hl
                clear hc hn hl c0 c1
                go_wp2_with fail
                refine (num_any _ _).mono ?_
                rintro e x1 ⟨rfl, b1⟩
                have HA := Lib.hid (onB HZ.out b1)
                have HA2 := Lib.hid (onB HZ2.out b1)
                have D1 := Lib.hid (show x1.cell? ⟨wr.heap.size, 1, none⟩ = some (.int .i64 L) from (b1.cell (p := ⟨wr.heap.size, 1, none⟩) (by simp)).trans (by simp [go_sem]))
                have hz : wr.heap.size < x1.heap.size := by have := b1.size; simp at this; omega
                clear b1
                go_wp2_with fail
                refine (put_num N L HN.out HL2.out g1 g8 x1 _ rfl).mono ?_
                rintro e x2 ⟨g, c, n, hn2, rfl, hg, b2⟩
                have HB := Lib.hid (onB HA.out b2)
                have HB2 := Lib.hid (onB HA2.out b2)
                have D2 := Lib.hid ((b2.cell (p := ⟨wr.heap.size, 1, none⟩) hz).trans D1.out)
                have DG := Lib.hid hg
                clear b2 hg
                go_wp2_with fail
                have h18 : L = 1 ∨ L = 2 ∨ L = 3 ∨ L = 4 ∨ L = 5 ∨ L = 6 ∨ L = 7 ∨ L = 8 := by omega
                clear g1 g8 hz
                rcases h18 with rfl | rfl | rfl | rfl | rfl | rfl | rfl | rfl
                · subst hn2
                  go_region_held3 (fun X => X.cell? ⟨wr.heap.size, 1, none⟩ = some (.int .i64 1) ∧ X.cell? ⟨g, 1, none⟩ = some (.int .u8 1)) (exact ⟨D2.out, DG.out⟩) (fail)
                  go_wp2_with fail
                  go_roundw
                  case rel => exact ⟨j + 1, by omega, by go_num, HB.out.drew, HB2.out.drew⟩
                  case measure => simp [intOf]; omega
                · subst hn2
                  go_region_held3 (fun X => X.cell? ⟨wr.heap.size, 1, none⟩ = some (.int .i64 2) ∧ X.cell? ⟨g, 1, none⟩ = some (.int .u8 2)) (exact ⟨D2.out, DG.out⟩) (fail)
                  go_wp2_with fail
                  go_roundw
                  case rel => exact ⟨j + 1, by omega, by go_num, HB.out.drew, HB2.out.drew⟩
                  case measure => simp [intOf]; omega
                · subst hn2
                  go_region_held3 (fun X => X.cell? ⟨wr.heap.size, 1, none⟩ = some (.int .i64 3) ∧ X.cell? ⟨g, 1, none⟩ = some (.int .u8 3)) (exact ⟨D2.out, DG.out⟩) (fail)
                  go_wp2_with fail
                  go_roundw
                  case rel => exact ⟨j + 1, by omega, by go_num, HB.out.drew, HB2.out.drew⟩
                  case measure => simp [intOf]; omega
                · subst hn2
                  go_region_held3 (fun X => X.cell? ⟨wr.heap.size, 1, none⟩ = some (.int .i64 4) ∧ X.cell? ⟨g, 1, none⟩ = some (.int .u8 4)) (exact ⟨D2.out, DG.out⟩) (fail)
                  go_wp2_with fail
                  go_roundw
                  case rel => exact ⟨j + 1, by omega, by go_num, HB.out.drew, HB2.out.drew⟩
                  case measure => simp [intOf]; omega
                · subst hn2
                  go_region_held3 (fun X => X.cell? ⟨wr.heap.size, 1, none⟩ = some (.int .i64 5) ∧ X.cell? ⟨g, 1, none⟩ = some (.int .u8 5)) (exact ⟨D2.out, DG.out⟩) (fail)
                  go_wp2_with fail
                  go_roundw
                  case rel => exact ⟨j + 1, by omega, by go_num, HB.out.drew, HB2.out.drew⟩
                  case measure => simp [intOf]; omega
                · subst hn2
                  go_region_held3 (fun X => X.cell? ⟨wr.heap.size, 1, none⟩ = some (.int .i64 6) ∧ X.cell? ⟨g, 1, none⟩ = some (.int .u8 6)) (exact ⟨D2.out, DG.out⟩) (fail)
                  go_wp2_with fail
                  go_roundw
                  case rel => exact ⟨j + 1, by omega, by go_num, HB.out.drew, HB2.out.drew⟩
                  case measure => simp [intOf]; omega
                · subst hn2
                  go_region_held3 (fun X => X.cell? ⟨wr.heap.size, 1, none⟩ = some (.int .i64 7) ∧ X.cell? ⟨g, 1, none⟩ = some (.int .u8 7)) (exact ⟨D2.out, DG.out⟩) (fail)
                  go_wp2_with fail
                  go_roundw
                  case rel => exact ⟨j + 1, by omega, by go_num, HB.out.drew, HB2.out.drew⟩
                  case measure => simp [intOf]; omega
                · subst hn2
                  go_region_held3 (fun X => X.cell? ⟨wr.heap.size, 1, none⟩ = some (.int .i64 8) ∧ X.cell? ⟨g, 1, none⟩ = some (.int .u8 8)) (exact ⟨D2.out, DG.out⟩) (fail)
                  go_wp2_with fail
                  go_roundw
                  case rel => exact ⟨j + 1, by omega, by go_num, HB.out.drew, HB2.out.drew⟩
                  case measure => simp [intOf]; omega
          · have hj4 : j = 4 := by omega
            subst hj4
            go_wp2_with fail
            exact ⟨⟨k + 1, by omega, by omega, by go_num, HY.out⟩, by simp [intOf]; omega⟩
    · obtain rfl : k = 9 := by omega
      rename World => w0
      obtain ⟨oM, hoM, hmk⟩ := make_v
      obtain ⟨oF, hoF, hmf⟩ := make_b
      obtain ⟨oY, hmy⟩ := make_y
      obtain ⟨X, hX, hrep⟩ := repeat_x
      have HOM := Lib.hid hoM
      have HOF := Lib.hid hoF
      have HXs := Lib.hid hX
      have HRep := Lib.hid hrep
      have HMF := Lib.hid hmf
      have HMY := Lib.hid hmy
      have hm1 := hmk w0
      clear hoM hoF hX hrep hmf hmy hmk
      go_wp2_with fail
      clear hm1
      refine (HRep.out _).mono ?_
      rintro e x1 ⟨rfl, b1⟩
      have HA := Lib.hid (onB (onC oM HX.out) b1)
      have HM := Lib.hid b1
      clear b1
      go_wp2_with fail
      refine (text_any X _).mono ?_
      rintro e x2 ⟨rfl, b1⟩
      have HA := Lib.hid (onB HA.out b1)
      have HM := Lib.hid (onB HM.out b1)
      clear b1
      have HWM := Lib.hid (Nat.le_trans HX.out.size ((Below.refl _ _).alloc (Nat.le_refl w0.heap.size) oM).size)
      have HL0 := Lib.hid (ownR_new x2 (w0.alloc oM).heap.size HM.out.size [(2, 0, X)] (by show 1 ≤ 1000; decide))
      have HAl := Lib.hid (onC (.cells (cellsL [(2, 0, X)]).toArray 30) HA.out)
      have HMl := Lib.hid (onC (.cells (cellsL [(2, 0, X)]).toArray 30) HM.out)
      go_wp2_with fail
      go_loopw [8, 9] (fun v i wx => LRel w (w0.alloc oM) X v i wx) (fun _ i _ => 15 - (intOf i).toNat)
      case atStart => exact ⟨0, by omega, rfl, HL0.out, HAl.out, HMl.out⟩
      case round =>
        obtain ⟨j, hj, rfl, ho, ha, hm⟩ := hrel
        obtain ⟨g, c, hv, hc1, hc2, hr⟩ := ownR_some ho (by simp)
        rw [List.length_replicate] at hv hc1
        subst hv
        obtain ⟨d0, d1, d2⟩ := hr.first (show (longs X (j + 1))[0]? = some (2, 0, X) from rfl)
        have HO := Lib.hid (ownR_below ho ((Below.refl _ _).alloc (Nat.le_refl _) (.cells (cellsL [(2, 0, X)]).toArray 30)))
        have HA := Lib.hid ha
        have HM := Lib.hid hm
        have HR := Lib.hid hr
        have HC := Lib.hid (rdr_new wr [(2, 0, X)] _ (Below.refl _ _)).cells
        have HS := Lib.hid (Nat.le_trans hm.size ((Below.refl _ _).alloc (Nat.le_refl wr.heap.size) (.cells (cellsL [(2, 0, X)]).toArray 30)).size)
        clear ho ha hm hr
        by_cases hj5 : j < 15
        · go_wp2_with (at_builtin; refine wpList_appR rfl (.tmp 114) (.tmp 118) rfl (w0.alloc oM).heap.size (.slice (some ⟨g, 0, none⟩) (j + 1) c) (longs X (j + 1)) rfl HO.out ⟨wr.heap.size, 0, none⟩ 1 [(2, 0, X)] 1 rfl rfl HC.out (by simp; omega) HS.out ?_; intro v1 w1 ho1 hb1; rw [long_next] at ho1; have HO1 := Lib.hid ho1; have HB1 := Lib.hid hb1; obtain ⟨g1, c1, hv1, _, _, _⟩ := ownR_some ho1 (by simp); rw [List.length_replicate] at hv1; subst hv1; clear ho1 hb1)
          exact ⟨⟨j + 1, by omega, by go_num, HO1.out, (HA.out.alloc HA.out.size _).trans (HB1.out.mono HWM.out), (HM.out.alloc HM.out.size _).trans HB1.out⟩, by simp [intOf]; omega⟩
        · obtain rfl : j = 15 := by omega
          have hm2 := HMF.out wr
          have HK := Lib.hid (show Kp w w0 wr oM oF g X (wr.alloc oF) from ⟨onC oF HA.out, onC oF HM.out, Below.refl _ _, rdr_on HR.out ((Below.refl _ _).alloc (Nat.le_refl _) oF)⟩)
          have HS16 := Lib.hid (longs_ok X 16 HXs.out).2.2.2
          have hc15 : (15 : Int) ≤ (c : Int) := by omega
          have hc16 : 15 ≤ c := by omega
          clear HO HC HS d0 d1 d2 hc1 hj5
          go_wp2_with fail
          clear hm2
          refine (Put_many (some ⟨w0.heap.size, 0, none⟩) 201 201 _ (by omega) (by omega)).mono ?_
          rintro e c1 ⟨rfl, b1⟩
          have HK := Lib.hid (HK.out.on b1)
          clear b1
          go_wp2_with fail
          refine (put_nulls 201 201 w0 _ (by omega) (by rw [← HOM.out]; exact HK.out.m)).mono ?_
          rintro e c2 ⟨v2, rfl, b1⟩
          have HK := Lib.hid (HK.out.on b1)
          clear b1
          go_wp2_with fail
          refine (put_one_bad c2 _ rfl).mono ?_
          rintro e c3 ⟨rfl, b1⟩
          have HK := Lib.hid (HK.out.on b1)
          clear b1
          go_wp2_with fail
          refine (put_long16 (some ⟨g, 0, none⟩) c X HXs.out _ HK.out.r).mono ?_
          rintro e c4 ⟨rfl, b1⟩
          have HK := Lib.hid (HK.out.on b1)
          clear b1
          go_wp2_with fail
          refine (put_long15 (some ⟨g, 0, none⟩) c X HXs.out _ HK.out.r.less).mono ?_
          rintro e c5 ⟨v5, rfl, b1⟩
          have HK := Lib.hid (HK.out.on b1)
          clear b1
          go_wp2_with fail
          refine (Key_many (some ⟨w0.heap.size, 0, none⟩) 201 201 (some ⟨wr.heap.size, 0, none⟩) 201 201 _ (by omega) (by omega)).mono ?_
          rintro e c6 ⟨rfl, b1⟩
          have HK := Lib.hid (HK.out.on b1)
          clear b1
          go_wp2_with fail
          go_region_held3 (fun X => True) (trivial) (first | (go_at_call 8; refine (key_nulls 201 201 w0 _ (by omega) (by rw [← HOM.out]; exact HK.out.dr.m) (some ⟨wr.heap.size, 0, none⟩) 201 ((List.range 200).map fun _ => false) (by simp) (rdf_made wr 200 (by omega) _ (by rw [← HOF.out]; exact HK.out.dr.f))).mono ?_; rintro e c7 ⟨v7, rfl, b1⟩; have HK7 := Lib.hid (HK.out.dr.on b1); clear b1))
          have HK := Lib.hid HK7.out
          go_wp2_with fail
          go_region_held3 (fun X => True) (trivial) (first | (go_at_call 8; refine (key_two 201 201 w0 _ (by omega) (by rw [← HOM.out]; exact HK.out.dr.m) (some ⟨wr.heap.size, 0, none⟩) 201).mono ?_; rintro e c8 ⟨rfl, b1⟩; have HK8 := Lib.hid (HK.out.dr.on b1); clear b1))
          have HK := Lib.hid HK8.out
          go_wp2_with fail
          refine (key_long16 (some ⟨g, 0, none⟩) c X HXs.out _ HK.out.r (some ⟨wr.heap.size, 0, none⟩) 201 ((List.range 16).map fun _ => false) (by simp) (rdf_made wr 16 (by omega) _ (by rw [← HOF.out]; exact HK.out.f)) (by have := HS16.out; omega)).mono ?_
          rintro e c9 ⟨rfl, b1⟩
          have HK := Lib.hid (HK.out.on b1)
          clear b1
          have hm3 := HMY.out c9
          go_wp2_with fail
          clear hm3
          have HK := Lib.hid (HK.out.al oY)
          refine (Unkey_many (some ⟨c9.heap.size, 0, none⟩) 201 201 (some ⟨wr.heap.size, 0, none⟩) 201 201 _ (by omega) (by omega) (by omega)).mono ?_
          rintro e c10 ⟨rfl, b1⟩
          have HK := Lib.hid (HK.out.on b1)
          clear b1
          go_wp2_with fail
          refine (key_one_bad c10 _ rfl (some ⟨wr.heap.size, 0, none⟩) 1 201).mono ?_
          rintro e c11 ⟨rfl, b1⟩
          have HK := Lib.hid (HK.out.on b1)
          clear b1
          go_wp2_with fail
          refine (unkey_nil _).mono ?_
          rintro e c12 ⟨A12, q12, rfl, b1⟩
          have HK := Lib.hid (HK.out.on b1)
          clear b1
          go_wp2_with fail
          refine (wrong_any none 0 0 [] _ rfl Rd.nil (by simp) (by omega) (by decide +kernel)).mono ?_
          rintro e c13 ⟨rfl, b1⟩
          have HK := Lib.hid (HK.out.on b1)
          clear b1
          go_wp2_with fail
          refine (wrong_lit c13 _ [1] 1 rfl rfl (by decide) (by decide +kernel)).mono ?_
          rintro e c14 ⟨rfl, b1⟩
          have HK := Lib.hid (HK.out.on b1)
          clear b1
          go_wp2_with fail
          refine (wrong_lit c14 _ [0, 0] 2 rfl rfl (by decide) (by decide +kernel)).mono ?_
          rintro e c15 ⟨rfl, b1⟩
          have HK := Lib.hid (HK.out.on b1)
          clear b1
          go_wp2_with fail
          refine (wrong_lit c15 _ [1, 1] 2 rfl rfl (by decide) (by decide +kernel)).mono ?_
          rintro e c16 ⟨rfl, b1⟩
          have HK := Lib.hid (HK.out.on b1)
          clear b1
          go_wp2_with fail
          refine (wrong_lit c16 _ [1, 9, 0] 3 rfl rfl (by decide) (by decide +kernel)).mono ?_
          rintro e c17 ⟨rfl, b1⟩
          have HK := Lib.hid (HK.out.on b1)
          clear b1
          go_wp2_with fail
          refine (wrong_lit c17 _ [1, 2, 0, 127] 4 rfl rfl (by decide) (by decide +kernel)).mono ?_
          rintro e c18 ⟨rfl, b1⟩
          have HK := Lib.hid (HK.out.on b1)
          clear b1
          go_wp2_with fail
          refine (wrong_lit c18 _ [1, 2, 255, 128] 4 rfl rfl (by decide) (by decide +kernel)).mono ?_
          rintro e c19 ⟨rfl, b1⟩
          have HK := Lib.hid (HK.out.on b1)
          clear b1
          go_wp2_with fail
          refine (wrong_lit c19 _ [1, 12] 2 rfl rfl (by decide) (by decide +kernel)).mono ?_
          rintro e c20 ⟨rfl, b1⟩
          have HK := Lib.hid (HK.out.on b1)
          clear b1
          go_wp2_with fail
          refine (wrong_lit c20 _ [1, 11, 7] 3 rfl rfl (by decide) (by decide +kernel)).mono ?_
          rintro e c21 ⟨rfl, b1⟩
          have HK := Lib.hid (HK.out.on b1)
          clear b1
          go_wp2_with fail
          refine (wrong_lit c21 _ [129, 0, 0] 3 rfl rfl (by decide) (by decide +kernel)).mono ?_
          rintro e c22 ⟨rfl, b1⟩
          have HK := Lib.hid (HK.out.on b1)
          clear b1
          go_wp2_with fail
          refine (wrong_lit c22 _ [201, 1] 2 rfl rfl (by decide) (by decide +kernel)).mono ?_
          rintro e c23 ⟨rfl, b1⟩
          have HK := Lib.hid (HK.out.on b1)
          clear b1
          go_wp2_with fail
          refine (wrong_lit c23 _ [1, 128, 0] 3 rfl rfl (by decide) (by decide +kernel)).mono ?_
          rintro e c24 ⟨rfl, b1⟩
          have HK := Lib.hid (HK.out.on b1)
          clear b1
          go_wp2_with fail
          refine (none_any none 0 0 [] _ rfl Rd.nil (by simp) (by omega) (by decide +kernel) (by decide +kernel)).mono ?_
          rintro e c25 ⟨rfl, b1⟩
          have HK := Lib.hid (HK.out.on b1)
          clear b1
          go_wp2_with fail
          refine (none_lit c25 _ [0] 1 rfl rfl (by decide) (by decide +kernel) (by decide +kernel)).mono ?_
          rintro e c26 ⟨rfl, b1⟩
          have HK := Lib.hid (HK.out.on b1)
          clear b1
          go_wp2_with fail
          refine (none_lit c26 _ [5] 1 rfl rfl (by decide) (by decide +kernel) (by decide +kernel)).mono ?_
          rintro e c27 ⟨rfl, b1⟩
          have HK := Lib.hid (HK.out.on b1)
          clear b1
          go_wp2_with fail
          refine (none_lit c27 _ [1, 1] 2 rfl rfl (by decide) (by decide +kernel) (by decide +kernel)).mono ?_
          rintro e c28 ⟨rfl, b1⟩
          have HK := Lib.hid (HK.out.on b1)
          clear b1
          go_wp2_with fail
          refine (none_lit c28 _ [2, 1] 2 rfl rfl (by decide) (by decide +kernel) (by decide +kernel)).mono ?_
          rintro e c29 ⟨rfl, b1⟩
          have HK := Lib.hid (HK.out.on b1)
          clear b1
          go_wp2_with fail
          refine (none_lit c29 _ [3] 1 rfl rfl (by decide) (by decide +kernel) (by decide +kernel)).mono ?_
          rintro e c30 ⟨rfl, b1⟩
          have HK := Lib.hid (HK.out.on b1)
          clear b1
          go_wp2_with fail
          refine (none_lit c30 _ [3, 0] 2 rfl rfl (by decide) (by decide +kernel) (by decide +kernel)).mono ?_
          rintro e c31 ⟨rfl, b1⟩
          have HK := Lib.hid (HK.out.on b1)
          clear b1
          go_wp2_with fail
          refine (none_lit c31 _ [3, 0, 1, 0, 0] 5 rfl rfl (by decide) (by decide +kernel) (by decide +kernel)).mono ?_
          rintro e c32 ⟨rfl, b1⟩
          have HK := Lib.hid (HK.out.on b1)
          clear b1
          go_wp2_with fail
          refine (none_lit c32 _ [3, 0, 0, 0] 4 rfl rfl (by decide) (by decide +kernel) (by decide +kernel)).mono ?_
          rintro e c33 ⟨rfl, b1⟩
          have HK := Lib.hid (HK.out.on b1)
          clear b1
          go_wp2_with fail
          refine (none_lit c33 _ [4, 7, 0] 3 rfl rfl (by decide) (by decide +kernel) (by decide +kernel)).mono ?_
          rintro e c34 ⟨rfl, b1⟩
          have HK := Lib.hid (HK.out.on b1)
          clear b1
          go_wp2_with fail
          refine (none_lit c34 _ [4, 0, 255] 3 rfl rfl (by decide) (by decide +kernel) (by decide +kernel)).mono ?_
          rintro e c35 ⟨rfl, b1⟩
          have HK := Lib.hid (HK.out.on b1)
          clear b1
          go_wp2_with fail
          refine (awake_any _).mono ?_
          rintro e c36 ⟨rfl, b1⟩
          have HK := Lib.hid (HK.out.on b1)
          clear b1
          go_wp2_with fail
          go_ret
          exact ⟨rfl, HK.out.a⟩
end Go.Proofs.Ytmcbjfdenaknlaa
