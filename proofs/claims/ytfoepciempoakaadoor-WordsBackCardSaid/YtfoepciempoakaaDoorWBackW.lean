/-
  Layer 9: WordsBack's walk. Conditions: sizes; the library's variables are as its text lays them.
-/
import Derived.Test.YtfoepciempoakaaDoorWBackM
import Derived.Deep.RegionHeld3
import Derived.Deep.QuietTactic
import Derived.BigQuiet
namespace Go.Proofs.YtfoepciempoakaaDoor
open Go.ChangeShapes Go.WideShapes Go.ChangeAt Go.RowKit
set_option linter.unusedVariables false

theorem cat3 (a b c : ByteArray) : (a ++ (b ++ c)).data.toList = a.data.toList ++ (b.data.toList ++ c.data.toList) := by simp
theorem drewNB (w : World) (n : Nat) : Below w.heap.size w (w.drewN n) := ⟨rfl, rfl, rfl, Nat.le_refl _, fun _ _ => rfl⟩
theorem nx_quote (l : List UInt8) : NxOf (M.quoteL l) 0 = ((4, l, 0, (M.quoteL l).length), 0) := by
  unfold NxOf
  rw [List.drop_zero, M.pass_quote, Nat.zero_add, List.drop_zero, M.tok_quote]
theorem nx_hex (l : List UInt8) : NxOf (M.hexT l) 0 = ((5, l, 0, (M.hexT l).length), 0) := by
  unfold NxOf
  rw [List.drop_zero, M.pass_hex, Nat.zero_add, List.drop_zero, M.tok_hex]
theorem quote_pack (x : ByteArray) (hx : x.size ≤ 2000) : ∃ Q : ByteArray, Q.size ≤ 65536 ∧ (∀ X : World, Wv X → Calls Tryd.prog 9 #[.string x] X fun e w' => e = .returned (.string Q) ∧ Below X.heap.size X w') ∧
    ∀ X : World, Wv X → Calls Tryd.prog 7 #[.string Q, .int .i64 0] X (RetNx 4 x 0 0 Q.size 0 0 X) := by
  have hlen : x.data.toList.length = x.size := by simp
  have hdb := M.dblQ_le x.data.toList
  have hQs : (⟨(M.quoteL x.data.toList).toArray⟩ : ByteArray).size = (M.quoteL x.data.toList).length := by simp [ByteArray.size]
  have h2 : (M.quoteL x.data.toList).length ≤ 65536 := by
    simp [M.quoteL]
    omega
  refine ⟨⟨(M.quoteL x.data.toList).toArray⟩, by omega, fun X hX => Quote_any x X (by omega) hX, fun X hX => ?_⟩
  have := Next_yes ⟨(M.quoteL x.data.toList).toArray⟩ 0 X (by omega) (Nat.zero_le _) hX 4 x.data.toList 0 (M.quoteL x.data.toList).length 0 (by omega) (nx_quote x.data.toList) _ rfl
  rw [ba_eta, Nat.zero_add, ← hQs] at this
  exact this
theorem hex_pack (x : ByteArray) (hx : x.size ≤ 2000) : ∃ Q : ByteArray, Q.size ≤ 65536 ∧ (∀ X : World, Wv X → Calls Tryd.prog 11 #[.string x] X fun e w' => e = .returned (.string Q) ∧ Below X.heap.size X w') ∧
    ∀ X : World, Wv X → Calls Tryd.prog 7 #[.string Q, .int .i64 0] X (RetNx 5 x 0 0 Q.size 0 0 X) := by
  have hlen : x.data.toList.length = x.size := by simp
  have hdb := M.hexL_length x.data.toList
  have hQs : (⟨(M.hexT x.data.toList).toArray⟩ : ByteArray).size = (M.hexT x.data.toList).length := by simp [ByteArray.size]
  have h2 : (M.hexT x.data.toList).length ≤ 65536 := by
    simp [M.hexT]
    omega
  refine ⟨⟨(M.hexT x.data.toList).toArray⟩, by omega, fun X hX => Hex_any x X (by omega), fun X hX => ?_⟩
  have := Next_yes ⟨(M.hexT x.data.toList).toArray⟩ 0 X (by omega) (Nat.zero_le _) hX 5 x.data.toList 0 (M.hexT x.data.toList).length 0 (by omega) (nx_hex x.data.toList) _ rfl
  rw [ba_eta, Nat.zero_add, ← hQs] at this
  exact this
set_option maxRecDepth 100000 in
set_option maxHeartbeats 20000000 in
theorem back_walk (s : ByteArray) (w : World) (hs : s.size ≤ 9223372036854775807) (hW : Wv w) :
    Calls Tryd.prog 4 #[.string s] w fun e w' => e = .returned (.bool true) ∧ Below w.heap.size w w' := by
  have HW0 := Lib.hid hW
  have HAW : Hid (∀ X : World, Below w.heap.size w X → Calls Tryd.prog 13 #[] X fun e w' => e = .returned (.bool true) ∧ Below w.heap.size w w') := Lib.hid fun X hX => (awake_any X (hW.on hX)).mono fun e w' ⟨h1, h2⟩ => ⟨h1, hX.trans (h2.mono hX.size)⟩
  clear hW
  go_enter Tryd.func4, Tryd.ntmps4
  have hcase : (2000 < s.size ∧ (s.extract 0 2000).size ≤ 2000) ∨ (¬ 2000 < s.size ∧ s.size ≤ 2000) := by
    rcases Nat.lt_or_ge 2000 s.size with h | h
    · exact .inl ⟨h, by simp; omega⟩
    · exact .inr ⟨by omega, h⟩
  rcases hcase with ⟨hlt, hx⟩ | ⟨hlt, hx⟩
  case' inl =>
    have hl : decide ((2000 : Int) < (s.size : Int)) = true := decide_eq_true (by omega)
    have hle : 2000 ≤ s.size := by omega
    clear hlt
    go_upto_region 3 with (fail)
    clear hl hle hs
    generalize s.extract 0 2000 = x at hx ⊢
  case' inr =>
    have hl : decide ((2000 : Int) < (s.size : Int)) = false := decide_eq_false (by omega)
    clear hlt
    go_upto_region 3 with (fail)
    clear hl hs
    obtain ⟨x, rfl⟩ : ∃ x, x = s := ⟨s, rfl⟩
  all_goals
    obtain ⟨Q, hQ, HQC, HQN⟩ := quote_pack x hx
    obtain ⟨Z, hZ, HZC, HZN⟩ := hex_pack x hx
    have HQC := Lib.hid HQC
    have HQN := Lib.hid HQN
    have HZC := Lib.hid HZC
    have HZN := Lib.hid HZN
    go_wp2_with fail
    refine (HQC.out _ HW0.out).mono ?_
    rintro e q0 ⟨rfl, hb⟩
    have HB1 := Lib.hid hb
    clear hb
    go_wp2_with fail
    refine (HQN.out _ (HW0.out.on HB1.out)).mono ?_
    rintro e q1 ⟨rfl, hb⟩
    have HB2 := Lib.hid (HB1.out.trans (hb.mono HB1.out.size))
    clear hb
    go_wp2_with fail
    obtain ⟨y0, hy, HP0, HF0, HY⟩ := nx_boxes q1 4 x 0 0 Q.size 0 0
    rw [hy]
    clear hy
    have HB3 := Lib.hid (HB2.out.trans (HY.out.mono HB2.out.size))
    clear HY
    refine (HZC.out _ (HW0.out.on HB3.out)).mono ?_
    rintro e q2 ⟨rfl, hb⟩
    have HB4 := Lib.hid hb
    clear hb
    go_wp2_with fail
    refine (HZN.out _ ((HW0.out.on HB3.out).on HB4.out)).mono ?_
    rintro e q3 ⟨rfl, hb⟩
    have HB5 := Lib.hid (HB4.out.trans (hb.mono HB4.out.size))
    clear hb
    go_upto_region 5 with (fail)
    obtain ⟨y1, hy, HP1, HF1, HY⟩ := nx_boxes q3 5 x 0 0 Z.size 0 0
    rw [hy]
    clear hy
    have HB6 := Lib.hid (HB5.out.trans (HY.out.mono HB5.out.size))
    have HB7 := Lib.hid (HB3.out.trans (HB6.out.mono HB3.out.size))
    have HP0 := Lib.hid (HP0.out.on HB6.out)
    have HF0 := Lib.hid (HF0.out.on HB6.out)
    clear HY
    have HCEL : Hid (∀ X : World, Below y1.heap.size y1 X → X.cell? ⟨q1.heap.size, 0, none⟩ = some (.int .u8 4) ∧ X.cell? ⟨q1.heap.size, 1, none⟩ = some (.string x) ∧ X.cell? ⟨q1.heap.size, 4, none⟩ = some (.int .i64 Q.size) ∧ X.cell? ⟨q3.heap.size, 0, none⟩ = some (.int .u8 5) ∧ X.cell? ⟨q3.heap.size, 1, none⟩ = some (.string x) ∧ X.cell? ⟨q3.heap.size, 4, none⟩ = some (.int .i64 Z.size) ∧ X.cell? ⟨q1.heap.size + 1, 0, none⟩ = some (.int .i64 0) ∧ X.cell? ⟨q3.heap.size + 1, 0, none⟩ = some (.int .i64 0)) := Lib.hid fun X hX =>
      ⟨(HP0.out.on hX).cells.1, (HP0.out.on hX).cells.2.1, (HP0.out.on hX).cells.2.2.2.2, (HP1.out.on hX).cells.1, (HP1.out.on hX).cells.2.1, (HP1.out.on hX).cells.2.2.2.2, (HF0.out.on hX).cells.1, (HF1.out.on hX).cells.1⟩
    have hw00 : IntKind.i64.wrap 0 = 0 := by decide
    have HC := Lib.hid (Below.refl y1.heap.size y1)
    have HWY := Lib.hid (HW0.out.on HB7.out)
    go_region_held3 (fun X => X.cell? ⟨q1.heap.size, 0, none⟩ = some (.int .u8 4) ∧ X.cell? ⟨q1.heap.size, 1, none⟩ = some (.string x) ∧ X.cell? ⟨q1.heap.size, 4, none⟩ = some (.int .i64 Q.size) ∧ X.cell? ⟨q3.heap.size, 0, none⟩ = some (.int .u8 5) ∧ X.cell? ⟨q3.heap.size, 1, none⟩ = some (.string x) ∧ X.cell? ⟨q3.heap.size, 4, none⟩ = some (.int .i64 Z.size) ∧ X.cell? ⟨q1.heap.size + 1, 0, none⟩ = some (.int .i64 0) ∧ X.cell? ⟨q3.heap.size + 1, 0, none⟩ = some (.int .i64 0))
      (first | exact HCEL.out _ HC.out | exact HCEL.out _ (drewR HC.out))
      (first
        | (go_at_call 9; refine (HQC.out _ (by first | exact HWY.out.on HC.out | exact HWY.out.on (drewR HC.out))).mono ?_; rintro e z0 ⟨rfl, hb⟩; have HC := Lib.hid (show Below y1.heap.size y1 z0 by first | exact Below.trans HC.out (hb.mono HC.out.size) | exact Below.trans (drewR HC.out) (hb.mono HC.out.size)); clear hb)
        | (go_at_call 11; refine (HZC.out _ (by first | exact HWY.out.on HC.out | exact HWY.out.on (drewR HC.out))).mono ?_; rintro e z1 ⟨rfl, hb⟩; have HC := Lib.hid (show Below y1.heap.size y1 z1 by first | exact Below.trans HC.out (hb.mono HC.out.size) | exact Below.trans (drewR HC.out) (hb.mono HC.out.size)); clear hb))
    clear hw00
    go_wp2_with fail
    have HBW := Lib.hid (HB7.out.trans (HC.out.mono HB7.out.size))
    generalize hze : z1 = wz at *
    clear hze
    go_loopw [7, 8, 9, 10] (fun v7 v8 v9 v10 wr => BackRel x.data.toList w v7 v8 v9 v10 wr) (fun _ _ v9 _ _ => x.size - (intOf v9).toNat)
    case atStart => exact ⟨[], 0, Nat.zero_le _, rfl, rfl, rfl, World.ownsRow_nil _ _ _ _, fun r h => (by cases h), Nat.zero_le _, Nat.le_refl _, HBW.out⟩
    case round =>
      obtain ⟨rs, at_, hat, rfl, rfl, rfl, hown, hok, hjl, hrl, hbr⟩ := hrel
      have hlen : x.data.toList.length = x.size := by simp
      rw [hlen] at hat
      have hats : at_ ≤ x.size := hat
      have h2100 : (rs.length : Int) < 2100 := by omega
      obtain ⟨⟨⟨kk, S, N, n⟩, p⟩, hnx⟩ : ∃ T, NxOf x.data.toList at_ = T := ⟨_, rfl⟩
      have hple := nx_le hnx (by omega)
      dsimp only at hple
      have hp2 : p + n ≤ x.size := by omega
      have hkp : at_ ≤ p := hple.1
      obtain ⟨A7, c7, rfl⟩ := hown.form
      have HBR := Lib.hid hbr
      have HOWN := Lib.hid hown
      have HOK := Lib.hid hok
      have HJL := Lib.hid hjl
      clear hbr hown hok hjl hple hlen hat
      by_cases hk0 : kk = 0
      · subst hk0
        have HN1 := Lib.hid (fun (X : World) (h : Wv X) => Next_no x at_ X (by omega) hats h S N n p hnx)
        clear hnx
        go_wp2_with fail
        refine (HN1.out _ (HW0.out.on HBR.out)).mono ?_
        rintro e x0 ⟨rfl, hb⟩
        have HB8 := Lib.hid hb
        clear hb
        go_upto_region 14 with (fail)
        obtain ⟨y2, hy, HP2, HF2, HY⟩ := nx_boxes x0 0 nb 0 0 0 100 p
        rw [hy]
        clear hy
        have HB9 := Lib.hid (HB8.out.trans (HY.out.mono HB8.out.size))
        have HB10 := Lib.hid (HBR.out.trans (HB9.out.mono HBR.out.size))
        clear HY
        obtain ⟨c0, c1, c2, c3, c4⟩ := HP2.out.cells
        obtain ⟨f0, f1⟩ := HF2.out.cells
        have HOW := Lib.hid (HOWN.out.onB HB9.out)
        obtain ⟨J, HJ⟩ : ∃ J : ByteArray, Hid ((⟨(joinR rs).toArray⟩ : ByteArray) = J) := ⟨_, Lib.hid rfl⟩
        have HJD := Lib.hid (show J.data.toList = joinR rs by rw [← HJ.out])
        have hjs : J.size ≤ 65536 := by
          have h1 : J.data.toList.length = J.size := by simp
          rw [HJD.out] at h1
          have := HJL.out
          omega
        rw [HJ.out]
        clear hrl
        go_wp2_with fail
        go_loopw [9, 132] (fun v9 t wr => AgainRel rs w (.slice A7 rs.length c7) v9 t wr) (fun _ t _ => rs.length - (intOf t).toNat)
        case atStart => exact ⟨0, Nat.zero_le _, rfl, rfl, HOW.out, HB10.out⟩
        case round =>
          obtain ⟨i, hi, rfl, rfl, how, hbi⟩ := hrel
          have HBI := Lib.hid hbi
          have hai : atI rs i ≤ J.size := by
            have h1 : J.data.toList.length = J.size := by simp
            rw [HJD.out] at h1
            have := atI_le rs i
            omega
          clear hbi
          by_cases hlt : i < rs.length
          · obtain ⟨p2, hn2, he2⟩ := back_next HOK.out (List.getElem?_eq_getElem hlt)
            obtain ⟨ok1, ok2, _, ok4, _⟩ := HOK.out _ (List.getElem_mem hlt)
            have hcw := cellsW_get rs i _ (List.getElem?_eq_getElem hlt)
            obtain ⟨⟨seg, ⟨k3, S3, N3, n3⟩, p3⟩, hr3⟩ : ∃ r, rs[i] = r := ⟨_, rfl⟩
            rw [hr3] at hn2 he2 ok1 ok2 ok4 hcw
            dsimp only at hn2 he2 ok1 ok2 ok4 hcw
            rw [← HJD.out] at hn2
            obtain ⟨g7, cc7, hv7, hcc, hcm, hg7, hread⟩ := how.read (by omega)
            obtain ⟨rfl, _, rfl⟩ : A7 = some ⟨g7, 0, none⟩ ∧ True ∧ c7 = cc7 := by
              injection hv7 with h1 h2 h3
              exact ⟨h1, trivial, h3⟩
            obtain ⟨S3', HS3⟩ : ∃ S3', Hid ((⟨S3.toArray⟩ : ByteArray) = S3') := ⟨_, Lib.hid rfl⟩
            obtain ⟨r0, r1, r2⟩ := hcw
            rw [HS3.out] at r1
            have HC0 := Lib.hid (hread _ _ r0)
            have HC1 := Lib.hid (hread _ _ r1)
            have HC2 := Lib.hid (hread _ _ r2)
            have HHOW := Lib.hid how
            have HN3 := Lib.hid (fun (X : World) (h : Wv X) => Next_yes J (atI rs i) X hjs hai h k3 S3 N3 n3 p2 ok1 hn2 (atI rs (i + 1)) he2)
            rw [HS3.out] at HN3
            have hai2 : atI rs (i + 1) ≤ 65536 := by
              have h1 : J.data.toList.length = J.size := by simp
              rw [HJD.out] at h1
              have := atI_le rs (i + 1)
              omega
            clear hn2 he2 r0 r1 r2 hread how hr3 ok4 hv7
            go_wp2_with fail
            refine (HN3.out _ (HW0.out.on HBI.out)).mono ?_
            rintro e x1 ⟨rfl, hb⟩
            have HB11 := Lib.hid hb
            clear hb
            go_upto_region 25 with (fail)
            obtain ⟨y3, hy, HP3, HF3, HY⟩ := nx_boxes x1 k3 S3' N3 p2 (atI rs (i + 1)) 0 0
            rw [hy]
            clear hy
            have HB12 := Lib.hid (HB11.out.trans (HY.out.mono HB11.out.size))
            have HB13 := Lib.hid (HBI.out.trans (HB12.out.mono HBI.out.size))
            clear HY
            obtain ⟨c0, c1, c2, c3, c4⟩ := HP3.out.cells
            obtain ⟨f0, f1⟩ := HF3.out.cells
            have e0 := (HB12.out.cell (p := ⟨g7, i * 5, none⟩) hg7).trans HC0.out
            have e1 := (HB12.out.cell (p := ⟨g7, i * 5 + 1, none⟩) hg7).trans HC1.out
            have e2 := (HB12.out.cell (p := ⟨g7, i * 5 + 2, none⟩) hg7).trans HC2.out
            have HAG : Hid (∀ X : World, Below y3.heap.size y3 X → AgainRel rs w (.slice (some ⟨g7, 0, none⟩) rs.length c7) (.int .i64 (atI rs (i + 1) : Int)) (.int .i64 ((i + 1 : Nat) : Int)) X) := Lib.hid fun X hX => ⟨i + 1, hlt, rfl, rfl, (HHOW.out.onB HB12.out).onB hX, HB13.out.trans (hX.mono HB13.out.size)⟩
            generalize hat3 : atI rs (i + 1) = a3 at *
            clear hat3
            go_quiet (fail)
            go_wp2_with fail
            go_roundw
            case rel => exact HAG.out _ (drewNB _ _)
            case measure =>
              simp [intOf]
              omega
          · obtain rfl : i = rs.length := by omega
            obtain ⟨p2, hn2⟩ := back_end rs
            rw [← HJD.out] at hn2
            have HN3 := Lib.hid (fun (X : World) (h : Wv X) => Next_yes J (atI rs rs.length) X hjs hai h 7 [] 0 0 p2 (by omega) hn2 p2 rfl)
            clear hn2 how
            go_wp2_with fail
            refine (HN3.out _ (HW0.out.on HBI.out)).mono ?_
            rintro e x1 ⟨rfl, hb⟩
            have HB11 := Lib.hid hb
            clear hb
            go_upto_region 30 with (fail)
            obtain ⟨y3, hy, HP3, HF3, HY⟩ := nx_boxes x1 7 nb 0 p2 p2 0 0
            rw [hy]
            clear hy
            have HB12 := Lib.hid (HB11.out.trans (HY.out.mono HB11.out.size))
            have HB13 := Lib.hid (HBI.out.trans (HB12.out.mono HBI.out.size))
            clear HY
            obtain ⟨c0, c1, c2, c3, c4⟩ := HP3.out.cells
            obtain ⟨f0, f1⟩ := HF3.out.cells
            go_wp2_with fail
            refine (HAW.out _ HB13.out).mono ?_
            rintro e x9 ⟨rfl, hb⟩
            go_wp2_with fail
            go_ret
            exact ⟨rfl, hb⟩
      · by_cases hk7 : kk = 7
        · have h7 : ((kk : Int) == 7) = true := by simp [hk7]
          clear hk7
          obtain ⟨m2, hm2⟩ : ∃ m2, p + n = m2 := ⟨_, rfl⟩
          have HN1 := Lib.hid (fun (X : World) (h : Wv X) => Next_yes x at_ X (by omega) hats h kk S N n p hk0 hnx m2 hm2)
          obtain ⟨S', HS⟩ : ∃ S', Hid ((⟨S.toArray⟩ : ByteArray) = S') := ⟨_, Lib.hid rfl⟩
          rw [HS.out] at HN1
          have hm2s : m2 ≤ x.size := by omega
          go_wp2_with fail
          refine (HN1.out _ (HW0.out.on HBR.out)).mono ?_
          rintro e x0 ⟨rfl, hb⟩
          have HB8 := Lib.hid hb
          clear hb
          go_upto_region 14 with (fail)
          obtain ⟨y2, hy, HP2, HF2, HY⟩ := nx_boxes x0 kk S' N p m2 0 0
          rw [hy]
          clear hy
          have HB9 := Lib.hid (HB8.out.trans (HY.out.mono HB8.out.size))
          have HB10 := Lib.hid (HBR.out.trans (HB9.out.mono HBR.out.size))
          clear HY
          obtain ⟨c0, c1, c2, c3, c4⟩ := HP2.out.cells
          obtain ⟨f0, f1⟩ := HF2.out.cells
          clear hnx
          have HOW := Lib.hid (HOWN.out.onB HB9.out)
          obtain ⟨J, HJ⟩ : ∃ J : ByteArray, Hid ((⟨(joinR rs).toArray⟩ : ByteArray) = J) := ⟨_, Lib.hid rfl⟩
          have HJD := Lib.hid (show J.data.toList = joinR rs by rw [← HJ.out])
          have hjs : J.size ≤ 65536 := by
            have h1 : J.data.toList.length = J.size := by simp
            rw [HJD.out] at h1
            have := HJL.out
            omega
          rw [HJ.out]
          clear hrl
          go_wp2_with fail
          go_loopw [9, 132] (fun v9 t wr => AgainRel rs w (.slice A7 rs.length c7) v9 t wr) (fun _ t _ => rs.length - (intOf t).toNat)
          case atStart => exact ⟨0, Nat.zero_le _, rfl, rfl, HOW.out, HB10.out⟩
          case round =>
            obtain ⟨i, hi, rfl, rfl, how, hbi⟩ := hrel
            have HBI := Lib.hid hbi
            have hai : atI rs i ≤ J.size := by
              have h1 : J.data.toList.length = J.size := by simp
              rw [HJD.out] at h1
              have := atI_le rs i
              omega
            clear hbi
            by_cases hlt : i < rs.length
            · obtain ⟨p2, hn2, he2⟩ := back_next HOK.out (List.getElem?_eq_getElem hlt)
              obtain ⟨ok1, ok2, _, ok4, _⟩ := HOK.out _ (List.getElem_mem hlt)
              have hcw := cellsW_get rs i _ (List.getElem?_eq_getElem hlt)
              obtain ⟨⟨seg, ⟨k3, S3, N3, n3⟩, p3⟩, hr3⟩ : ∃ r, rs[i] = r := ⟨_, rfl⟩
              rw [hr3] at hn2 he2 ok1 ok2 ok4 hcw
              dsimp only at hn2 he2 ok1 ok2 ok4 hcw
              rw [← HJD.out] at hn2
              obtain ⟨g7, cc7, hv7, hcc, hcm, hg7, hread⟩ := how.read (by omega)
              obtain ⟨rfl, _, rfl⟩ : A7 = some ⟨g7, 0, none⟩ ∧ True ∧ c7 = cc7 := by
                injection hv7 with h1 h2 h3
                exact ⟨h1, trivial, h3⟩
              obtain ⟨S3', HS3⟩ : ∃ S3', Hid ((⟨S3.toArray⟩ : ByteArray) = S3') := ⟨_, Lib.hid rfl⟩
              obtain ⟨r0, r1, r2⟩ := hcw
              rw [HS3.out] at r1
              have HC0 := Lib.hid (hread _ _ r0)
              have HC1 := Lib.hid (hread _ _ r1)
              have HC2 := Lib.hid (hread _ _ r2)
              have HHOW := Lib.hid how
              have HN3 := Lib.hid (fun (X : World) (h : Wv X) => Next_yes J (atI rs i) X hjs hai h k3 S3 N3 n3 p2 ok1 hn2 (atI rs (i + 1)) he2)
              rw [HS3.out] at HN3
              have hai2 : atI rs (i + 1) ≤ 65536 := by
                have h1 : J.data.toList.length = J.size := by simp
                rw [HJD.out] at h1
                have := atI_le rs (i + 1)
                omega
              clear hn2 he2 r0 r1 r2 hread how hr3 ok4 hv7
              go_wp2_with fail
              refine (HN3.out _ (HW0.out.on HBI.out)).mono ?_
              rintro e x1 ⟨rfl, hb⟩
              have HB11 := Lib.hid hb
              clear hb
              go_upto_region 25 with (fail)
              obtain ⟨y3, hy, HP3, HF3, HY⟩ := nx_boxes x1 k3 S3' N3 p2 (atI rs (i + 1)) 0 0
              rw [hy]
              clear hy
              have HB12 := Lib.hid (HB11.out.trans (HY.out.mono HB11.out.size))
              have HB13 := Lib.hid (HBI.out.trans (HB12.out.mono HBI.out.size))
              clear HY
              obtain ⟨c0, c1, c2, c3, c4⟩ := HP3.out.cells
              obtain ⟨f0, f1⟩ := HF3.out.cells
              have e0 := (HB12.out.cell (p := ⟨g7, i * 5, none⟩) hg7).trans HC0.out
              have e1 := (HB12.out.cell (p := ⟨g7, i * 5 + 1, none⟩) hg7).trans HC1.out
              have e2 := (HB12.out.cell (p := ⟨g7, i * 5 + 2, none⟩) hg7).trans HC2.out
              have HAG : Hid (∀ X : World, Below y3.heap.size y3 X → AgainRel rs w (.slice (some ⟨g7, 0, none⟩) rs.length c7) (.int .i64 (atI rs (i + 1) : Int)) (.int .i64 ((i + 1 : Nat) : Int)) X) := Lib.hid fun X hX => ⟨i + 1, hlt, rfl, rfl, (HHOW.out.onB HB12.out).onB hX, HB13.out.trans (hX.mono HB13.out.size)⟩
              generalize hat3 : atI rs (i + 1) = a3 at *
              clear hat3
              go_quiet (fail)
              go_wp2_with fail
              go_roundw
              case rel => exact HAG.out _ (drewNB _ _)
              case measure =>
                simp [intOf]
                omega
            · obtain rfl : i = rs.length := by omega
              obtain ⟨p2, hn2⟩ := back_end rs
              rw [← HJD.out] at hn2
              have HN3 := Lib.hid (fun (X : World) (h : Wv X) => Next_yes J (atI rs rs.length) X hjs hai h 7 [] 0 0 p2 (by omega) hn2 p2 rfl)
              clear hn2 how
              go_wp2_with fail
              refine (HN3.out _ (HW0.out.on HBI.out)).mono ?_
              rintro e x1 ⟨rfl, hb⟩
              have HB11 := Lib.hid hb
              clear hb
              go_upto_region 30 with (fail)
              obtain ⟨y3, hy, HP3, HF3, HY⟩ := nx_boxes x1 7 nb 0 p2 p2 0 0
              rw [hy]
              clear hy
              have HB12 := Lib.hid (HB11.out.trans (HY.out.mono HB11.out.size))
              have HB13 := Lib.hid (HBI.out.trans (HB12.out.mono HBI.out.size))
              clear HY
              obtain ⟨c0, c1, c2, c3, c4⟩ := HP3.out.cells
              obtain ⟨f0, f1⟩ := HF3.out.cells
              go_wp2_with fail
              refine (HAW.out _ HB13.out).mono ?_
              rintro e x9 ⟨rfl, hb⟩
              go_wp2_with fail
              go_ret
              exact ⟨rfl, hb⟩
        · have h7 : ((kk : Int) == 7) = false := beq_eq_false_iff_ne.2 (by omega)
          have hrec := rec_of hnx hk0 hk7
          obtain ⟨m2, hm2⟩ : ∃ m2, p + n = m2 := ⟨_, rfl⟩
          have HN1 := Lib.hid (fun (X : World) (h : Wv X) => Next_yes x at_ X (by omega) hats h kk S N n p hk0 hnx m2 hm2)
          obtain ⟨S', HS⟩ : ∃ S', Hid ((⟨S.toArray⟩ : ByteArray) = S') := ⟨_, Lib.hid rfl⟩
          rw [HS.out] at HN1
          have hm2s : m2 ≤ x.size := by omega
          go_wp2_with fail
          refine (HN1.out _ (HW0.out.on HBR.out)).mono ?_
          rintro e x0 ⟨rfl, hb⟩
          have HB8 := Lib.hid hb
          clear hb
          go_upto_region 14 with (fail)
          obtain ⟨y2, hy, HP2, HF2, HY⟩ := nx_boxes x0 kk S' N p m2 0 0
          rw [hy]
          clear hy
          have HB9 := Lib.hid (HB8.out.trans (HY.out.mono HB8.out.size))
          have HB10 := Lib.hid (HBR.out.trans (HB9.out.mono HBR.out.size))
          clear HY
          obtain ⟨c0, c1, c2, c3, c4⟩ := HP2.out.cells
          obtain ⟨f0, f1⟩ := HF2.out.cells
          have HREC := Lib.hid hrec
          have hn0 : 0 < n := by
            have h1 := HREC.out.2.2.1
            have h2 := HREC.out.2.2.2.1
            dsimp only at h1 h2
            omega
          obtain ⟨r, HR⟩ : ∃ r : Rec, Hid (((x.data.toList.drop p).take n, (kk, S, N, n), p) = r) := ⟨_, Lib.hid rfl⟩
          rw [HR.out] at HREC
          have hcs : (#[.int .u8 (kk : Int), .string S', .int .i64 N, .int .i64 (p : Int), .int .i64 (m2 : Int)] : Array Value) = (cellsW [r]).toArray := by
            rw [← HR.out, ← HS.out, ← hm2]
            rfl
          have HCS := Lib.hid hcs
          have HOWN2 := Lib.hid (HOWN.out.onB HB9.out)
          have hgt : p < m2 := by omega
          have hat2 : ¬ (p : Int) < (at_ : Int) := by omega
          clear hnx hrec hcs hk0 hk7
          go_upto_region 18 with (fail)
          go_upto_region 19 with (at_builtin; refine wpList_appW rfl (.tmp 117) (.tmp 119) rfl w.heap.size _ rs rfl HOWN2.out r _ HCS.out rfl (by omega) HB10.out.size ?_; intro v7 w7 h1 h2 h3)
          have hob : (Value.slice A7 rs.length c7).ownBlock ≠ some x0.heap.size := by
            intro h
            have h4 := (World.ownsRow.lt HOWN.out _ h).2
            have h5 := HB8.out.size
            omega
          have hbx : Box5 w7 x0.heap.size kk S' N p m2 := (h3.out _ HP2.out.lt hob).trans HP2.out
          obtain ⟨c0, c1, c2, c3, c4⟩ := hbx.cells
          have HB14 := Lib.hid (HB10.out.trans h2.out)
          have hjs : (joinR rs).length ≤ 20000 := by have := HJL.out; omega
          have HX := Lib.hid (show (x.extract p m2).data.toList = r.1 by rw [← hm2, ext_mid, ← HR.out])
          have HRN := Lib.hid (show r.1.length = n by have := HREC.out.2.2.2.1; rw [← HR.out] at this ⊢; exact this.symm)
          have hxe : (x.extract p m2).size ≤ 2000 := by simp; omega
          obtain ⟨J, HJ⟩ : ∃ J : ByteArray, Hid ((⟨(joinR rs).toArray⟩ : ByteArray) = J) := ⟨_, Lib.hid rfl⟩
          have hJ : J.size ≤ 20000 := by
            rw [← HJ.out]
            show (joinR rs).toArray.size ≤ 20000
            rw [List.size_toArray]
            exact hjs
          rw [HJ.out]
          have HFIN : Hid (∀ Y : ByteArray, Y.data.toList = joinR rs ++ (r.1 ++ M.sepL) → BackRel x.data.toList w v7 (.string Y) (.int .i64 (m2 : Int)) (.int .i64 ((rs.length + 1 : Nat) : Int)) w7) := Lib.hid fun Y hY => by
            refine ⟨rs ++ [r], m2, by simpa using hm2s, rfl, by rw [List.length_append]; rfl, ?_, h1.out, fun r' hr' => ?_, ?_, ?_, HB14.out⟩
            · rw [joinR_snoc, ← hY, ba_eta]
            · rcases List.mem_append.1 hr' with h | h
              · exact HOK.out r' h
              · rw [List.mem_singleton] at h
                rw [h]
                exact HREC.out
            · rw [joinR_snoc, List.length_append, List.length_append, sep9, HRN.out]
              have := HJL.out
              omega
            · rw [List.length_append]
              simp
              omega
          clear h1 h2 h3 hob hbx hjs
          go_wp2_with fail
          go_roundw
          case rel => exact HFIN.out _ (by rw [cat3, HX.out, ← HJ.out]; rfl)
          case measure =>
            have := HRN.out
            simp [intOf]
            omega
end Go.Proofs.YtfoepciempoakaaDoor
