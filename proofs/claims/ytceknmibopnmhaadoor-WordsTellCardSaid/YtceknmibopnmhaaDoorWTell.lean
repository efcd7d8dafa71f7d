/-
  Layer 9: WordsTell's walk. Conditions: sizes; the library's variables are as its text lays them.
-/
import Derived.Test.YtceknmibopnmhaaDoorWRefI
import Derived.Test.YtceknmibopnmhaaDoorWLoc
namespace Go.Proofs.YtceknmibopnmhaaDoor
open Go.ChangeShapes Go.WideShapes Go.ChangeAt Go.RowKit
set_option linter.unusedVariables false

set_option maxRecDepth 100000 in
set_option maxHeartbeats 4000000 in
theorem tell_long (s : ByteArray) (at_ : Int) (w : World) (h : 65536 < s.size) (hs : s.size ≤ 9223372036854775807) (hW : Wv w) :
    Calls Tryd.prog 3 #[.string s, .int .i64 at_] w fun e w' => e = .returned (.bool true) ∧ Below w.heap.size w w' := by
  have HW0 := Lib.hid hW
  have HN1 := Lib.hid (Next_long s at_ w h)
  have HN2 := Lib.hid (fun (X : World) => rNext_long s at_ X h)
  have hl1 : decide ((3000 : Int) < (s.size : Int)) = true := decide_eq_true (by omega)
  have hl2 : decide ((s.size : Int) ≤ 65536) = false := decide_eq_false (by omega)
  have hl3 : decide ((65536 : Int) < (s.size : Int)) = true := decide_eq_true (by omega)
  clear h hW hs
  go_enter Tryd.func3, Tryd.ntmps3
  go_wp2_with fail
  refine (HN1.out).mono ?_
  rintro e x0 ⟨rfl, hb0⟩
  have hbh0 := Lib.hid hb0
  clear hb0
  go_wp2_with fail
  obtain ⟨y0, hy0, HP0, HQ0, HY0⟩ := nx_boxes x0 0 nb 0 0 0 3 0
  rw [hy0]
  clear hy0
  have HB1 := Lib.hid (hbh0.out.trans (HY0.out.mono hbh0.out.size))
  have HW1 := Lib.hid (HW0.out.on HB1.out)
  refine (HN2.out _).mono ?_
  rintro e x1 ⟨rfl, hb1⟩
  have hbh1 := Lib.hid hb1
  clear hb1
  go_upto_region 5 with (fail)
  obtain ⟨y1, hy1, HP1, HQ1, HY1⟩ := nx_boxes x1 0 nb 0 0 0 3 0
  rw [hy1]
  clear hy1
  have HZ1 := Lib.hid (hbh1.out.trans (HY1.out.mono hbh1.out.size))
  have HB2 := Lib.hid (HB1.out.trans (HZ1.out.mono HB1.out.size))
  have HW2 := Lib.hid (HW1.out.on HZ1.out)
  obtain ⟨a0, a1, a2, a3, a4⟩ := (HP0.out.on HZ1.out).cells
  obtain ⟨b0, b1, b2, b3, b4⟩ := HP1.out.cells
  obtain ⟨d0, d1⟩ := (HQ0.out.on HZ1.out).cells
  obtain ⟨e0, e1⟩ := HQ1.out.cells
  go_wp2_with fail
  clear a0 a1 a2 a3 a4 b0 b1 b2 b3 b4 d0 d1 e0 e1
  refine (awake_any _ HW2.out).mono ?_
  rintro e z ⟨rfl, hz⟩
  go_wp2_with fail
  go_ret
  exact ⟨rfl, HB2.out.trans (hz.mono HB2.out.size)⟩
set_option maxRecDepth 100000 in
set_option maxHeartbeats 4000000 in
theorem tell_short (s : ByteArray) (at_ : Int) (w : World) (hs : s.size ≤ 3000) (hW : Wv w) :
    Calls Tryd.prog 3 #[.string s, .int .i64 at_] w fun e w' => e = .returned (.bool true) ∧ Below w.heap.size w w' := by
  have HW0 := Lib.hid hW
  have hl1 : decide ((3000 : Int) < (s.size : Int)) = false := decide_eq_false (by omega)
  clear hW
  have HQU := Lib.hid (fun (X : World) (h : Wv X) => Quote_any s X (by omega) h)
  have HRQ := Lib.hid (fun (X : World) => rQuote_any s X (by omega))
  have HHX := Lib.hid (fun (X : World) => Hex_any s X (by omega))
  have HRH := Lib.hid (fun (X : World) => rHex_any s X (by omega))
  obtain ⟨yq, HYQ⟩ : ∃ y : ByteArray, Hid (⟨(M.quoteL s.data.toList).toArray⟩ = y) := ⟨_, Lib.hid rfl⟩
  obtain ⟨yh, HYH⟩ : ∃ y : ByteArray, Hid (⟨(M.hexT s.data.toList).toArray⟩ = y) := ⟨_, Lib.hid rfl⟩
  rw [HYQ.out] at HQU HRQ
  rw [HYH.out] at HHX HRH
  by_cases hat : at_ < 0 ∨ (s.size : Int) < at_
  · have HN1 := Lib.hid (Next_arg s at_ w (by omega) hat)
    have HN2 := Lib.hid (fun (X : World) => rNext_arg s at_ X (by omega) hat)
    clear hat
    go_enter Tryd.func3, Tryd.ntmps3
    go_wp2_with fail
    refine (HN1.out).mono ?_
    rintro e x0 ⟨rfl, hb0⟩
    have hbh0 := Lib.hid hb0
    clear hb0
    go_wp2_with fail
    obtain ⟨y0, hy0, HP0, HQ0, HY0⟩ := nx_boxes x0 0 nb 0 0 0 2 0
    rw [hy0]
    clear hy0
    have HB1 := Lib.hid (hbh0.out.trans (HY0.out.mono hbh0.out.size))
    have HW1 := Lib.hid (HW0.out.on HB1.out)
    refine (HN2.out _).mono ?_
    rintro e x1 ⟨rfl, hb1⟩
    have hbh1 := Lib.hid hb1
    clear hb1
    go_upto_region 5 with (fail)
    obtain ⟨y1, hy1, HP1, HQ1, HY1⟩ := nx_boxes x1 0 nb 0 0 0 2 0
    rw [hy1]
    clear hy1
    have HZ1 := Lib.hid (hbh1.out.trans (HY1.out.mono hbh1.out.size))
    have HB2 := Lib.hid (HB1.out.trans (HZ1.out.mono HB1.out.size))
    have HW2 := Lib.hid (HW1.out.on HZ1.out)
    obtain ⟨a0, a1, a2, a3, a4⟩ := (HP0.out.on HZ1.out).cells
    obtain ⟨b0, b1, b2, b3, b4⟩ := HP1.out.cells
    obtain ⟨d0, d1⟩ := (HQ0.out.on HZ1.out).cells
    obtain ⟨e0, e1⟩ := HQ1.out.cells
    go_wp2_with fail
    clear a0 a1 a2 a3 a4 b0 b1 b2 b3 b4 d0 d1 e0 e1
    refine (HQU.out _ HW2.out).mono ?_
    rintro e z1 ⟨rfl, hz1⟩
    have HB3 := Lib.hid (HB2.out.trans (hz1.mono HB2.out.size))
    clear hz1
    go_wp2_with fail
    refine (HRQ.out _).mono ?_
    rintro e z2 ⟨rfl, hz2⟩
    have HB4 := Lib.hid (HB3.out.trans (hz2.mono HB3.out.size))
    clear hz2
    go_wp2_with fail
    refine (HHX.out _).mono ?_
    rintro e z3 ⟨rfl, hz3⟩
    have HB5 := Lib.hid (HB4.out.trans (hz3.mono HB4.out.size))
    clear hz3
    go_wp2_with fail
    refine (HRH.out _).mono ?_
    rintro e z4 ⟨rfl, hz4⟩
    have HB6 := Lib.hid (HB5.out.trans (hz4.mono HB5.out.size))
    clear hz4
    go_wp2_with fail
    refine (awake_any _ (HW0.out.on HB6.out)).mono ?_
    rintro e z ⟨rfl, hz⟩
    go_wp2_with fail
    go_ret
    exact ⟨rfl, HB6.out.trans (hz.mono HB6.out.size)⟩
  · obtain ⟨j, hj⟩ : ∃ j : Nat, at_ = (j : Int) := ⟨at_.toNat, by omega⟩
    subst hj
    have hjs : j ≤ s.size := by omega
    obtain ⟨⟨⟨k, S, N, n⟩, p⟩, hnx⟩ : ∃ T, NxOf s.data.toList j = T := ⟨_, rfl⟩
    have hple := nx_le hnx (by simpa using hjs)
    dsimp only at hple
    have hp2 : p + n ≤ 3000 := by
      have h1 : s.data.toList.length = s.size := by simp
      omega
    clear hple hat
    by_cases hk : k = 0
    · subst hk
      have HN1 := Lib.hid (Next_no s j w (by omega) hjs HW0.out S N n p hnx)
      have HN2 := Lib.hid (fun (X : World) => rNext_no s j X (by omega) hjs S N n p hnx)
      clear hnx
      go_enter Tryd.func3, Tryd.ntmps3
      go_wp2_with fail
      refine (HN1.out).mono ?_
      rintro e x0 ⟨rfl, hb0⟩
      have hbh0 := Lib.hid hb0
      clear hb0
      go_wp2_with fail
      obtain ⟨y0, hy0, HP0, HQ0, HY0⟩ := nx_boxes x0 0 nb 0 0 0 100 p
      rw [hy0]
      clear hy0
      have HB1 := Lib.hid (hbh0.out.trans (HY0.out.mono hbh0.out.size))
      have HW1 := Lib.hid (HW0.out.on HB1.out)
      refine (HN2.out _).mono ?_
      rintro e x1 ⟨rfl, hb1⟩
      have hbh1 := Lib.hid hb1
      clear hb1
      go_upto_region 5 with (fail)
      obtain ⟨y1, hy1, HP1, HQ1, HY1⟩ := nx_boxes x1 0 nb 0 0 0 100 p
      rw [hy1]
      clear hy1
      have HZ1 := Lib.hid (hbh1.out.trans (HY1.out.mono hbh1.out.size))
      have HB2 := Lib.hid (HB1.out.trans (HZ1.out.mono HB1.out.size))
      have HW2 := Lib.hid (HW1.out.on HZ1.out)
      obtain ⟨a0, a1, a2, a3, a4⟩ := (HP0.out.on HZ1.out).cells
      obtain ⟨b0, b1, b2, b3, b4⟩ := HP1.out.cells
      obtain ⟨d0, d1⟩ := (HQ0.out.on HZ1.out).cells
      obtain ⟨e0, e1⟩ := HQ1.out.cells
      go_wp2_with fail
      clear a0 a1 a2 a3 a4 b0 b1 b2 b3 b4 d0 d1 e0 e1
      refine (HQU.out _ HW2.out).mono ?_
      rintro e z1 ⟨rfl, hz1⟩
      have HB3 := Lib.hid (HB2.out.trans (hz1.mono HB2.out.size))
      clear hz1
      go_wp2_with fail
      refine (HRQ.out _).mono ?_
      rintro e z2 ⟨rfl, hz2⟩
      have HB4 := Lib.hid (HB3.out.trans (hz2.mono HB3.out.size))
      clear hz2
      go_wp2_with fail
      refine (HHX.out _).mono ?_
      rintro e z3 ⟨rfl, hz3⟩
      have HB5 := Lib.hid (HB4.out.trans (hz3.mono HB4.out.size))
      clear hz3
      go_wp2_with fail
      refine (HRH.out _).mono ?_
      rintro e z4 ⟨rfl, hz4⟩
      have HB6 := Lib.hid (HB5.out.trans (hz4.mono HB5.out.size))
      clear hz4
      go_wp2_with fail
      refine (awake_any _ (HW0.out.on HB6.out)).mono ?_
      rintro e z ⟨rfl, hz⟩
      go_wp2_with fail
      go_ret
      exact ⟨rfl, HB6.out.trans (hz.mono HB6.out.size)⟩
    · obtain ⟨m, hm⟩ : ∃ m, p + n = m := ⟨_, rfl⟩
      have HN1 := Lib.hid (Next_yes s j w (by omega) hjs HW0.out k S N n p hk hnx m hm)
      have HN2 := Lib.hid (fun (X : World) => rNext_yes s j X (by omega) hjs k S N n p hk hnx m hm)
      obtain ⟨S', HS⟩ : ∃ S', Hid ((⟨S.toArray⟩ : ByteArray) = S') := ⟨_, Lib.hid rfl⟩
      rw [HS.out] at HN1 HN2
      clear hnx hm hk hp2
      go_enter Tryd.func3, Tryd.ntmps3
      go_wp2_with fail
      refine (HN1.out).mono ?_
      rintro e x0 ⟨rfl, hb0⟩
      have hbh0 := Lib.hid hb0
      clear hb0
      go_wp2_with fail
      obtain ⟨y0, hy0, HP0, HQ0, HY0⟩ := nx_boxes x0 k S' N p m 0 0
      rw [hy0]
      clear hy0
      have HB1 := Lib.hid (hbh0.out.trans (HY0.out.mono hbh0.out.size))
      have HW1 := Lib.hid (HW0.out.on HB1.out)
      refine (HN2.out _).mono ?_
      rintro e x1 ⟨rfl, hb1⟩
      have hbh1 := Lib.hid hb1
      clear hb1
      go_upto_region 5 with (fail)
      obtain ⟨y1, hy1, HP1, HQ1, HY1⟩ := nx_boxes x1 k S' N p m 0 0
      rw [hy1]
      clear hy1
      have HZ1 := Lib.hid (hbh1.out.trans (HY1.out.mono hbh1.out.size))
      have HB2 := Lib.hid (HB1.out.trans (HZ1.out.mono HB1.out.size))
      have HW2 := Lib.hid (HW1.out.on HZ1.out)
      obtain ⟨a0, a1, a2, a3, a4⟩ := (HP0.out.on HZ1.out).cells
      obtain ⟨b0, b1, b2, b3, b4⟩ := HP1.out.cells
      obtain ⟨d0, d1⟩ := (HQ0.out.on HZ1.out).cells
      obtain ⟨e0, e1⟩ := HQ1.out.cells
      go_wp2_with fail
      clear a0 a1 a2 a3 a4 b0 b1 b2 b3 b4 d0 d1 e0 e1
      refine (HQU.out _ HW2.out).mono ?_
      rintro e z1 ⟨rfl, hz1⟩
      have HB3 := Lib.hid (HB2.out.trans (hz1.mono HB2.out.size))
      clear hz1
      go_wp2_with fail
      refine (HRQ.out _).mono ?_
      rintro e z2 ⟨rfl, hz2⟩
      have HB4 := Lib.hid (HB3.out.trans (hz2.mono HB3.out.size))
      clear hz2
      go_wp2_with fail
      refine (HHX.out _).mono ?_
      rintro e z3 ⟨rfl, hz3⟩
      have HB5 := Lib.hid (HB4.out.trans (hz3.mono HB4.out.size))
      clear hz3
      go_wp2_with fail
      refine (HRH.out _).mono ?_
      rintro e z4 ⟨rfl, hz4⟩
      have HB6 := Lib.hid (HB5.out.trans (hz4.mono HB5.out.size))
      clear hz4
      go_wp2_with fail
      refine (awake_any _ (HW0.out.on HB6.out)).mono ?_
      rintro e z ⟨rfl, hz⟩
      go_wp2_with fail
      go_ret
      exact ⟨rfl, HB6.out.trans (hz.mono HB6.out.size)⟩
set_option maxRecDepth 100000 in
set_option maxHeartbeats 4000000 in
theorem tell_cut (s : ByteArray) (at_ : Int) (w : World) (hs : 3000 < s.size) (hs2 : s.size ≤ 65536) (hW : Wv w) :
    Calls Tryd.prog 3 #[.string s, .int .i64 at_] w fun e w' => e = .returned (.bool true) ∧ Below w.heap.size w w' := by
  have HW0 := Lib.hid hW
  have hl1 : decide ((3000 : Int) < (s.size : Int)) = true := decide_eq_true (by omega)
  have hl2 : decide ((s.size : Int) ≤ 65536) = true := decide_eq_true (by omega)
  obtain ⟨t, ht⟩ : ∃ t, s.extract 0 3000 = t := ⟨_, rfl⟩
  have hts : t.size ≤ 3000 := by rw [← ht]; simp; omega
  clear hW
  have HQU := Lib.hid (fun (X : World) (h : Wv X) => Quote_any t X (by omega) h)
  have HRQ := Lib.hid (fun (X : World) => rQuote_any t X (by omega))
  have HHX := Lib.hid (fun (X : World) => Hex_any t X (by omega))
  have HRH := Lib.hid (fun (X : World) => rHex_any t X (by omega))
  obtain ⟨yq, HYQ⟩ : ∃ y : ByteArray, Hid (⟨(M.quoteL t.data.toList).toArray⟩ = y) := ⟨_, Lib.hid rfl⟩
  obtain ⟨yh, HYH⟩ : ∃ y : ByteArray, Hid (⟨(M.hexT t.data.toList).toArray⟩ = y) := ⟨_, Lib.hid rfl⟩
  rw [HYQ.out] at HQU HRQ
  rw [HYH.out] at HHX HRH
  by_cases hat : at_ < 0 ∨ (t.size : Int) < at_
  · have HN1 := Lib.hid (Next_arg t at_ w (by omega) hat)
    have HN2 := Lib.hid (fun (X : World) => rNext_arg t at_ X (by omega) hat)
    clear hat
    go_enter Tryd.func3, Tryd.ntmps3
    go_wp2_with fail
    refine (HN1.out).mono ?_
    rintro e x0 ⟨rfl, hb0⟩
    have hbh0 := Lib.hid hb0
    clear hb0
    go_wp2_with fail
    obtain ⟨y0, hy0, HP0, HQ0, HY0⟩ := nx_boxes x0 0 nb 0 0 0 2 0
    rw [hy0]
    clear hy0
    have HB1 := Lib.hid (hbh0.out.trans (HY0.out.mono hbh0.out.size))
    have HW1 := Lib.hid (HW0.out.on HB1.out)
    refine (HN2.out _).mono ?_
    rintro e x1 ⟨rfl, hb1⟩
    have hbh1 := Lib.hid hb1
    clear hb1
    go_upto_region 5 with (fail)
    obtain ⟨y1, hy1, HP1, HQ1, HY1⟩ := nx_boxes x1 0 nb 0 0 0 2 0
    rw [hy1]
    clear hy1
    have HZ1 := Lib.hid (hbh1.out.trans (HY1.out.mono hbh1.out.size))
    have HB2 := Lib.hid (HB1.out.trans (HZ1.out.mono HB1.out.size))
    have HW2 := Lib.hid (HW1.out.on HZ1.out)
    obtain ⟨a0, a1, a2, a3, a4⟩ := (HP0.out.on HZ1.out).cells
    obtain ⟨b0, b1, b2, b3, b4⟩ := HP1.out.cells
    obtain ⟨d0, d1⟩ := (HQ0.out.on HZ1.out).cells
    obtain ⟨e0, e1⟩ := HQ1.out.cells
    go_wp2_with fail
    clear a0 a1 a2 a3 a4 b0 b1 b2 b3 b4 d0 d1 e0 e1
    refine (HQU.out _ HW2.out).mono ?_
    rintro e z1 ⟨rfl, hz1⟩
    have HB3 := Lib.hid (HB2.out.trans (hz1.mono HB2.out.size))
    clear hz1
    go_wp2_with fail
    refine (HRQ.out _).mono ?_
    rintro e z2 ⟨rfl, hz2⟩
    have HB4 := Lib.hid (HB3.out.trans (hz2.mono HB3.out.size))
    clear hz2
    go_wp2_with fail
    refine (HHX.out _).mono ?_
    rintro e z3 ⟨rfl, hz3⟩
    have HB5 := Lib.hid (HB4.out.trans (hz3.mono HB4.out.size))
    clear hz3
    go_wp2_with fail
    refine (HRH.out _).mono ?_
    rintro e z4 ⟨rfl, hz4⟩
    have HB6 := Lib.hid (HB5.out.trans (hz4.mono HB5.out.size))
    clear hz4
    go_wp2_with fail
    refine (awake_any _ (HW0.out.on HB6.out)).mono ?_
    rintro e z ⟨rfl, hz⟩
    go_wp2_with fail
    go_ret
    exact ⟨rfl, HB6.out.trans (hz.mono HB6.out.size)⟩
  · obtain ⟨j, hj⟩ : ∃ j : Nat, at_ = (j : Int) := ⟨at_.toNat, by omega⟩
    subst hj
    have hjs : j ≤ t.size := by omega
    obtain ⟨⟨⟨k, S, N, n⟩, p⟩, hnx⟩ : ∃ T, NxOf t.data.toList j = T := ⟨_, rfl⟩
    have hple := nx_le hnx (by simpa using hjs)
    dsimp only at hple
    have hp2 : p + n ≤ 3000 := by
      have h1 : t.data.toList.length = t.size := by simp
      omega
    clear hple hat
    by_cases hk : k = 0
    · subst hk
      have HN1 := Lib.hid (Next_no t j w (by omega) hjs HW0.out S N n p hnx)
      have HN2 := Lib.hid (fun (X : World) => rNext_no t j X (by omega) hjs S N n p hnx)
      clear hnx
      go_enter Tryd.func3, Tryd.ntmps3
      go_wp2_with fail
      refine (HN1.out).mono ?_
      rintro e x0 ⟨rfl, hb0⟩
      have hbh0 := Lib.hid hb0
      clear hb0
      go_wp2_with fail
      obtain ⟨y0, hy0, HP0, HQ0, HY0⟩ := nx_boxes x0 0 nb 0 0 0 100 p
      rw [hy0]
      clear hy0
      have HB1 := Lib.hid (hbh0.out.trans (HY0.out.mono hbh0.out.size))
      have HW1 := Lib.hid (HW0.out.on HB1.out)
      refine (HN2.out _).mono ?_
      rintro e x1 ⟨rfl, hb1⟩
      have hbh1 := Lib.hid hb1
      clear hb1
      go_upto_region 5 with (fail)
      obtain ⟨y1, hy1, HP1, HQ1, HY1⟩ := nx_boxes x1 0 nb 0 0 0 100 p
      rw [hy1]
      clear hy1
      have HZ1 := Lib.hid (hbh1.out.trans (HY1.out.mono hbh1.out.size))
      have HB2 := Lib.hid (HB1.out.trans (HZ1.out.mono HB1.out.size))
      have HW2 := Lib.hid (HW1.out.on HZ1.out)
      obtain ⟨a0, a1, a2, a3, a4⟩ := (HP0.out.on HZ1.out).cells
      obtain ⟨b0, b1, b2, b3, b4⟩ := HP1.out.cells
      obtain ⟨d0, d1⟩ := (HQ0.out.on HZ1.out).cells
      obtain ⟨e0, e1⟩ := HQ1.out.cells
      go_wp2_with fail
      clear a0 a1 a2 a3 a4 b0 b1 b2 b3 b4 d0 d1 e0 e1
      refine (HQU.out _ HW2.out).mono ?_
      rintro e z1 ⟨rfl, hz1⟩
      have HB3 := Lib.hid (HB2.out.trans (hz1.mono HB2.out.size))
      clear hz1
      go_wp2_with fail
      refine (HRQ.out _).mono ?_
      rintro e z2 ⟨rfl, hz2⟩
      have HB4 := Lib.hid (HB3.out.trans (hz2.mono HB3.out.size))
      clear hz2
      go_wp2_with fail
      refine (HHX.out _).mono ?_
      rintro e z3 ⟨rfl, hz3⟩
      have HB5 := Lib.hid (HB4.out.trans (hz3.mono HB4.out.size))
      clear hz3
      go_wp2_with fail
      refine (HRH.out _).mono ?_
      rintro e z4 ⟨rfl, hz4⟩
      have HB6 := Lib.hid (HB5.out.trans (hz4.mono HB5.out.size))
      clear hz4
      go_wp2_with fail
      refine (awake_any _ (HW0.out.on HB6.out)).mono ?_
      rintro e z ⟨rfl, hz⟩
      go_wp2_with fail
      go_ret
      exact ⟨rfl, HB6.out.trans (hz.mono HB6.out.size)⟩
    · obtain ⟨m, hm⟩ : ∃ m, p + n = m := ⟨_, rfl⟩
      have HN1 := Lib.hid (Next_yes t j w (by omega) hjs HW0.out k S N n p hk hnx m hm)
      have HN2 := Lib.hid (fun (X : World) => rNext_yes t j X (by omega) hjs k S N n p hk hnx m hm)
      obtain ⟨S', HS⟩ : ∃ S', Hid ((⟨S.toArray⟩ : ByteArray) = S') := ⟨_, Lib.hid rfl⟩
      rw [HS.out] at HN1 HN2
      clear hnx hm hk hp2
      go_enter Tryd.func3, Tryd.ntmps3
      go_wp2_with fail
      refine (HN1.out).mono ?_
      rintro e x0 ⟨rfl, hb0⟩
      have hbh0 := Lib.hid hb0
      clear hb0
      go_wp2_with fail
      obtain ⟨y0, hy0, HP0, HQ0, HY0⟩ := nx_boxes x0 k S' N p m 0 0
      rw [hy0]
      clear hy0
      have HB1 := Lib.hid (hbh0.out.trans (HY0.out.mono hbh0.out.size))
      have HW1 := Lib.hid (HW0.out.on HB1.out)
      refine (HN2.out _).mono ?_
      rintro e x1 ⟨rfl, hb1⟩
      have hbh1 := Lib.hid hb1
      clear hb1
      go_upto_region 5 with (fail)
      obtain ⟨y1, hy1, HP1, HQ1, HY1⟩ := nx_boxes x1 k S' N p m 0 0
      rw [hy1]
      clear hy1
      have HZ1 := Lib.hid (hbh1.out.trans (HY1.out.mono hbh1.out.size))
      have HB2 := Lib.hid (HB1.out.trans (HZ1.out.mono HB1.out.size))
      have HW2 := Lib.hid (HW1.out.on HZ1.out)
      obtain ⟨a0, a1, a2, a3, a4⟩ := (HP0.out.on HZ1.out).cells
      obtain ⟨b0, b1, b2, b3, b4⟩ := HP1.out.cells
      obtain ⟨d0, d1⟩ := (HQ0.out.on HZ1.out).cells
      obtain ⟨e0, e1⟩ := HQ1.out.cells
      go_wp2_with fail
      clear a0 a1 a2 a3 a4 b0 b1 b2 b3 b4 d0 d1 e0 e1
      refine (HQU.out _ HW2.out).mono ?_
      rintro e z1 ⟨rfl, hz1⟩
      have HB3 := Lib.hid (HB2.out.trans (hz1.mono HB2.out.size))
      clear hz1
      go_wp2_with fail
      refine (HRQ.out _).mono ?_
      rintro e z2 ⟨rfl, hz2⟩
      have HB4 := Lib.hid (HB3.out.trans (hz2.mono HB3.out.size))
      clear hz2
      go_wp2_with fail
      refine (HHX.out _).mono ?_
      rintro e z3 ⟨rfl, hz3⟩
      have HB5 := Lib.hid (HB4.out.trans (hz3.mono HB4.out.size))
      clear hz3
      go_wp2_with fail
      refine (HRH.out _).mono ?_
      rintro e z4 ⟨rfl, hz4⟩
      have HB6 := Lib.hid (HB5.out.trans (hz4.mono HB5.out.size))
      clear hz4
      go_wp2_with fail
      refine (awake_any _ (HW0.out.on HB6.out)).mono ?_
      rintro e z ⟨rfl, hz⟩
      go_wp2_with fail
      go_ret
      exact ⟨rfl, HB6.out.trans (hz.mono HB6.out.size)⟩
theorem tell_walk (s : ByteArray) (at_ : Int) (w : World) (hs : s.size ≤ 9223372036854775807) (hW : Wv w) :
    Calls Tryd.prog 3 #[.string s, .int .i64 at_] w fun e w' => e = .returned (.bool true) ∧ Below w.heap.size w w' := by
  by_cases h1 : 65536 < s.size
  · exact tell_long s at_ w h1 hs hW
  · by_cases h2 : 3000 < s.size
    · exact tell_cut s at_ w h2 (by omega) hW
    · exact tell_short s at_ w (by omega) hW
end Go.Proofs.YtceknmibopnmhaaDoor
