/-
  Layer 9: awake. Conditions: the library's variables are as its text lays them.
-/
import Derived.Test.YtceknmibopnmhaaDoorWQH
namespace Go.Proofs.YtceknmibopnmhaaDoor
open Go.ChangeShapes Go.WideShapes Go.ChangeAt Go.RowKit
set_option linter.unusedVariables false

theorem nx_boxes (X : World) (k : Int) (S : ByteArray) (N a e err pl : Int) : ∃ Y, (X.alloc (.cells #[.int .u8 k, .string S, .int .i64 N, .int .i64 a, .int .i64 e] 24)).alloc (.cells #[.int .i64 err, .int .i64 pl] 27) = Y ∧ Hid (Box5 Y X.heap.size k S N a e) ∧ Hid (Box2 Y (X.heap.size + 1) err pl) ∧ Hid (Below X.heap.size X Y) := by
  have h1 : Below X.heap.size X (X.alloc (.cells #[.int .u8 k, .string S, .int .i64 N, .int .i64 a, .int .i64 e] 24)) := (Below.refl _ _).alloc (Nat.le_refl _) _
  have h2 : (X.alloc (.cells #[.int .u8 k, .string S, .int .i64 N, .int .i64 a, .int .i64 e] 24)).heap.size = X.heap.size + 1 := by simp
  have h3 : Box5 (X.alloc (.cells #[.int .u8 k, .string S, .int .i64 N, .int .i64 a, .int .i64 e] 24)) X.heap.size k S N a e := heap_alloc_new _ _
  refine ⟨_, rfl, Lib.hid (h3.on ((Below.refl _ _).alloc (Nat.le_refl _) _)), Lib.hid ?_, Lib.hid (h1.alloc h1.size _)⟩
  rw [← h2]
  exact heap_alloc_new _ _
theorem aw0 : NxOf [83, 69, 76, 69, 67, 84, 32, 97] 0 = ((3, [115, 101, 108, 101, 99, 116], 0, 6), 0) := by decide +kernel
theorem aw1 : NxOf [39, 105, 116, 39, 39, 115, 39] 0 = ((4, [105, 116, 39, 115], 0, 7), 0) := by decide +kernel
theorem aw2 : NxOf [120, 39, 48, 97, 70, 70, 39] 0 = ((5, [10, 255], 0, 7), 0) := by decide +kernel
theorem aw3 : NxOf [120, 39, 48, 39] 0 = ((0, [], 0, 0), 0) := by decide +kernel
theorem aw4 : NxOf [97, 124, 124, 98] 1 = ((6, [124, 124], 0, 2), 1) := by decide +kernel
set_option maxRecDepth 100000 in
set_option maxHeartbeats 4000000 in
theorem awake_any (w : World) (hW : Wv w) : Calls Tryd.prog 10 #[] w fun e w' => e = .returned (.bool true) ∧ Below w.heap.size w w' := by
  have HW0 := Lib.hid hW
  have HB0 := Lib.hid (Below.refl w.heap.size w)
  clear hW
  go_enter Tryd.func10, Tryd.ntmps10
  go_wp2_with fail
  refine (Next_yes ⟨#[83, 69, 76, 69, 67, 84, 32, 97]⟩ 0 _ (by show 8 ≤ 65536; omega) (by show 0 ≤ 8; omega) HW0.out 3 [115, 101, 108, 101, 99, 116] 0 6 0 (by omega) aw0 6 rfl).mono ?_
  rintro e x0 ⟨rfl, hb0⟩
  have hbh0 := Lib.hid hb0
  clear hb0
  go_wp2_with fail
  have hb0 := hbh0.out
  obtain ⟨y0, hy0, HP0, HQ0, HY0⟩ := nx_boxes x0 3 ⟨#[115, 101, 108, 101, 99, 116]⟩ 0 0 6 0 0
  rw [hy0]
  clear hy0
  have HZ0 := Lib.hid (hb0.trans (HY0.out.mono hb0.size))
  have HB1 := Lib.hid (HB0.out.trans (HZ0.out.mono HB0.out.size))
  have HW1 := Lib.hid (HW0.out.on HZ0.out)
  clear hb0
  refine (Next_yes ⟨#[39, 105, 116, 39, 39, 115, 39]⟩ 0 _ (by show 7 ≤ 65536; omega) (by show 0 ≤ 7; omega) HW1.out 4 [105, 116, 39, 115] 0 7 0 (by omega) aw1 7 rfl).mono ?_
  rintro e x1 ⟨rfl, hb1⟩
  have hbh1 := Lib.hid hb1
  clear hb1
  go_wp2_with fail
  have hb1 := hbh1.out
  obtain ⟨y1, hy1, HP1, HQ1, HY1⟩ := nx_boxes x1 4 ⟨#[105, 116, 39, 115]⟩ 0 0 7 0 0
  rw [hy1]
  clear hy1
  have HZ1 := Lib.hid (hb1.trans (HY1.out.mono hb1.size))
  have HB2 := Lib.hid (HB1.out.trans (HZ1.out.mono HB1.out.size))
  have HW2 := Lib.hid (HW1.out.on HZ1.out)
  have HP0 := Lib.hid (HP0.out.on HZ1.out)
  have HQ0 := Lib.hid (HQ0.out.on HZ1.out)
  clear hb1
  refine (Next_yes ⟨#[120, 39, 48, 97, 70, 70, 39]⟩ 0 _ (by show 7 ≤ 65536; omega) (by show 0 ≤ 7; omega) HW2.out 5 [10, 255] 0 7 0 (by omega) aw2 7 rfl).mono ?_
  rintro e x2 ⟨rfl, hb2⟩
  have hbh2 := Lib.hid hb2
  clear hb2
  go_wp2_with fail
  have hb2 := hbh2.out
  obtain ⟨y2, hy2, HP2, HQ2, HY2⟩ := nx_boxes x2 5 ⟨#[10, 255]⟩ 0 0 7 0 0
  rw [hy2]
  clear hy2
  have HZ2 := Lib.hid (hb2.trans (HY2.out.mono hb2.size))
  have HB3 := Lib.hid (HB2.out.trans (HZ2.out.mono HB2.out.size))
  have HW3 := Lib.hid (HW2.out.on HZ2.out)
  have HP0 := Lib.hid (HP0.out.on HZ2.out)
  have HQ0 := Lib.hid (HQ0.out.on HZ2.out)
  have HP1 := Lib.hid (HP1.out.on HZ2.out)
  have HQ1 := Lib.hid (HQ1.out.on HZ2.out)
  clear hb2
  refine (Next_no ⟨#[120, 39, 48, 39]⟩ 0 _ (by show 4 ≤ 65536; omega) (by show 0 ≤ 4; omega) HW3.out [] 0 0 0 aw3).mono ?_
  rintro e x3 ⟨rfl, hb3⟩
  have hbh3 := Lib.hid hb3
  clear hb3
  go_wp2_with fail
  have hb3 := hbh3.out
  obtain ⟨y3, hy3, HP3, HQ3, HY3⟩ := nx_boxes x3 0 nb 0 0 0 100 0
  rw [hy3]
  clear hy3
  have HZ3 := Lib.hid (hb3.trans (HY3.out.mono hb3.size))
  have HB4 := Lib.hid (HB3.out.trans (HZ3.out.mono HB3.out.size))
  have HW4 := Lib.hid (HW3.out.on HZ3.out)
  have HP0 := Lib.hid (HP0.out.on HZ3.out)
  have HQ0 := Lib.hid (HQ0.out.on HZ3.out)
  have HP1 := Lib.hid (HP1.out.on HZ3.out)
  have HQ1 := Lib.hid (HQ1.out.on HZ3.out)
  have HP2 := Lib.hid (HP2.out.on HZ3.out)
  have HQ2 := Lib.hid (HQ2.out.on HZ3.out)
  clear hb3
  refine (Next_yes ⟨#[97, 124, 124, 98]⟩ 1 _ (by show 4 ≤ 65536; omega) (by show 1 ≤ 4; omega) HW4.out 6 [124, 124] 0 2 1 (by omega) aw4 3 rfl).mono ?_
  rintro e x4 ⟨rfl, hb4⟩
  have hbh4 := Lib.hid hb4
  clear hb4
  go_upto_region 6 with (fail)
  have hb4 := hbh4.out
  obtain ⟨y4, hy4, HP4, HQ4, HY4⟩ := nx_boxes x4 6 ⟨#[124, 124]⟩ 0 1 3 0 0
  rw [hy4]
  clear hy4
  have HZ4 := Lib.hid (hb4.trans (HY4.out.mono hb4.size))
  have HB5 := Lib.hid (HB4.out.trans (HZ4.out.mono HB4.out.size))
  have HW5 := Lib.hid (HW4.out.on HZ4.out)
  have HP0 := Lib.hid (HP0.out.on HZ4.out)
  have HQ0 := Lib.hid (HQ0.out.on HZ4.out)
  have HP1 := Lib.hid (HP1.out.on HZ4.out)
  have HQ1 := Lib.hid (HQ1.out.on HZ4.out)
  have HP2 := Lib.hid (HP2.out.on HZ4.out)
  have HQ2 := Lib.hid (HQ2.out.on HZ4.out)
  have HP3 := Lib.hid (HP3.out.on HZ4.out)
  have HQ3 := Lib.hid (HQ3.out.on HZ4.out)
  clear hb4
  have HQT := Lib.hid (Quote_any ⟨#[105, 116, 39, 115]⟩ y4 (by show 4 ≤ 65536; omega) HW5.out)
  have hqt : M.quoteL (⟨#[105, 116, 39, 115]⟩ : ByteArray).data.toList = [39, 105, 116, 39, 39, 115, 39] := by decide
  rw [hqt] at HQT
  clear hqt
  obtain ⟨a0, a1, a2, a3, a4⟩ := HP0.out.cells
  obtain ⟨b0, b1, b2, b3, b4⟩ := HP1.out.cells
  obtain ⟨c0, c1, c2, c3, c4⟩ := HP2.out.cells
  obtain ⟨d0, d1⟩ := HQ0.out.cells
  obtain ⟨e0, e1⟩ := HQ1.out.cells
  obtain ⟨f0, f1⟩ := HQ2.out.cells
  obtain ⟨g0, g1⟩ := HQ3.out.cells
  go_wp2_with fail
  refine HQT.out.mono ?_
  rintro e z ⟨rfl, hz⟩
  obtain ⟨a0, a1, a2, a3, a4⟩ := (HP4.out.on hz).cells
  obtain ⟨g0, g1⟩ := (HQ4.out.on hz).cells
  have HFZ := Lib.hid (HB5.out.trans (hz.mono HB5.out.size))
  clear hz
  go_wp2_with fail
  go_ret
  exact ⟨rfl, HFZ.out⟩
end Go.Proofs.YtceknmibopnmhaaDoor
