/-
  Layer 9: one token: names. Conditions: sizes.
-/
import Derived.Test.YtceknmibopnmhaaDoorWNum
namespace Go.Proofs.YtceknmibopnmhaaDoor
open Go.ChangeShapes Go.WideShapes Go.ChangeAt Go.RowKit
set_option linter.unusedVariables false

/-- the bytes of s, each turned by F -/
def turnedS (F : UInt8 → UInt8) (s : ByteArray) : ByteArray := ⟨(s.data.toList.map F).toArray⟩
/-- byte j once k of them are turned -/
def midU (F : UInt8 → UInt8) (s : ByteArray) (k j : Nat) : UInt8 := if j < k then F (s.data.toList.getD j 0) else s.data.toList.getD j 0
def TurnRel (F : UInt8 → UInt8) (s : ByteArray) (B g : Nat) (w0 : World) (i : Value) (wr : World) : Prop :=
  ∃ k : Nat, k ≤ s.size ∧ i = .int .i64 k ∧ Below B w0 wr ∧ g < wr.heap.size ∧ ∀ j, j < s.size → wr.cell? ⟨g, j, none⟩ = some (.int .u8 ((midU F s k j).toNat : Int)) ∧ wr.frozen? ⟨g, j, none⟩ = false
theorem bytesWorld_frozen (w : World) (e : TypeId) (s : ByteArray) (j : Nat) (hj : j < s.size) : (Lib.bytesWorld w e s).frozen? ⟨w.heap.size, j, none⟩ = false := by
  have hs : s.size ≤ (Lib.bytesCells w e s).size := by simp [Lib.bytesCells]
  simp only [World.frozen?, Lib.bytesWorld_at_new]
  simp
  omega
theorem turn_begin (F : UInt8 → UInt8) (s : ByteArray) (B : Nat) (w0 X : World) (h : Below B w0 X) (hB : B ≤ X.heap.size) : TurnRel F s B X.heap.size w0 (.int .i64 0) (Lib.bytesWorld X 5 s) := by
  refine ⟨0, Nat.zero_le _, rfl, h.trans ((Lib.bytesWorld_below _ _ _).mono hB), by rw [Lib.bytesWorld_size]; omega, fun j hj => ⟨?_, bytesWorld_frozen _ _ _ _ hj⟩⟩
  rw [Lib.bytesWorld_cell _ _ _ _ hj]
  simp [midU]
theorem turn_step (F : UInt8 → UInt8) (s : ByteArray) (B g k : Nat) (w0 wr : World) (hk : k < s.size) (hg : B ≤ g) (hb : Below B w0 wr) (hz : g < wr.heap.size)
    (hc : ∀ j, j < s.size → wr.cell? ⟨g, j, none⟩ = some (.int .u8 ((midU F s k j).toNat : Int)) ∧ wr.frozen? ⟨g, j, none⟩ = false) (z : Int) (hv : z = ((F (s.data.toList.getD k 0)).toNat : Int)) (i : Value) (hi : i = .int .i64 ((k + 1 : Nat) : Int)) :
    TurnRel F s B g w0 i (wr.setCell ⟨g, k, none⟩ (.int .u8 z)) := by
  subst hv hi
  refine ⟨k + 1, hk, rfl, hb.setCell (by simpa using hg) _, by simpa using hz, fun j hj => ⟨?_, by rw [World.frozen?_setCell]; exact (hc j hj).2⟩⟩
  by_cases e : k = j
  · subst e
    rw [World.cell?_setCell_same (h := (hc k hk).1)]
    simp [midU]
  · rw [World.cell?_setCell_other (h := by simp), (hc j hj).1]
    have : (j < k + 1) = (j < k) := by simp; omega
    simp only [midU, this]
theorem run_bytes {w : World} {g : Nat} (l : List UInt8) (c : Nat) (hz : g < w.heap.size) (hc : ∀ j, j < l.length → w.cell? ⟨g, j, none⟩ = some (.int .u8 ((l.getD j 0).toNat : Int))) :
    (convert 39 9 (.slice (some ⟨g, 0, none⟩) l.length c)).run Tryd.prog w = .ok (.string ⟨l.toArray⟩) w := by
  refine run_convert_bytes_back w 39 9 5 ⟨g, 0, none⟩ c l Tryd.underlying39 Tryd.underlying5 Tryd.underlying9 fun j hj => ?_
  have ha : ((⟨g, 0, none⟩ : Addr).add j) = ⟨g, j, none⟩ := by
    unfold Addr.add
    by_cases hj0 : j = 0 <;> simp [hj0]
  rw [ha, hc j hj]
  simp [List.getD, List.getElem?_eq_getElem hj]
theorem turn_end (F : UInt8 → UInt8) (s : ByteArray) (g : Nat) (wr : World) (hz : g < wr.heap.size) (hc : ∀ j, j < s.size → wr.cell? ⟨g, j, none⟩ = some (.int .u8 ((midU F s s.size j).toNat : Int)) ∧ wr.frozen? ⟨g, j, none⟩ = false) (c : Nat) :
    (convert 39 9 (.slice (some ⟨g, 0, none⟩) s.size c)).run Tryd.prog wr = .ok (.string (turnedS F s)) wr := by
  have hl : (s.data.toList.map F).length = s.size := by simp
  have := run_bytes (s.data.toList.map F) c hz (fun j hj => by
    rw [hl] at hj
    rw [(hc j hj).1]
    simp [midU, hj, List.getD])
  rw [hl] at this
  exact this
theorem ba_eta (y : ByteArray) : (⟨y.data.toList.toArray⟩ : ByteArray) = y := by cases y; simp
set_option maxRecDepth 100000 in
set_option maxHeartbeats 1000000 in
theorem name_any (s : ByteArray) (w : World) (hs : s.size ≤ 65536) : Calls Tryd.prog 29 #[.string s] w (RetTk (M.nameT keysW s.data.toList) w) := by
  obtain ⟨w1, hw1, HB5, HB⟩ := w5_named w
  obtain ⟨n, HN⟩ : ∃ n, Hid ((s.data.toList.takeWhile M.nmd).length = n) := ⟨_, Lib.hid rfl⟩
  have hn : n ≤ s.size := by
    have := M.tw_le (p := M.nmd) s.data.toList
    rw [HN.out] at this
    simpa using this
  have hxl : (s.extract 0 n).data.toList = s.data.toList.takeWhile M.nmd := by rw [ext_take, ← HN.out, M.tw_take]
  have hxs : (s.extract 0 n).size = n := by simp; omega
  have HR := Lib.hid (run_nmd s w1 (by omega))
  obtain ⟨x, HX⟩ : ∃ x, Hid (s.extract 0 n = x) := ⟨_, Lib.hid rfl⟩
  rw [HX.out] at hxl hxs
  have HT : Hid (M.nameT keysW s.data.toList = (if isKeyB (turnedS M.sm x).data.toList = true then 3 else 2, (turnedS M.sm x).data.toList, 0, n)) := Lib.hid (by
    have e : (turnedS M.sm x).data.toList = (s.data.toList.takeWhile M.nmd).map M.sm := by simp [turnedS, hxl]
    have e2 : ((s.data.toList.takeWhile M.nmd).map M.sm).length = n := by rw [List.length_map]; exact HN.out
    rw [e]
    simp only [M.nameT, isKeyB, decide_eq_true_eq, e2])
  have HV := Lib.hid (fun (X : World) => Lib.run_convert_string_bytes (P := Tryd.prog) X 9 39 5 x Tryd.underlying9 Tryd.underlying39 Tryd.underlying5)
  have hcv := HV.out w1
  have HBG := Lib.hid (turn_begin M.sm x w1.heap.size w1 w1 (Below.refl _ _) (Nat.le_refl _))
  clear hxl
  obtain rfl : x.size = n := hxs
  have hxl2 : x.size ≤ 65536 := by omega
  go_enter Tryd.func29, Tryd.ntmps29
  go_wp2_with fail
  refine HR.out.mono ?_
  rintro e w2 ⟨rfl, rfl⟩
  rw [HN.out]
  have hx0 := HX.out
  go_wp2_with fail
  clear hx0
  go_loopw [7, 8, 18] (fun _ _ i wr => TurnRel M.sm x w1.heap.size w1.heap.size w1 i wr) (fun _ _ i _ => x.size - (intOf i).toNat)
  case atStart => exact HBG.out
  case round =>
    obtain ⟨q, hq, rfl, hb, hz, hc⟩ := hrel
    have hcur2 := Lib.hid hb
    clear hb
    by_cases hlt : q < x.size
    · obtain ⟨hq1, hq2⟩ := hc q hlt
      have HS := Lib.hid (fun z hv i hi => turn_step M.sm x _ w1.heap.size q w1 _ hlt (Nat.le_refl _) hcur2.out hz hc z hv i hi)
      clear hc
      have HC := Lib.hid (small_any (midU M.sm x q q))
      have HM := Lib.hid (show midU M.sm x q q = x.data.toList.getD q 0 by simp [midU])
      go_wp2_with fail
      refine (HC.out _).mono ?_
      rintro e w' ⟨rfl, rfl⟩
      go_wp2_with fail
      exact ⟨HS.out _ (by rw [HM.out]) _ (by go_num), by simp [intOf]; omega⟩
    · obtain rfl : q = x.size := by omega
      have hst := turn_end M.sm x w1.heap.size _ hz hc (grownCap w1 x.size 0 5)
      have HB3 := Lib.hid (HB.out.trans (hcur2.out.mono HB.out.size))
      have HBX := Lib.hid (HB5.out.on hcur2.out)
      clear hc
      generalize turnedS M.sm x = y at *
      go_wp2_with fail
      obtain ⟨w4, hw4, HB4, HX4⟩ : ∃ w4, wr.alloc (.cells #[.int .u8 2, .string y, .int .i64 0, .int .i64 0, .int .i64 0] 24) = w4 ∧ Hid (Below wr.heap.size wr w4) ∧ Hid (Box5 w4 wr.heap.size 2 y 0 0 0) :=
        ⟨_, rfl, Lib.hid ((Below.refl _ _).alloc (Nat.le_refl _) _), Lib.hid (heap_alloc_new wr _)⟩
      rw [hw4]
      clear hw4
      have HB34 := Lib.hid (HB3.out.trans (HB4.out.mono HB3.out.size))
      have hne : w.heap.size ≠ wr.heap.size := by
        have := HBX.out.lt
        omega
      obtain ⟨c0, c1, c2, c3, c4⟩ := (HBX.out.on HB4.out).cells
      obtain ⟨f0, f1, f2, f3, f4⟩ := (HBX.out.on HB4.out).frz
      obtain ⟨d0, d1, d2, d3, d4⟩ := HX4.out.cells
      obtain ⟨g0, g1, g2, g3, g4⟩ := HX4.out.frz
      have HLE := Lib.hid (show w.heap.size ≤ wr.heap.size from HB3.out.size)
      have HK := Lib.hid (isKey_any y)
      generalize isKeyB y.data.toList = r at HK HT
      cases r
      · refine (HK.out _).mono ?_
        rintro e w5 ⟨rfl, rfl⟩
        go_wp2_with fail
        refine bodyPost_ret (v := .tuple #[wd 2 y 0 0 0, .int .i64 x.size, .bool true]) (by simp [results, Tryd.results29, go_sem, c0, c1, c2, c3, c4]) rfl ⟨?_, ?_⟩
        · rw [HT.out]
          simp only [tkV]
          rw [ba_eta]
          rfl
        · exact end5 HB34.out _ _ _ _ _
      · refine (HK.out _).mono ?_
        rintro e w5 ⟨rfl, rfl⟩
        go_wp2_with fail
        refine bodyPost_ret (v := .tuple #[wd 3 y 0 0 0, .int .i64 x.size, .bool true]) (by simp [results, Tryd.results29, go_sem, c0, c1, c2, c3, c4]) rfl ⟨?_, ?_⟩
        · rw [HT.out]
          simp only [tkV]
          rw [ba_eta]
          rfl
        · exact end5 (HB34.out.setCell (p := ⟨wr.heap.size, 0, none⟩) HLE.out _) _ _ _ _ _
end Go.Proofs.YtceknmibopnmhaaDoor
