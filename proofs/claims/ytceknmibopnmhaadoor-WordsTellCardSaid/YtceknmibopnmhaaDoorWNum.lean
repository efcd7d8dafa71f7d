/-
  Layer 9: one token: numbers, names. Conditions: sizes; the library's variables are as its text lays them.
-/
import Derived.Test.YtceknmibopnmhaaDoorWTok
import Derived.Lib.ConvBytes
import Derived.Lib.AtoiErrMem
namespace Go.Proofs.YtceknmibopnmhaaDoor
open Go.ChangeShapes Go.WideShapes Go.ChangeAt Go.RowKit
set_option linter.unusedVariables false

/-- the library's variables that are looked at -/
def Wv (w : World) : Prop := (∃ ev : Value, w.cell? ⟨4, 0, none⟩ = some ev ∧ (ev = .nilIface ∨ ∃ te pe, ev = .iface te pe)) ∧ ∃ m : Int, w.cell? ⟨0, 0, none⟩ = some (.int .i64 m)
theorem Wv.on {w w' : World} (h : Wv w) (hb : Below w.heap.size w w') : Wv w' := by
  obtain ⟨⟨ev, h1, h2⟩, m, h3⟩ := h
  exact ⟨⟨ev, (hb.cell (p := ⟨4, 0, none⟩) (block_lt_of_cell h1)).trans h1, h2⟩, m, (hb.cell (p := ⟨0, 0, none⟩) (block_lt_of_cell h3)).trans h3⟩
theorem run_dg (s : ByteArray) (w : World) (hs : s.size ≤ 281474976710656) :
    Calls Tryd.prog 20 #[.string s, .func (.func 26) #[] #[]] w fun e w' => e = .returned (.int .i64 ((s.data.toList.takeWhile M.dg).length : Int)) ∧ w = w' :=
  run_any M.dg s _ _ w hs (enters_of Tryd.func26 (by kernel_rfl) rfl) (fun c => isDigit_any c w)
theorem run_nmd (s : ByteArray) (w : World) (hs : s.size ≤ 281474976710656) :
    Calls Tryd.prog 20 #[.string s, .func (.func 49) #[] #[]] w fun e w' => e = .returned (.int .i64 ((s.data.toList.takeWhile M.nmd).length : Int)) ∧ w = w' :=
  run_any M.nmd s _ _ w hs (enters_of Tryd.func49 (by kernel_rfl) rfl) (fun c => nameOne_any c w)
theorem run_hxd (s : ByteArray) (w : World) (hs : s.size ≤ 281474976710656) :
    Calls Tryd.prog 20 #[.string s, .func (.func 46) #[] #[]] w fun e w' => e = .returned (.int .i64 ((s.data.toList.takeWhile M.hxd).length : Int)) ∧ w = w' :=
  run_any M.hxd s _ _ w hs (enters_of Tryd.func46 (by kernel_rfl) rfl) (fun c => blobOne_any c w)
set_option maxRecDepth 100000 in
set_option maxHeartbeats 1000000 in
theorem number_any (s : ByteArray) (w : World) (hs : s.size ≤ 65536) (hne : s.data.toList.takeWhile M.dg ≠ []) (hW : Wv w) : Calls Tryd.prog 27 #[.string s] w (RetTk (M.numT s.data.toList) w) := by
  obtain ⟨w1, hw1, HB5, HB⟩ := w5_named w
  have HW1 := Lib.hid (hW.on HB.out)
  obtain ⟨n, HN⟩ : ∃ n, Hid ((s.data.toList.takeWhile M.dg).length = n) := ⟨_, Lib.hid rfl⟩
  have hn : n ≤ s.size := by
    have := M.tw_le (p := M.dg) s.data.toList
    rw [HN.out] at this
    simpa using this
  have hxl : (s.extract 0 n).data.toList = s.data.toList.takeWhile M.dg := by rw [ext_take, ← HN.out, M.tw_take]
  have hpd := M.parse_digits _ hne (M.tw_all _)
  rw [← hxl] at hpd
  have HSZ := Lib.hid (show (s.extract 0 n).size ≤ 65536 by simp; omega)
  have HR := Lib.hid (run_dg s w1 (by omega))
  have HT : Hid (M.numT s.data.toList = if M.valD (s.extract 0 n).data.toList < 9223372036854775808 then (1, [], (M.valD (s.extract 0 n).data.toList : Int), n) else M.no) := Lib.hid (by rw [hxl]; unfold M.numT; simp only [HN.out])
  by_cases hv : M.valD (s.extract 0 n).data.toList < 9223372036854775808
  · have HP := Lib.hid (hpd.1 hv)
    have HT2 := Lib.hid (HT.out.trans (if_pos hv))
    clear hpd hv hW hxl hne HT
    go_enter Tryd.func27, Tryd.ntmps27
    go_wp2_with fail
    refine HR.out.mono ?_
    rintro e w2 ⟨rfl, rfl⟩
    rw [HN.out]
    go_wp2_with fail
    refine (Tryd.strconv_ParseInt_10_at64_ok _ (by have := HSZ.out; omega) _ HP.out _).mono ?_
    rintro e w3 ⟨rfl, hw3⟩
    have hb3 : Below w1.heap.size w1 w3 := by
      rcases hw3 with h | ⟨t, h⟩
      · rw [h]; exact Below.refl _ _
      · rw [h]; exact Lib.bytesWorld_below _ _ _
    have HB3 := Lib.hid (HB.out.trans (hb3.mono HB.out.size))
    obtain ⟨c0, c1, c2, c3, c4⟩ := (HB5.out.on hb3).cells
    obtain ⟨f0, f1, f2, f3, f4⟩ := (HB5.out.on hb3).frz
    clear hw3 hb3
    generalize M.valD (s.extract 0 n).data.toList = v at HT2 ⊢
    go_wp2_with fail
    refine bodyPost_ret (v := .tuple #[wd 1 nb v 0 0, .int .i64 n, .bool true]) (by simp [results, Tryd.results27, go_sem, c0, c1, c2, c3, c4]) rfl ⟨?_, end5 HB3.out _ _ _ _ _⟩
    rw [HT2.out]
    rfl
  · have HP := Lib.hid (hpd.2 hv)
    have HT2 := Lib.hid (HT.out.trans (if_neg hv))
    obtain ⟨⟨ev, hev, hev2⟩, _⟩ := HW1.out
    have HE := Lib.hid hev
    have HE2 := Lib.hid hev2
    clear hpd hv hW hxl hne HT hev hev2
    go_enter Tryd.func27, Tryd.ntmps27
    go_wp2_with fail
    refine HR.out.mono ?_
    rintro e w2 ⟨rfl, rfl⟩
    rw [HN.out]
    go_wp2_with fail
    refine (Tryd.strconv_ParseInt_10_at64_range _ (by have := HSZ.out; omega) HP.out ev _ HE.out HE2.out).mono ?_
    rintro e w3 ⟨N, rfl, _, _, hb3⟩
    have HB3 := Lib.hid (HB.out.trans (hb3.mono HB.out.size))
    obtain ⟨c0, c1, c2, c3, c4⟩ := (HB5.out.on hb3).cells
    obtain ⟨f0, f1, f2, f3, f4⟩ := (HB5.out.on hb3).frz
    clear hb3
    generalize Lib.intSat 64 _ = v
    go_wp2_with fail
    refine bodyPost_ret (v := .tuple #[wd 0 nb 0 0 0, .int .i64 0, .bool false]) (by simp [results, Tryd.results27, go_sem, c0, c1, c2, c3, c4]) rfl ⟨?_, end5 HB3.out _ _ _ _ _⟩
    rw [HT2.out]
    rfl
end Go.Proofs.YtceknmibopnmhaaDoor
