/-
  Layer 9: the document's own answer: any token, Next. Conditions: sizes.
-/
import Derived.Test.YtceknmibopnmhaaDoorWRefH
import Derived.Test.YtceknmibopnmhaaDoorWNx
namespace Go.Proofs.YtceknmibopnmhaaDoor
open Go.ChangeShapes Go.WideShapes Go.ChangeAt Go.RowKit
set_option linter.unusedVariables false

theorem u8of {c : UInt8} {n : Nat} (h : c = n.toUInt8) (hn : n < 256) : c.toNat = n := by
  rw [h]
  simp only [Nat.toUInt8, UInt8.toNat_ofNat']
  omega
theorem rone_any (s : ByteArray) (k : Nat) (w : World) (hs : s.size ≤ 65536) (hk : k < s.size) :
    Calls Tryd.prog 14 #[.string s, .int .i64 (k : Int)] w (RetOne (M.tok keysW (s.data.toList.drop k)) k w) := by
  have e0 := drop_at s k hk
  by_cases hb : ∃ h : k + 1 < s.size, (s[k].toNat = 120 ∨ s[k].toNat = 88) ∧ s[k + 1].toNat = 39
  · obtain ⟨h, h1, h2⟩ := hb
    have e : M.tok keysW (s.data.toList.drop k) = M.blobT (s.data.toList.drop (k + 2)) := by
      rw [e0, drop_at s (k + 1) h]
      have hbl : M.isBl (s[k] :: s[k + 1] :: s.data.toList.drop (k + 1 + 1)) = true := by
        simp only [M.isBl, sm_x, Bool.and_eq_true, decide_eq_true_eq, beq_iff_eq]
        exact ⟨h1, u8eq (n := 39) h2 (by omega)⟩
      simp only [M.tok, hbl, if_true, List.drop_succ_cons, List.drop_zero]
    rw [e]
    exact rone_blob s k w hs h h1 h2
  · have hbl : M.isBl (s[k] :: s.data.toList.drop (k + 1)) = false := by
      by_cases h : k + 1 < s.size
      · rw [drop_at s (k + 1) h]
        simp only [M.isBl, sm_x]
        by_cases h1 : s[k].toNat = 120 ∨ s[k].toNat = 88
        · rw [decide_eq_true h1, Bool.true_and]
          exact beq_eq_false_iff_ne.2 fun e => hb ⟨h, h1, by rw [e]; rfl⟩
        · rw [decide_eq_false h1, Bool.false_and]
      · rw [List.drop_of_length_le (by simp; omega)]
        rfl
    rw [e0]
    simp only [M.tok, hbl]
    rw [if_neg (by simp)]
    cases hd : M.dg s[k]
    · rw [if_neg (by simp)]
      cases hn : M.nm s[k]
      · rw [if_neg (by simp)]
        by_cases h39 : s[k].toNat = 39
        · rw [if_pos (show s[k] = 39 from u8eq (n := 39) h39 (by omega))]
          exact rone_quo s k w hs hk h39
        · rw [if_neg (fun e => h39 (by rw [e]; rfl)), ← e0]
          exact rone_sign s k w hs hk hd hn h39
      · rw [if_pos rfl, ← e0]
        exact rone_name s k w hs hk hn (fun h h1 h2 => hb ⟨h, h1, h2⟩)
    · rw [if_pos rfl, ← e0]
      exact rone_num s k w hs hk hd
set_option maxRecDepth 100000 in
set_option maxHeartbeats 1000000 in
theorem rNext_long (s : ByteArray) (at_ : Int) (w : World) (h : 65536 < s.size) : Calls Tryd.prog 5 #[.string s, .int .i64 at_] w (RetNx 0 nb 0 0 0 3 0 w) := by
  obtain ⟨wA, wB, hA, hB, HA, HB5, HB2, HB⟩ := w52_named w
  have hl : decide ((65536 : Int) < (s.size : Int)) = true := decide_eq_true (by omega)
  have hne : w.heap.size ≠ wA.heap.size := by have := HA.out; omega
  have hne2 : wA.heap.size ≠ w.heap.size := fun e => hne e.symm
  have HLE := Lib.hid (show w.heap.size ≤ wA.heap.size by have := HA.out; omega)
  obtain ⟨c0, c1, c2, c3, c4⟩ := HB5.out.cells
  obtain ⟨f0, f1, f2, f3, f4⟩ := HB5.out.frz
  obtain ⟨d0, d1⟩ := HB2.out.cells
  obtain ⟨g0, g1⟩ := HB2.out.frz
  clear h
  go_enter Tryd.func5, Tryd.ntmps5
  go_wp2_with fail
  refine bodyPost_ret (v := .tuple #[wd 0 nb 0 0 0, flt 3 0]) (by simp [results, Tryd.results5, go_sem, c0, c1, c2, c3, c4, d0, d1]) rfl ⟨rfl, end52 HB.out HLE.out _ _ _ _ _ _ _⟩
set_option maxRecDepth 100000 in
set_option maxHeartbeats 1000000 in
theorem rNext_arg (s : ByteArray) (at_ : Int) (w : World) (hs : s.size ≤ 65536) (h : at_ < 0 ∨ (s.size : Int) < at_) : Calls Tryd.prog 5 #[.string s, .int .i64 at_] w (RetNx 0 nb 0 0 0 2 0 w) := by
  obtain ⟨wA, wB, hA, hB, HA, HB5, HB2, HB⟩ := w52_named w
  obtain ⟨c0, c1, c2, c3, c4⟩ := HB5.out.cells
  obtain ⟨f0, f1, f2, f3, f4⟩ := HB5.out.frz
  obtain ⟨d0, d1⟩ := HB2.out.cells
  obtain ⟨g0, g1⟩ := HB2.out.frz
  have hne : w.heap.size ≠ wA.heap.size := by have := HA.out; omega
  have hne2 : wA.heap.size ≠ w.heap.size := fun e => hne e.symm
  have hle : w.heap.size ≤ wA.heap.size := by have := HA.out; omega
  have HLE := Lib.hid hle
  clear hle
  by_cases h0 : at_ < 0
  · clear h
    go_enter Tryd.func5, Tryd.ntmps5
    go_wp2_with fail
    refine bodyPost_ret (v := .tuple #[wd 0 nb 0 0 0, flt 2 0]) (by simp [results, Tryd.results5, go_sem, c0, c1, c2, c3, c4, d0, d1]) rfl ⟨rfl, end52 HB.out HLE.out _ _ _ _ _ _ _⟩
  · have h1 : (s.size : Int) < at_ := by omega
    clear h
    go_enter Tryd.func5, Tryd.ntmps5
    go_wp2_with fail
    refine bodyPost_ret (v := .tuple #[wd 0 nb 0 0 0, flt 2 0]) (by simp [results, Tryd.results5, go_sem, c0, c1, c2, c3, c4, d0, d1]) rfl ⟨rfl, end52 HB.out HLE.out _ _ _ _ _ _ _⟩
set_option maxRecDepth 100000 in
set_option maxHeartbeats 2000000 in
theorem rNext_no (s : ByteArray) (at_ : Nat) (w : World) (hs : s.size ≤ 65536) (h : at_ ≤ s.size) (S : List UInt8) (N : Int) (n p : Nat) (hN : NxOf s.data.toList at_ = ((0, S, N, n), p)) :
    Calls Tryd.prog 5 #[.string s, .int .i64 (at_ : Int)] w (RetNx 0 nb 0 0 0 100 p w) := by
  obtain ⟨wA, wB, hA, hB, HA, HB5, HB2, HB⟩ := w52_named w
  have hne : w.heap.size ≠ wA.heap.size := by have := HA.out; omega
  have hne2 : wA.heap.size ≠ w.heap.size := fun e => hne e.symm
  have HLE := Lib.hid (show w.heap.size ≤ wA.heap.size by have := HA.out; omega)
  have hp : at_ + M.pass (s.data.toList.drop at_) false = p := congrArg Prod.snd hN
  have ht : M.tok keysW (s.data.toList.drop (at_ + M.pass (s.data.toList.drop at_) false)) = (0, S, N, n) := congrArg Prod.fst hN
  rw [hp] at ht
  have hpl := M.pass_le (s.data.toList.drop at_) false
  have hps : p ≤ s.size := by
    rw [List.length_drop] at hpl
    simp at hpl
    omega
  have hps2 : p < s.size := by
    rcases Nat.lt_or_ge p s.size with h | h
    · exact h
    · rw [List.drop_of_length_le (by simp; omega)] at ht
      cases ht
  have HP := Lib.hid (fun W => rpassed_any s at_ W hs h p hp)
  have HO := Lib.hid (fun W => rone_any s p W hs hps2)
  rw [ht] at HO
  have hpz : ((p : Int) == (s.size : Int)) = false := beq_eq_false_iff_ne.2 (by omega)
  have hpz2 : ¬ (p : Int) = (s.size : Int) := by omega
  clear hN ht hpl hp hps
  go_enter Tryd.func5, Tryd.ntmps5
  go_wp2_with fail
  refine (HP.out wB).mono ?_
  rintro e w3 ⟨rfl, rfl⟩
  go_wp2_with fail
  refine (HO.out _).mono ?_
  rintro e w4 ⟨⟨_, rfl⟩ | ⟨h, _⟩, hb4⟩
  · have HB4 := Lib.hid (HB.out.trans (hb4.mono HB.out.size))
    have HX5 := Lib.hid (HB5.out.on hb4)
    have HX2 := Lib.hid (HB2.out.on hb4)
    clear hb4
    go_upto_region 9 with (fail)
    obtain ⟨w6, hw6, HX6, HB6⟩ : ∃ w6, w4.alloc (.cells #[.int .u8 0, .string nb, .int .i64 0, .int .i64 0, .int .i64 0] 24) = w6 ∧ Hid (Box5 w6 w4.heap.size 0 nb 0 0 0) ∧ Hid (Below w4.heap.size w4 w6) := ⟨_, rfl, Lib.hid (heap_alloc_new _ _), Lib.hid ((Below.refl _ _).alloc (Nat.le_refl _) _)⟩
    rw [hw6]
    clear hw6
    have HB7 := Lib.hid (HB4.out.trans (HB6.out.mono HB4.out.size))
    obtain ⟨c0, c1, c2, c3, c4⟩ := (HX5.out.on HB6.out).cells
    obtain ⟨f0, f1, f2, f3, f4⟩ := (HX5.out.on HB6.out).frz
    obtain ⟨d0, d1⟩ := (HX2.out.on HB6.out).cells
    obtain ⟨g0, g1⟩ := (HX2.out.on HB6.out).frz
    obtain ⟨b0, b1, b2, b3, b4⟩ := HX6.out.cells
    go_wp2_with fail
    refine bodyPost_ret (v := .tuple #[wd 0 nb 0 0 0, flt 100 p]) (by simp [results, Tryd.results5, go_sem, c0, c1, c2, c3, c4, d0, d1]) rfl ⟨rfl, end52 HB7.out HLE.out _ _ _ _ _ _ _⟩
  · exact absurd rfl h
set_option maxRecDepth 100000 in
set_option maxHeartbeats 2000000 in
theorem rNext_yes (s : ByteArray) (at_ : Nat) (w : World) (hs : s.size ≤ 65536) (h : at_ ≤ s.size) (k : Nat) (S : List UInt8) (N : Int) (n p : Nat) (hk : k ≠ 0) (hN : NxOf s.data.toList at_ = ((k, S, N, n), p)) (m : Nat) (hm : p + n = m) :
    Calls Tryd.prog 5 #[.string s, .int .i64 (at_ : Int)] w (RetNx k ⟨S.toArray⟩ N p m 0 0 w) := by
  obtain ⟨wA, wB, hA, hB, HA, HB5, HB2, HB⟩ := w52_named w
  have hne : w.heap.size ≠ wA.heap.size := by have := HA.out; omega
  have hne2 : wA.heap.size ≠ w.heap.size := fun e => hne e.symm
  have HLE := Lib.hid (show w.heap.size ≤ wA.heap.size by have := HA.out; omega)
  have hp : at_ + M.pass (s.data.toList.drop at_) false = p := congrArg Prod.snd hN
  have ht : M.tok keysW (s.data.toList.drop (at_ + M.pass (s.data.toList.drop at_) false)) = (k, S, N, n) := congrArg Prod.fst hN
  rw [hp] at ht
  have hpl := M.pass_le (s.data.toList.drop at_) false
  have hps : p ≤ s.size := by
    rw [List.length_drop] at hpl
    simp at hpl
    omega
  have HP := Lib.hid (fun W => rpassed_any s at_ W hs h p hp)
  by_cases hps2 : p < s.size
  · have HO := Lib.hid (fun W => rone_any s p W hs hps2)
    rw [ht] at HO
    have hpz : ((p : Int) == (s.size : Int)) = false := beq_eq_false_iff_ne.2 (by omega)
    have hpz2 : ¬ (p : Int) = (s.size : Int) := by omega
    have hkz : ((k : Int) == 0) = false := beq_eq_false_iff_ne.2 (by omega)
    have hkz2 : ¬ (k : Int) = 0 := by omega
    have HK := Lib.hid hk
    obtain ⟨S', HS⟩ : ∃ S', Hid ((⟨S.toArray⟩ : ByteArray) = S') := ⟨_, Lib.hid rfl⟩
    have HM := Lib.hid hm
    clear hN ht hpl hp hps hk hm
    go_enter Tryd.func5, Tryd.ntmps5
    go_wp2_with fail
    refine (HP.out wB).mono ?_
    rintro e w3 ⟨rfl, rfl⟩
    go_wp2_with fail
    refine (HO.out _).mono ?_
    rintro e w4 ⟨⟨h, _⟩ | ⟨_, rfl⟩, hb4⟩
    · exact absurd h HK.out
    · have HB4 := Lib.hid (HB.out.trans (hb4.mono HB.out.size))
      have HX5 := Lib.hid (HB5.out.on hb4)
      have HX2 := Lib.hid (HB2.out.on hb4)
      clear hb4
      dsimp only
      rw [HS.out, HM.out]
      go_upto_region 9 with (fail)
      obtain ⟨w6, hw6, HX6, HB6⟩ : ∃ w6, w4.alloc (.cells #[.int .u8 k, .string S', .int .i64 N, .int .i64 p, .int .i64 m] 24) = w6 ∧ Hid (Box5 w6 w4.heap.size k S' N p m) ∧ Hid (Below w4.heap.size w4 w6) := ⟨_, rfl, Lib.hid (heap_alloc_new _ _), Lib.hid ((Below.refl _ _).alloc (Nat.le_refl _) _)⟩
      rw [hw6]
      clear hw6
      have HB7 := Lib.hid (HB4.out.trans (HB6.out.mono HB4.out.size))
      obtain ⟨c0, c1, c2, c3, c4⟩ := (HX5.out.on HB6.out).cells
      obtain ⟨f0, f1, f2, f3, f4⟩ := (HX5.out.on HB6.out).frz
      obtain ⟨d0, d1⟩ := (HX2.out.on HB6.out).cells
      obtain ⟨g0, g1⟩ := (HX2.out.on HB6.out).frz
      obtain ⟨b0, b1, b2, b3, b4⟩ := HX6.out.cells
      go_wp2_with fail
      refine bodyPost_ret (v := .tuple #[wd k S' N p m, flt 0 0]) (by simp [results, Tryd.results5, go_sem, c0, c1, c2, c3, c4, d0, d1]) rfl ⟨by rw [HS.out], end52 HB7.out HLE.out _ _ _ _ _ _ _⟩
  · obtain rfl : p = s.size := by omega
    rw [List.drop_of_length_le (by simp)] at ht
    injection ht with h1 h2
    injection h2 with h2 h3
    injection h3 with h3 h4
    subst h1 h2 h3 h4
    obtain rfl : m = s.size := by omega
    obtain ⟨c0, c1, c2, c3, c4⟩ := HB5.out.cells
    obtain ⟨f0, f1, f2, f3, f4⟩ := HB5.out.frz
    obtain ⟨d0, d1⟩ := HB2.out.cells
    obtain ⟨g0, g1⟩ := HB2.out.frz
    clear hN hpl hp hps hps2 hk hm
    go_enter Tryd.func5, Tryd.ntmps5
    go_wp2_with fail
    refine (HP.out wB).mono ?_
    rintro e w3 ⟨rfl, rfl⟩
    go_wp2_with fail
    refine bodyPost_ret (v := .tuple #[wd 7 nb 0 s.size s.size, flt 0 0]) (by simp [results, Tryd.results5, go_sem, c0, c1, c2, c3, c4, d0, d1]) rfl ⟨rfl, end52 HB.out HLE.out _ _ _ _ _ _ _⟩
end Go.Proofs.YtceknmibopnmhaaDoor
