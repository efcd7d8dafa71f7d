/-
  Layer 9: what is passed over. Conditions: sizes.
-/
import Derived.Test.YtceknmibopnmhaaDoorWBase
import Derived.IntWalk
namespace Go.Proofs.YtceknmibopnmhaaDoor
open Go.ChangeShapes Go.WideShapes Go.ChangeAt Go.RowKit
set_option linter.unusedVariables false

theorem among_any (S : ByteArray) (w : World) : Calls Tryd.prog 21 #[.string S] w fun e w' => ∃ b, e = .returned (.func (.func 41) #[] #[.pointer (some ⟨b, 0, none⟩)]) ∧ w'.cell? ⟨b, 0, none⟩ = some (.string S) ∧ Below w.heap.size w w' := by
  go_enter Tryd.func21, Tryd.ntmps21
  go_wp2
  go_ret
  exact ⟨w.heap.size, rfl, by simp [go_sem], (Below.refl _ _).alloc (Nat.le_refl _) _⟩
theorem but_any (S : ByteArray) (w : World) : Calls Tryd.prog 23 #[.string S] w fun e w' => ∃ b, e = .returned (.func (.func 44) #[] #[.pointer (some ⟨b, 0, none⟩)]) ∧ w'.cell? ⟨b, 0, none⟩ = some (.string S) ∧ Below w.heap.size w w' := by
  go_enter Tryd.func23, Tryd.ntmps23
  go_wp2
  go_ret
  exact ⟨w.heap.size, rfl, by simp [go_sem], (Below.refl _ _).alloc (Nat.le_refl _) _⟩
theorem run_blk (s : ByteArray) (b : Nat) (w : World) (hs : s.size ≤ 281474976710656) (hc : w.cell? ⟨b, 0, none⟩ = some (.string ⟨#[9, 10, 13, 32]⟩)) :
    Calls Tryd.prog 20 #[.string s, .func (.func 41) #[] #[.pointer (some ⟨b, 0, none⟩)]] w fun e w' => e = .returned (.int .i64 ((s.data.toList.takeWhile M.blk).length : Int)) ∧ w = w' :=
  run_any M.blk s _ _ w hs (enters_of Tryd.func41 (by kernel_rfl) rfl) (amongOne_any [9, 10, 13, 32] M.blk M.blk_index b w hc)
theorem run_but (k : UInt8) (s : ByteArray) (b : Nat) (w : World) (hs : s.size ≤ 281474976710656) (hc : w.cell? ⟨b, 0, none⟩ = some (.string ⟨#[k]⟩)) :
    Calls Tryd.prog 20 #[.string s, .func (.func 44) #[] #[.pointer (some ⟨b, 0, none⟩)]] w fun e w' => e = .returned (.int .i64 ((s.data.toList.takeWhile (· != k)).length : Int)) ∧ w = w' :=
  run_any (· != k) s _ _ w hs (enters_of Tryd.func44 (by kernel_rfl) rfl) (butOne_any k b w hc)
theorem ext_drop (s : ByteArray) (k : Nat) : (s.extract k s.size).data.toList = s.data.toList.drop k := by
  rw [ByteArray.data_extract, Array.toList_extract, List.extract_eq_take_drop]
  exact List.take_of_length_le (by simp)
theorem ext_size (s : ByteArray) (k : Nat) : (s.extract k s.size).size = s.size - k := by simp
theorem drewR {B : Nat} {a w : World} (h : Below B a w) : Below B a w.drew := ⟨h.os, h.tape, h.output, h.size, h.block⟩

set_option maxRecDepth 100000 in
set_option maxHeartbeats 1000000 in
theorem passedOver_any (s : ByteArray) (w : World) (hs : s.size ≤ 65536) : Calls Tryd.prog 11 #[.string s] w fun e w' => e = .returned (.int .i64 (M.pass s.data.toList false : Int)) ∧ Below w.heap.size w w' := by
  go_enter Tryd.func11, Tryd.ntmps11
  go_wp2_with fail
  go_loopw [3] (fun n wr => ∃ k : Nat, k ≤ s.size ∧ n = .int .i64 (k : Int) ∧ k + M.pass (s.data.toList.drop k) false = M.pass s.data.toList false ∧ Below w.heap.size w wr) (fun n _ => s.size - (intOf n).toNat)
  case atStart => exact ⟨0, Nat.zero_le _, rfl, by simp, Below.refl _ _⟩
  case round =>
    obtain ⟨k, hk, rfl, hp, hb⟩ := hrel
    obtain ⟨n1, HN1⟩ : ∃ n, Hid (((s.extract k s.size).data.toList.takeWhile M.blk).length = n) := ⟨_, Lib.hid rfl⟩
    have h1 : n1 ≤ s.size - k := by
      have := M.tw_le (p := M.blk) (s.extract k s.size).data.toList
      rw [HN1.out, ext_drop, List.length_drop] at this
      simpa using this
    have hN1 := HN1.out
    rw [ext_drop] at hN1
    have hp2 : (k + n1) + M.pass (s.data.toList.drop (k + n1)) false = M.pass s.data.toList false := by
      rw [← hp, M.pass_blanks (s.data.toList.drop k), hN1, List.drop_drop]
      omega
    have hst : ∀ c, (s.data.toList.drop (k + n1)).head? = some c → M.blk c = false := by
      rw [← List.drop_drop, ← hN1]
      exact M.drop_blanks _
    have HS := Lib.hid (show (s.extract k s.size).size ≤ 281474976710656 by rw [ext_size]; omega)
    have HB := Lib.hid hb
    clear hb hp hN1
    have hk1 : k + n1 ≤ s.size := by omega
    obtain ⟨k1, HK1⟩ : ∃ k1, Hid (k + n1 = k1) := ⟨_, Lib.hid rfl⟩
    rw [HK1.out] at hp2 hst hk1
    have HKI := Lib.hid (show (k : Int) + (n1 : Int) = (k1 : Int) by have := HK1.out; omega)
    have hle : k ≤ k1 := by have := HK1.out; omega
    have HP := Lib.hid hp2
    have HST := Lib.hid hst
    clear hp2 hst h1
    go_wp2_with fail
    go_region_law (first
      | (go_simp; go_at_call 21; refine (among_any _ _).mono ?_; rintro e w1 ⟨b1, rfl, hc1, hb1⟩; have HB1 := Lib.hid ((drewR HB.out).trans (hb1.mono (drewR HB.out).size)); clear hb1)
      | (go_simp; go_at_call 20; refine (run_blk _ b1 _ HS.out hc1).mono ?_; rintro e w2 ⟨rfl, rfl⟩; rw [HN1.out]))
    rw [HKI.out]
    have HX := Lib.hid (show (s.extract k1 s.size).data.toList = s.data.toList.drop k1 from ext_drop s k1)
    go_wp2_with fail
    refine (Tryd.strings_HasPrefix _ _ _).mono ?_
    rintro e w3 ⟨rfl, hw⟩
    subst hw
    by_cases hr : [45, 45] <+: s.data.toList.drop k1
    · obtain ⟨r, hr⟩ := hr
      obtain ⟨n2, HN2⟩ : ∃ n, Hid (((s.extract k1 s.size).data.toList.takeWhile (· != 10)).length = n) := ⟨_, Lib.hid rfl⟩
      have hN2 := HN2.out
      rw [ext_drop] at hN2
      have h2 : n2 ≤ s.size - k1 := by
        have := M.tw_le (p := (· != 10)) (s.data.toList.drop k1)
        rw [hN2, List.length_drop] at this
        simpa using this
      have h3 : 2 ≤ n2 := by
        rw [← hN2, ← hr]
        simp
      have hp3 : (k1 + n2) + M.pass (s.data.toList.drop (k1 + n2)) false = M.pass s.data.toList false := by
        have hpr := M.pass_remark r
        have e : (45 :: 45 :: r).takeWhile M.nln = (s.data.toList.drop k1).takeWhile (· != 10) := by rw [← hr]; rfl
        rw [e, hN2] at hpr
        have hr' : (45 :: 45 :: r) = s.data.toList.drop k1 := hr
        rw [hr', List.drop_drop] at hpr
        rw [← HP.out, hpr]
        omega
      have HH := Lib.hid (show Lib.hasPrefix (s.extract k1 s.size).data.toList [45, 45] = true by
        rw [HX.out]
        exact List.isPrefixOf_iff_prefix.2 ⟨r, hr⟩)
      have HS2 := Lib.hid (show (s.extract k1 s.size).size ≤ 281474976710656 by rw [ext_size]; omega)
      have HB1' := HB1
      have HQ := Lib.hid (show k1 + n2 ≤ s.size ∧ k1 + n2 + M.pass (s.data.toList.drop (k1 + n2)) false = M.pass s.data.toList false from ⟨by omega, hp3⟩)
      have hkj : IntKind.i64.wrap ((k1 : Int) + (n2 : Int)) = ((k1 + n2 : Nat) : Int) := by rw [IntWalk.i64_in _ (by omega)]; omega
      have hlt : k1 < k1 + n2 := by omega
      generalize k1 + n2 = k2 at hkj HQ hlt
      clear hp3 hr hN2 h2 h3
      rw [HH.out]
      go_wp2_with fail
      go_region_law (first
        | (go_simp; go_at_call 23; refine (but_any _ _).mono ?_; rintro e w5 ⟨b5, rfl, hc5, hb5⟩; have HB5 := Lib.hid ((drewR HB1.out).trans (hb5.mono (drewR HB1.out).size)); clear hb5)
        | (go_simp; go_at_call 20; refine (run_but 10 _ b5 _ HS2.out hc5).mono ?_; rintro e w6 ⟨rfl, rfl⟩; rw [HN2.out]))
      go_simp
      go_roundw
      case rel =>
        iterate 22 apply Exists.intro
        exact ⟨⟨k2, HQ.out.1, rfl, HQ.out.2, HB5.out⟩, rfl⟩
      case measure =>
        have := HQ.out.1
        simp [intOf]
        omega
    · have HH := Lib.hid (show Lib.hasPrefix (s.extract k1 s.size).data.toList [45, 45] = false by
        rw [HX.out]
        cases hq : Lib.hasPrefix (s.data.toList.drop k1) [45, 45] with
        | false => rfl
        | true => exact absurd (List.isPrefixOf_iff_prefix.1 hq) hr)
      have HF := Lib.hid (show M.pass s.data.toList false = k1 by rw [← HP.out, M.pass_none HST.out hr]; rfl)
      rw [HH.out]
      clear hr
      go_wp2_with fail
      go_ret
      exact ⟨ret_i (by rw [HF.out]), HB1.out⟩
end Go.Proofs.YtceknmibopnmhaaDoor
