/-
  Layer 8: AggNumbers: half a limit's text, and what hangs on it. No conditions.
-/
import Derived.Test.YtceknmibopnmhaaGreatDoorAEnR
namespace Go.Proofs.YtceknmibopnmhaaGreatDoor
open Go.ChangeShapes Go.WideShapes Go.ChangeAt Go.RowKit
set_option linter.unusedVariables false

theorem rep_x : ∀ n : Nat, Lib.repeatL [120] n = List.replicate n 120
  | 0 => rfl
  | n + 1 => by
    show [120] ++ Lib.repeatL [120] n = _
    rw [rep_x n, List.replicate_succ]
    rfl
theorem ba_cat (s t : ByteArray) : s ++ t = ⟨(s.data.toList ++ t.data.toList).toArray⟩ := by
  apply ByteArray.ext
  simp [ByteArray.data_append]
theorem half_facts (s : ByteArray) (hs : s = ⟨(Lib.repeatL [120] 32768).toArray⟩) : ∃ u s1 s2 s3 s4 : ByteArray, Cut1 s u ∧ CatOk s ⟨#[44]⟩ s1 ∧ CatOk s1 u s2 ∧ CatOk u ⟨#[44]⟩ s3 ∧ CatOk s3 s s4 ∧ s.size = 32768 ∧ u.size = 32767 ∧ s.data.toList = u.data.toList ++ [120] ∧
    (∀ (i : Nat) (x : UInt8), s.data.toList[i]? = some x → x = 120) ∧ s2 = ⟨(s.data.toList ++ 44 :: u.data.toList).toArray⟩ ∧ s4 = ⟨(u.data.toList ++ 44 :: s.data.toList).toArray⟩ := by
  rw [rep_x] at hs
  have e1 : s.data.toList = List.replicate 32768 120 := by rw [hs]
  have z1 : s.size = 32768 := by
    show s.data.size = _
    rw [← Array.length_toList, e1, List.length_replicate]
  have e2 : (s.extract 1 s.size).data.toList = List.replicate 32767 120 := by
    rw [z1, ByteArray.data_extract, Array.toList_extract, e1]
    unfold List.extract
    rw [List.drop_replicate, List.take_replicate]
    rw [show min (32768 - 1) (32768 - 1) = 32767 from by decide]
  have z2 : (s.extract 1 s.size).size = 32767 := by
    show (s.extract 1 s.size).data.size = _
    rw [← Array.length_toList, e2, List.length_replicate]
  generalize hu : s.extract 1 s.size = u at e2 z2
  have d1 : (⟨#[44]⟩ : ByteArray).size = 1 := rfl
  have d2 : (⟨#[44]⟩ : ByteArray).data.toList = [44] := rfl
  have q1 : (s ++ (⟨#[44]⟩ : ByteArray)).size = 32769 := by rw [ByteArray.size_append, z1, d1]
  have q3 : (u ++ (⟨#[44]⟩ : ByteArray)).size = 32768 := by rw [ByteArray.size_append, z2, d1]
  refine ⟨u, _, _, _, _, ⟨by rw [z1]; decide, hu⟩, ⟨by rw [z1, d1]; decide, rfl⟩, ⟨by rw [q1, z2]; decide, rfl⟩, ⟨by rw [z2, d1]; decide, rfl⟩, ⟨by rw [q3, z1]; decide, rfl⟩, z1, z2, ?_, ?_, ?_, ?_⟩
  · rw [e1, e2]
    exact List.replicate_succ' (n := 32767)
  · intro i x hx
    rw [e1] at hx
    exact List.eq_of_mem_replicate (List.mem_of_getElem? hx)
  · rw [ba_cat, ba_cat s, d2]
    simp
  · rw [ba_cat, ba_cat u, d2]
    simp
theorem c5_is (w0 : World) (hW : Wd w0) (s u s2 : ByteArray) (h1 : s.size = 32768) (h2 : u.size = 32767) (hp : s.data.toList = u.data.toList ++ [120]) (hx : ∀ (i : Nat) (x : UInt8), s.data.toList[i]? = some x → x = 120) (e2 : s2 = ⟨(s.data.toList ++ 44 :: u.data.toList).toArray⟩) :
    CmIs w0 2 0 s2 ⟨#[103, 114, 111, 117, 112, 95, 99, 111, 110, 99, 97, 116]⟩ false [(2, 0, s), (2, 0, u)] false :=
  cm_is named_join rfl 2 0 s2 [txT s, txT u] false (by
    rw [en_pair s u [120] h1 h2 hp, e2]
    have := pair_ne s u hx h1 h2
    simp only [decide_eq_false this, Bool.and_false]) (good2 (tx_good s (by omega)) (tx_good u (by omega))) (by simp) hW
theorem c6_is (w0 : World) (hW : Wd w0) (s u s4 : ByteArray) (h1 : s.size = 32768) (h2 : u.size = 32767) (hp : s.data.toList = u.data.toList ++ [120]) (e4 : s4 = ⟨(u.data.toList ++ 44 :: s.data.toList).toArray⟩) :
    CmIs w0 2 0 s4 ⟨#[103, 114, 111, 117, 112, 95, 99, 111, 110, 99, 97, 116]⟩ false [(2, 0, s), (2, 0, u)] true :=
  cm_is named_join rfl 2 0 s4 [txT s, txT u] true (by
    rw [en_pair s u [120] h1 h2 hp, e4]
    simp) (good2 (tx_good s (by omega)) (tx_good u (by omega))) (by simp) hW
theorem c4_is (w0 : World) (hW : Wd w0) (s : ByteArray) (h1 : s.size = 32768) : ErIs w0 3 ⟨#[103, 114, 111, 117, 112, 95, 99, 111, 110, 99, 97, 116]⟩ [(2, 0, s), (2, 0, s)] :=
  er_is named_join 3 [txT s, txT s] (en_full s h1) (good2 (tx_good s (by omega)) (tx_good s (by omega))) (by simp) hW
theorem g_max : GoodT (nmT 9223372036854775807) := nm_good _ (by unfold In64; omega)
theorem g_min : GoodT (nmT (-9223372036854775808)) := nm_good _ (by unfold In64; omega)
theorem g_mi1 : GoodT (nmT (-9223372036854775807)) := nm_good _ (by unfold In64; omega)
theorem g_m1 : GoodT (nmT (-1)) := nm_good _ (by unfold In64; omega)
theorem good4 {a b c d : Trip} (h1 : GoodT a) (h2 : GoodT b) (h3 : GoodT c) (h4 : GoodT d) : ∀ t ∈ [a, b, c, d], GoodT t := fun t ht => by
  simp only [List.mem_cons, List.mem_nil_iff, or_false] at ht
  rcases ht with rfl | rfl | rfl | rfl <;> assumption
theorem c0_is (w0 : World) (hW : Wd w0) : ErIs w0 20 ⟨#[116, 111, 116, 97, 108]⟩ [(1, (-9223372036854775808), ⟨#[]⟩), (1, (-1), ⟨#[]⟩)] :=
  er_is named_total 20 [nmT (-9223372036854775808), nmT (-1)] en4 (good2 g_min g_m1) (by decide) hW
theorem c1_is (w0 : World) (hW : Wd w0) : CmIs w0 1 (-9223372036854775808) ⟨#[]⟩ ⟨#[115, 117, 109]⟩ false [(1, (-9223372036854775807), ⟨#[]⟩), (1, (-1), ⟨#[]⟩)] true :=
  cm_is named_sum rfl 1 _ ⟨#[]⟩ [nmT (-9223372036854775807), nmT (-1)] true (by rw [en5]; simp) (good2 g_mi1 g_m1) (by decide) hW
theorem c2_is (w0 : World) (hW : Wd w0) : CmIs w0 1 (-1) ⟨#[]⟩ ⟨#[115, 117, 109]⟩ false [(1, 9223372036854775807, ⟨#[]⟩), (1, (-9223372036854775808), ⟨#[]⟩), (1, 9223372036854775807, ⟨#[]⟩), (1, (-9223372036854775807), ⟨#[]⟩)] true :=
  cm_is named_sum rfl 1 _ ⟨#[]⟩ [nmT 9223372036854775807, nmT (-9223372036854775808), nmT 9223372036854775807, nmT (-9223372036854775807)] true (by rw [en6]; simp) (good4 g_max g_min g_max g_mi1) (by decide) hW
theorem c3_is (w0 : World) (hW : Wd w0) : ErIs w0 20 ⟨#[115, 117, 109]⟩ [(1, 9223372036854775807, ⟨#[]⟩), (1, 9223372036854775807, ⟨#[]⟩), (1, 9223372036854775807, ⟨#[]⟩)] :=
  er_is named_sum 20 [nmT 9223372036854775807, nmT 9223372036854775807, nmT 9223372036854775807] en7 (good3 g_max g_max g_max) (by decide) hW
end Go.Proofs.YtceknmibopnmhaaGreatDoor
