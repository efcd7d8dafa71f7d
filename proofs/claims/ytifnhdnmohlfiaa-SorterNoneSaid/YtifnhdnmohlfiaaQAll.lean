/-
  Layer 7, sorter: the law's helper all: the texts of all rows, one behind the other. Conditions: fewer than 100 rows of one text each.
-/
import Derived.Test.YtifnhdnmohlfiaaQFace
import Derived.Test.YtifnhdnmohlfiaaRHelp
namespace Go.Proofs.Ytifnhdnmohlfiaa
open Go.ChangeShapes Go.WideShapes Go.ChangeAt Go.RowKit
set_option linter.unusedVariables false

theorem num7_any (n : Int) (w : World) : Calls Try.prog 11 #[.int .i64 n] w fun e w' => e = .returned (vv 1 n ⟨#[]⟩) ∧ Below w.heap.size w w' := by
  have h : ∀ w, Calls Try.prog 32 #[.int .i64 n] w fun e w' => e = .returned (vv 1 n ⟨#[]⟩) ∧ Below w.heap.size w w' := fun w => by
    go_enter Try.func32, Try.ntmps32
    go_wp2
    exact bodyPost_ret (v := vv 1 n ⟨#[]⟩) (by simp [results, Try.results32, go_sem]) rfl ⟨rfl, (Below.refl _ _).alloc (Nat.le_refl _) _⟩
  go_enter Try.func11, Try.ntmps11
  go_wp2_with (go_at_call 32; refine (h _).mono ?_; rintro e wb ⟨rfl, bb⟩; obtain ⟨u0, u1, u2, v0, v1, v2⟩ := w1_out w _ bb; have hz : w.heap.size < wb.heap.size := (by have := bb.size; simp at this; omega))
  exact bodyPost_ret (v := vv 1 n ⟨#[]⟩) (by simp [results, Try.results11, go_sem, u0, u1, u2]) rfl ⟨rfl, w1_end _ _ bb _ _ _⟩
theorem text7_any (s : ByteArray) (w : World) : Calls Try.prog 13 #[.string s] w fun e w' => e = .returned (vv 2 0 s) ∧ Below w.heap.size w w' := by
  have h : ∀ w, Calls Try.prog 36 #[.string s] w fun e w' => e = .returned (vv 2 0 s) ∧ Below w.heap.size w w' := fun w => by
    go_enter Try.func36, Try.ntmps36
    go_wp2
    exact bodyPost_ret (v := vv 2 0 s) (by simp [results, Try.results36, go_sem]) rfl ⟨rfl, (Below.refl _ _).alloc (Nat.le_refl _) _⟩
  go_enter Try.func13, Try.ntmps13
  go_wp2_with (go_at_call 36; refine (h _).mono ?_; rintro e wb ⟨rfl, bb⟩; obtain ⟨u0, u1, u2, v0, v1, v2⟩ := w1_out w _ bb; have hz : w.heap.size < wb.heap.size := (by have := bb.size; simp at this; omega))
  exact bodyPost_ret (v := vv 2 0 s) (by simp [results, Try.results13, go_sem, u0, u1, u2]) rfl ⟨rfl, w1_end _ _ bb _ _ _⟩
def catT (T : List ByteArray) : ByteArray := T.foldl (· ++ ·) ⟨#[]⟩
theorem catT_snoc (T : List ByteArray) (t : ByteArray) : catT (T ++ [t]) = catT T ++ t := by simp [catT]
def AllRel (w : World) (lo s : Nat) (B : List (List UInt8)) (T : List ByteArray) (v3 v4 : Value) (wr : World) : Prop :=
  ∃ j : Nat, j ≤ T.length ∧ v3 = .string (catT (T.take j)) ∧ v4 = .int .i64 (j : Int) ∧ (catT (T.take j)).size ≤ 100 * j ∧ SorS wr lo s B j ∧ But (fun k => k = s) w wr
set_option maxRecDepth 100000 in
set_option maxHeartbeats 1000000 in
theorem all_any {w : World} {lo s : Nat} {B : List (List UInt8)} (h : SorS w lo s B 0) (T : List ByteArray) (hT : B.length = T.length) (hg : ∀ (j : Nat) (t : ByteArray), T[j]? = some t → t.size ≤ 100 ∧ ∃ b, B[j]? = some b ∧ ∃ kk nn, getN b = some [(kk, nn, t)]) (hl : T.length < 100) :
    Calls Try.prog 52 #[.pointer (some ⟨s, 0, none⟩)] w fun e w' => e = .returned (.string (catT T)) ∧ SorS w' lo s B T.length ∧ But (fun k => k = s) w w' := by
  have H0 := Lib.hid h
  have HG := Lib.hid hg
  have HT := Lib.hid hT
  obtain ⟨n, hn⟩ : ∃ n, T.length = n := ⟨_, rfl⟩
  have HN := Lib.hid hn
  have hl2 : n < 100 := by omega
  clear h hg hT hn hl
  go_enter Try.func52, Try.ntmps52
  go_wp2_with fail
  go_loopw [3, 4] (fun v3 v4 wr => AllRel w lo s B T v3 v4 wr) (fun _ v4 _ => 100 - (intOf v4).toNat)
  case atStart => exact ⟨0, Nat.zero_le _, rfl, rfl, Nat.le_refl _, H0.out, But.refl _ _⟩
  case round =>
    obtain ⟨j, hj, rfl, rfl, hsz, hs, hb⟩ := hrel
    have hnl := HN.out
    have q1 : (j : Int) < 100 := by omega
    by_cases hlt : j < n
    · obtain ⟨t, ht⟩ : ∃ t, T[j]? = some t := ⟨T[j]'(by omega), List.getElem?_eq_getElem _⟩
      obtain ⟨hts, b, hb1, kk, nn, hgb⟩ := HG.out j t ht
      have HS := Lib.hid hs
      have HB := Lib.hid hb
      have HTT := Lib.hid (show catT (T.take (j + 1)) = catT (T.take j) ++ t by rw [List.take_add_one, ht]; exact catT_snoc _ _)
      generalize catT (T.take j) = acc at *
      clear hs hb hnl
      go_wp2_with fail
      refine (Next_s HS.out b hb1 [(kk, nn, t)] hgb (by have := HT.out; have := HN.out; omega)).mono ?_
      rintro e w1 ⟨v, rfl, hov, hs1, hb2⟩
      have hsz1 := HB.out.size
      obtain ⟨g, c, rfl, _, hgl⟩ := World.ownsRow.form hov (by show 0 < 1; omega)
      have c2 : w1.cell? ⟨g, 2, none⟩ = some (.string t) := (World.ownsRow.cellAt hov 2 (by show 2 < 3; omega)).trans rfl
      have HS1 := Lib.hid hs1
      have HB2 := Lib.hid hb2
      clear hov hs1 hb2
      go_wp2_with fail
      exact ⟨⟨j + 1, by have := HN.out; omega, by rw [HTT.out], by go_num, by rw [HTT.out, ByteArray.size_append]; omega, HS1.out, HB.out.same HB2.out⟩, by simp [intOf]; omega⟩
    · obtain rfl : j = n := by omega
      go_wp2_with fail
      refine (Next_s_end hs (by have := HT.out; omega) (by omega)).mono ?_
      rintro e w1 ⟨rfl, hs1, hb1⟩
      go_wp2_with fail
      go_ret
      rw [← hnl, List.take_length, hnl]
      exact ⟨rfl, hs1, hb.same (But.of_below hb1)⟩
end Go.Proofs.Ytifnhdnmohlfiaa
