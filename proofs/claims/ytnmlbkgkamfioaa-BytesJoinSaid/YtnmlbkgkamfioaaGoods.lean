/-
  The contract of BytesJoin's own function value: what a list has behind its count, twice, and that the count is right. Conditions: sizes as stated.
-/
import Derived.Test.YtnmlbkgkamfioaaOpen
import Derived.Test.YtnmlbkgkamfioaaListMath
import Derived.Deep.RegionHeld
import Derived.Laws.Concat
namespace Go.Proofs.Ytnmlbkgkamfioaa
open Go.ChangeShapes Go.WideShapes Go.ChangeAt Go.RowKit
set_option linter.unusedVariables false

def EachRel (ls : List (List UInt8)) (w : World) (each x i : Value) (wr : World) : Prop := ∃ k : Nat, k ≤ ls.length ∧ i = .int .i64 k ∧ each = .string ⟨(blobsE (ls.take k)).toArray⟩ ∧ Below w.heap.size w wr

def RetGoods (ls : List (List UInt8)) (w : World) (e : Ending) (w' : World) : Prop :=
  e = .returned (.tuple #[.string ⟨(blobsE ls).toArray⟩, .string ⟨(blobsE ls).toArray⟩, .bool true]) ∧ Below w.heap.size w w'

set_option maxHeartbeats 1000000 in
theorem goods_any (A : Option Addr) (c : Nat) (ls : List (List UInt8)) (w : World) (hl : ls.length ≤ 40) (h100 : ∀ m ∈ ls, m.length ≤ 100) (hA : RdL w w.heap.size A ls) :
    Calls Try.prog 27 #[.slice A ls.length c] w (RetGoods ls w) := by
  have hbl := blobsE_bound 100 ls h100 (by omega)
  have hD1 := Lib.uvarint_pos ls.length
  have hD2 := Lib.uvarint_length64 (x := ls.length) (by omega)
  have H100 := Lib.hid h100
  clear h100
  go_enter Try.func27, Try.ntmps27
  go_wp2_with fail
  refine (Blobs_any none 0 [] A c ls w (by simp) (by omega) (by omega) Rd.nil hA).mono ?_
  rintro e w1 ⟨v1, rfl, ho1, hb1⟩
  rw [List.nil_append] at ho1
  obtain ⟨A1, c1, rfl, hx1, hx2, hr1⟩ := ho1.form
  clear ho1
  go_wp2_with fail
  refine (Uint_any none 0 [] ls.length w1 (by simp) (by omega) Rd.nil).mono ?_
  rintro e w2 ⟨v2, rfl, ho2, hb2⟩
  rw [List.nil_append] at ho2
  obtain ⟨A2, c2, rfl, hy1, hy2, hr2⟩ := ho2.form
  have hr12 := hr1.on hb2
  have hw2 := hb1.trans (hb2.mono hb1.size)
  have hA2 := hA.on hw2
  clear ho2 hr1 hb1 hb2 hr2
  go_wp2_with fail
  go_loopw [7, 9, 19] (fun each x i wr => EachRel ls w2 each x i wr) (fun _ _ i _ => ls.length - (intOf i).toNat)
  case atStart => exact ⟨0, Nat.zero_le _, rfl, rfl, Below.refl _ _⟩
  case round =>
    obtain ⟨k, hk, rfl, rfl, hb⟩ := hrel
    by_cases hlt : k < ls.length
    · obtain ⟨ad, m, A3, c3, rfl, hadb, hget, hcell, hc31, hc32, hrd⟩ := (hA2.on hb).cell hlt
      have hm100 := H100.out m (mem_of_get hget)
      have hsn := take_snoc hget
      have hE := Lib.uvarint_length64 (x := m.length) (by omega)
      have HS := Lib.hid (show blobsE (ls.take (k + 1)) = blobsE (ls.take k) ++ blobE m from by rw [hsn, blobsE_snoc])
      have hle := blobsE_take_le ls k
      have hbe : (blobE m).length ≤ 110 := by rw [blobE_length]; omega
      have hcat := ByteArray.mk_append_mk (blobsE (ls.take k)) (blobE m)
      have HBM := Lib.hid (Blob_any none 0 [] A3 c3 m wr (by simp) (by omega) Rd.nil hrd)
      rw [List.nil_append, show Lib.uvarint m.length ++ m = blobE m from rfl] at HBM
      clear hget hsn
      go_wp2_with fail
      refine HBM.out.mono ?_
      rintro e w3 ⟨v3, rfl, ho3, hb3⟩
      obtain ⟨A4, c4, rfl, hz1, hz2, hr4⟩ := ho3.form
      have r4 := run_str hr4 c4
      clear ho3
      go_wp2_with fail
      go_roundw
      case rel => exact ⟨k + 1, by omega, by go_num, by rw [HS.out], hb.trans (hb3.mono hb.size)⟩
      case measure => simp [intOf]; omega
    · obtain rfl : k = ls.length := by omega
      have htl : ls.take ls.length = ls := List.take_length
      have hgr := hr12.on hb
      have hbw := hw2.trans (hb.mono hw2.size)
      have hel : (Lib.uvarint ls.length ++ blobsE ls).length = (Lib.uvarint ls.length).length + (blobsE ls).length := List.length_append
      have hnl : decide ((Lib.uvarint ls.length ++ blobsE ls).length < (Lib.uvarint ls.length).length) = false := decide_eq_false (by omega)
      obtain ⟨ad, _, rfl, _⟩ := hgr.cell (k := 0) (by omega)
      have HWL := Lib.hid (show IntKind.u64.wrap (ls.length : Int) = ls.length from by rw [IntKind.wrap_u64]; omega)
      have HWL2 := Lib.hid (show (ls.length : Int) = ls.length from rfl)
      have HL64 := Lib.hid (show ls.length < 18446744073709551616 from by omega)
      have hcut := hgr.cut (Lib.uvarint ls.length).length (blobsE ls).length c1 hx1
      rw [List.drop_left, List.take_length] at hcut
      have htk := hgr.take (Lib.uvarint ls.length).length
      rw [List.take_left] at htk
      have hx2' := hx2
      unfold maxLen at hx2'
      have hi0 : (0 : Int) ≤ ((Lib.uvarint ls.length).length : Int) := by omega
      have hi1 : ((Lib.uvarint ls.length).length : Int) ≤ c1 := by omega
      have hi2 : ((Lib.uvarint ls.length).length : Int) ≤ ((Lib.uvarint ls.length).length : Int) + ((blobsE ls).length : Int) := by omega
      have hi3 : ((Lib.uvarint ls.length).length : Int) + ((blobsE ls).length : Int) ≤ c1 := by omega
      have GS2 := Lib.hid (fun (W : World) (h : Below wr.heap.size wr W) => run_str (htk.on h) c1)
      clear hnl
      have hnl : decide (((Lib.uvarint ls.length).length : Int) + ((blobsE ls).length : Int) < ((Lib.uvarint ls.length).length : Int)) = false := decide_eq_false (by omega)
      by_cases hcq : c1 = (Lib.uvarint ls.length).length
      · rw [if_pos hcq] at hcut
        subst hcq
        have GS1 := Lib.hid (fun (W : World) (h : Below wr.heap.size wr W) => run_str (hcut.on h) 0)
        go_wp2_with fail
        go_region_held (fun W => Sem.run Try.prog (convert 30 9 (.slice (some ad) (blobsE ls).length 0)) W = .ok (.string ⟨(blobsE ls).toArray⟩) W ∧ Sem.run Try.prog (convert 30 9 (.slice (some ad) (Lib.uvarint ls.length).length  (Lib.uvarint ls.length).length)) W = .ok (.string ⟨(Lib.uvarint ls.length).toArray⟩) W)
          (first | go_keep | exact ⟨GS1.out _ (Below.refl _ _).drew, GS2.out _ (Below.refl _ _).drew⟩ | exact ⟨GS1.out _ ((Below.refl _ _).drew.trans hb7), GS2.out _ ((Below.refl _ _).drew.trans hb7)⟩)
          (first
            | (go_at_call 20; refine (Uint_int none 0 [] _ ls.length _ (by first | exact HWL.out | exact HWL2.out) (by simp) HL64.out Rd.nil).mono ?_; rintro e w7 ⟨v7, rfl, ho7, hb7⟩; rw [List.nil_append] at ho7; obtain ⟨A7, c7, rfl, hz1, hz2, hq7⟩ := ho7.form; have r7 := run_str hq7 c7))
        go_wp2_with fail
        all_goals go_ret3
        all_goals exact ⟨rfl, hbw.drew.trans (hb7.mono hbw.size)⟩
      · rw [if_neg hcq, Option.map_some] at hcut
        have GS1 := Lib.hid (fun (W : World) (h : Below wr.heap.size wr W) => run_str (hcut.on h) (c1 - (Lib.uvarint ls.length).length))
        go_wp2_with fail
        go_region_held (fun W => Sem.run Try.prog (convert 30 9 (.slice (some (ad.add (Lib.uvarint ls.length).length)) (blobsE ls).length (c1 - (Lib.uvarint ls.length).length))) W = .ok (.string ⟨(blobsE ls).toArray⟩) W ∧ Sem.run Try.prog (convert 30 9 (.slice (some ad) (Lib.uvarint ls.length).length c1)) W = .ok (.string ⟨(Lib.uvarint ls.length).toArray⟩) W)
          (first | go_keep | exact ⟨GS1.out _ (Below.refl _ _).drew, GS2.out _ (Below.refl _ _).drew⟩ | exact ⟨GS1.out _ ((Below.refl _ _).drew.trans hb7), GS2.out _ ((Below.refl _ _).drew.trans hb7)⟩)
          (first
            | (go_at_call 20; refine (Uint_int none 0 [] _ ls.length _ (by first | exact HWL.out | exact HWL2.out) (by simp) HL64.out Rd.nil).mono ?_; rintro e w7 ⟨v7, rfl, ho7, hb7⟩; rw [List.nil_append] at ho7; obtain ⟨A7, c7, rfl, hz1, hz2, hq7⟩ := ho7.form; have r7 := run_str hq7 c7))
        go_wp2_with fail
        all_goals go_ret3
        all_goals exact ⟨rfl, hbw.drew.trans (hb7.mono hbw.size)⟩
end Go.Proofs.Ytnmlbkgkamfioaa
