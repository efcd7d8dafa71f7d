/-
  putBody with Put's closure (layer 3, record). Conditions: right values; less than 2^40 bytes ahead.
-/
import Derived.Test.YtdhdfeiobjmdaaaRHead
import Derived.Deep.RegionHeld3
import Derived.Deep.DeepCutAuto
namespace Go.Proofs.Ytdhdfeiobjmdaaa
open Go.ChangeShapes Go.WideShapes Go.ChangeAt Go.RowKit
set_option linter.unusedVariables false

def u64N (n : Int) : Nat := (n % 18446744073709551616).toNat
/-- the bytes of a value in a row -/
def bodyL (k n : Int) (s : ByteArray) : List UInt8 := if k = 1 then beN (u64N n) (lenI n) else s.data.toList

def BodyRel (base p : Nat) (D : List Nat) (w : World) (xs s : List UInt8) (i : Value) (wr : World) : Prop :=
  ∃ k : Nat, k ≤ s.length ∧ i = .int .i64 k ∧ Acc base p D wr (xs ++ s.take k) ∧ Kept base D w wr

theorem Kept.undrew {base : Nat} {D : List Nat} {w w' : World} (h : Kept base D w.drew w') : Kept base D w w' := ⟨⟨h.1.os, h.1.tape, h.1.output, h.1.size, h.1.block⟩, h.2⟩
set_option maxRecDepth 100000 in
set_option maxHeartbeats 800000 in
theorem putBodyP (base p : Nat) (D : List Nat) (xs : List UInt8) (k n : Int) (s : ByteArray) (w : World) (hA : Acc base p D w xs) (hn : In64 n) (hs : s.size ≤ 1099511627) (hl : xs.length ≤ 1080000000000) :
    Calls Try.prog 58 #[.agg #[.int .u8 k, .int .i64 n, .string s], PutF p] w fun e w' => e = .returned (.tuple #[]) ∧ Acc base p D w' (xs ++ bodyL k n s) ∧ Kept base D w w' := by
  have HA := Lib.hid (hA.alloc (box k n s))
  have HB := Lib.hid (kept_alloc (base := base) (D := D) (box k n s) hA.base_le hA.lts)
  have HN := Lib.hid (box_new w k n s D base)
  have hsl : s.data.toList.length = s.size := by rcases s with ⟨⟨l⟩⟩; rfl
  clear hA
  by_cases h1 : k = 1
  · subst h1
    have HW := Lib.hid (show IntKind.u64.wrap n = ((u64N n : Nat) : Int) by rw [show IntKind.u64.wrap n = n % 18446744073709551616 by simp [IntKind.wrap, IntKind.bits, IntKind.signed]]; unfold u64N; omega)
    have hu : u64N n < 18446744073709551616 := by unfold u64N; omega
    have HN6 := Lib.hid hn
    have hli : lenI n ≤ 8 := (lenF_range 7 n).2
    go_enter Try.func58, Try.ntmps58
    go_wp2_with fail
    have HC := Lib.hid (show (w.alloc (box 1 n s)).cell? ⟨w.heap.size, 1, none⟩ = some (.int .i64 n) by simp [go_sem])
    have HAd := Lib.hid (show Acc base p (w.heap.size :: D) (w.alloc (box 1 n s)).drew xs from HA.out)
    go_region_held3 (fun X => X.cell? ⟨w.heap.size, 1, none⟩ = some (.int .i64 n))
      (first | exact HC.out | exact (HK2.out.cell List.mem_cons_self 1).trans HC.out)
      (first
        | (go_at_call 81; refine (intLen_any _ _ HN6.out).mono ?_; rintro e wa ⟨rfl, rfl⟩)
        | (go_at_call 78; rw [HW.out]; refine (putNumberP base p (w.heap.size :: D) xs (u64N n) (lenI n) _ HAd.out hu hli (by omega)).mono ?_; rintro e w2 ⟨rfl, hA2, hK2⟩; have HA2 := Lib.hid hA2; have HK2 := Lib.hid hK2; clear hA2 hK2))
    go_wp2_with fail
    refine bodyPost_ret (results_none rfl _ _ _) rfl ?_
    have hK : Kept base (w.heap.size :: D) (w.alloc (box 1 n s)) w2 := HK2.out.undrew
    exact ⟨rfl, HA2.out.tail, HB.out.trans hK.tail⟩
  · have e1 : (k == 1) = false := by simpa using h1
    have HP := Lib.hid (show s.data.toList = bodyL k n s by simp [bodyL, h1])
    clear h1
    go_enter Try.func58, Try.ntmps58
    go_wp2_with fail
    go_loopw [4, 19] (fun x i wr => BodyRel base p (w.heap.size :: D) (w.alloc (box k n s)) xs s.data.toList i wr) (fun _ i _ => s.size - (intOf i).toNat)
    case atStart => exact ⟨0, Nat.zero_le _, rfl, by simpa using HA.out, Kept.refl _ _ _⟩
    case round =>
      obtain ⟨j, hj, rfl, ha, hK⟩ := hrel
      rw [hsl] at hj
      have HA1 := Lib.hid ha
      have HK1 := Lib.hid hK
      obtain ⟨c0, c1, c2⟩ := HN.out wr hK
      clear ha hK
      by_cases hlt : j < s.size
      · have HT := Lib.hid (show xs ++ s.data.toList.take (j + 1) = (xs ++ s.data.toList.take j) ++ [s[j]] by rw [List.take_add_one, getU s j hlt, List.append_assoc]; rfl)
        have HL := Lib.hid (show (xs ++ s.data.toList.take j).length ≤ 1099511627776 by rw [List.length_append, List.length_take]; omega)
        go_wp2_with fail
        refine (put1_any base p _ _ s[j] wr HA1.out HL.out).mono ?_
        rintro e w1 ⟨rfl, hA2, hK2⟩
        have HA2 := Lib.hid hA2
        have HK2 := Lib.hid (HK1.out.trans hK2)
        clear hA2 hK2 c0 c1 c2
        go_wp2_with fail
        go_roundw
        case rel => exact ⟨j + 1, by rw [hsl]; omega, by go_num, by rw [HT.out]; exact HA2.out, HK2.out⟩
        case measure => simp [intOf]; omega
      · have HTk := Lib.hid (show xs ++ s.data.toList.take j = xs ++ bodyL k n s by rw [← HP.out, show j = s.data.toList.length by omega, List.take_length])
        go_wp2_with fail
        go_end0
        exact ⟨rfl, by rw [← HTk.out]; exact HA1.out.tail, HB.out.trans HK1.out.tail⟩
end Go.Proofs.Ytdhdfeiobjmdaaa
