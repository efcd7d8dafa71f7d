/-
  Contracts of the document's own answers for layer 1: powers, digits, bytes behind bytes, and what is written. Conditions: sizes as stated.
-/
import Derived.Test.YtlobfmdkaghfmaaOpen
import Derived.Test.YtlobfmdkaghfmaaPowMath
import Derived.Test.YtlobfmdkaghfmaaListMath
namespace Go.Proofs.Ytlobfmdkaghfmaa
open Go.ChangeShapes Go.WideShapes Go.ChangeAt Go.RowKit
set_option linter.unusedVariables false

/-- 128 to the k -/
def pw (k : Nat) : Nat := 128 ^ k
theorem pw_succ (k : Nat) : pw (k + 1) = pw k * 128 := Nat.pow_succ 128 k
theorem pw_pos (k : Nat) : 0 < pw k := Nat.pow_pos (by omega)
theorem pw_le {k : Nat} (h : k ≤ 9) : pw k ≤ 9223372036854775808 := by
  unfold pw; rw [pow128]; exact pow_le_63 h
theorem pw_le8 {k : Nat} (h : k ≤ 8) : pw k ≤ 72057594037927936 := by
  have := Nat.pow_le_pow_right (n := 128) (by omega) h
  unfold pw
  simpa using this

def PwRel (k : Nat) (n i : Value) : Prop := ∃ j : Nat, j ≤ k ∧ i = .int .i64 j ∧ n = .int .u64 (pw j : Nat)

theorem power_any (k : Nat) (w : World) (hk : k ≤ 9) : Calls Try.prog 31 #[.int .i64 k] w fun e w' => e = .returned (.int .u64 (pw k : Nat)) ∧ w = w' := by
  go_enter Try.func31, Try.ntmps31
  go_wp2_with fail
  go_loop [3, 4] (fun n i => PwRel k n i) (fun _ i => k - (intOf i).toNat)
  case atStart => exact ⟨0, Nat.zero_le _, rfl, rfl⟩
  case round =>
    obtain ⟨j, hj, rfl, rfl⟩ := hrel
    by_cases hlt : j < k
    · have hm : IntKind.u64.wrap ((pw j : Int) * 128) = (pw (j + 1) : Nat) := by
        have := pw_le8 (show j ≤ 8 by omega)
        rw [pw_succ, IntKind.wrap_u64]
        omega
      have hp := pw_succ j
      have HP := Lib.hid hp
      clear hp
      go_wp2_with fail
      go_round
      case rel => exact ⟨j + 1, by omega, by go_num, by first | rfl | (rw [HP.out]; go_num)⟩
      case measure => simp [intOf]; omega
    · obtain rfl : j = k := by omega
      go_wp2_with fail
      go_ret
      exact ⟨rfl, rfl⟩

def VarRel (n : Nat) (w : World) (out k : Value) (wr : World) : Prop :=
  ∃ (j q : Nat) (xs : List UInt8), j ≤ 9 ∧ k = .int .i64 j ∧ q = n / pw j ∧ xs ++ Lib.uvarint q = Lib.uvarint n ∧ xs.length = j ∧ Own wr w.heap.size out xs ∧ Below w.heap.size w wr

set_option maxRecDepth 100000 in
set_option maxHeartbeats 1000000 in
theorem Varint_any (n : Nat) (w : World) (hn : n < 18446744073709551616) : Calls Try.prog 32 #[.int .u64 n] w (RetOwn (Lib.uvarint n) w) := by
  have HN := Lib.hid hn
  clear hn
  go_enter Try.func32, Try.ntmps32
  go_wp2_with fail
  go_loopw [3, 4, 5] (fun out k d wr => VarRel n w out k wr) (fun _ k _ _ => 10 - (intOf k).toNat)
  case atStart => exact ⟨0, n, [], by omega, rfl, by simp [pw], rfl, rfl, World.ownsRow_nil w _ _ _, Below.refl _ _⟩
  case round =>
    obtain ⟨j, q, xs, hj, rfl, hq, hxs, hxl, ho, hb⟩ := hrel
    have hp1 := pw_pos j
    have hdv : (n : Int) / (pw j : Int) = (q : Nat) := by rw [hq]; simp
    have HPW := Lib.hid (fun (W : World) => power_any j W hj)
    obtain ⟨A, c, rfl, hc1, hc2, hrd⟩ := ho.form
    have hsz := hb.size
    have hqlt : q < 18446744073709551616 := by rw [hq]; exact Nat.lt_of_le_of_lt (Nat.div_le_self _ _) HN.out
    have hwq : IntKind.u64.wrap (q : Int) = q := by rw [IntKind.wrap_u64]; omega
    have HQLT := Lib.hid hqlt
    clear hqlt
    by_cases hmore : j < 9 ∧ 128 ≤ q
    · obtain ⟨hj9, hq128⟩ := hmore
      have hxs' : (xs ++ [(q % 128 + 128).toUInt8]) ++ Lib.uvarint (q / 128) = Lib.uvarint n := by
        rw [← hxs, List.append_assoc, Lib.uvarint_big hq128]; rfl
      have hq' : q / 128 = n / pw (j + 1) := by rw [hq, pw_succ, Nat.div_div_eq_div_mul]
      have HX := Lib.hid hxs'
      have HQ := Lib.hid hq'
      have HXL := Lib.hid hxl
      have HZ := Lib.hid (show (q : Int) % 128 + 128 = ((q % 128 + 128).toUInt8.toNat : Int) from by rw [u8nat (by omega)]; omega)
      clear hxs hxs' hq' hq hxl
      go_wp2_with fail
      refine (HPW.out _).mono ?_
      rintro e w1 ⟨rfl, rfl⟩
      go_wp2_with fail
      refine (HPW.out _).mono ?_
      rintro e w1 ⟨rfl, rfl⟩
      go_wp2_with (at_builtin; refine wpList_app1 rfl (.tmp 24) (.tmp 28) rfl w.heap.size (.slice A xs.length c) xs rfl ho _ (q % 128 + 128).toUInt8 HZ.out rfl (by have := HXL.out; omega) (by omega) ?_; intro v1 w1 ho1 hb1)
      go_roundw
      case rel => exact ⟨j + 1, q / 128, _, by omega, by go_num, HQ.out, HX.out, by rw [List.length_append, HXL.out]; rfl, ho1, hb.trans hb1⟩
      case measure => simp [intOf]; omega
    · have hq1 : q < 128 := by
        by_cases hj9 : j < 9
        · omega
        · obtain rfl : j = 9 := by omega
          have hn := HN.out
          have h9 : pw 9 = 9223372036854775808 := by decide
          rw [hq, h9]
          omega
      rw [Lib.uvarint_small hq1] at hxs
      have HX := Lib.hid hxs
      have HXL := Lib.hid hxl
      have HZ := Lib.hid (show (q : Int) = (q.toUInt8.toNat : Int) from by rw [u8nat (by omega)])
      have HZ2 := Lib.hid (show (q : Int) % 128 = (q.toUInt8.toNat : Int) from by rw [u8nat (by omega)]; omega)
      clear hxs hq hxl hmore
      by_cases hj9 : j < 9
      · go_wp2_with fail
        refine (HPW.out _).mono ?_
        rintro e w1 ⟨rfl, rfl⟩
        go_wp2_with fail
        refine (HPW.out _).mono ?_
        rintro e w1 ⟨rfl, rfl⟩
        go_wp2_with (at_builtin; refine wpList_app1 rfl (.tmp 30) (.tmp 33) rfl w.heap.size (.slice A xs.length c) xs rfl ho _ q.toUInt8 (by first | exact HZ2.out | exact HZ.out) rfl (by have := HXL.out; omega) (by omega) ?_; intro v1 w1 ho1 hb1)
        go_ret
        rw [HX.out] at ho1
        exact ⟨v1, rfl, ho1, hb.trans hb1⟩
      · obtain rfl : j = 9 := by omega
        go_wp2_with fail
        refine (HPW.out _).mono ?_
        rintro e w1 ⟨rfl, rfl⟩
        go_wp2_with (at_builtin; refine wpList_app1 rfl (.tmp 30) (.tmp 33) rfl w.heap.size (.slice A xs.length c) xs rfl ho _ q.toUInt8 (by first | exact HZ2.out | exact HZ.out) rfl (by have := HXL.out; omega) (by omega) ?_; intro v1 w1 ho1 hb1)
        go_ret
        rw [HX.out] at ho1
        exact ⟨v1, rfl, ho1, hb.trans hb1⟩

/-- bytes gone through, put behind what is there -/
def BehRel (base : Nat) (pre m : List UInt8) (w : World) (out i : Value) (wr : World) : Prop :=
  ∃ k : Nat, k ≤ m.length ∧ i = .int .i64 k ∧ Own wr base out (pre ++ m.take k) ∧ Below base w wr

set_option maxHeartbeats 1000000 in
theorem behind_any (A : Option Addr) (c : Nat) (l : List UInt8) (B : Option Addr) (d : Nat) (m : List UInt8) (w : World) (hl : l.length ≤ 274877906944) (hm : m.length ≤ 274877906944) (hA : Rd w w.heap.size A l) (hB : Rd w w.heap.size B m) :
    Calls Try.prog 33 #[.slice A l.length c, .slice B m.length d] w (RetOwn (l ++ m) w) := by
  go_enter Try.func33, Try.ntmps33
  go_wp2_with fail
  go_loopw [5, 6] (fun out i wr => BehRel w.heap.size [] l w out i wr) (fun _ i _ => l.length - (intOf i).toNat)
  case atStart => exact ⟨0, Nat.zero_le _, rfl, World.ownsRow_nil w _ _ _, Below.refl _ _⟩
  case round =>
    obtain ⟨k, hk, rfl, ho, hb⟩ := hrel
    rw [List.nil_append] at ho
    have hsz := hb.size
    have hrd := hA.below hb
    have htl : (l.take k).length ≤ k := List.length_take_le _ _
    by_cases hlt : k < l.length
    · obtain ⟨ad, u, rfl, hadb, hget, hcell⟩ := hrd.cell hlt
      unfold b8 at hcell
      have HS := Lib.hid (show ([] : List UInt8) ++ l.take (k + 1) = l.take k ++ [u] from by rw [List.nil_append, take_snoc hget])
      obtain ⟨A1, c1, hv, hc1, hc2, hrd1⟩ := ho.form
      generalize hcur : l.take k = cur at *
      subst hv
      clear hget hcur
      go_wp2_with (at_builtin; refine wpList_app1 rfl (.tmp 14) (.tmp 19) rfl w.heap.size (.slice A1 cur.length c1) cur rfl ho _ u rfl rfl (by omega) (by omega) ?_; intro v1 w1 ho1 hb1)
      go_roundw
      case rel => exact ⟨k + 1, by omega, by go_num, by rw [HS.out]; exact ho1, hb.trans hb1⟩
      case measure => simp [intOf]; omega
    · obtain rfl : k = l.length := by omega
      rw [List.take_length] at ho
      have hB1 := hB.below hb
      go_wp2_with fail
      go_loopw [5, 7] (fun out i wr => BehRel w.heap.size l m w out i wr) (fun _ i _ => m.length - (intOf i).toNat)
      case atStart => exact ⟨0, Nat.zero_le _, rfl, by simpa using ho, hb⟩
      case round =>
        obtain ⟨k, hk, rfl, ho, hb⟩ := hrel
        have hsz := hb.size
        have hrd := hB.below hb
        have htl : (l ++ m.take k).length ≤ l.length + k := by rw [List.length_append]; have := List.length_take_le k m; omega
        by_cases hlt : k < m.length
        · obtain ⟨ad, u, rfl, hadb, hget, hcell⟩ := hrd.cell hlt
          unfold b8 at hcell
          have HS := Lib.hid (show l ++ m.take (k + 1) = (l ++ m.take k) ++ [u] from by rw [take_snoc hget, List.append_assoc])
          obtain ⟨A1, c1, hv, hc1, hc2, hrd1⟩ := ho.form
          generalize hcur : l ++ m.take k = cur at *
          subst hv
          clear hget hcur
          go_wp2_with (at_builtin; refine wpList_app1 rfl (.tmp 27) (.tmp 32) rfl w.heap.size (.slice A1 cur.length c1) cur rfl ho _ u rfl rfl (by omega) (by omega) ?_; intro v1 w1 ho1 hb1)
          go_roundw
          case rel => exact ⟨k + 1, by omega, by go_num, by rw [HS.out]; exact ho1, hb.trans hb1⟩
          case measure => simp [intOf]; omega
        · obtain rfl : k = m.length := by omega
          rw [List.take_length] at ho
          go_wp2_with fail
          go_ret
          exact ⟨_, rfl, ho, hb⟩
end Go.Proofs.Ytlobfmdkaghfmaa
