/-
  Contracts of the readers of package bytes: GetUint, GetBlob, GetBlobs. Conditions: sizes as stated.
-/
import Derived.Test.YtdhdfeiobjmdaaaLeaf
import Derived.Lib.VarintBits
import Derived.Deep.Cut
namespace Go.Proofs.Ytdhdfeiobjmdaaa
open Go.ChangeShapes Go.WideShapes Go.ChangeAt Go.RowKit
set_option linter.unusedVariables false

/-- GetUint's three results, as a value: of bytes from place p on that tell r -/
def getR (p : Nat) (r : Nat × Nat × Nat) : Value :=
  if r.2.2 = 0 then .tuple #[.int .u64 (r.1 : Nat), .int .i64 ((p + r.2.1 : Nat) : Int), .int .i64 0] else .tuple #[.int .u64 0, .int .i64 0, .int .i64 (r.2.2 : Nat)]

theorem getR_ok (p n k : Nat) : getR p (n, k, 0) = .tuple #[.int .u64 (n : Nat), .int .i64 ((p + k : Nat) : Int), .int .i64 0] := rfl
theorem getR_err (p n k e : Nat) (h : e ≠ 0) : getR p (n, k, e) = .tuple #[.int .u64 0, .int .i64 0, .int .i64 (e : Nat)] := by
  unfold getR
  rw [if_neg h]
theorem ret_three {k1 k2 k3 : IntKind} {a b x y z : Int} (h : a = b) (h2 : x = y) : Ending.returned (.tuple #[.int k1 a, .int k2 x, .int k3 z]) = .returned (.tuple #[.int k1 b, .int k2 y, .int k3 z]) := by rw [h, h2]

def GetRel (l : List UInt8) (p : Nat) (r : Nat × Nat × Nat) (n i : Value) : Prop :=
  ∃ (k acc : Nat) (z : Int), i = .int .i64 k ∧ n = .int .u64 z ∧ k ≤ 10 ∧ p + k ≤ l.length ∧ acc < 128 ^ k ∧ (k ≤ 9 → z = acc) ∧ decU (10 - k) k acc (l.drop (p + k)) = r

theorem pow_le_63 {k : Nat} (h : k ≤ 9) : 2 ^ (7 * k) ≤ 9223372036854775808 := by
  have := Nat.pow_le_pow_right (n := 2) (by omega) (show 7 * k ≤ 63 by omega)
  simpa using this

theorem orAny (k acc dm : Nat) (hk : k ≤ 9) (hacc : acc < 128 ^ k) (hd : dm < 128) :
    (k ≤ 8 ∨ dm ≤ 1) → bits .or .u64 (acc : Int) (IntKind.u64.wrap ((dm : Int) * 2 ^ (7 * k))) = ((acc + dm * 128 ^ k : Nat) : Int) := by
  intro h
  have hp := pow_le_63 hk
  rw [pow128] at *
  have hlt : dm * 2 ^ (7 * k) < 18446744073709551616 := by
    rcases h with h | h
    · have h1 := Nat.pow_le_pow_right (n := 2) (by omega) (show 7 * k ≤ 56 by omega)
      have h2 : dm * 2 ^ (7 * k) ≤ 127 * 2 ^ 56 := Nat.mul_le_mul (by omega) h1
      omega
    · have h2 : dm * 2 ^ (7 * k) ≤ 1 * 9223372036854775808 := Nat.mul_le_mul h hp
      omega
  have e : ((dm : Int) * 2 ^ (7 * k)) = ((dm * 2 ^ (7 * k) : Nat) : Int) := by simp
  have hm : (((dm * 2 ^ (7 * k) : Nat) : Int)) % ((2 : Int) ^ (7 * k)) = 0 := by
    rw [← e]
    exact Int.mul_emod_left _ _
  rw [e]
  generalize hx : dm * 2 ^ (7 * k) = x at *
  have hw : IntKind.u64.wrap (x : Int) = x := by
    rw [IntKind.wrap_u64]; omega
  rw [hw, bits_join_low .u64 64 (by decide) wraps_u64 (7 * k) (acc : Int) (x : Int) (by omega) (by have : ((2 : Int) ^ (7 * k)) = ((2 ^ (7 * k) : Nat) : Int) := by simp
                                                                                                   rw [this]; omega) (by omega) (by omega) hm (by simpa using (by omega : (x : Int) < 18446744073709551616))]
  simp

theorem decU_end (k acc : Nat) (hk : k < 10) : decU (10 - k) k acc [] = (0, 0, 11) := by
  obtain ⟨f, hf⟩ : ∃ f, 10 - k = f + 1 := ⟨9 - k, by omega⟩
  rw [hf]
  rfl

theorem decU_step (k acc : Nat) (d : UInt8) (t : List UInt8) (hk : k < 10) :
    decU (10 - k) k acc (d :: t) = if 128 ≤ d.toNat then decU (10 - (k + 1)) (k + 1) (acc + d.toNat % 128 * 128 ^ k) t
      else if lastOk d.toNat k then (acc + d.toNat % 128 * 128 ^ k, k + 1, 0) else (0, 0, 10) := by
  obtain ⟨f, hf⟩ : ∃ f, 10 - k = f + 1 := ⟨9 - k, by omega⟩
  have hf' : 10 - (k + 1) = f := by omega
  rw [hf, hf']
  rfl

theorem drop_cons {l : List UInt8} {j : Nat} {d : UInt8} (h : l[j]? = some d) : l.drop j = d :: l.drop (j + 1) := by
  have hj : j < l.length := by
    rcases Nat.lt_or_ge j l.length with hlt | hge
    · exact hlt
    · rw [List.getElem?_eq_none hge] at h; cases h
  rw [List.drop_eq_getElem_cons hj]
  rw [List.getElem?_eq_getElem hj] at h
  injection h with h
  rw [h]

set_option maxRecDepth 100000 in
theorem GetUint_in (A : Option Addr) (c : Nat) (l : List UInt8) (p : Nat) (w : World) (hl : l.length ≤ 1099511627776) (hp : p ≤ l.length) (hA : Rd w w.heap.size A l) :
    Calls Try.prog 84 #[.slice A l.length c, .int .i64 p] w fun e w' => e = .returned (getR p (decU 10 0 0 (l.drop p))) ∧ w = w' := by
  have hp0 : decide ((p : Int) < 0) = false := decide_eq_false (by omega)
  have hp1 : decide (l.length < p) = false := decide_eq_false (by omega)
  go_enter Try.func84, Try.ntmps84
  go_wp2_with fail
  go_loop [7, 18] (fun n i => GetRel l p (decU 10 0 0 (l.drop p)) n i) (fun _ i => 10 - (intOf i).toNat)
  case atStart => exact ⟨0, 0, 0, rfl, rfl, by omega, by omega, by simp, fun _ => rfl, rfl⟩
  case round =>
    obtain ⟨k, acc, z, rfl, rfl, hk, hpk, hacc, hz, hr⟩ := hrel
    generalize hR : decU 10 0 0 (l.drop p) = R at *
    have HRR := Lib.hid hR
    clear hR
    by_cases h10 : k < 10
    · have hza := hz (by omega)
      subst hza
      by_cases hend : p + k = l.length
      · have hR : R = (0, 0, 11) := by
          rw [← hr, List.drop_of_length_le (by omega), decU_end k acc h10]
        subst hR
        have HC : (((p : Int) + k) == l.length) = true := by simp; omega
        clear hr hA hacc hz hend
        go_wp2_with fail
        go_ret3
        exact ⟨by rw [HRR.out]; rfl, rfl⟩
      · have hlt : p + k < l.length := by omega
        obtain ⟨ad, d, rfl, hadb, hd, hcell⟩ := hA.cell hlt
        have hdd : d.toNat < 256 := d.toNat_lt
        rw [drop_cons hd, decU_step k acc d _ h10] at hr
        have HOR := Lib.hid (orAny k acc (d.toNat % 128) (by omega) hacc (by omega))
        have HACC := Lib.hid hacc
        have HR := Lib.hid hr
        have HC : (((p : Int) + k) == l.length) = false := by simp; omega
        unfold b8 at hcell
        clear hr hA hd hacc hz hend
        by_cases h128 : 128 ≤ d.toNat
        · go_wp2_with fail
          go_round
          case rel =>
            have hr := HR.out
            rw [if_pos h128] at hr
            refine ⟨k + 1, acc + d.toNat % 128 * 128 ^ k, _, by go_num, rfl, by omega, by omega, ?_, ?_, hr⟩
            · have := HACC.out
              have h2 : d.toNat % 128 * 128 ^ k ≤ 127 * 128 ^ k := Nat.mul_le_mul_right _ (by omega)
              rw [Nat.pow_succ]
              omega
            · intro hk9
              have := HOR.out (.inl (by omega))
              simpa using this
          case measure => simp [intOf]; omega
        · by_cases hlo : lastOk d.toNat k = true
          · go_wp2_with fail
            refine (mayBeLast_any d.toNat k _ hdd h10).mono ?_
            rintro e w' ⟨rfl, rfl⟩
            rw [hlo]
            go_wp2_with fail
            go_ret3
            have hr := HR.out
            rw [if_neg h128, if_pos hlo] at hr
            have ho := HOR.out (by
              rcases Nat.lt_or_ge k 9 with h9 | h9
              · exact .inl (by omega)
              · refine .inr ?_
                simp only [lastOk, Bool.and_eq_true, Bool.or_eq_true, decide_eq_true_eq] at hlo
                omega)
            subst hr
            refine ⟨?_, rfl⟩
            rw [HRR.out, getR_ok]
            exact ret_three (by simpa using ho) (by omega)
          · have hlo' : lastOk d.toNat k = false := by simpa using hlo
            clear hlo
            go_wp2_with fail
            refine (mayBeLast_any d.toNat k _ hdd h10).mono ?_
            rintro e w' ⟨rfl, rfl⟩
            rw [hlo']
            go_wp2_with fail
            go_ret3
            have hr := HR.out
            rw [if_neg h128, hlo'] at hr
            subst hr
            exact ⟨by rw [HRR.out]; rfl, rfl⟩
    · obtain rfl : k = 10 := by omega
      have hR : R = (0, 0, 10) := hr.symm
      subst hR
      clear hr hA hacc hz
      go_wp2_with fail
      go_ret3
      exact ⟨by rw [HRR.out]; rfl, rfl⟩

theorem GetUint_arg (A : Option Addr) (c n : Nat) (p : Int) (w : World) (hl : n ≤ 1099511627776) (hp : p < 0 ∨ (n : Int) < p) :
    Calls Try.prog 84 #[.slice A n c, .int .i64 p] w fun e w' => e = .returned (.tuple #[.int .u64 0, .int .i64 0, .int .i64 2]) ∧ w = w' := by
  by_cases h0 : p < 0
  · go_enter Try.func84, Try.ntmps84
    go_wp2_with fail
    go_ret3
    exact ⟨rfl, rfl⟩
  · have h0' : decide (p < 0) = false := decide_eq_false h0
    have h1 : decide ((n : Int) < p) = true := decide_eq_true (by omega)
    go_enter Try.func84, Try.ntmps84
    go_wp2_with fail
    go_ret3
    exact ⟨rfl, rfl⟩
end Go.Proofs.Ytdhdfeiobjmdaaa
