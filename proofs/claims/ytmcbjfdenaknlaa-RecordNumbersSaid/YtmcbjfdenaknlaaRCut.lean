/-
  record.cutInt: the int whose eight bytes b begins with, and what is behind them. Conditions: sizes.
-/
import Derived.Test.YtmcbjfdenaknlaaRAwk
namespace Go.Proofs.Ytmcbjfdenaknlaa
open Go.ChangeShapes Go.WideShapes Go.ChangeAt Go.RowKit
set_option linter.unusedVariables false

theorem rd_cut {w : World} {B : Nat} {A : Option Addr} {l : List UInt8} (h : Rd w B A l) (k n c : Nat) (hc : l.length ≤ c) :
    Rd w B (if c = k then A else A.map (·.add k)) ((l.drop k).take n) := by
  intro hp
  rw [List.length_take, List.length_drop] at hp
  obtain ⟨ad, rfl, hb, hcell⟩ := h (by omega)
  rw [if_neg (by omega)]
  refine ⟨ad.add k, rfl, by rw [blockAdd]; exact hb, fun j u hu => ?_⟩
  rw [addAdd]
  rw [List.getElem?_take] at hu
  split at hu
  · rw [List.getElem?_drop] at hu
    exact hcell _ u hu
  · cases hu
/-- what reads b at A reads r at A' -/
def Tail (A : Option Addr) (b : List UInt8) (A' : Option Addr) (r : List UInt8) : Prop := ∀ (X : World) (B : Nat), Rd X B A b → Rd X B A' r
theorem Tail.nil {A A' : Option Addr} {b : List UInt8} : Tail A b A' [] := fun _ _ _ => Rd.nil
theorem Tail.trans {A A' A2 : Option Addr} {b r r2 : List UInt8} (h : Tail A b A' r) (h2 : Tail A' r A2 r2) : Tail A b A2 r2 := fun X B g => h2 X B (h X B g)
theorem Tail.cut {A : Option Addr} {b : List UInt8} {k c : Nat} (hc : b.length ≤ c) (hk : ¬ c = k) : Tail A b (A.map (·.add k)) (b.drop k) := fun X B g => by
  have h := rd_cut g k (b.length - k) c hc
  rw [List.take_of_length_le (by simp), if_neg hk] at h
  exact h
/-- the number that the first k bytes tell, turned -/
def numN (t : UInt8) (b : List UInt8) (k : Nat) : Nat := (b.take k).foldl (fun n c => n * 256 + (c ^^^ t).toNat) 0
theorem numN_step {t : UInt8} {b : List UInt8} {k : Nat} {c : UInt8} (h : b[k]? = some c) : numN t b (k + 1) = numN t b k * 256 + (c ^^^ t).toNat := by
  unfold numN
  rw [List.take_add_one, h]
  simp
set_option maxRecDepth 100000 in
theorem or_low (m c : Nat) (hc : c < 256) (hm : m * 256 + c < 18446744073709551616) : bits .or .u64 ((m : Int) * 256) (IntKind.u64.wrap (c : Int)) = ((m * 256 + c : Nat) : Int) := by
  have e : ((m : Int) * 256) = ((m * 256 : Nat) : Int) := by omega
  have e2 : IntKind.u64.wrap (c : Int) = ((c : Nat) : Int) := by rw [IntKind.wrap_u64]; omega
  rw [e, e2, u64_or_nat _ _ (by omega) (by omega)]
  have h := Nat.shiftLeft_add_eq_or_of_lt (i := 8) hc m
  rw [Nat.shiftLeft_eq] at h
  rw [← h]
set_option maxRecDepth 100000 in
theorem top_back (m : Nat) (hm : m < 18446744073709551616) : IntKind.i64.wrap (bits .xor .u64 (m : Int) 9223372036854775808) = (m : Int) - 9223372036854775808 := by
  have h := u64_xor_nat m 9223372036854775808 hm (by omega)
  rcases Nat.lt_or_ge m 9223372036854775808 with h1 | h1
  · rw [xor63 m h1] at h
    refine (congrArg IntKind.i64.wrap h).trans ?_
    rw [IntKind.wrap_i64]
    omega
  · obtain ⟨r, rfl⟩ : ∃ r, m = 9223372036854775808 + r := ⟨m - 9223372036854775808, by omega⟩
    rw [xor63b r (by omega)] at h
    refine (congrArg IntKind.i64.wrap h).trans ?_
    rw [IntKind.wrap_i64]
    omega
theorem numN_lt (t : UInt8) (b : List UInt8) : ∀ k, numN t b k < 256 ^ k
  | 0 => by simp [numN]
  | k + 1 => by
    have ih := numN_lt t b k
    cases h : b[k]? with
    | none =>
      have : numN t b (k + 1) = numN t b k := by unfold numN; rw [List.take_add_one, h]; simp
      rw [this, Nat.pow_succ]
      omega
    | some c =>
      rw [numN_step h, Nat.pow_succ]
      have := (c ^^^ t).toNat_lt
      omega
set_option maxRecDepth 100000 in
set_option maxHeartbeats 800000 in
theorem cutInt_short (A : Option Addr) (cap : Nat) (b : List UInt8) (t : UInt8) (w : World) (hb : b.length < 8) (hc : b.length ≤ cap) (hc2 : cap ≤ 9223372036854775807) :
    Calls Try.prog 50 #[.slice A b.length cap, b8 t] w fun e w' => e = .returned (.tuple #[vv 0 0 ⟨#[]⟩, .slice none 0 0, .bool false]) ∧ Below w.heap.size w w' := by
  have HB := Lib.hid ((Below.refl w.heap.size w).alloc (Nat.le_refl _) (.cells #[.int .u8 0, .int .i64 0, .string ⟨#[]⟩] 30))
  go_enter Try.func50, Try.ntmps50
  go_wp2_with fail
  exact bodyPost_ret (v := .tuple #[vv 0 0 ⟨#[]⟩, .slice none 0 0, .bool false]) (by simp [results, Try.results50, go_sem]) rfl ⟨rfl, HB.out⟩
set_option maxRecDepth 100000 in
set_option maxHeartbeats 800000 in
theorem cutInt_go (A : Option Addr) (cap : Nat) (b : List UInt8) (t : UInt8) (w : World) (hR : Rd w w.heap.size A b) (hb : 8 ≤ b.length) (hc : b.length ≤ cap) (hc2 : cap ≤ 9223372036854775807) :
    Calls Try.prog 50 #[.slice A b.length cap, b8 t] w fun e w' => ∃ A' c', e = .returned (.tuple #[vv 1 ((numN t b 8 : Int) - 9223372036854775808) ⟨#[]⟩, .slice A' (b.length - 8) c', .bool true]) ∧ (b.length - 8 ≤ c' ∧ c' ≤ cap) ∧ Tail A b A' (b.drop 8) ∧ Below w.heap.size w w' := by
  have HB := Lib.hid ((Below.refl w.heap.size w).alloc (Nat.le_refl _) (.cells #[.int .u8 0, .int .i64 0, .string ⟨#[]⟩] 30))
  have HR := Lib.hid hR
  clear hR
  go_enter Try.func50, Try.ntmps50
  go_wp2_with fail
  go_loopw [7, 17] (fun n i wr => ∃ k : Nat, k ≤ 8 ∧ i = .int .i64 k ∧ n = .int .u64 (numN t b k) ∧ wr = w.alloc (.cells #[.int .u8 0, .int .i64 0, .string ⟨#[]⟩] 30)) (fun _ i _ => 8 - (intOf i).toNat)
  case atStart => exact ⟨0, Nat.zero_le _, rfl, rfl, rfl⟩
  case round =>
    obtain ⟨k, hk, rfl, rfl, rfl⟩ := hrel
    have HN := Lib.hid (numN_lt t b k)
    by_cases hlt : k < 8
    · have hg : b[k]? = some b[k] := List.getElem?_eq_getElem (by omega)
      have HS := Lib.hid (numN_step (t := t) hg)
      obtain ⟨fd, c, rfl, hbl, hgc, hcell⟩ := (HR.out.on HB.out).cell (k := k) (by omega)
      have HS := Lib.hid (numN_step (t := t) hgc)
      have hc1 : c.toNat < 256 := c.toNat_lt
      have ht1 : t.toNat < 256 := t.toNat_lt
      have HZ := Lib.hid (show bits .xor .u8 (c.toNat : Int) (t.toNat : Int) = ((c ^^^ t).toNat : Int) by rw [u8_xor_nat _ _ hc1 ht1, UInt8.toNat_xor])
      unfold b8 at *
      generalize numN t b k = m at *
      clear hgc
      have hm7 : m < 256 ^ 7 := Nat.lt_of_lt_of_le HN.out (Nat.pow_le_pow_right (by omega) (by omega))
      have HO := Lib.hid (or_low m (c ^^^ t).toNat (c ^^^ t).toNat_lt (by have := (c ^^^ t).toNat_lt; omega))
      go_wp2_with fail
      refine ⟨⟨k + 1, by omega, by go_num, ?_, trivial⟩, by simp [intOf]; omega⟩
      rw [HZ.out, HO.out, HS.out]
    · obtain rfl : k = 8 := by omega
      generalize hm : numN t b 8 = m at *
      have HM := Lib.hid hm
      clear hm
      unfold b8 at *
      have HT := Lib.hid (top_back m HN.out)
      go_wp2_with fail
      have HW := Lib.hid (fun o => ((Below.refl w.heap.size w).alloc (Nat.le_refl _) o).drew)
      go_region_held3 (fun X => True) (trivial) (fail)
      have e := HT.out
      go_wp2_with fail
      · refine bodyPost_ret (v := .tuple #[vv 1 ((m : Int) - 9223372036854775808) ⟨#[]⟩, .slice A (b.length - 8) 0, .bool true]) (by simp [results, Try.results50, go_sem]) rfl ⟨_, 0, by rw [HM.out], by omega, ?_, HW.out _⟩
        rw [List.drop_eq_nil_of_le (by omega)]
        exact Tail.nil
      · refine bodyPost_ret (v := .tuple #[vv 1 ((m : Int) - 9223372036854775808) ⟨#[]⟩, .slice (A.map (·.add 8)) (b.length - 8) (cap - 8), .bool true]) (by simp [results, Try.results50, go_sem]) rfl ⟨_, cap - 8, by rw [HM.out], by omega, ?_, HW.out _⟩
        exact Tail.cut hc (by omega)
end Go.Proofs.Ytmcbjfdenaknlaa
