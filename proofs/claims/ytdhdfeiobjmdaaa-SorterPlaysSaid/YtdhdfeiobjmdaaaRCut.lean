/-
  record.cutInt: the int whose eight bytes b begins with, and what is behind them. Conditions: sizes.
-/
import Derived.Test.YtdhdfeiobjmdaaaRAwk
namespace Go.Proofs.Ytdhdfeiobjmdaaa
open Go.ChangeShapes Go.WideShapes Go.ChangeAt Go.RowKit
set_option linter.unusedVariables false

theorem rd_cut {w : World} {B : Nat} {A : Option Addr} {l : List UInt8} (h : Rd w B A l) (k n c : Nat) (hc : l.length ≤ c) :
    Rd w B (if c = k then A else A.map (·.add k)) ((l.drop k).take n) := by
  intro hp
  rw [List.length_take, List.length_drop] at hp
  obtain ⟨ad, rfl, hb, hcell⟩ := h (by omega)
  rw [if_neg (by omega)]
  refine ⟨ad.add k, rfl, by rw [blockAdd]; exact hb, fun j u hu => ?_⟩
  rw [addAdd]
  rw [List.getElem?_take] at hu
  split at hu
  · rw [List.getElem?_drop] at hu
    exact hcell _ u hu
  · cases hu
/-- what reads b at A reads r at A' -/
def Tail (A : Option Addr) (b : List UInt8) (A' : Option Addr) (r : List UInt8) : Prop := ∀ (X : World) (B : Nat), Rd X B A b → Rd X B A' r
theorem Tail.nil {A A' : Option Addr} {b : List UInt8} : Tail A b A' [] := fun _ _ _ => Rd.nil
theorem Tail.trans {A A' A2 : Option Addr} {b r r2 : List UInt8} (h : Tail A b A' r) (h2 : Tail A' r A2 r2) : Tail A b A2 r2 := fun X B g => h2 X B (h X B g)
theorem Tail.cut {A : Option Addr} {b : List UInt8} {k c : Nat} (hc : b.length ≤ c) (hk : ¬ c = k) : Tail A b (A.map (·.add k)) (b.drop k) := fun X B g => by
  have h := rd_cut g k (b.length - k) c hc
  rw [List.take_of_length_le (by simp), if_neg hk] at h
  exact h
/-- the number that the first k bytes tell, turned -/
def numN (t : UInt8) (b : List UInt8) (k : Nat) : Nat := (b.take k).foldl (fun n c => n * 256 + (c ^^^ t).toNat) 0
theorem numN_step {t : UInt8} {b : List UInt8} {k : Nat} {c : UInt8} (h : b[k]? = some c) : numN t b (k + 1) = numN t b k * 256 + (c ^^^ t).toNat := by
  unfold numN
  rw [List.take_add_one, h]
  simp
set_option maxRecDepth 100000 in
theorem or_low (m c : Nat) (hc : c < 256) (hm : m * 256 + c < 18446744073709551616) : bits .or .u64 ((m : Int) * 256) (IntKind.u64.wrap (c : Int)) = ((m * 256 + c : Nat) : Int) := by
  have e : ((m : Int) * 256) = ((m * 256 : Nat) : Int) := by omega
  have e2 : IntKind.u64.wrap (c : Int) = ((c : Nat) : Int) := by rw [IntKind.wrap_u64]; omega
  rw [e, e2, u64_or_nat _ _ (by omega) (by omega)]
  have h := Nat.shiftLeft_add_eq_or_of_lt (i := 8) hc m
  rw [Nat.shiftLeft_eq] at h
  rw [← h]
set_option maxRecDepth 100000 in
theorem top_back (m : Nat) (hm : m < 18446744073709551616) : IntKind.i64.wrap (bits .xor .u64 (m : Int) 9223372036854775808) = (m : Int) - 9223372036854775808 := by
  have h := u64_xor_nat m 9223372036854775808 hm (by omega)
  rcases Nat.lt_or_ge m 9223372036854775808 with h1 | h1
  · rw [xor63 m h1] at h
    refine (congrArg IntKind.i64.wrap h).trans ?_
    rw [IntKind.wrap_i64]
    omega
  · obtain ⟨r, rfl⟩ : ∃ r, m = 9223372036854775808 + r := ⟨m - 9223372036854775808, by omega⟩
    rw [xor63b r (by omega)] at h
    refine (congrArg IntKind.i64.wrap h).trans ?_
    rw [IntKind.wrap_i64]
    omega
theorem numN_lt (t : UInt8) (b : List UInt8) : ∀ k, numN t b k < 256 ^ k
  | 0 => by simp [numN]
  | k + 1 => by
    have ih := numN_lt t b k
    cases h : b[k]? with
    | none =>
      have : numN t b (k + 1) = numN t b k := by unfold numN; rw [List.take_add_one, h]; simp
      rw [this, Nat.pow_succ]
      omega
    | some c =>
      rw [numN_step h, Nat.pow_succ]
      have := (c ^^^ t).toNat_lt
      omega
end Go.Proofs.Ytdhdfeiobjmdaaa
