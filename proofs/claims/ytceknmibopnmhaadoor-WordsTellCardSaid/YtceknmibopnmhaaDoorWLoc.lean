/-
  Layer 9: WordsLocal's walk. Conditions: sizes; the library's variables are as its text lays them.
-/
import Derived.Test.YtceknmibopnmhaaDoorWAw
namespace Go.Proofs.YtceknmibopnmhaaDoor
open Go.ChangeShapes Go.WideShapes Go.ChangeAt Go.RowKit
set_option linter.unusedVariables false

def InRange (m : Nat) (w : World) (e : Ending) (w' : World) : Prop := ∃ r : Nat, r < m ∧ e = .returned (.int .i64 (r : Int)) ∧ w = w'
/-- what is told at a place is what is told of the rest by itself, so much further -/
theorem nx_local (l : List UInt8) (k : Nat) (T : M.Tk) (p : Nat) (h : NxOf l k = (T, p)) : ∃ q, q + k = p ∧ NxOf (l.drop k) 0 = (T, q) := by
  have h1 : k + M.pass (l.drop k) false = p := congrArg Prod.snd h
  have h2 : M.tok keysW (l.drop (k + M.pass (l.drop k) false)) = T := congrArg Prod.fst h
  refine ⟨M.pass (l.drop k) false, by omega, ?_⟩
  unfold NxOf
  rw [List.drop_zero, Nat.zero_add, List.drop_drop, h2]
theorem nx_le {l : List UInt8} {k : Nat} {T : M.Tk} {p : Nat} (h : NxOf l k = (T, p)) (hk : k ≤ l.length) : k ≤ p ∧ p + T.2.2.2 ≤ l.length := by
  have h1 : k + M.pass (l.drop k) false = p := congrArg Prod.snd h
  have h2 : M.tok keysW (l.drop (k + M.pass (l.drop k) false)) = T := congrArg Prod.fst h
  have h3 := M.pass_le (l.drop k) false
  rw [List.length_drop] at h3
  rw [h1] at h2
  have h4 := tok_le keysW (l.drop p)
  rw [h2, List.length_drop] at h4
  omega
end Go.Proofs.YtceknmibopnmhaaDoor
