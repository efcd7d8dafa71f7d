/-
  RecordShort returns true for every row: the walk. Conditions: numbers of 64 bits; sizes.
-/
import Derived.Test.YtmcbjfdenaknlaaRShortM
namespace Go.Proofs.Ytmcbjfdenaknlaa
open Go.ChangeShapes Go.WideShapes Go.ChangeAt Go.RowKit
set_option linter.unusedVariables false

theorem Try.info_V : (Try.prog.info? 30).map (fun i => (i.zero, i.size, i.bytes)) = some (some (vv 0 0 ⟨#[]⟩), 3, 32) := by kernel_rfl
set_option maxRecDepth 100000 in
/-- append of values onto a slice of the call's own -/
theorem wpList_appR {w : World} {ops : Array Oper} {rest : List Oper} {o : Oper} {a : Act} {Q : Exit → Act → World → Prop} (hgd : o.guard = none) (s x : Operand)
    (ho : o.op = .call { callee := .builtin .append, args := #[s, x], argTypes := #[32, 32] })
    (base : Nat) (v : Value) (vs : List Trip) (hs : a.eval s = v) (hown : OwnR w base v vs) (ad : Addr) (c : Nat) (us : List Trip) (n : Nat) (hn : n = us.length) (hx : a.eval x = .slice (some ad) n c) (hr : ∀ j u, (cellsL us)[j]? = some u → w.cell? (ad.add j) = some u)
    (hlen : vs.length + us.length ≤ 1099511627776) (hbase : base ≤ w.heap.size)
    (h : ∀ v' w', OwnR w' base v' (vs ++ us) → Below base w w' → wpList Try.prog ops Q rest (a.put o.dst v') w') : wpList Try.prog ops Q (o :: rest) a w := by
  subst hn
  obtain ⟨i0, hi, hz0, hz1, hz2⟩ := info_parts Try.info_V
  refine wpList_append_own w hgd s x 32 ho base 30 i0 _ 3 32 Try.underlying32 hi hz0 hz1 hz2 rfl (by decide) v vs.length (cellsL vs) hs hown ad us.length c (cellsL us) hx (cellsL_length us) hr (cellsL_one us) (by simp only [maxLen]; omega) (by omega) hbase ?_
  intro v' w' h1 h2 _
  refine h v' w' ?_ ((Below.refl _ _).grown h2 hbase fun k hk => (World.ownsRow.lt hown k hk).1)
  unfold OwnR
  rw [List.length_append, cellsL_append]
  exact h1
def RoomRel (base : Nat) (w : World) (vs : List Trip) (z i : Value) (wr : World) : Prop :=
  ∃ k : Nat, k ≤ vs.length ∧ i = .int .i64 k ∧ z = .int .i64 ((2 + sumM (vs.take k) : Nat) : Int) ∧ Below base w wr
end Go.Proofs.Ytmcbjfdenaknlaa
