/-
  RecordShort returns true for every row: the walk. Conditions: numbers of 64 bits; sizes.
-/
import Derived.Test.YtdhdfeiobjmdaaaRShortM
namespace Go.Proofs.Ytdhdfeiobjmdaaa
open Go.ChangeShapes Go.WideShapes Go.ChangeAt Go.RowKit
set_option linter.unusedVariables false

theorem Try.info_V : (Try.prog.info? 29).map (fun i => (i.zero, i.size, i.bytes)) = some (some (vv 0 0 ⟨#[]⟩), 3, 32) := by kernel_rfl
set_option maxRecDepth 100000 in
/-- append of values onto a slice of the call's own -/
theorem wpList_appR {w : World} {ops : Array Oper} {rest : List Oper} {o : Oper} {a : Act} {Q : Exit → Act → World → Prop} (hgd : o.guard = none) (s x : Operand)
    (ho : o.op = .call { callee := .builtin .append, args := #[s, x], argTypes := #[31, 31] })
    (base : Nat) (v : Value) (vs : List Trip) (hs : a.eval s = v) (hown : OwnR w base v vs) (ad : Addr) (c : Nat) (us : List Trip) (n : Nat) (hn : n = us.length) (hx : a.eval x = .slice (some ad) n c) (hr : ∀ j u, (cellsL us)[j]? = some u → w.cell? (ad.add j) = some u)
    (hlen : vs.length + us.length ≤ 1099511627776) (hbase : base ≤ w.heap.size)
    (h : ∀ v' w', OwnR w' base v' (vs ++ us) → Below base w w' → wpList Try.prog ops Q rest (a.put o.dst v') w') : wpList Try.prog ops Q (o :: rest) a w := by
  subst hn
  obtain ⟨i0, hi, hz0, hz1, hz2⟩ := info_parts Try.info_V
  refine wpList_append_own w hgd s x 31 ho base 29 i0 _ 3 32 Try.underlying31 hi hz0 hz1 hz2 rfl (by decide) v vs.length (cellsL vs) hs hown ad us.length c (cellsL us) hx (cellsL_length us) hr (cellsL_one us) (by simp only [maxLen]; omega) (by omega) hbase ?_
  intro v' w' h1 h2 _
  refine h v' w' ?_ ((Below.refl _ _).grown h2 hbase fun k hk => (World.ownsRow.lt hown k hk).1)
  unfold OwnR
  rw [List.length_append, cellsL_append]
  exact h1
set_option maxRecDepth 100000 in
theorem CopyValues_some (ad : Addr) (cap : Nat) (vs : List Trip) (w : World) (hl : vs.length ≤ 1000) (hR : RdR w w.heap.size (some ad) vs) :
    Calls Try.prog 17 #[.slice (some ad) vs.length cap] w fun e w' => ∃ v, e = .returned v ∧ OwnR w' w.heap.size v vs ∧ Below w.heap.size w w' := by
  have HO := Lib.hid (show OwnR w w.heap.size (.slice none 0 0) [] from World.ownsRow_nil w w.heap.size _ 3)
  have HC := Lib.hid hR.cells
  go_enter Try.func17, Try.ntmps17
  go_wp2_with (at_builtin; refine wpList_appR rfl (.tmp 4) (.tmp 5) rfl w.heap.size (.slice none 0 0) [] rfl HO.out ad cap vs vs.length rfl rfl HC.out (by simp; omega) (Nat.le_refl _) ?_; intro v1 w1 ho1 hb1; rw [List.nil_append] at ho1; have HO1 := Lib.hid ho1; have HB1 := Lib.hid hb1; obtain ⟨A1, c1, rfl, _, _, _⟩ := ho1.form; clear ho1 hb1)
  go_ret
  exact ⟨_, rfl, HO1.out, HB1.out⟩
set_option maxRecDepth 100000 in
theorem CopyValues_none (w : World) :
    Calls Try.prog 17 #[.slice none 0 0] w fun e w' => ∃ v, e = .returned v ∧ OwnR w' w.heap.size v [] ∧ Below w.heap.size w w' := by
  go_enter Try.func17, Try.ntmps17
  go_wp2_with fail
  go_ret
  exact ⟨_, rfl, World.ownsRow_nil w w.heap.size _ 3, Below.refl _ _⟩
theorem CopyValues_any (A : Option Addr) (cap : Nat) (vs : List Trip) (w : World) (hl : vs.length ≤ 1000) (hR : RdR w w.heap.size A vs) (hnil : A = none → vs = [] ∧ cap = 0) :
    Calls Try.prog 17 #[.slice A vs.length cap] w fun e w' => ∃ v, e = .returned v ∧ OwnR w' w.heap.size v vs ∧ Below w.heap.size w w' := by
  cases A with
  | none =>
    obtain ⟨rfl, rfl⟩ := hnil rfl
    exact CopyValues_none w
  | some ad => exact CopyValues_some ad cap vs w hl hR

def RoomRel (base : Nat) (w : World) (vs : List Trip) (z i : Value) (wr : World) : Prop :=
  ∃ k : Nat, k ≤ vs.length ∧ i = .int .i64 k ∧ z = .int .i64 ((2 + sumM (vs.take k) : Nat) : Int) ∧ Below base w wr
end Go.Proofs.Ytdhdfeiobjmdaaa
