/-
  RecordJoin returns true for every row: all ways. Conditions: sizes.
-/
import Derived.Test.YtcpmfagnnidodaaRClose
namespace Go.Proofs.Ytcpmfagnnidodaa
open Go.ChangeShapes Go.WideShapes Go.ChangeAt Go.RowKit
set_option linter.unusedVariables false

theorem keyL_good : ∀ (vs : List Trip) (ds : List Bool), GoodR vs → (keyL vs ds).length ≤ 210 * vs.length
  | (k, n, s) :: vs, d :: ds, h => by
    have ih := keyL_good vs ds fun t ht => h t (List.mem_cons_of_mem _ ht)
    have hs : s.size ≤ 100 := (h (k, n, s) List.mem_cons_self).2.1
    have h1 : s.data.toList.length = s.size := by rcases s with ⟨⟨l⟩⟩; rfl
    have h2 := escL_len s.data.toList
    have h0 : (partL k n s).length ≤ 210 := by
      unfold partL
      split
      · simp [beN_length]
      · split
        · simp only [List.length_cons, strN, List.length_append, List.length_nil]; omega
        · split
          · simp only [List.length_cons, strN, List.length_append, List.length_nil]; omega
          · simp
    simp only [keyL, List.length_append, turnL_length, List.length_cons]
    omega
  | [], _, _ => by simp [keyL]
  | _ :: _, [], _ => by simp [keyL]
theorem keyL_cut (vs : List Trip) (ds : List Bool) (k : Nat) (h : ds.length = vs.length) : keyL vs ds = keyL (vs.take k) (ds.take k) ++ keyL (vs.drop k) (ds.drop k) := by
  rw [← keyL_append _ _ _ _ (by rw [List.length_take, List.length_take, h]), List.take_append_drop, List.take_append_drop]
theorem join_walk (A : Option Addr) (cap : Nat) (vs : List Trip) (F : Option Addr) (fcap : Nat) (l : List Bool) (q : Nat) (w : World) (hR : RdR w w.heap.size A vs) (hnil : A = none → vs = [] ∧ cap = 0) (hF : RdF w w.heap.size F l) (hc1 : vs.length ≤ cap) (hc2 : cap ≤ 9223372036854775807) (hfl : l.length ≤ 9223372036854775807)
    (hsz : ∀ t ∈ vs, In64 t.2.1 ∧ t.2.2.size ≤ 9223372036854775807) (hq : q < 256) :
    Calls Try.prog 9 #[.slice A vs.length cap, .slice F l.length fcap, .int .u8 q] w fun e w' => e = .returned (.bool true) ∧ Below w.heap.size w w' := by
  cases h : rowOk vs 20
  · exact join_no A cap vs F fcap l.length q w hR (fun t ht => (hsz t ht).2) (by omega) (Lib.hid h)
  · obtain ⟨hg, hl⟩ := GoodR.of h (fun t ht => (hsz t ht).1)
    have hkl : q % (vs.length + 1) ≤ vs.length := by have := Nat.mod_lt q (show 0 < vs.length + 1 by omega); omega
    have hxl := keyL_good vs (flagsL l vs.length) hg
    cases A with
    | none =>
      obtain ⟨rfl, rfl⟩ := hnil rfl
      exact join_go4 F fcap l q w hR hF hc1 hc2 hfl (fun t ht => (hsz t ht).2) (Lib.hid h) (Lib.hid hg) (by omega) hq (Lib.hid (by omega)) (by omega) _ _ _ (Lib.hid rfl) (Lib.hid rfl) (Lib.hid rfl) (Lib.hid (keyL_cut _ _ 0 (by simp [flagsL]))) (by simp [keyL])
    | some ad =>
      by_cases e : vs.length = q % (vs.length + 1)
      · by_cases e2 : cap = vs.length
        · subst e2
          exact join_go3 ad vs F fcap l q w hR hF hc1 hc2 hfl (fun t ht => (hsz t ht).2) (Lib.hid h) (Lib.hid hg) hl hq (Lib.hid e.symm) (Nat.le_refl _) _ _ _ (Lib.hid rfl) (Lib.hid rfl) (Lib.hid rfl) (Lib.hid (keyL_cut _ _ _ (flagsL_length _ _))) (by omega)
        · exact join_go2 ad cap vs F fcap l q w hR hF hc1 hc2 hfl (fun t ht => (hsz t ht).2) (Lib.hid h) (Lib.hid hg) hl hq (Lib.hid e.symm) (Nat.le_refl _) e2 _ _ _ (Lib.hid rfl) (Lib.hid rfl) (Lib.hid rfl) (Lib.hid (keyL_cut _ _ _ (flagsL_length _ _))) (by omega)
      · exact join_go1 ad cap vs F fcap l q w hR hF hc1 hc2 hfl (fun t ht => (hsz t ht).2) (Lib.hid h) (Lib.hid hg) hl hq _ (Lib.hid rfl) hkl (by omega) e _ _ _ (Lib.hid rfl) (Lib.hid rfl) (Lib.hid rfl) (Lib.hid (keyL_cut _ _ _ (flagsL_length _ _))) (by omega)
end Go.Proofs.Ytcpmfagnnidodaa
