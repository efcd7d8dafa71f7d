/-
  Layer 13, eval: expressions in memory; at, flag, isFlag, mayBe. Conditions: sizes.
  Layer 13, eval: what the closures of the kinds tell. Conditions: sizes.
-/
import Derived.Test.YteijijoiifbjlaaGreatDoorEMath
import Derived.Deep.RegionHeld3
import Derived.BigQuiet
namespace Go.Proofs.YteijijoiifbjlaaGreatDoor
open Go.ChangeShapes Go.WideShapes Go.ChangeAt Go.RowKit
set_option linter.unusedVariables false
set_option linter.unusedSimpArgs false
set_option maxRecDepth 100000

/-- an expression of the program's -/
abbrev exprV (k : Int) (s t : ByteArray) (n a : Int) (A : Option Addr) (len cap : Nat) : Value := .agg #[.int .u8 k, .string s, .string t, .int .i64 n, .int .i64 a, .slice A len cap]
abbrev exprC (k : Int) (s t : ByteArray) (n a : Int) (A : Option Addr) (len cap : Nat) : Array Value := #[.int .u8 k, .string s, .string t, .int .i64 n, .int .i64 a, .slice A len cap]
/-- its cells -/
def ECell (w : World) (p o : Nat) (k : Int) (s t : ByteArray) (n a : Int) (A : Option Addr) (len cap : Nat) : Prop :=
  w.cell? ⟨p, o, none⟩ = some (.int .u8 k) ∧ w.cell? ⟨p, o + 1, none⟩ = some (.string s) ∧ w.cell? ⟨p, o + 2, none⟩ = some (.string t) ∧ w.cell? ⟨p, o + 3, none⟩ = some (.int .i64 n) ∧ w.cell? ⟨p, o + 4, none⟩ = some (.int .i64 a) ∧ w.cell? ⟨p, o + 5, none⟩ = some (.slice A len cap)
theorem ECell.on {w w' : World} {p o : Nat} {k n a : Int} {s t : ByteArray} {A : Option Addr} {len cap : Nat} (h : ECell w p o k s t n a A len cap) (hb : Below w.heap.size w w') : ECell w' p o k s t n a A len cap := by
  obtain ⟨h0, h1, h2, h3, h4, h5⟩ := h
  have hlt : p < w.heap.size := block_lt_of_cell h0
  have e : ∀ o v, w.cell? ⟨p, o, none⟩ = some v → w'.cell? ⟨p, o, none⟩ = some v := fun o v hv => (hb.cell (p := ⟨p, o, none⟩) hlt).trans hv
  exact ⟨e _ _ h0, e _ _ h1, e _ _ h2, e _ _ h3, e _ _ h4, e _ _ h5⟩
mutual
/-- a value is that expression -/
def ExV (w : World) : Ee → Value → Prop
  | .mk k s t n a kids, v => ∃ A cap, v = exprV k s t n a A kids.length cap ∧ kids.length ≤ cap ∧ ExK w kids A
/-- a list of expressions reads so -/
def ExK (w : World) : List Ee → Option Addr → Prop
  | [], _ => True
  | .mk k s t n a kids :: r, A => ∃ p o, A = some ⟨p, o, none⟩ ∧ (∃ A' cap, ECell w p o k s t n a A' kids.length cap ∧ kids.length ≤ cap ∧ ExK w kids A') ∧ ExK w r (some ⟨p, o + 6, none⟩)
end
theorem ExK.on_n {w w' : World} (hb : Below w.heap.size w w') : ∀ (m : Nat) (l : List Ee) (A : Option Addr), SizeOf.sizeOf l ≤ m → ExK w l A → ExK w' l A := by
  intro m
  induction m with
  | zero =>
    intro l A hn h
    cases l with
    | nil => simp only [ExK]
    | cons e r => simp at hn
  | succ m ih =>
    intro l A hn h
    cases l with
    | nil => simp only [ExK]
    | cons e r =>
      obtain ⟨k, s, t, n, a, kids⟩ := e
      simp only [ExK] at h ⊢
      obtain ⟨p, o, hA, ⟨A', cap, hc, hcap, hk⟩, hr⟩ := h
      simp only [List.cons.sizeOf_spec, Ee.mk.sizeOf_spec] at hn
      exact ⟨p, o, hA, ⟨A', cap, hc.on hb, hcap, ih kids A' (by omega) hk⟩, ih r _ (by omega) hr⟩
theorem ExK.on {w w' : World} {l : List Ee} {A : Option Addr} (h : ExK w l A) (hb : Below w.heap.size w w') : ExK w' l A := ExK.on_n hb _ l A (Nat.le_refl _) h
theorem ExV.on {w w' : World} {e : Ee} {v : Value} (h : ExV w e v) (hb : Below w.heap.size w w') : ExV w' e v := by
  obtain ⟨k, s, t, n, a, kids⟩ := e
  simp only [ExV] at h ⊢
  obtain ⟨A, cap, hv, hc, hk⟩ := h
  exact ⟨A, cap, hv, hc, hk.on hb⟩
/-- a kid's cells -/
theorem ExK.at {w : World} : ∀ (l : List Ee) (A : Option Addr) (i : Nat) (e : Ee), ExK w l A → l[i]? = some e → ∃ p o, A = some ⟨p, o, none⟩ ∧ ∃ k s t n a A' kids cap, e = .mk k s t n a kids ∧ ECell w p (o + i * 6) k s t n a A' kids.length cap ∧ kids.length ≤ cap ∧ ExK w kids A'
  | [], _, i, e, _, h => by simp at h
  | .mk k s t n a kids :: r, A, 0, e, hK, h => by
    simp only [ExK] at hK
    obtain ⟨p, o, hA, ⟨A', cap, hc, hcap, hk⟩, hr⟩ := hK
    obtain rfl := Option.some.inj h
    exact ⟨p, o, hA, k, s, t, n, a, A', kids, cap, rfl, by simpa using hc, hcap, hk⟩
  | .mk k s t n a kids :: r, A, i + 1, e, hK, h => by
    simp only [ExK] at hK
    obtain ⟨p, o, hA, _, hr⟩ := hK
    obtain ⟨p', o', h1, h2⟩ := ExK.at r (some ⟨p, o + 6, none⟩) i e hr (by simpa using h)
    obtain ⟨rfl, rfl⟩ : p = p' ∧ o + 6 = o' := by simpa using h1
    refine ⟨p, o, hA, ?_⟩
    rw [show o + (i + 1) * 6 = o + 6 + i * 6 by omega]
    exact h2

theorem flag_any (b : Bool) (w : World) :
    Calls Tryz.prog 56 #[.bool b] w fun e w' => e = .returned (vT (flagT b)) ∧ Below w.heap.size w w' := by
  cases b
  all_goals
    go_enter Tryz.func56, Tryz.ntmps56
    go_wp2_with fail
  · exact bodyPost_ret (v := vv 1 0 ⟨#[]⟩) (by simp [results, Tryz.results56, go_sem]) rfl ⟨rfl, (Below.refl _ _).alloc (Nat.le_refl _) _⟩
  · exact bodyPost_ret (v := vv 1 1 ⟨#[]⟩) (by simp [results, Tryz.results56, go_sem]) rfl ⟨rfl, (Below.refl _ _).alloc (Nat.le_refl _) _⟩
theorem isFlag_any (n : Int) (w : World) :
    Calls Tryz.prog 36 #[.int .i64 n] w fun e w' => e = .returned (.bool (decide (n = 0) || decide (n = 1))) ∧ w = w' := by
  by_cases h0 : n = 0
  · subst h0
    go_enter Tryz.func36, Tryz.ntmps36
    go_wp2_with fail
    go_ret
    exact ⟨rfl, rfl⟩
  · have e0 : (n == 0) = false := by simpa using h0
    go_enter Tryz.func36, Tryz.ntmps36
    go_wp2_with fail
    go_ret
    refine ⟨?_, rfl⟩
    by_cases h1 : n = 1 <;> simp [h0, h1]

/-- is it an expression, whatever its kids are? -/
theorem mayBe_any (k : Int) (s t : ByteArray) (n a : Int) (A : Option Addr) (len cap : Nat) (w : World) :
    Calls Tryz.prog 24 #[exprV k s t n a A len cap] w fun e w' => e = .returned (.bool (mayB k s n len)) ∧ Below w.heap.size w w' := by
  by_cases h : k = 1 ∨ k = 2 ∨ k = 5 ∨ k = 15 ∨ k = 14 ∨ k = 13 ∨ k = 10
  · have hm : mayB k s n len = true := by unfold mayB; rw [if_pos h]
    rw [hm]
    rcases h with rfl | rfl | rfl | rfl | rfl | rfl | rfl
    all_goals
      go_enter Tryz.func24, Tryz.ntmps24
      go_wp2_with fail
      go_ret
      exact ⟨rfl, (Below.refl _ _).alloc (Nat.le_refl _) _⟩
  by_cases h2 : k = 3 ∨ k = 4
  · have hm : mayB k s n len = decide (s.size ≤ 65536) := by unfold mayB; rw [if_neg h, if_pos h2]
    rw [hm]
    rcases h2 with rfl | rfl
    all_goals
      go_enter Tryz.func24, Tryz.ntmps24
      go_wp2_with fail
      go_ret
      exact ⟨by simp; omega, (Below.refl _ _).alloc (Nat.le_refl _) _⟩
  by_cases h3 : k = 7
  · have hm : mayB k s n len = (decide (len = 1) || decide (len = 2)) := by unfold mayB; rw [if_neg h, if_neg h2, if_pos h3]
    rw [hm]
    subst h3
    by_cases hl : len = 1
    · subst hl
      go_enter Tryz.func24, Tryz.ntmps24
      go_wp2_with fail
      go_ret
      exact ⟨rfl, (Below.refl _ _).alloc (Nat.le_refl _) _⟩
    · have e0 : ((len : Int) == 1) = false := by simp; omega
      go_enter Tryz.func24, Tryz.ntmps24
      go_wp2_with fail
      go_ret
      refine ⟨?_, (Below.refl _ _).alloc (Nat.le_refl _) _⟩
      by_cases h1 : len = 2
      · subst h1; rfl
      · have e1 : ((len : Int) == 2) = false := by simp; omega
        simp [hl, h1, e1]
  by_cases h4 : k = 8
  · have hm : mayB k s n len = (decide (len = 1) && (decide (n = 0) || decide (n = 1))) := by unfold mayB; rw [if_neg h, if_neg h2, if_neg h3, if_pos h4]
    rw [hm]
    subst h4
    generalize hf : (decide (n = 0) || decide (n = 1)) = f
    by_cases hl : len = 1
    · subst hl
      go_enter Tryz.func24, Tryz.ntmps24
      go_wp2_with (go_at_call 36; refine (isFlag_any _ _).mono ?_; rintro e w1 ⟨rfl, rfl⟩; rw [hf])
      go_ret
      exact ⟨by simp, (Below.refl _ _).alloc (Nat.le_refl _) _⟩
    · have e0 : ((len : Int) == 1) = false := by simp; omega
      go_enter Tryz.func24, Tryz.ntmps24
      go_wp2_with fail
      go_ret
      exact ⟨by simp [hl], (Below.refl _ _).alloc (Nat.le_refl _) _⟩
  by_cases h5 : k = 9
  · have hm : mayB k s n len = (decide (2 ≤ len) && (decide (n = 0) || decide (n = 1))) := by unfold mayB; rw [if_neg h, if_neg h2, if_neg h3, if_neg h4, if_pos h5]
    rw [hm]
    subst h5
    generalize hf : (decide (n = 0) || decide (n = 1)) = f
    by_cases hl : 2 ≤ len
    · have e0 : (2 : Int) ≤ (len : Int) := by omega
      go_enter Tryz.func24, Tryz.ntmps24
      go_wp2_with (go_at_call 36; refine (isFlag_any _ _).mono ?_; rintro e w1 ⟨rfl, rfl⟩; rw [hf])
      go_ret
      exact ⟨by simp [hl], (Below.refl _ _).alloc (Nat.le_refl _) _⟩
    · have e0 : ¬ (2 : Int) ≤ (len : Int) := by omega
      go_enter Tryz.func24, Tryz.ntmps24
      go_wp2_with fail
      go_ret
      exact ⟨by simp [hl], (Below.refl _ _).alloc (Nat.le_refl _) _⟩
  by_cases h6 : k = 11
  · have hm : mayB k s n len = decide (len = 1) := by unfold mayB; rw [if_neg h, if_neg h2, if_neg h3, if_neg h4, if_neg h5, if_pos h6]
    rw [hm]
    subst h6
    go_enter Tryz.func24, Tryz.ntmps24
    go_wp2_with fail
    go_ret
    refine ⟨?_, (Below.refl _ _).alloc (Nat.le_refl _) _⟩
    by_cases h1 : len = 1
    · subst h1; rfl
    · have e1 : ((len : Int) == 1) = false := by simp; omega
      simp [h1, e1]
  have hm : mayB k s n len = false := by unfold mayB; rw [if_neg h, if_neg h2, if_neg h3, if_neg h4, if_neg h5, if_neg h6]
  rw [hm]
  have q1 : (k == 1) = false := by simp; omega
  have q2 : (k == 2) = false := by simp; omega
  have q3 : (k == 3) = false := by simp; omega
  have q4 : (k == 4) = false := by simp; omega
  have q5 : (k == 5) = false := by simp; omega
  have q7 : (k == 7) = false := by simp; omega
  have q8 : (k == 8) = false := by simp; omega
  have q9 : (k == 9) = false := by simp; omega
  have q10 : (k == 10) = false := by simp; omega
  have q11 : (k == 11) = false := by simp; omega
  have q13 : (k == 13) = false := by simp; omega
  have q14 : (k == 14) = false := by simp; omega
  have q15 : (k == 15) = false := by simp; omega
  clear h h2 h3 h4 h5 h6 hm
  go_enter Tryz.func24, Tryz.ntmps24
  go_wp2_with fail
  go_ret
  exact ⟨rfl, (Below.refl _ _).alloc (Nat.le_refl _) _⟩

/-- what stands at a place of a list; NULL, where there is none -/
theorem atV_any (A : Option Addr) (c : Nat) (l : List Trip) (n : Int) (w : World) (hR : RdT w A l) (hl : l.length ≤ 1000000) :
    Calls Tryz.prog 49 #[.slice A l.length c, .int .i64 n] w fun e w' => e = .returned (vT (atT l n)) ∧ Below w.heap.size w w' := by
  by_cases h0 : n < 0
  · have hm : atT l n = nulT := by unfold atT; rw [if_pos h0]
    rw [hm]
    go_enter Tryz.func49, Tryz.ntmps49
    go_wp2_with fail
    exact bodyPost_ret (v := vv 0 0 ⟨#[]⟩) (by simp [results, Tryz.results49, go_sem]) rfl ⟨rfl, ((Below.refl _ _).alloc (Nat.le_refl _) _).alloc (by simp) _⟩
  · by_cases h1 : (l.length : Int) ≤ n
    · have hm : atT l n = nulT := by
        unfold atT
        rw [if_neg h0, List.getD_eq_getElem?_getD, List.getElem?_eq_none (by omega)]
        rfl
      rw [hm]
      go_enter Tryz.func49, Tryz.ntmps49
      go_wp2_with fail
      exact bodyPost_ret (v := vv 0 0 ⟨#[]⟩) (by simp [results, Tryz.results49, go_sem]) rfl ⟨rfl, ((Below.refl _ _).alloc (Nat.le_refl _) _).alloc (by simp) _⟩
    · obtain ⟨m, rfl⟩ : ∃ m : Nat, n = (m : Int) := ⟨n.toNat, by omega⟩
      have hlt : m < l.length := by omega
      obtain ⟨⟨k, z, s⟩, ht⟩ : ∃ t, l[m]? = some t := ⟨_, List.getElem?_eq_getElem hlt⟩
      have hm : atT l (m : Int) = (k, z, s) := by
        unfold atT
        rw [if_neg h0, Int.toNat_natCast, List.getD_eq_getElem?_getD, ht]
        rfl
      rw [hm]
      rcases hR with hR | ⟨b, o, rfl, hR⟩
      · subst hR; simp at hlt
      have hR1 := hR.on (show Below w.heap.size w (w.alloc (.cells #[.int .u8 0, .int .i64 0, .string ⟨#[]⟩] 38)) from (Below.refl _ _).alloc (Nat.le_refl _) _)
      obtain ⟨y0, y1, y2⟩ := hR1.2 m k z s ht
      have q1 : ¬ ((l.length : Int) ≤ (m : Int)) := h1
      have q2 : (0 : Int) ≤ (m : Int) := by omega
      have q3 : ((m : Int) < (l.length : Int)) := by omega
      clear hR hR1 hm ht
      go_enter Tryz.func49, Tryz.ntmps49
      go_wp2_with fail
      exact bodyPost_ret (v := vv k z s) (by simp [results, Tryz.results49, go_sem]) rfl ⟨rfl, (Below.refl _ _).alloc (Nat.le_refl _) _⟩
end Go.Proofs.YteijijoiifbjlaaGreatDoor

namespace Go.Proofs.YteijijoiifbjlaaGreatDoor
open Go.ChangeShapes Go.WideShapes Go.ChangeAt Go.RowKit
set_option linter.unusedVariables false
set_option linter.unusedSimpArgs false
set_option maxRecDepth 100000

/-- rows of values -/
def RdR (w : World) (A : Option Addr) (rs : List (List Trip)) : Prop :=
  rs = [] ∨ ∃ b o, A = some ⟨b, o, none⟩ ∧ b < w.heap.size ∧ ∀ j r, rs[j]? = some r → ∃ A' c, w.cell? ⟨b, o + j, none⟩ = some (.slice A' r.length c) ∧ r.length ≤ c ∧ RdT w A' r
theorem RdR.on {w w' : World} {A : Option Addr} {rs : List (List Trip)} (h : RdR w A rs) (hb : Below w.heap.size w w') : RdR w' A rs := by
  rcases h with h | ⟨b, o, h1, h2, h3⟩
  · exact .inl h
  · refine .inr ⟨b, o, h1, Nat.lt_of_lt_of_le h2 hb.size, fun j r hj => ?_⟩
    obtain ⟨A', c, g1, g2, g3⟩ := h3 j r hj
    exact ⟨A', c, (hb.cell (p := ⟨b, o + j, none⟩) h2).trans g1, g2, g3.on hb⟩
/-- how much of it is looked at -/
def EnvOk (x : EnvM) : Prop := x.rows.length ≤ 1000 ∧ (∀ r ∈ x.rows, r.length ≤ 1000) ∧ x.keys.length ≤ 1000 ∧ x.totals.length ≤ 1000 ∧ x.binds.length ≤ 1000
/-- a block that holds an Env -/
def EnvB (w : World) (b : Nat) (x : EnvM) : Prop :=
  ∃ Ar cr Ak ck At ct Ab cb, (w.cell? ⟨b, 0, none⟩ = some (.slice Ar x.rows.length cr) ∧ w.cell? ⟨b, 1, none⟩ = some (.slice Ak x.keys.length ck) ∧ w.cell? ⟨b, 2, none⟩ = some (.slice At x.totals.length ct) ∧ w.cell? ⟨b, 3, none⟩ = some (.slice Ab x.binds.length cb)) ∧
    (RdR w Ar x.rows ∧ RdT w Ak x.keys ∧ RdT w At x.totals ∧ RdT w Ab x.binds)
theorem EnvB.on {w w' : World} {b : Nat} {x : EnvM} (h : EnvB w b x) (hb : Below w.heap.size w w') : EnvB w' b x := by
  obtain ⟨Ar, cr, Ak, ck, At, ct, Ab, cb, ⟨h0, h1, h2, h3⟩, g0, g1, g2, g3⟩ := h
  have hlt : b < w.heap.size := block_lt_of_cell h0
  have e : ∀ o v, w.cell? ⟨b, o, none⟩ = some v → w'.cell? ⟨b, o, none⟩ = some v := fun o v hv => (hb.cell (p := ⟨b, o, none⟩) hlt).trans hv
  exact ⟨Ar, cr, Ak, ck, At, ct, Ab, cb, ⟨e _ _ h0, e _ _ h1, e _ _ h2, e _ _ h3⟩, g0.on hb, g1.on hb, g2.on hb, g3.on hb⟩

abbrev ebox (k : Int) (s t : ByteArray) (n a : Int) (A : Option Addr) (len cap : Nat) : Obj := .cells (exprC k s t n a A len cap) 25
abbrev vbox0 : Obj := .cells #[.int .u8 0, .int .i64 0, .string ⟨#[]⟩] 38
/-- the world with an expression in a box, and a place for the answer -/
abbrev wE (w : World) (k : Int) (s t : ByteArray) (n a : Int) (A : Option Addr) (len cap : Nat) : World := (w.alloc (ebox k s t n a A len cap)).alloc vbox0
section
variable (w : World) (k : Int) (s t : ByteArray) (n a : Int) (A : Option Addr) (len cap : Nat)
theorem wE_size : (wE w k s t n a A len cap).heap.size = w.heap.size + 2 := by simp
theorem wE_below : Below w.heap.size w (wE w k s t n a A len cap) := ((Below.refl _ _).alloc (Nat.le_refl _) _).alloc (by simp) _
theorem wE_cells1 (X : World) (h : Below (w.heap.size + 1) (wE w k s t n a A len cap) X) : ECell X w.heap.size 0 k s t n a A len cap := by
  have hc : ∀ o, X.cell? ⟨w.heap.size, o, none⟩ = (wE w k s t n a A len cap).cell? ⟨w.heap.size, o, none⟩ := fun o => h.cell (p := ⟨w.heap.size, o, none⟩) (by show w.heap.size < _; omega)
  refine ⟨?_, ?_, ?_, ?_, ?_, ?_⟩ <;> (rw [hc]; simp [go_sem])
variable (X : World) (h : Below (wE w k s t n a A len cap).heap.size (wE w k s t n a A len cap) X)
include h
theorem wE_lt : w.heap.size + 2 ≤ X.heap.size := by have := h.size; rw [wE_size] at this; exact this
theorem wE_end0 : Below w.heap.size w X := (wE_below w k s t n a A len cap).trans (h.mono (by rw [wE_size]; omega))
theorem wE_cells : ECell X w.heap.size 0 k s t n a A len cap := wE_cells1 w k s t n a A len cap X (h.mono (by rw [wE_size]; omega))
theorem wE_out :
    X.cell? ⟨w.heap.size + 1, 0, none⟩ = some (.int .u8 0) ∧ X.cell? ⟨w.heap.size + 1, 1, none⟩ = some (.int .i64 0) ∧ X.cell? ⟨w.heap.size + 1, 2, none⟩ = some (.string ⟨#[]⟩) ∧
    X.frozen? ⟨w.heap.size + 1, 0, none⟩ = false ∧ X.frozen? ⟨w.heap.size + 1, 1, none⟩ = false ∧ X.frozen? ⟨w.heap.size + 1, 2, none⟩ = false := by
  obtain ⟨hc, hf⟩ := bcell h
  refine ⟨?_, ?_, ?_, ?_, ?_, ?_⟩
  · rw [hc _ _ (by rw [wE_size]; omega)]; simp [go_sem]
  · rw [hc _ _ (by rw [wE_size]; omega)]; simp [go_sem]
  · rw [hc _ _ (by rw [wE_size]; omega)]; simp [go_sem]
  · rw [hf _ _ (by rw [wE_size]; omega)]; simp [go_sem]
  · rw [hf _ _ (by rw [wE_size]; omega)]; simp [go_sem]
  · rw [hf _ _ (by rw [wE_size]; omega)]; simp [go_sem]
theorem wE_end (x y z : Value) :
    Below w.heap.size w (((X.setCell ⟨w.heap.size + 1, 0, none⟩ x).setCell ⟨w.heap.size + 1, 1, none⟩ y).setCell ⟨w.heap.size + 1, 2, none⟩ z) :=
  (((wE_end0 w k s t n a A len cap X h).setCell (by show w.heap.size ≤ w.heap.size + 1; omega) _).setCell (by show w.heap.size ≤ w.heap.size + 1; omega) _).setCell (by show w.heap.size ≤ w.heap.size + 1; omega) _
end

/-- what a closure of one expression tells -/
abbrev TellP (g : Nat) (lb : Array Value) (k : Int) (s t : ByteArray) (n a : Int) (A : Option Addr) (len cap : Nat) (r : Trip) (W : World) : Prop :=
  Calls Tryz.prog g (#[exprV k s t n a A len cap] ++ lb) W fun e w' => e = .returned (vT r) ∧ Below W.heap.size W w'

section
variable (k : Int) (s t : ByteArray) (n a : Int) (A : Option Addr) (len cap : Nat) (w : World)
theorem tell1 : TellP 44 #[] k s t n a A len cap nulT w := by
  unfold TellP
  go_enter Tryz.func44, Tryz.ntmps44
  go_wp2_with fail
  exact bodyPost_ret (v := nul) (by simp [results, Tryz.results44, go_sem]) rfl ⟨rfl, ((Below.refl _ _).alloc (Nat.le_refl _) _).alloc (by simp) _⟩
theorem tell2 : TellP 45 #[] k s t n a A len cap (intT n) w := by
  unfold TellP
  go_enter Tryz.func45, Tryz.ntmps45
  go_wp2_with fail
  exact bodyPost_ret (v := vv 1 n ⟨#[]⟩) (by simp [results, Tryz.results45, go_sem]) rfl ⟨rfl, ((Below.refl _ _).alloc (Nat.le_refl _) _).alloc (by simp) _⟩
theorem tell3 : TellP 46 #[] k s t n a A len cap (2, 0, s) w := by
  unfold TellP
  go_enter Tryz.func46, Tryz.ntmps46
  go_wp2_with fail
  exact bodyPost_ret (v := vv 2 0 s) (by simp [results, Tryz.results46, go_sem]) rfl ⟨rfl, ((Below.refl _ _).alloc (Nat.le_refl _) _).alloc (by simp) _⟩
theorem tell4 : TellP 47 #[] k s t n a A len cap (3, 0, s) w := by
  unfold TellP
  go_enter Tryz.func47, Tryz.ntmps47
  go_wp2_with fail
  exact bodyPost_ret (v := vv 3 0 s) (by simp [results, Tryz.results47, go_sem]) rfl ⟨rfl, ((Below.refl _ _).alloc (Nat.le_refl _) _).alloc (by simp) _⟩
theorem tell5 (xb : Nat) (x : EnvM) (hX : EnvB w xb x) (hx : EnvOk x) : TellP 48 #[.pointer (some ⟨xb, 0, none⟩)] k s t n a A len cap (atT x.binds n) w := by
  unfold TellP
  obtain ⟨Ar, cr, Ak, ck, At, ct, Ab, cb, hc, hR⟩ := hX.on (wE_below w k s t n a A len cap)
  have hc0 := hc.2.2.2
  have hl : x.binds.length ≤ 1000000 := by have := hx.2.2.2.2; omega
  have hR0 := hR.2.2.2
  have HR := Lib.hid hR0
  clear hc hX hR hR0
  go_enter Tryz.func48, Tryz.ntmps48
  go_wp2_with (go_at_call 49; refine (atV_any Ab cb x.binds n _ HR.out hl).mono ?_; rintro e wa ⟨rfl, ba⟩; have hcur := Lib.hid ba; obtain ⟨u0, u1, u2, v0, v1, v2⟩ := wE_out _ _ _ _ _ _ _ _ _ _ hcur.out; have hz : w.heap.size + 1 < wa.heap.size := (by have := hcur.out.size; simp at this; omega); clear ba)
  exact bodyPost_ret (v := vT (atT x.binds n)) (by simp [results, Tryz.results48, go_sem, u0, u1, u2]) rfl ⟨rfl, wE_end _ _ _ _ _ _ _ _ _ _ hcur.out _ _ _⟩
theorem tell6 (xb : Nat) (x : EnvM) (hX : EnvB w xb x) (hx : EnvOk x) : TellP 50 #[.pointer (some ⟨xb, 0, none⟩)] k s t n a A len cap (atT x.keys n) w := by
  unfold TellP
  obtain ⟨Ar, cr, Ak, ck, At, ct, Ab, cb, hc, hR⟩ := hX.on (wE_below w k s t n a A len cap)
  have hc0 := hc.2.1
  have hl : x.keys.length ≤ 1000000 := by have := hx.2.2.1; omega
  have hR0 := hR.2.1
  have HR := Lib.hid hR0
  clear hc hX hR hR0
  go_enter Tryz.func50, Tryz.ntmps50
  go_wp2_with (go_at_call 49; refine (atV_any Ak ck x.keys n _ HR.out hl).mono ?_; rintro e wa ⟨rfl, ba⟩; have hcur := Lib.hid ba; obtain ⟨u0, u1, u2, v0, v1, v2⟩ := wE_out _ _ _ _ _ _ _ _ _ _ hcur.out; have hz : w.heap.size + 1 < wa.heap.size := (by have := hcur.out.size; simp at this; omega); clear ba)
  exact bodyPost_ret (v := vT (atT x.keys n)) (by simp [results, Tryz.results50, go_sem, u0, u1, u2]) rfl ⟨rfl, wE_end _ _ _ _ _ _ _ _ _ _ hcur.out _ _ _⟩
theorem tell7 (xb : Nat) (x : EnvM) (hX : EnvB w xb x) (hx : EnvOk x) : TellP 51 #[.pointer (some ⟨xb, 0, none⟩)] k s t n a A len cap (atT x.totals n) w := by
  unfold TellP
  obtain ⟨Ar, cr, Ak, ck, At, ct, Ab, cb, hc, hR⟩ := hX.on (wE_below w k s t n a A len cap)
  have hc0 := hc.2.2.1
  have hl : x.totals.length ≤ 1000000 := by have := hx.2.2.2.1; omega
  have hR0 := hR.2.2.1
  have HR := Lib.hid hR0
  clear hc hX hR hR0
  go_enter Tryz.func51, Tryz.ntmps51
  go_wp2_with (go_at_call 49; refine (atV_any At ct x.totals n _ HR.out hl).mono ?_; rintro e wa ⟨rfl, ba⟩; have hcur := Lib.hid ba; obtain ⟨u0, u1, u2, v0, v1, v2⟩ := wE_out _ _ _ _ _ _ _ _ _ _ hcur.out; have hz : w.heap.size + 1 < wa.heap.size := (by have := hcur.out.size; simp at this; omega); clear ba)
  exact bodyPost_ret (v := vT (atT x.totals n)) (by simp [results, Tryz.results51, go_sem, u0, u1, u2]) rfl ⟨rfl, wE_end _ _ _ _ _ _ _ _ _ _ hcur.out _ _ _⟩
def RowRet (r : List Trip) (w : World) (e : Ending) (w' : World) : Prop := ∃ A' c', e = .returned (.slice A' r.length c') ∧ r.length ≤ c' ∧ RdT w' A' r ∧ Below w.heap.size w w'
/-- nothing (no row) where there is none -/
theorem atR_any (B : Option Addr) (c : Nat) (l : List (List Trip)) (m : Int) (hR : RdR w B l) (hl : l.length ≤ 1000000) :
    Calls Tryz.prog 53 #[.slice B l.length c, .int .i64 m] w (RowRet (atR l m) w) := by
  by_cases h0 : m < 0
  · have hm : atR l m = [] := by unfold atR; rw [if_pos h0]
    rw [hm]
    go_enter Tryz.func53, Tryz.ntmps53
    go_wp2_with fail
    exact bodyPost_ret (v := .slice none 0 0) (by simp [results, Tryz.results53, go_sem]) rfl ⟨none, 0, rfl, Nat.le_refl _, .inl rfl, Below.refl _ _⟩
  · by_cases h1 : (l.length : Int) ≤ m
    · have hm : atR l m = [] := by
        unfold atR
        rw [if_neg h0, List.getD_eq_getElem?_getD, List.getElem?_eq_none (by omega)]
        rfl
      rw [hm]
      go_enter Tryz.func53, Tryz.ntmps53
      go_wp2_with fail
      exact bodyPost_ret (v := .slice none 0 0) (by simp [results, Tryz.results53, go_sem]) rfl ⟨none, 0, rfl, Nat.le_refl _, .inl rfl, Below.refl _ _⟩
    · obtain ⟨i, rfl⟩ : ∃ i : Nat, m = (i : Int) := ⟨m.toNat, by omega⟩
      have hlt : i < l.length := by omega
      obtain ⟨r, ht⟩ : ∃ t, l[i]? = some t := ⟨_, List.getElem?_eq_getElem hlt⟩
      have hm : atR l (i : Int) = r := by
        unfold atR
        rw [if_neg h0, Int.toNat_natCast, List.getD_eq_getElem?_getD, ht]
        rfl
      rw [hm]
      rcases hR with hR | ⟨b, o, rfl, hlt2, hR⟩
      · subst hR; simp at hlt
      obtain ⟨A', c', y0, y1, y2⟩ := hR i r ht
      have q1 : ¬ ((l.length : Int) ≤ (i : Int)) := h1
      have q2 : (0 : Int) ≤ (i : Int) := by omega
      have q3 : ((i : Int) < (l.length : Int)) := by omega
      have HY := Lib.hid y1
      have HZ := Lib.hid y2
      clear hR hm ht y1 y2
      go_enter Tryz.func53, Tryz.ntmps53
      go_wp2_with fail
      exact bodyPost_ret (v := .slice A' r.length c') (by simp [results, Tryz.results53, go_sem]) rfl ⟨A', c', rfl, HY.out, HZ.out, (Below.refl _ _)⟩
set_option maxHeartbeats 1000000 in
theorem tell8 (xb : Nat) (x : EnvM) (hX : EnvB w xb x) (hx : EnvOk x) : TellP 52 #[.pointer (some ⟨xb, 0, none⟩)] k s t n a A len cap (atT (atR x.rows a) n) w := by
  unfold TellP
  obtain ⟨Ar, cr, Ak, ck, At, ct, Ab, cb, hc0, hR, -⟩ := hX.on (wE_below w k s t n a A len cap)
  have hc0' := hc0.1
  clear hc0
  have hlt : xb < w.heap.size + 1 := by
    obtain ⟨_, _, _, _, _, _, _, _, hq, -⟩ := hX
    have : xb < w.heap.size := block_lt_of_cell hq.1
    omega
  have F : ∀ X, Below (w.heap.size + 1) (wE w k s t n a A len cap) X → X.cell? ⟨xb, 0, none⟩ = some (.slice Ar x.rows.length cr) ∧ X.cell? ⟨w.heap.size, 3, none⟩ = some (.int .i64 n) ∧ X.cell? ⟨w.heap.size, 4, none⟩ = some (.int .i64 a) := fun X h =>
    ⟨(h.cell (p := ⟨xb, 0, none⟩) hlt).trans hc0', (wE_cells1 w k s t n a A len cap X h).2.2.2.1, (wE_cells1 w k s t n a A len cap X h).2.2.2.2.1⟩
  have HR := Lib.hid hR
  have hl : x.rows.length ≤ 1000000 := by have := hx.1; omega
  have HL : Hid ((atR x.rows a).length ≤ 1000000) := Lib.hid (by
    unfold atR
    split
    · simp
    · rw [List.getD_eq_getElem?_getD]
      cases h : x.rows[a.toNat]? with
      | none => simp
      | some r => have := hx.2.1 r (List.mem_of_getElem? h); simp; omega)
  clear hX hR hc0' hlt
  go_enter Tryz.func52, Tryz.ntmps52
  go_wp2_with fail
  go_region_held3 (fun X => X.cell? ⟨xb, 0, none⟩ = some (.slice Ar x.rows.length cr) ∧ X.cell? ⟨w.heap.size, 3, none⟩ = some (.int .i64 n) ∧ X.cell? ⟨w.heap.size, 4, none⟩ = some (.int .i64 a))
    (first | exact F _ (hcur.out.mono (by simp)) | exact F _ (Below.refl _ _).drew | exact F _ ((hcur.out.mono (by simp)).setCell (by simp) _ |>.setCell (by simp) _ |>.setCell (by simp) _))
    (first
      | (go_at_call 53; refine (atR_any _ Ar cr x.rows a (HR.out.on (Below.refl _ _).drew) hl).mono ?_; rintro e wa ⟨A', c', rfl, hk1, hk2, ba⟩; have HK2 := Lib.hid hk2; have hcur := Lib.hid ((Below.refl (wE w k s t n a A len cap).heap.size (wE w k s t n a A len cap)).drew.trans ba); clear hk2 ba)
      | (go_at_call 49; refine (atV_any A' c' _ n _ HK2.out HL.out).mono ?_; rintro e wb ⟨rfl, bb⟩; have hcur := Lib.hid (hcur.out.trans (bb.mono hcur.out.size)); obtain ⟨u0, u1, u2, v0, v1, v2⟩ := wE_out _ _ _ _ _ _ _ _ _ _ hcur.out; have hz : w.heap.size + 1 < wb.heap.size := (by have := hcur.out.size; simp at this; omega)))
  go_wp2_with fail
  exact bodyPost_ret (v := vT (atT (atR x.rows a) n)) (by simp [results, Tryz.results52, go_sem, u0, u1, u2]) rfl ⟨rfl, wE_end _ _ _ _ _ _ _ _ _ _ hcur.out _ _ _⟩
end
end Go.Proofs.YteijijoiifbjlaaGreatDoor
