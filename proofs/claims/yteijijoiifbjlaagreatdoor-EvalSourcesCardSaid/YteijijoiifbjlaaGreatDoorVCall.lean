/-
  Call (layer 2, value), of a function that there is, with right arguments. Conditions: sizes.
-/
import Derived.Test.YteijijoiifbjlaaGreatDoorVArgs
import Derived.Test.YteijijoiifbjlaaGreatDoorVFind
import Derived.Test.YteijijoiifbjlaaGreatDoorVTwo
namespace Go.Proofs.YteijijoiifbjlaaGreatDoor
open Go.ChangeShapes Go.WideShapes Go.ChangeAt Go.RowKit
set_option linter.unusedVariables false

/-- the world with a place for the answer -/
abbrev w1 (w : World) : World := w.alloc (box 0 0 ⟨#[]⟩)
theorem w1_below (w : World) : Below w.heap.size w (w1 w) := (Below.refl _ _).alloc (Nat.le_refl _) _
theorem w1_size (w : World) : (w1 w).heap.size = w.heap.size + 1 := by simp
theorem w1_out (w : World) (X : World) (h : Below (w1 w).heap.size (w1 w) X) :
    X.cell? ⟨w.heap.size, 0, none⟩ = some (.int .u8 0) ∧ X.cell? ⟨w.heap.size, 1, none⟩ = some (.int .i64 0) ∧ X.cell? ⟨w.heap.size, 2, none⟩ = some (.string ⟨#[]⟩) ∧
    X.frozen? ⟨w.heap.size, 0, none⟩ = false ∧ X.frozen? ⟨w.heap.size, 1, none⟩ = false ∧ X.frozen? ⟨w.heap.size, 2, none⟩ = false := by
  obtain ⟨hc, hf⟩ := bcell h
  refine ⟨?_, ?_, ?_, ?_, ?_, ?_⟩
  · rw [hc _ _ (by rw [w1_size]; omega)]; simp [go_sem]
  · rw [hc _ _ (by rw [w1_size]; omega)]; simp [go_sem]
  · rw [hc _ _ (by rw [w1_size]; omega)]; simp [go_sem]
  · rw [hf _ _ (by rw [w1_size]; omega)]; simp [go_sem]
  · rw [hf _ _ (by rw [w1_size]; omega)]; simp [go_sem]
  · rw [hf _ _ (by rw [w1_size]; omega)]; simp [go_sem]
theorem w1_end (w : World) (X : World) (h : Below (w1 w).heap.size (w1 w) X) (a b c : Value) :
    Below w.heap.size w (((X.setCell ⟨w.heap.size, 0, none⟩ a).setCell ⟨w.heap.size, 1, none⟩ b).setCell ⟨w.heap.size, 2, none⟩ c) :=
  ((((w1_below w).trans (h.mono (by rw [w1_size]; omega))).setCell (Nat.le_refl _) _).setCell (Nat.le_refl _) _).setCell (Nat.le_refl _) _

/-- a boxed function, in its block -/
theorem fbox_at {W X : World} {least most : Int} {tn : Bool} {f : Value} (h : Below (W.alloc (fbox least most tn f)).heap.size (W.alloc (fbox least most tn f)) X) :
    X.cell? ⟨W.heap.size, 2, none⟩ = some (.bool tn) ∧ X.cell? ⟨W.heap.size, 3, none⟩ = some f := by
  obtain ⟨hc, hf⟩ := bcell h
  constructor
  · rw [hc _ _ (by simp)]; simp [go_sem]
  · rw [hc _ _ (by simp)]; simp [go_sem]

theorem call_chain {w wa X : World} {o : Obj} (h1 : Below (w1 w).heap.size (w1 w) wa) (h2 : Below (wa.alloc o).heap.size (wa.alloc o) X) : Below (w1 w).heap.size (w1 w) X :=
  (h1.trans ((Below.refl _ _).alloc h1.size o)).trans (h2.mono (by have := h1.size; simp at this ⊢; omega))
theorem call_chain0 {w wa X : World} {o : Obj} (h1 : Below (w1 w).heap.size (w1 w) wa) (h2 : Below (wa.alloc o).heap.size (wa.alloc o) X) : Below w.heap.size w X :=
  (w1_below w).trans ((call_chain h1 h2).mono (by rw [w1_size]; omega))

set_option maxRecDepth 100000 in
set_option maxHeartbeats 800000 in
theorem Call_fn (name : ByteArray) (least most : Int) (tn : Bool) (g : Nat) (lb : Nat → Nat → Array Value) (hN : Named name least most tn g lb) (b off cap : Nat) (vs : List Trip) (w : World)
    (hsz : ∀ t ∈ vs, t.2.2.size ≤ 9223372036854775807) (hl : vs.length ≤ 1000000) (hR : RdV w b off vs) (h1 : least ≤ vs.length) (h2 : vs.length ≤ most)
    (hbad : vs.any pBad = false) (hnul : tn = true ∨ vs.any pNul = false) (x y : Int) (z : ByteArray) (er : Int)
    (hE : ∀ (args : Array Value) (W : World), (callFunc g args).run Tryz.prog W = .ok (.enter g args) W)
    (H : ∀ W c1 c2, Below w.heap.size w W → boxes W c1 c2 → Calls Tryz.prog g (#[.slice (some ⟨b, off, none⟩) vs.length cap] ++ lb c1 c2) W (RetV (vv x y z) er W)) :
    Calls Tryz.prog 59 #[.string name, .slice (some ⟨b, off, none⟩) vs.length cap] w (RetV (vv x y z) er w) := by
  have HS := Lib.hid hsz
  have HR := Lib.hid hR
  have HN := Lib.hid hN
  have HB := Lib.hid hbad
  have HH := Lib.hid H
  clear hsz hR hN hbad H
  cases tn
  · have hnul' : vs.any pNul = false := by rcases hnul with h | h; cases h; exact h
    have HU := Lib.hid hnul'
    clear hnul hnul'
    go_enter Tryz.func59, Tryz.ntmps59
    go_wp2_with (first
      | (go_at_call 78; refine (find_yes name least most _ false g lb HN.out h1 h2 _).mono ?_; rintro e wa ⟨c1, c2, rfl, hx, ba⟩; have hcur := Lib.hid ba; have HX := Lib.hid (hx.alloc (fbox least most false (.func (.func g) #[] (lb c1 c2)))); have hc2 := Lib.hid (Below.refl (wa.alloc (fbox least most false (.func (.func g) #[] (lb c1 c2)))).heap.size (wa.alloc (fbox least most false (.func (.func g) #[] (lb c1 c2))))); clear hx ba)
      | (go_at_call 79; (with_reducible refine (ContainsFunc_notRight b off cap vs _ HS.out hl (HR.out.on (call_chain0 hcur.out hc2.out))).mono ?_); rintro e wb ⟨rfl, bb⟩; rw [HB.out]; have hc2 := Lib.hid (hc2.out.trans (bb.mono hc2.out.size)); obtain ⟨t0, t1⟩ := fbox_at hc2.out; clear bb)
      | (go_at_call 79; (with_reducible refine (ContainsFunc_isNull b off cap vs _ HS.out hl (HR.out.on (call_chain0 hcur.out hc2.out))).mono ?_); rintro e wb ⟨rfl, bb⟩; rw [HU.out]; have hc2 := Lib.hid (hc2.out.trans (bb.mono hc2.out.size)); obtain ⟨t0, t1⟩ := fbox_at hc2.out; clear bb)
      | ((with_reducible refine (HH.out _ c1 c2 (call_chain0 hcur.out hc2.out) (HX.out.on hc2.out)).mono ?_); rintro e wb ⟨rfl, bb⟩; have hc2 := Lib.hid (hc2.out.trans (bb.mono hc2.out.size)); obtain ⟨u0, u1, u2, v0, v1, v2⟩ := w1_out w _ (call_chain hcur.out hc2.out); have hz : w.heap.size < wb.heap.size := (by have := (call_chain hcur.out hc2.out).size; simp at this; omega); clear bb))
    exact bodyPost_ret (v := .tuple #[vv x y z, .int .i64 er]) (by simp [results, Tryz.results59, go_sem, u0, u1, u2]) rfl ⟨rfl, w1_end _ _ (call_chain hcur.out hc2.out) _ _ _⟩
  · clear hnul
    go_enter Tryz.func59, Tryz.ntmps59
    go_wp2_with (first
      | (go_at_call 78; refine (find_yes name least most _ true g lb HN.out h1 h2 _).mono ?_; rintro e wa ⟨c1, c2, rfl, hx, ba⟩; have hcur := Lib.hid ba; have HX := Lib.hid (hx.alloc (fbox least most true (.func (.func g) #[] (lb c1 c2)))); have hc2 := Lib.hid (Below.refl (wa.alloc (fbox least most true (.func (.func g) #[] (lb c1 c2)))).heap.size (wa.alloc (fbox least most true (.func (.func g) #[] (lb c1 c2))))); clear hx ba)
      | (go_at_call 79; (with_reducible refine (ContainsFunc_notRight b off cap vs _ HS.out hl (HR.out.on (call_chain0 hcur.out hc2.out))).mono ?_); rintro e wb ⟨rfl, bb⟩; rw [HB.out]; have hc2 := Lib.hid (hc2.out.trans (bb.mono hc2.out.size)); obtain ⟨t0, t1⟩ := fbox_at hc2.out; clear bb)
      | ((with_reducible refine (HH.out _ c1 c2 (call_chain0 hcur.out hc2.out) (HX.out.on hc2.out)).mono ?_); rintro e wb ⟨rfl, bb⟩; have hc2 := Lib.hid (hc2.out.trans (bb.mono hc2.out.size)); obtain ⟨u0, u1, u2, v0, v1, v2⟩ := w1_out w _ (call_chain hcur.out hc2.out); have hz : w.heap.size < wb.heap.size := (by have := (call_chain hcur.out hc2.out).size; simp at this; omega); clear bb))
    exact bodyPost_ret (v := .tuple #[vv x y z, .int .i64 er]) (by simp [results, Tryz.results59, go_sem, u0, u1, u2]) rfl ⟨rfl, w1_end _ _ (call_chain hcur.out hc2.out) _ _ _⟩
end Go.Proofs.YteijijoiifbjlaaGreatDoor
