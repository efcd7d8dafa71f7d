/-
  What the statements' helper calls answers of NULL, ifnull, coalesce and typeof; casts; SameValues of two lists of one. Conditions: right values; the library's variables are as its text lays them.
-/
import Derived.Test.YteijijoiifbjlaaGreatDoorVCallN
import Derived.Test.YteijijoiifbjlaaGreatDoorVAwake
import Derived.Deep.QuietTactic
import Derived.BigQuiet
namespace Go.Proofs.YteijijoiifbjlaaGreatDoor
open Go.ChangeShapes Go.WideShapes Go.ChangeAt Go.RowKit
set_option linter.unusedVariables false

theorem named_length : Named ⟨#[108, 101, 110, 103, 116, 104]⟩ 1 1 false 110 (fun _ _ => #[]) := fun c1 c2 => ⟨0, rfl⟩
theorem named_upper : Named ⟨#[117, 112, 112, 101, 114]⟩ 1 1 false 131 (fun c1 _ => #[.pointer (some ⟨c1, 0, none⟩)]) := fun c1 c2 => ⟨1, rfl⟩
theorem named_lower : Named ⟨#[108, 111, 119, 101, 114]⟩ 1 1 false 131 (fun _ c2 => #[.pointer (some ⟨c2, 0, none⟩)]) := fun c1 c2 => ⟨2, rfl⟩
theorem named_abs : Named ⟨#[97, 98, 115]⟩ 1 1 false 114 (fun _ _ => #[]) := fun c1 c2 => ⟨3, rfl⟩
theorem named_typeof : Named ⟨#[116, 121, 112, 101, 111, 102]⟩ 1 1 true 116 (fun _ _ => #[]) := fun c1 c2 => ⟨4, rfl⟩
theorem named_ifnull : Named ⟨#[105, 102, 110, 117, 108, 108]⟩ 2 2 true 133 (fun _ _ => #[]) := fun c1 c2 => ⟨6, rfl⟩
theorem named_coalesce : Named ⟨#[99, 111, 97, 108, 101, 115, 99, 101]⟩ 2 100 true 133 (fun _ _ => #[]) := fun c1 c2 => ⟨7, rfl⟩
theorem named_instr : Named ⟨#[105, 110, 115, 116, 114]⟩ 2 2 false 121 (fun _ _ => #[]) := fun c1 c2 => ⟨8, rfl⟩
theorem enters_first : ∀ (args : Array Value) (W : World), (callFunc 133 args).run Tryz.prog W = .ok (.enter 133 args) W := enters_of Tryz.func133 (by kernel_rfl) rfl
theorem enters_typeof : ∀ (args : Array Value) (W : World), (callFunc 116 args).run Tryz.prog W = .ok (.enter 116 args) W := enters_of Tryz.func116 (by kernel_rfl) rfl

/-- right values: none is bad, none too long -/
def AllR (vs : List Trip) : Prop := ∀ t ∈ vs, Rt t.1 t.2.1 t.2.2
theorem allR_bad {vs : List Trip} (h : AllR vs) : vs.any pBad = false := by
  rw [List.any_eq_false]
  intro t ht
  simp [pBad, h t ht]
theorem allR_size {vs : List Trip} (h : AllR vs) : ∀ t ∈ vs, t.2.2.size ≤ 9223372036854775807 := by
  intro t ht
  have := Rt_size (h t ht)
  omega
theorem kindName_nul (w : World) : Calls Tryz.prog 117 #[.int .u8 0] w fun e w' => e = .returned (.string ⟨#[110, 117, 108, 108]⟩) ∧ w = w' := by
  go_enter Tryz.func117, Tryz.ntmps117
  go_wp2
  go_ret
  exact ⟨rfl, rfl⟩
set_option maxRecDepth 100000 in
theorem typeof_nul (b : Nat) (w : World) (hR : RdV w b 0 [(0, 0, ⟨#[]⟩)]) : Calls Tryz.prog 116 #[.slice (some ⟨b, 0, none⟩) 1 1] w (RetV (vv 2 0 ⟨#[110, 117, 108, 108]⟩) 0 w) := by
  obtain ⟨c0, c1, c2⟩ := (hR.on (w1_below w)).one
  clear hR
  go_enter Tryz.func116, Tryz.ntmps116
  go_wp2_with (first
    | (go_at_call 117; refine (kindName_nul _).mono ?_; rintro e wa ⟨rfl, rfl⟩)
    | (go_at_call 82; refine (textValue_any _ _).mono ?_; rintro e wb ⟨rfl, bb⟩; have hcur := Lib.hid bb; obtain ⟨u0, u1, u2, v0, v1, v2⟩ := w1_out w _ hcur.out; have hz : w.heap.size < wb.heap.size := (by have := hcur.out.size; simp at this; omega)))
  exact bodyPost_ret (v := .tuple #[vv 2 0 ⟨#[110, 117, 108, 108]⟩, .int .i64 0]) (by simp [results, Tryz.results116, go_sem, u0, u1, u2]) rfl ⟨rfl, w1_end _ _ hcur.out _ _ _⟩
set_option maxHeartbeats 400000 in
theorem Cast_text_null (w : World) : Calls Tryz.prog 61 #[.string ⟨#[116, 101, 120, 116]⟩, vv 0 0 ⟨#[]⟩] w (RetV nul 0 w) := by
  have HR := Lib.hid Rt_nul
  have hs : (⟨#[]⟩ : ByteArray).size ≤ 9223372036854775807 := by show 0 ≤ _; omega
  go_enter Tryz.func61, Tryz.ntmps61
  go_wp2_with (first
    | (go_at_call 12; refine (Right_any _ _ _ _ hs).mono ?_; rintro e wa ⟨rfl, ba⟩; rw [decide_eq_true HR.out]; (first | (have hcur := Lib.hid (hcur.out.trans (ba.mono hcur.out.size))) | (have hcur := Lib.hid ba)); obtain ⟨g0, g1, g2⟩ := w2_cells _ _ _ _ _ hcur.out; obtain ⟨_, u0, u1, u2, v0, v1, v2⟩ := w2_out _ _ _ _ _ hcur.out; have hz : w.heap.size + 1 < wa.heap.size := (by have := hcur.out.size; rw [w2_size] at this; omega); clear ba)
    | (go_at_call 34; refine (isNull_any _ _ _ _).mono ?_; rintro e wa ⟨rfl, ba⟩; (first | (have hcur := Lib.hid (hcur.out.trans (ba.mono hcur.out.size))) | (have hcur := Lib.hid ba)); obtain ⟨g0, g1, g2⟩ := w2_cells _ _ _ _ _ hcur.out; obtain ⟨_, u0, u1, u2, v0, v1, v2⟩ := w2_out _ _ _ _ _ hcur.out; have hz : w.heap.size + 1 < wa.heap.size := (by have := hcur.out.size; rw [w2_size] at this; omega); clear ba))
  exact bodyPost_ret (v := .tuple #[nul, .int .i64 0]) (by simp [results, Tryz.results61, go_sem, u0, u1, u2]) rfl ⟨rfl, w2_end _ _ _ _ _ hcur.out _ _ _⟩

theorem below_drawN {w W : World} (h : Below w.heap.size w W) (n : Nat) : Below w.heap.size w (W.drewN n) := ⟨h.os, h.tape, h.output, h.size, h.block⟩
def SameRel (w : World) (i : Value) (wr : World) : Prop := ∃ z : Int, (z = 0 ∨ z = 1) ∧ i = .int .i64 z ∧ Below w.heap.size w wr
end Go.Proofs.YteijijoiifbjlaaGreatDoor
