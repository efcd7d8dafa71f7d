/-
  The statements' helper awake of layer 2 answers true. Conditions: the library's variables are as its text lays them.
-/
import Derived.Test.YtceknmibopnmhaaGreatDoorVAwS
import Derived.Deep.QuietTactic
namespace Go.Proofs.YtceknmibopnmhaaGreatDoor
open Go.ChangeShapes Go.WideShapes Go.ChangeAt Go.RowKit
set_option linter.unusedVariables false

theorem region_as {P : Program} {id : Nat} {ops ops' : Array Oper} {b : Bool} {Q : Exit → Act → World → Prop} {a : Act} {w : World} (h : ops = ops') (g : (Code.region id ops' b).wp P Q a w) : (Code.region id ops b).wp P Q a w := by
  subst h; exact g
theorem w1_end0 (w : World) (X : World) (h : Below (w1 w).heap.size (w1 w) X) : Below w.heap.size w X :=
  (w1_below w).trans (h.mono (by rw [w1_size]; omega))
theorem w1_null (w X : World) (h : Below (w1 w).heap.size (w1 w) X) : NulAt w.heap.size X := by
  obtain ⟨a, b, c, _, _, _⟩ := w1_out w X h
  exact ⟨a, b, c⟩

set_option maxRecDepth 100000 in
set_option maxHeartbeats 4000000 in
theorem awake_any (w : World) (hW : Wd w) : Calls Tryz.prog 24 #[] w fun e w' => e = .returned (.bool true) ∧ Below w.heap.size w w' := by
  have HW := Lib.hid hW
  have hcur := Lib.hid (Below.refl (w1 w).heap.size (w1 w))
  clear hW
  go_enter Tryz.func24, Tryz.ntmps24
  go_wp2_with (first
    | (go_at_call 13; refine (num_any _ _).mono ?_; rintro e wa ⟨rfl, ba⟩; have hcur := Lib.hid (hcur.out.trans (ba.mono hcur.out.size)); clear ba)
    | (go_at_call 12; refine (aw_add _).mono ?_; rintro e wo ⟨rfl, ba⟩; have hcur := Lib.hid (hcur.out.trans (ba.mono hcur.out.size)); clear ba; have hcur := Lib.hid (hcur.out.alloc hcur.out.size (box 0 0 ⟨#[]⟩)); have h2 := Lib.hid (Below.refl (w1 wo).heap.size (w1 wo))))
  refine region_as (ops' := awOps) (by kernel_rfl) ?_
  refine wp_region_steps (by kernel_rfl) awF awF_mono (by kernel_rfl) (aw_all (p1 := w.heap.size) (p2 := wo.heap.size) ⟨rfl, rfl, rfl, fun W hb => w1_null w W (hcur.out.trans (hb.mono hcur.out.size)), fun W hb => w1_null wo W hb, fun W hb => HW.out.on ((w1_end0 w _ hcur.out).trans (hb.mono (w1_end0 w _ hcur.out).size))⟩) ?_
  intro V X hb hV
  have HB := Lib.hid ((w1_end0 w _ hcur.out).trans (hb.mono (w1_end0 w _ hcur.out).size))
  have hv : V 98 = .bool true := hV 98 (of_decide_eq_true (by kernel_rfl)) (by kernel_rfl)
  rw [aw_fill _ rfl V]
  rw [hv]
  clear hv hV hb hcur h2
  go_wp2_with fail
  go_ret
  exact ⟨rfl, HB.out⟩
end Go.Proofs.YtceknmibopnmhaaGreatDoor
