/-
  Layer 2: a slice of n NULLs, made by make. No conditions but n's size.
-/
import Derived.Test.YtceknmibopnmhaaGreatDoorVNumR
import Derived.Laws.MakeOwn
import Derived.OwnWalk
namespace Go.Proofs.YtceknmibopnmhaaGreatDoor
open Go.ChangeShapes Go.WideShapes Go.ChangeAt Go.RowKit Go.ChangeMaps Go.Lib
set_option linter.unusedVariables false
theorem Tryz.info_VM : (Tryz.prog.info? 24).map (fun i => (i.zero, i.size, i.bytes)) = some (some (vv 0 0 ⟨#[]⟩), 3, 32) := by kernel_rfl
def nulCells (n : Nat) : Array Value := madeCells (vv 0 0 ⟨#[]⟩ : Value).cells (n * 3)
theorem run_makeN (n : Nat) (hn : n ≤ 1000) (w : World) : (Instr.makeSlice 27 (.int .i64 (n : Int)) (.int .i64 (n : Int))).run Tryz.prog w = .ok (.slice (some ⟨w.heap.size, 0, none⟩) n n) (w.alloc (.cells (nulCells n) 24)) := by
  obtain ⟨i, hi, hz0, hz1, hz2⟩ := info_parts Tryz.info_VM
  have h := run_makeSlice w 27 24 i _ Tryz.underlying27 hi hz0 .i64 .i64 (n : Int) (n : Int) (by omega) (by omega) (by rw [hz1]; omega) (by rw [hz2]; omega) (by omega)
  rw [hz1] at h
  simp only [Int.toNat_natCast] at h
  exact h
theorem nulCells_get (n j : Nat) (hj : j < n) : (nulCells n)[j * 3]? = some (.int .u8 0) ∧ (nulCells n)[j * 3 + 1]? = some (.int .i64 0) ∧ (nulCells n)[j * 3 + 2]? = some (.string ⟨#[]⟩) := by
  have hc : (vv 0 0 ⟨#[]⟩ : Value).cells = #[.int .u8 0, .int .i64 0, .string ⟨#[]⟩] := by kernel_rfl
  have m0 : j * 3 % 3 = 0 := by omega
  have m1 : (j * 3 + 1) % 3 = 1 := by omega
  have m2 : (j * 3 + 2) % 3 = 2 := by omega
  unfold nulCells madeCells
  rw [hc]
  refine ⟨?_, ?_, ?_⟩
  · rw [Array.getElem?_map, Array.getElem?_range, if_pos (by omega)]
    simp [m0]
  · rw [Array.getElem?_map, Array.getElem?_range, if_pos (by omega)]
    simp [m1]
  · rw [Array.getElem?_map, Array.getElem?_range, if_pos (by omega)]
    simp [m2]
theorem rdv_nuls (n : Nat) (w : World) : RdV (w.alloc (.cells (nulCells n) 24)) w.heap.size 0 (List.replicate n (0, 0, ⟨#[]⟩)) := by
  have h2 := World.alloc_heap_new w (.cells (nulCells n) 24)
  refine ⟨by simp, fun j a b c hj => ?_⟩
  have hjn : j < n := by
    have := (List.getElem?_eq_some_iff.1 hj).1
    simpa using this
  obtain ⟨rfl, rfl, rfl⟩ : 0 = a ∧ 0 = b ∧ (⟨#[]⟩ : ByteArray) = c := by
    have := List.eq_of_mem_replicate (List.mem_of_getElem? hj)
    simp only [Prod.mk.injEq] at this
    exact ⟨this.1.symm, this.2.1.symm, this.2.2.symm⟩
  obtain ⟨h3, h4, h5⟩ := nulCells_get n j hjn
  refine ⟨?_, ?_, ?_⟩
  · simp only [World.cell?, h2, Nat.zero_add]
    exact h3
  · simp only [World.cell?, h2, Nat.zero_add]
    exact h4
  · simp only [World.cell?, h2, Nat.zero_add]
    exact h5
/-- the slot holds a slice of n -/
def IsM (n : Nat) : Value → World → Prop := fun v w => ∃ b, v = .slice (some ⟨b, 0, none⟩) n n ∧ RdV w b 0 (List.replicate n (0, 0, ⟨#[]⟩))
theorem mono_isM (n : Nat) : MonoF (IsM n) := fun _ _ _ ⟨b, e, h⟩ hb => ⟨b, e, h.on hb⟩
section
variable {ops : Array Oper} {Q : Exit → Act → World → Prop} {i : Nat} {a : Act} {w : World} {R : Value → World → Prop}
theorem step_makeN {x y : Operand} {n : Nat} (hop : opO ops i = some (.makeSlice 27 x y)) (hw : Wanted ops i a) (hx : a.eval x = .int .i64 (n : Int)) (hy : a.eval y = .int .i64 (n : Int)) (hn : n ≤ 1000)
    (hR : ∀ b, RdV (w.alloc (.cells (nulCells n) 24)) b 0 (List.replicate n (0, 0, ⟨#[]⟩)) → Below w.heap.size w (w.alloc (.cells (nulCells n) 24)) → R (.slice (some ⟨b, 0, none⟩) n n) (w.alloc (.cells (nulCells n) 24))) : wpOp Tryz.prog ops Q i (fun a' w' => ∃ v, a' = a.put (dstO ops i) v ∧ R v w') a w := by
  refine step_run (v := .slice (some ⟨w.heap.size, 0, none⟩) n n) (w' := w.alloc (.cells (nulCells n) 24)) hop hw (fun o ho => ?_) (hR _ (rdv_nuls n w) ((Below.refl _ _).alloc (Nat.le_refl _) _))
  simp only [execOp, ho, hx, hy]
  rw [Sem.run_bind, run_makeN n hn w]
  rfl
end
end Go.Proofs.YtceknmibopnmhaaGreatDoor
