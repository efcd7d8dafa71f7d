/-
  Layer 13, eval: EvalSwap as mathematics. No conditions.
-/
import Derived.Test.YteijijoiifbjlaaGreatDoorESaf
namespace Go.Proofs.YteijijoiifbjlaaGreatDoor
open Go.ChangeShapes Go.WideShapes Go.ChangeAt Go.RowKit
set_option linter.unusedVariables false
set_option linter.unusedSimpArgs false
set_option maxRecDepth 100000

theorem cb_anti : ∀ (a b : List UInt8), Lib.compareBytes b a = -Lib.compareBytes a b
  | [], [] => by simp [Lib.compareBytes]
  | [], _ :: _ => by simp [Lib.compareBytes]
  | _ :: _, [] => by simp [Lib.compareBytes]
  | a :: ax, b :: bs => by
    have ih := cb_anti ax bs
    unfold Lib.compareBytes
    rcases Nat.lt_trichotomy a.toNat b.toNat with h | h | h
    · have h1 : a < b := UInt8.lt_iff_toNat_lt.2 h
      have h2 : ¬ b < a := fun h' => by have := UInt8.lt_iff_toNat_lt.1 h'; omega
      simp [h1, h2]
    · have h1 : ¬ a < b := fun h' => by have := UInt8.lt_iff_toNat_lt.1 h'; omega
      have h2 : ¬ b < a := fun h' => by have := UInt8.lt_iff_toNat_lt.1 h'; omega
      simp [h1, h2, ih]
    · have h1 : b < a := UInt8.lt_iff_toNat_lt.2 h
      have h2 : ¬ a < b := fun h' => by have := UInt8.lt_iff_toNat_lt.1 h'; omega
      simp [h1, h2]
theorem cmp_anti (k n : Int) (s : ByteArray) (k' n' : Int) (s' : ByteArray) : cmpV k' n' s' k n s = -cmpV k n s k' n' s' := by
  unfold cmpV
  by_cases h : k = k'
  · subst h
    simp only [ne_eq, not_true_eq_false, if_false]
    by_cases h1 : k = 1
    · simp only [h1, if_true]; unfold cmp3; split <;> split <;> first | omega | (split <;> omega) | simp_all
    · simp only [h1, if_false]
      split
      · exact cb_anti _ _
      · rfl
  · have h' : ¬ k' = k := fun e => h e.symm
    simp only [ne_eq, h, h', not_false_eq_true, if_true]
    unfold cmp3; split <;> split <;> first | omega | (split <;> omega) | simp_all
theorem cmpT_anti (a b : Trip) : cmpT b a = -cmpT a b := cmp_anti _ _ _ _ _ _
section
variable {a b : Trip}
theorem flag_eq {p q : Bool} (h : p = q) : flagT p = flagT q := by rw [h]
/-- a sign and what it is turned about -/
def swapL : List (ByteArray × ByteArray) := [(sAdd, sAdd), (sMul, sMul), (sEq, sEq), (sNe, sNe), (sLt, sGt), (sLe, sGe), (sAnd, sAnd), (sOr, sOr)]
theorem two_swap {g g' : ByteArray} (hg : g ∈ sgn) (hg' : g' ∈ sgn) (h : twoX g a b = twoX g' b a) : opX g a b = opX g' b a := by
  by_cases hr : RtT a ∧ RtT b
  · by_cases h0 : a.1 = 0 ∨ b.1 = 0
    · rw [opX_null hg hr.1 hr.2 h0, opX_null hg' hr.2 hr.1 (Or.comm.1 h0)]
    · rw [opX_two hg hr.1 hr.2 h0, opX_two hg' hr.2 hr.1 (fun q => h0 (Or.comm.1 q)), h]
  · rw [opX_bad _ hr, opX_bad _ (fun q => hr ⟨q.2, q.1⟩)]
theorem and_swap : opX sAnd a b = opX sAnd b a := by
  by_cases hr : RtT a ∧ RtT b
  · rw [opX_and hr.1 hr.2, opX_and hr.2 hr.1]
    unfold andT andK andN
    generalize trueT a = p
    generalize trueT b = q
    generalize (a.1 != 0) = u
    generalize (b.1 != 0) = v
    cases p <;> cases q <;> cases u <;> cases v <;> rfl
  · rw [opX_bad _ hr, opX_bad _ (fun q => hr ⟨q.2, q.1⟩)]
theorem or_swap : opX sOr a b = opX sOr b a := by
  by_cases hr : RtT a ∧ RtT b
  · rw [opX_or hr.1 hr.2, opX_or hr.2 hr.1]
    unfold orT orK orN
    generalize trueT a = p
    generalize trueT b = q
    generalize (a.1 != 0) = u
    generalize (b.1 != 0) = v
    cases p <;> cases q <;> cases u <;> cases v <;> rfl
  · rw [opX_bad _ hr, opX_bad _ (fun q => hr ⟨q.2, q.1⟩)]
theorem op_swap {g g' : ByteArray} (h : (g, g') ∈ swapL) : opX g a b = opX g' b a := by
  have hc := cmpT_anti a b
  simp only [swapL, List.mem_cons, List.not_mem_nil, or_false, Prod.mk.injEq] at h
  rcases h with ⟨rfl, rfl⟩ | ⟨rfl, rfl⟩ | ⟨rfl, rfl⟩ | ⟨rfl, rfl⟩ | ⟨rfl, rfl⟩ | ⟨rfl, rfl⟩ | ⟨rfl, rfl⟩ | ⟨rfl, rfl⟩
  · exact two_swap mem_add mem_add (by rw [twoX_add, twoX_add, Int.add_comm])
  · exact two_swap mem_mul mem_mul (by rw [twoX_mul, twoX_mul, Int.mul_comm])
  · refine two_swap mem_eq mem_eq ?_
    rw [twoX_eq, twoX_eq, hc]
    exact congrArg (fun q => (flagT q, (0 : Int))) (by rw [Bool.eq_iff_iff]; simp)
  · refine two_swap mem_ne mem_ne ?_
    rw [twoX_ne, twoX_ne, hc]
    exact congrArg (fun q => (flagT q, (0 : Int))) (by rw [Bool.eq_iff_iff]; simp)
  · refine two_swap mem_lt mem_gt ?_
    rw [twoX_lt, twoX_gt, hc]
    exact congrArg (fun q => (flagT q, (0 : Int))) (by rw [Bool.eq_iff_iff]; simp)
  · refine two_swap mem_le mem_ge ?_
    rw [twoX_le, twoX_ge, hc]
    exact congrArg (fun q => (flagT q, (0 : Int))) (by rw [Bool.eq_iff_iff]; simp)
  · exact and_swap
  · exact or_swap
end
theorem ev_op2 (x : EnvM) (g : ByteArray) {e1 e2 : Ee} {t1 t2 : Trip} (h1 : evX x e1 = (t1, 0)) (h2 : evX x e2 = (t2, 0)) : evX x (.mk 7 g ⟨#[]⟩ 0 0 [e1, e2]) = opX g t1 t2 := by
  simp only [evX]
  rw [if_pos (by simp [mayB]), evL2 x h1 h2]
  simp [toldX]
theorem ev_op1 (x : EnvM) (g : ByteArray) {e1 : Ee} {t1 : Trip} {z : Int} (h1 : evX x e1 = (t1, z)) : evX x (.mk 7 g ⟨#[]⟩ 0 0 [e1]) = if z = 0 then oneX g t1 else (nulT, z) := by
  simp only [evX]
  rw [if_pos (by simp [mayB])]
  by_cases hz : z = 0
  · subst hz
    simp [evL, h1, toldX]
  · simp [evL, h1, hz]
theorem not_eq_ne (x : EnvM) {e1 e2 : Ee} {t1 t2 : Trip} (h1 : evX x e1 = (t1, 0)) (h2 : evX x e2 = (t2, 0)) : evX x (.mk 7 sNot ⟨#[]⟩ 0 0 [.mk 7 sEq ⟨#[]⟩ 0 0 [e1, e2]]) = opX sNe t1 t2 := by
  have h := ev_op2 x sEq h1 h2
  by_cases hr : RtT t1 ∧ RtT t2
  · by_cases h0 : t1.1 = 0 ∨ t2.1 = 0
    · rw [opX_null mem_eq hr.1 hr.2 h0] at h
      rw [ev_op1 x sNot h, opX_null mem_ne hr.1 hr.2 h0, if_pos rfl, oneX_not RtT_nul, if_pos rfl]
    · rw [opX_two mem_eq hr.1 hr.2 h0, twoX_eq] at h
      rw [ev_op1 x sNot h, opX_two mem_ne hr.1 hr.2 h0, twoX_ne, if_pos rfl, not_flag]
      rfl
  · rw [opX_bad _ hr] at h
    rw [ev_op1 x sNot h, opX_bad _ hr, if_neg (by decide)]
end Go.Proofs.YteijijoiifbjlaaGreatDoor
