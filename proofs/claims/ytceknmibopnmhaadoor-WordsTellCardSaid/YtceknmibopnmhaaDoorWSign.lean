/-
  Layer 9: signs, keys. No conditions.
-/
import Derived.Test.YtceknmibopnmhaaDoorWPass
namespace Go.Proofs.YtceknmibopnmhaaDoor
open Go.ChangeShapes Go.WideShapes Go.ChangeAt Go.RowKit
set_option linter.unusedVariables false

/-- the keys -/
def keysW : List (List UInt8) := [[97, 110, 100], [97, 115], [97, 115, 99], [98, 101, 103, 105, 110], [98, 101, 116, 119, 101, 101, 110], [98, 121], [99, 97, 115, 116], [99, 111, 109, 109, 105, 116], [99, 114, 101, 97, 116, 101], [100, 101, 108, 101, 116, 101], [100, 101, 115, 99], [100, 105, 115, 116, 105, 110, 99, 116], [100, 114, 111, 112], [102, 114, 111, 109], [103, 114, 111, 117, 112], [104, 97, 118, 105, 110, 103], [105, 110], [105, 110, 100, 101, 120], [105, 110, 115, 101, 114, 116], [105, 110, 116], [105, 110, 116, 111], [105, 115], [106, 111, 105, 110], [108, 105, 107, 101], [108, 105, 109, 105, 116], [110, 111, 116], [110, 117, 108, 108], [111, 102, 102, 115, 101, 116], [111, 110], [111, 114], [111, 114, 100, 101, 114], [114, 111, 108, 108, 98, 97, 99, 107], [115, 101, 108, 101, 99, 116], [115, 101, 116], [116, 97, 98, 108, 101], [116, 101, 120, 116], [117, 110, 105, 113, 117, 101], [117, 112, 100, 97, 116, 101], [118, 97, 108, 117, 101, 115], [119, 104, 101, 114, 101]]
def isKeyB (l : List UInt8) : Bool := decide (l ∈ keysW)
theorem beq_list {s : ByteArray} {l : List UInt8} (h : (s.toList == l) = true) : s.data.toList = l := by
  rw [← ByteArray.toList_eq]
  exact eq_of_beq h
theorem beq_listN {s : ByteArray} {l : List UInt8} (h : (s.toList == l) = false) : (s.data.toList = l) = False := by
  rw [← ByteArray.toList_eq]
  exact propext ⟨fun e => by rw [e] at h; simp at h, fun e => e.elim⟩
set_option maxHeartbeats 1000000 in
theorem isSign_any (s : ByteArray) (w : World) : Calls Tryd.prog 51 #[.string s] w fun e w' => e = .returned (.bool (M.in2 s.data.toList || M.in1 s.data.toList)) ∧ w = w' := by
  go_enter Tryd.func51, Tryd.ntmps51
  go_wp2
  all_goals first
    | (rename_i hA hB; exact absurd (hA.symm.trans hB) (by decide))
    | (rename_i hB; have e := beq_list hB; go_ret; exact ⟨ret_b (by rw [e]; decide), rfl⟩)
    | (go_ret; refine ⟨ret_b ?_, rfl⟩
       simp only [M.in2, M.in1, M.sg2, M.sg1, List.mem_cons, List.not_mem_nil, or_false]
       repeat (rename_i hA; simp only [beq_listN hA, or_false]; clear hA)
       simp)
set_option maxRecDepth 100000 in
set_option maxHeartbeats 4000000 in
theorem isKey_any (s : ByteArray) (w : World) : Calls Tryd.prog 50 #[.string s] w fun e w' => e = .returned (.bool (isKeyB s.data.toList)) ∧ w = w' := by
  go_enter Tryd.func50, Tryd.ntmps50
  go_wp2
  all_goals first
    | (rename_i hA hB; exact absurd (hA.symm.trans hB) (by decide))
    | (rename_i hB; have e := beq_list hB; go_ret; exact ⟨ret_b (by rw [e]; decide), rfl⟩)
    | (go_ret; refine ⟨ret_b ?_, rfl⟩
       simp only [isKeyB, keysW, List.mem_cons, List.not_mem_nil, or_false]
       repeat (rename_i hA; simp only [beq_listN hA, or_false]; clear hA)
       simp)
end Go.Proofs.YtceknmibopnmhaaDoor
