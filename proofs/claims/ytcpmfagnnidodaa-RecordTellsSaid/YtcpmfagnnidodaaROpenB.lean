/-
  An argument that is bytes, opened. No conditions.
-/
import Derived.Test.YtcpmfagnnidodaaRClose
namespace Go.Proofs.Ytcpmfagnnidodaa
open Go.ChangeShapes Go.WideShapes Go.ChangeAt Go.RowKit Go.Deep
set_option linter.unusedVariables false

section
variable {H : Type} {enc : TypeId × Value → H} {W : World} {base fuel : Nat} {held : Bool} {x : DataW H × List MemPlace}
theorem openB {a0 : Option Addr} {n0 c0 : Nat} (h : DataW.trod enc Try.prog W base (fun _ => true) held fuel 24 [.slice a0 n0 c0] = some x) :
    ∃ l : List UInt8, n0 = l.length ∧ l.length ≤ c0 ∧ c0 ≤ maxLen ∧ Rd W W.heap.size a0 l := by
  rcases open_ints Try.underlying24 Try.underlying5 (by kernel_rfl) h with ⟨h0, _⟩ | ⟨a, len, cap, zs, h0, hb, hl, hm, hz, _, hcell, hwf⟩
  · obtain ⟨rfl, rfl, rfl⟩ : a0 = none ∧ n0 = 0 ∧ c0 = 0 := by simpa using h0
    exact ⟨[], rfl, Nat.le_refl _, Nat.zero_le _, Rd.nil⟩
  · obtain ⟨rfl, rfl, rfl⟩ : a0 = some a ∧ n0 = len ∧ c0 = cap := by simpa using h0
    simp only [if_true] at hz
    refine ⟨(zs.take n0).map (fun z => UInt8.ofNat z.toNat), by simp; omega, by simp; omega, hm, fun hp => ⟨a, rfl, ?_, fun j u hu => ?_⟩⟩
    · have hn : 0 < zs.length := by simp at hp; omega
      have := World.block_lt_of_cell? W _ (hcell 0 hn)
      rwa [blockAdd] at this
    · rw [List.getElem?_map, Option.map_eq_some_iff] at hu
      obtain ⟨z, hz', rfl⟩ := hu
      rw [List.getElem?_take] at hz'
      split at hz'
      · have hj := getElem_lt hz'
        rw [hcell j hj]
        have hzz : zs.getD j 0 = z := by simp [List.getD, hz']
        rw [hzz]
        have hw := hwf z (List.mem_of_getElem? hz')
        have hr : 0 ≤ z ∧ z ≤ 255 := by simpa [Lit.wf, IntKind.min, IntKind.max, IntKind.signed, IntKind.bits] using hw
        unfold b8
        rw [UInt8.toNat_ofNat']
        congr 2
        omega
      · cases hz'
end
end Go.Proofs.Ytcpmfagnnidodaa
