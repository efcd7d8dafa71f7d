/-
  Arguments that are lists of flags, opened. No conditions.
-/
import Derived.Test.YtfoepciempoakaaDoorWClose
import Derived.Test.YtfoepciempoakaaDoorWTrn
import Derived.Deep.Slices
import Derived.Deep.Grids
import Derived.Deep.Strs
namespace Go.Proofs.YtfoepciempoakaaDoor
open Go.ChangeShapes Go.WideShapes Go.ChangeAt Go.RowKit Go.Deep
set_option linter.unusedVariables false

theorem getElem_lt {α : Type} {l : List α} {i : Nat} {x : α} (h : l[i]? = some x) : i < l.length := (List.getElem?_eq_some_iff.1 h).1
set_option maxRecDepth 100000 in
theorem arg_slice {H : Type} {enc : TypeId × Value → H} {W : World} {r : Reach} {b0 base : Nat} {spare : Nat → Bool} {held : Bool} {t e : TypeId} {v : Value} {d : DataW H} {ps : List MemPlace} (ht : Tryd.prog.underlying t = some (.slice e))
    (hval : Value.okWide Tryd.prog W r b0 t v) (h : DataW.Trod enc Tryd.prog W base spare held t v d ps) : ∃ a n c fuel, v = .slice a n c ∧ DataW.trod enc Tryd.prog W base spare held fuel t [.slice a n c] = some (d, ps) := by
  obtain ⟨a, n, c, rfl⟩ := okWide_slice ht hval
  obtain ⟨fuel, hf⟩ := h
  exact ⟨a, n, c, fuel, rfl, hf⟩

section
variable {H : Type} {enc : TypeId × Value → H} {W : World} {base fuel : Nat} {held : Bool} {x : DataW H × List MemPlace}
set_option maxRecDepth 100000 in
theorem openF {a0 : Option Addr} {n0 c0 : Nat} (h : DataW.trod enc Tryd.prog W base (fun _ => true) held fuel 36 [.slice a0 n0 c0] = some x) :
    ∃ l : List Bool, n0 = l.length ∧ l.length ≤ c0 ∧ c0 ≤ maxLen ∧ RdF W W.heap.size a0 l := by
  rcases open_bools Tryd.underlying36 Tryd.underlying4 (by kernel_rfl) h with ⟨h0, _⟩ | ⟨a, len, cap, B, h0, hb, hl, hm, _, hcell⟩
  · obtain ⟨rfl, rfl, rfl⟩ : a0 = none ∧ n0 = 0 ∧ c0 = 0 := by simpa using h0
    exact ⟨[], rfl, Nat.le_refl _, Nat.zero_le _, fun hp => absurd hp (by simp)⟩
  · obtain ⟨rfl, rfl, rfl⟩ : a0 = some a ∧ n0 = len ∧ c0 = cap := by simpa using h0
    refine ⟨(List.range n0).map B, by simp, by simpa using hl, hm, fun hp => ⟨a, rfl, ?_, fun j d hj => ?_⟩⟩
    · have hn : 0 < c0 := by simp at hp; omega
      have := World.block_lt_of_cell? W _ (hcell 0 hn)
      rwa [blockAdd] at this
    · have hj2 := getElem_lt hj
      simp at hj2
      have hd : B j = d := by simpa [hj2] using hj
      rw [hcell j (by omega), hd]
end
end Go.Proofs.YtfoepciempoakaaDoor
