/-
  Arguments that are lists of bytes, opened: what the row's reading of them says of memory. No conditions.
-/
import Derived.Test.YtlichbiioejpiaaClose
import Derived.Deep.Slices
namespace Go.Proofs.Ytlichbiioejpiaa
open Go.ChangeShapes Go.WideShapes Go.ChangeAt Go.RowKit Go.Deep
set_option linter.unusedVariables false

theorem list_choice {α : Type} {Q : Nat → α → Prop} : ∀ (n : Nat), (∀ i, i < n → ∃ x, Q i x) → ∃ l : List α, l.length = n ∧ ∀ (i : Nat) (x : α), l[i]? = some x → Q i x
  | 0, _ => ⟨[], rfl, fun i x h => by simp at h⟩
  | n + 1, h => by
    obtain ⟨l, hl, hq⟩ := list_choice n (fun i hi => h i (by omega))
    obtain ⟨y, hy⟩ := h n (by omega)
    refine ⟨l ++ [y], by simp [hl], fun i x hx => ?_⟩
    rcases Nat.lt_or_ge i l.length with hlt | hge
    · rw [List.getElem?_append_left hlt] at hx
      exact hq i x hx
    · rw [List.getElem?_append_right hge] at hx
      have hi := getElem_lt hx
      have h0 : i = n := by simp at hi; omega
      subst h0
      rw [hl, Nat.sub_self] at hx
      obtain rfl : y = x := by simpa using hx
      exact hy

section
variable {H : Type} {enc : TypeId × Value → H} {W : World} {base fuel : Nat} {held : Bool} {x : DataW H × List MemPlace}

theorem openB {a0 : Option Addr} {n0 c0 : Nat} (h : DataW.trod enc Try.prog W base (fun _ => true) held fuel 24 [.slice a0 n0 c0] = some x) :
    ∃ l : List UInt8, n0 = l.length ∧ l.length ≤ c0 ∧ c0 ≤ maxLen ∧ Rd W W.heap.size a0 l := by
  rcases open_ints Try.underlying24 Try.underlying5 (by kernel_rfl) h with ⟨h0, _⟩ | ⟨a, len, cap, zs, h0, hb, hl, hm, hz, _, hcell, hwf⟩
  · obtain ⟨rfl, rfl, rfl⟩ : a0 = none ∧ n0 = 0 ∧ c0 = 0 := by simpa using h0
    exact ⟨[], rfl, Nat.le_refl _, Nat.zero_le _, Rd.nil⟩
  · obtain ⟨rfl, rfl, rfl⟩ : a0 = some a ∧ n0 = len ∧ c0 = cap := by simpa using h0
    simp only [if_true] at hz
    refine ⟨(zs.take n0).map (fun z => UInt8.ofNat z.toNat), by simp; omega, by simp; omega, hm, fun hp => ⟨a, rfl, ?_, fun j u hu => ?_⟩⟩
    · have hn : 0 < zs.length := by simp at hp; omega
      have := World.block_lt_of_cell? W _ (hcell 0 hn)
      rwa [blockAdd] at this
    · rw [List.getElem?_map, Option.map_eq_some_iff] at hu
      obtain ⟨z, hz', rfl⟩ := hu
      rw [List.getElem?_take] at hz'
      split at hz'
      · have hj := getElem_lt hz'
        rw [hcell j hj]
        have hzz : zs.getD j 0 = z := by simp [List.getD, hz']
        rw [hzz]
        have hw := hwf z (List.mem_of_getElem? hz')
        have hr : 0 ≤ z ∧ z ≤ 255 := by simpa [Lit.wf, IntKind.min, IntKind.max, IntKind.signed, IntKind.bits] using hw
        unfold b8
        rw [UInt8.toNat_ofNat']
        congr 2
        omega
      · cases hz'

theorem openL {a0 : Option Addr} {n0 c0 : Nat} (h : DataW.trod enc Try.prog W base (fun _ => true) held fuel 26 [.slice a0 n0 c0] = some x) :
    ∃ ls : List (List UInt8), n0 = ls.length ∧ ls.length ≤ c0 ∧ c0 ≤ maxLen ∧ RdL W W.heap.size a0 ls := by
  rcases open_slice1 Try.underlying26 (by kernel_rfl) h with ⟨h0, _⟩ | ⟨a, len, cap, m, n, V, D, Pl, h0, hb, hl, hm, hmm, _, hx⟩
  · obtain ⟨rfl, rfl, rfl⟩ : a0 = none ∧ n0 = 0 ∧ c0 = 0 := by simpa using h0
    exact ⟨[], rfl, Nat.le_refl _, Nat.zero_le _, fun h => absurd h (by simp)⟩
  · obtain ⟨rfl, rfl, rfl⟩ : a0 = some a ∧ n0 = len ∧ c0 = cap := by simpa using h0
    simp only [if_true] at hmm
    subst hmm
    obtain ⟨ls, hlen, hq⟩ := list_choice (Q := fun i (l : List UInt8) => ∃ A' c', W.cell? (a.add i) = some (.slice A' l.length c') ∧ l.length ≤ c' ∧ c' ≤ maxLen ∧ Rd W W.heap.size A' l) n0 (fun i hi => by
      obtain ⟨h1, h2⟩ := hx i (by omega)
      have hsl : ∃ a1 n1 c1, V i = .slice a1 n1 c1 := by
        rcases open_ints Try.underlying24 Try.underlying5 (by kernel_rfl) h2 with ⟨h3, _⟩ | ⟨_, _, _, _, h3, _⟩
        · exact ⟨_, _, _, by simpa using h3⟩
        · exact ⟨_, _, _, by simpa using h3⟩
      obtain ⟨a1, n1, c1, hv⟩ := hsl
      rw [hv] at h1 h2
      obtain ⟨l, rfl, h4, h5, h6⟩ := openB h2
      exact ⟨l, a1, c1, h1, h4, h5, h6⟩)
    refine ⟨ls, hlen.symm, by omega, hm, fun hp => ⟨a, rfl, ?_, hq⟩⟩
    have := World.block_lt_of_cell? W _ (hx 0 (by omega)).1
    rwa [blockAdd] at this
end

set_option maxRecDepth 100000 in
/-- an argument that is a slice, as the row's reading gives it -/
theorem arg_slice {H : Type} {enc : TypeId × Value → H} {W : World} {r : Reach} {b0 base : Nat} {spare : Nat → Bool} {held : Bool} {t e : TypeId} {v : Value} {d : DataW H} {ps : List MemPlace} (ht : Try.prog.underlying t = some (.slice e))
    (hval : Value.okWide Try.prog W r b0 t v) (h : DataW.Trod enc Try.prog W base spare held t v d ps) : ∃ a n c fuel, v = .slice a n c ∧ DataW.trod enc Try.prog W base spare held fuel t [.slice a n c] = some (d, ps) := by
  obtain ⟨a, n, c, rfl⟩ := okWide_slice ht hval
  obtain ⟨fuel, hf⟩ := h
  exact ⟨a, n, c, fuel, rfl, hf⟩
end Go.Proofs.Ytlichbiioejpiaa
