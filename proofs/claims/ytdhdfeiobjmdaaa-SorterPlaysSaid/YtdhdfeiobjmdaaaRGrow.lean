/-
  slices.Grow of bytes by the library's own contract, laid at this seat's numbers (layer 3, record). No conditions.
-/
import Derived.Test.YtdhdfeiobjmdaaaRBody
import Derived.Shelf.Spec.SlicesGrow
namespace Go.Proofs
open Go.Shelf
def Try.growE_ren : Go.Shelf.Ren := ⟨fun | 4 => 56 | n => n, fun | 0 => 0 | 3 => 3 | 4 => 4 | 9 => 9 | 20 => 20 | 22 => 62 | 25 => 5 | n => n, fun | n => n⟩
theorem Try.growE : Go.Proofs.Lays8.n4 Try.prog Try.growE_ren := {
  mixed := by kernel_rfl
  f4 := ⟨"slices.Grow[[]byte,byte]", of_decide_eq_true (by kernel_rfl), Try.func56.trans (congrArg some (by kernel_rfl))⟩
  t0 := Try.underlying0
  a0 := Try.isAgg0
  z0 := Try.sizeOf0
  v0 := Try.zeroValue0
  t3 := Try.underlying3
  a3 := Try.isAgg3
  z3 := Try.sizeOf3
  v3 := Try.zeroValue3
  t4 := Try.underlying4
  a4 := Try.isAgg4
  z4 := Try.sizeOf4
  v4 := Try.zeroValue4
  t9 := Try.underlying9
  a9 := Try.isAgg9
  z9 := Try.sizeOf9
  v9 := Try.zeroValue9
  t20 := Try.underlying20
  a20 := Try.isAgg20
  z20 := Try.sizeOf20
  v20 := Try.zeroValue20
  t22 := Try.underlying62
  a22 := Try.isAgg62
  z22 := Try.sizeOf62
  v22 := Try.zeroValue62 }
end Go.Proofs
namespace Go.Proofs.Ytdhdfeiobjmdaaa
open Go.ChangeShapes Go.WideShapes Go.ChangeAt Go.RowKit
set_option linter.unusedVariables false

set_option maxRecDepth 100000 in
/-- slices.Grow of a slice of the call's own: the same bytes, still the call's own -/
theorem grow_any (base : Nat) (v : Value) (l : List UInt8) (n : Nat) (w : World) (hO : Own w base v l) (hl : l.length ≤ 1099511627776) (hn : n ≤ 1099511627776) (hb : base ≤ w.heap.size) :
    Calls Try.prog 56 #[v, .int .i64 n] w fun e w' => ∃ v', e = .returned v' ∧ Own w' base v' l ∧ Below w.heap.size w w' ∧ (v'.ownBlock = v.ownBlock ∨ ∃ g, v'.ownBlock = some g ∧ w.heap.size ≤ g) := by
  obtain ⟨i0, hi, hz0, hz1, hz2⟩ := info_parts Try.info_u8
  have hO2 := hO
  obtain ⟨o1, o2⟩ := hO
  have key : ∀ (bs0 : Option Addr) (c : Nat) (cs : List Value), v = .slice bs0 l.length c → l.length ≤ c → c ≤ 9223372036854775807 → cs.length = c → (bs0 = none → c = 0) → (∀ a, bs0 = some a → ∀ j u, cs[j]? = some u → w.cell? (a.add j) = some u) → cs.take l.length = bs l →
      Calls Try.prog 56 #[v, .int .i64 n] w fun e w' => ∃ v', e = .returned v' ∧ Own w' base v' l ∧ Below w.heap.size w w' ∧ (v'.ownBlock = v.ownBlock ∨ ∃ g, v'.ownBlock = some g ∧ w.heap.size ≤ g) := by
    intro bs0 c cs hv hlc hcm hcl hnil hcs htk
    subst hv
    by_cases hroom : l.length + n ≤ c
    · refine (Any8.slices_Grow_room Try.growE bs0 l.length c n w hlc hcm (by omega) hroom).mono ?_
      rintro e w' ⟨rfl, rfl⟩
      exact ⟨_, rfl, hO2, Below.refl _ _, .inl rfl⟩
    · refine (Any8.slices_Grow_grow Try.growE i0 (.int .u8 0) hi hz0 (by rw [hz1]; decide) bs0 l.length c n cs w hlc (by omega) (by rw [hz2]; omega) (by omega) (by rw [hz1, Nat.mul_one]; exact hcl) hnil hcs).mono ?_
      rintro e w' ⟨rfl, rfl⟩
      have hg1 := grownCap_ge w (l.length + n) c (Try.growE_ren.t 25)
      have hg2 := grownCap_le_maxLen w (l.length + n) c (Try.growE_ren.t 25) (by simp only [maxLen]; omega)
      generalize grownCap w (l.length + n) c (Try.growE_ren.t 25) = gc at *
      have hz : ∀ m, (Builtin.zeroCells (Value.int .u8 0).cells m).size = m := fun m => by
        rw [size_zeroCells]
        have : (Value.int .u8 0).cells.size = 1 := rfl
        rw [this, Nat.mul_one]
      refine ⟨_, rfl, ⟨by rw [bs_length, Nat.mul_one], .inr ⟨w.heap.size, gc, cs.toArray ++ Builtin.zeroCells (Value.int .u8 0).cells (l.length + n - c) ++ Builtin.zeroCells (Value.int .u8 0).cells (gc - (l.length + n)), rfl, hb, heap_alloc_new w.drew _, by omega, hg2, ?_, ?_⟩⟩, ?_, .inr ⟨w.heap.size, rfl, Nat.le_refl _⟩⟩
      · rw [Array.size_append, Array.size_append, hz, hz, List.size_toArray, hcl]
        omega
      · rw [Nat.mul_one, Array.toList_append, Array.toList_append, List.append_assoc, List.take_append_of_le_length (by simp; omega)]
        exact htk
      · exact ((Below.refl w.heap.size w).drew).alloc (Nat.le_refl _) _
  rcases o2 with ⟨hv, h0⟩ | ⟨g, cap, cur, hv, hg, hh, hc, hm, hsz, ht⟩
  · have hl0 : l = [] := List.eq_nil_of_length_eq_zero h0
    subst hl0
    exact key none 0 [] hv (by simp) (by omega) (by simp) (fun _ => rfl) (fun a e => by cases e) (by simp [bs])
  · refine key (some ⟨g, 0, none⟩) cap cur.toList hv hc (by simp only [maxLen] at hm; omega) (by simpa using hsz) (fun e => by cases e) (fun a e j u hj => ?_) (by rw [← ht, Nat.mul_one])
    injection e with e
    subst e
    have ha : ((⟨g, 0, none⟩ : Addr).add j) = ⟨g, j, none⟩ := by
      unfold Addr.add
      by_cases hj0 : j = 0 <;> simp [hj0]
    rw [ha]
    simp only [World.cell?, hh]
    simpa using hj
end Go.Proofs.Ytdhdfeiobjmdaaa
