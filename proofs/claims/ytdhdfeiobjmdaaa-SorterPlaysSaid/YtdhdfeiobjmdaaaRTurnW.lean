/-
  RecordTurned returns true for every row: the walk. Conditions: numbers of 64 bits; sizes.
-/
import Derived.Test.YtdhdfeiobjmdaaaRJoinX
namespace Go.Proofs.Ytdhdfeiobjmdaaa
open Go.ChangeShapes Go.WideShapes Go.ChangeAt Go.RowKit
set_option linter.unusedVariables false

theorem FlagsAt.flip {w : World} {g n k : Nat} {f : Nat → Bool} (h : FlagsAt w g (fun j => if j < k then !f j else f j) n) (hk : k < n) (b : Bool) (hb : b = !f k) : FlagsAt (w.setCell ⟨g, k, none⟩ (.bool b)) g (fun j => if j < k + 1 then !f j else f j) n := by
  subst hb
  refine (h.set hk (!f k)).congr fun j _ => ?_
  by_cases e : j = k
  · subst e; simp
  · have : (j < k + 1) = (j < k) := by simp; omega
    simp [e, this]
def FlipRel (base g n B : Nat) (w : World) (f : Nat → Bool) (v : Value) (x : List UInt8) (i : Value) (wr : World) : Prop :=
  ∃ k : Nat, k ≤ n ∧ i = .int .i64 k ∧ FlagsAt wr g (fun j => if j < k then !f j else f j) n ∧ Own wr B v x ∧ Below base w wr
def CmpRel (base n : Nat) (w : World) (B B' : Nat) (v v' : Value) (x y : List UInt8) (i : Value) (wr : World) : Prop :=
  ∃ k : Nat, k ≤ n ∧ i = .int .i64 k ∧ Own wr B v x ∧ Own wr B' v' y ∧ Below base w wr

theorem Own.setBelow {w : World} {base : Nat} {v : Value} {l : List UInt8} (h : Own w base v l) {a : Addr} (ha : a.block < base) (u : Value) : Own (w.setCell a u) base v l := ownsRow_setCell_below h ha u

theorem xor_all : ∀ q : Fin 256, 255 ^^^ q.val = 255 - q.val := by decide +kernel
theorem not_bits (a b : UInt8) (h : a = ~~~b) : bits .xor .u8 255 (b.toNat : Int) = (a.toNat : Int) := by
  subst h
  have hb : b.toNat < 256 := b.toNat_lt
  have h1 := u8_xor_nat 255 b.toNat (by decide) hb
  have h2 := xor_all ⟨b.toNat, hb⟩
  have h3 : (~~~b).toNat = 255 - b.toNat := by
    rw [UInt8.toNat_not]
    rfl
  rw [h3, ← h2]
  exact h1
theorem turnU_not (d : Bool) (c : UInt8) : c ^^^ turnU d = ~~~(c ^^^ turnU (!d)) := by
  apply UInt8.toNat_inj.mp
  have hc : c.toNat < 256 := c.toNat_lt
  cases d
  · show (c ^^^ 0).toNat = (~~~(c ^^^ 255)).toNat
    rw [UInt8.toNat_not, UInt8.toNat_xor, UInt8.toNat_xor]
    have h2 := xor_all ⟨c.toNat, hc⟩
    simp only at h2
    show c.toNat ^^^ 0 = 256 - 1 - (c.toNat ^^^ 255)
    rw [Nat.xor_zero, Nat.xor_comm, h2]
    omega
  · show (c ^^^ 255).toNat = (~~~(c ^^^ 0)).toNat
    rw [UInt8.toNat_not, UInt8.toNat_xor, UInt8.toNat_xor]
    have h2 := xor_all ⟨c.toNat, hc⟩
    simp only at h2
    show c.toNat ^^^ 255 = 256 - 1 - (c.toNat ^^^ 0)
    rw [Nat.xor_zero, Nat.xor_comm, h2]
theorem keyL_not : ∀ (vs : List Trip) (ds : List Bool), keyL vs ds = (keyL vs (ds.map (!·))).map (~~~·)
  | (k, n, s) :: vs, d :: ds => by
    have ih := keyL_not vs ds
    have h : turnL (turnU d) (partL k n s) = (turnL (turnU (!d)) (partL k n s)).map (~~~·) := by
      unfold turnL
      rw [List.map_map]
      refine List.map_congr_left fun c _ => ?_
      exact turnU_not d c
    rw [keyL, h, ih, List.map_cons, keyL, List.map_append]
  | [], _ => by simp [keyL]
  | _ :: _, [] => by simp [keyL]
end Go.Proofs.Ytdhdfeiobjmdaaa
