/-
  Layer 2: ValueNumbers' helper ends: the ends of 64 bits, the limits. Conditions: the library's variables are as its text lays them.
-/
import Derived.Test.YtceknmibopnmhaaGreatDoorVFar
import Derived.Test.YtceknmibopnmhaaGreatDoorVInts
namespace Go.Proofs.YtceknmibopnmhaaGreatDoor
open Go.ChangeShapes Go.WideShapes Go.ChangeAt Go.RowKit Go.ChangeMaps Go.Lib
set_option linter.unusedVariables false

def endsL : List (ByteArray × Int × Int) := [(⟨#[43]⟩, 9223372036854775807, 1), (⟨#[43]⟩, -9223372036854775808, -1), (⟨#[45]⟩, -9223372036854775808, 1), (⟨#[45]⟩, 0, -9223372036854775808), (⟨#[42]⟩, -9223372036854775808, -1), (⟨#[42]⟩, -1, -9223372036854775808), (⟨#[42]⟩, 4294967296, 2147483648), (⟨#[42]⟩, -4294967296, -2147483648), (⟨#[47]⟩, -9223372036854775808, -1)]
theorem rt1 (n : Int) : Rt 1 n ⟨#[]⟩ := .inr (.inl ⟨rfl, rfl⟩)
theorem iv1 (n : Int) (s : ByteArray) : intV 1 n s = n := by simp [intV]
theorem szE : (⟨#[]⟩ : ByteArray).size ≤ 4611686018427387904 := by decide
theorem over_add (a b : Int) (ha : In64 a) (hb : In64 b) (h : ¬ In64 (a + b)) (w : World) : Calls Tryz.prog 12 #[.string ⟨#[43]⟩, vv 1 a ⟨#[]⟩, vv 1 b ⟨#[]⟩] w (RetV nul 20 w) :=
  Op_add 1 a ⟨#[]⟩ 1 b ⟨#[]⟩ w (rt1 a) (rt1 b) (by decide) (by decide) 0 0 ⟨#[]⟩ 20 fun W _ => ofTwo_add_no 1 a ⟨#[]⟩ 1 b ⟨#[]⟩ W szE szE (by rw [iv1]; exact ha) (by rw [iv1]; exact hb) (by rw [iv1, iv1]; exact h)
theorem over_sub (a b : Int) (ha : In64 a) (hb : In64 b) (h : ¬ In64 (a - b)) (w : World) : Calls Tryz.prog 12 #[.string ⟨#[45]⟩, vv 1 a ⟨#[]⟩, vv 1 b ⟨#[]⟩] w (RetV nul 20 w) :=
  Op_sub 1 a ⟨#[]⟩ 1 b ⟨#[]⟩ w (rt1 a) (rt1 b) (by decide) (by decide) 0 0 ⟨#[]⟩ 20 fun W _ => ofTwo_sub_no 1 a ⟨#[]⟩ 1 b ⟨#[]⟩ W szE szE (by rw [iv1]; exact ha) (by rw [iv1]; exact hb) (by rw [iv1, iv1]; exact h)
theorem over_mul (a b : Int) (ha : In64 a) (hb : In64 b) (h : ¬ In64 (a * b)) (w : World) : Calls Tryz.prog 12 #[.string ⟨#[42]⟩, vv 1 a ⟨#[]⟩, vv 1 b ⟨#[]⟩] w (RetV nul 20 w) :=
  Op_mul 1 a ⟨#[]⟩ 1 b ⟨#[]⟩ w (rt1 a) (rt1 b) (by decide) (by decide) 0 0 ⟨#[]⟩ 20 fun W _ => ofTwo_mul_no 1 a ⟨#[]⟩ 1 b ⟨#[]⟩ W szE szE (by rw [iv1]; exact ha) (by rw [iv1]; exact hb) (by rw [iv1, iv1]; exact h)
theorem over_quo (w : World) : Calls Tryz.prog 12 #[.string ⟨#[47]⟩, vv 1 (-9223372036854775808) ⟨#[]⟩, vv 1 (-1) ⟨#[]⟩] w (RetV nul 20 w) :=
  Op_quo 1 (-9223372036854775808) ⟨#[]⟩ 1 (-1) ⟨#[]⟩ w (rt1 _) (rt1 _) (by decide) (by decide) 0 0 ⟨#[]⟩ 20 fun W _ => ofTwo_quo_far 1 (-9223372036854775808) ⟨#[]⟩ 1 (-1) ⟨#[]⟩ W szE szE (iv1 _ _) (iv1 _ _)
theorem over_at : ∀ x ∈ endsL, ∀ w : World, Calls Tryz.prog 12 #[.string x.1, vv 1 x.2.1 ⟨#[]⟩, vv 1 x.2.2 ⟨#[]⟩] w (RetV nul 20 w) := by
  intro x hx w
  simp only [endsL, List.mem_cons, List.mem_nil_iff, or_false] at hx
  rcases hx with rfl | rfl | rfl | rfl | rfl | rfl | rfl | rfl | rfl
  · exact over_add _ _ (by decide) (by decide) (by decide) w
  · exact over_add _ _ (by decide) (by decide) (by decide) w
  · exact over_sub _ _ (by decide) (by decide) (by decide) w
  · exact over_sub _ _ (by decide) (by decide) (by decide) w
  · exact over_mul _ _ (by decide) (by decide) (by decide) w
  · exact over_mul _ _ (by decide) (by decide) (by decide) w
  · exact over_mul _ _ (by decide) (by decide) (by decide) w
  · exact over_mul _ _ (by decide) (by decide) (by decide) w
  · exact over_quo w
def sevens (l : List (ByteArray × Int × Int)) : List Value := l.flatMap fun x => [.string x.1, .int .u8 1, .int .i64 x.2.1, .string ⟨#[]⟩, .int .u8 1, .int .i64 x.2.2, .string ⟨#[]⟩]
def SevAt (w : World) (b o : Nat) (x : ByteArray × Int × Int) : Prop := w.cell? ⟨b, o, none⟩ = some (.string x.1) ∧ w.cell? ⟨b, o + 1, none⟩ = some (.int .u8 1) ∧ w.cell? ⟨b, o + 2, none⟩ = some (.int .i64 x.2.1) ∧ w.cell? ⟨b, o + 3, none⟩ = some (.string ⟨#[]⟩) ∧ w.cell? ⟨b, o + 4, none⟩ = some (.int .u8 1) ∧ w.cell? ⟨b, o + 5, none⟩ = some (.int .i64 x.2.2) ∧ w.cell? ⟨b, o + 6, none⟩ = some (.string ⟨#[]⟩)
theorem sevens_get : ∀ (l : List (ByteArray × Int × Int)) (i : Nat) (x : ByteArray × Int × Int), l[i]? = some x → (sevens l)[i * 7]? = some (.string x.1) ∧ (sevens l)[i * 7 + 1]? = some (.int .u8 1) ∧ (sevens l)[i * 7 + 2]? = some (.int .i64 x.2.1) ∧ (sevens l)[i * 7 + 3]? = some (.string ⟨#[]⟩) ∧ (sevens l)[i * 7 + 4]? = some (.int .u8 1) ∧ (sevens l)[i * 7 + 5]? = some (.int .i64 x.2.2) ∧ (sevens l)[i * 7 + 6]? = some (.string ⟨#[]⟩) := by
  intro l
  induction l with
  | nil => intro i x h; simp at h
  | cons u r ih =>
    intro i x h
    match i, h with
    | 0, h => obtain rfl := Option.some.inj h; exact ⟨rfl, rfl, rfl, rfl, rfl, rfl, rfl⟩
    | i + 1, h =>
      have := ih i x h
      rw [show (i + 1) * 7 = i * 7 + 1 + 1 + 1 + 1 + 1 + 1 + 1 by omega]
      exact this
def SevsAt (w : World) (g : Nat) (l : List (ByteArray × Int × Int)) : Prop := g < w.heap.size ∧ ∀ i x, l[i]? = some x → SevAt w g (i * 7) x
theorem SevAt.on {w w' : World} {g o : Nat} {x : ByteArray × Int × Int} (h : SevAt w g o x) (hg : g < w.heap.size) (hb : Below w.heap.size w w') : SevAt w' g o x := by
  obtain ⟨h0, h1, h2, h3, h4, h5, h6⟩ := h
  exact ⟨(hb.cell (p := ⟨g, o, none⟩) hg).trans h0, (hb.cell (p := ⟨g, o + 1, none⟩) hg).trans h1, (hb.cell (p := ⟨g, o + 2, none⟩) hg).trans h2, (hb.cell (p := ⟨g, o + 3, none⟩) hg).trans h3, (hb.cell (p := ⟨g, o + 4, none⟩) hg).trans h4, (hb.cell (p := ⟨g, o + 5, none⟩) hg).trans h5, (hb.cell (p := ⟨g, o + 6, none⟩) hg).trans h6⟩
theorem SevsAt.on {w w' : World} {g : Nat} {l : List (ByteArray × Int × Int)} (h : SevsAt w g l) (hb : Below w.heap.size w w') : SevsAt w' g l :=
  ⟨Nat.lt_of_lt_of_le h.1 hb.size, fun i x hi => (h.2 i x hi).on h.1 hb⟩
theorem SevsAt.new (w : World) (l : List (ByteArray × Int × Int)) (T : TypeId) : SevsAt (w.alloc (.cells (sevens l).toArray T)) w.heap.size l := by
  have h2 := World.alloc_heap_new w (.cells (sevens l).toArray T)
  refine ⟨by simp, fun i x h => ?_⟩
  obtain ⟨h3, h4, h5, h6, h7, h8, h9⟩ := sevens_get l i x h
  simp only [SevAt, World.cell?, h2]
  exact ⟨by simpa using h3, by simpa using h4, by simpa using h5, by simpa using h6, by simpa using h7, by simpa using h8, by simpa using h9⟩
end Go.Proofs.YtceknmibopnmhaaGreatDoor
