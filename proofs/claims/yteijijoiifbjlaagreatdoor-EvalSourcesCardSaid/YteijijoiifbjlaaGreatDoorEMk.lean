/-
  Layer 13, eval: expressions made of expressions: a slice of one, of two; what a store into another block leaves of them. No conditions.
-/
import Derived.Test.YteijijoiifbjlaaGreatDoorESaf
import Derived.RangeFuncRecord
import Derived.Test.YteijijoiifbjlaaGreatDoorStepBox
import Derived.Test.YteijijoiifbjlaaGreatDoorEAwR
import Derived.Deep.Heap
import Derived.Deep.Upon
import Derived.Maps.AppendAt
namespace Go.Proofs.YteijijoiifbjlaaGreatDoor
open Go.ChangeShapes Go.WideShapes Go.ChangeAt Go.RowKit
set_option linter.unusedVariables false
set_option linter.unusedSimpArgs false
set_option maxRecDepth 100000

theorem cell_of {w : World} {b : Nat} {C : Array Value} {ty : TypeId} (h : w.heap[b]? = some (.cells C ty)) (j : Nat) : w.cell? ⟨b, j, none⟩ = C[j]? := by simp [World.cell?, h]
/-- a block of one expression, of two -/
theorem exk_one {w : World} {b : Nat} {e : Ee} {k n c : Int} {s t : ByteArray} {A : Option Addr} {len cap : Nat} (h : ExV w e (exprV k s t n c A len cap)) (hb : w.heap[b]? = some (.cells #[.int .u8 k, .string s, .string t, .int .i64 n, .int .i64 c, .slice A len cap] 25)) : ExK w [e] (some ⟨b, 0, none⟩) := by
  obtain ⟨k', s', t', n', c', kids⟩ := e
  simp only [ExV] at h
  obtain ⟨A', cap', hv, hc, hK⟩ := h
  simp only [Value.agg.injEq, Array.mk.injEq, List.cons.injEq, Value.int.injEq, Value.string.injEq, Value.slice.injEq, true_and, and_true] at hv
  obtain ⟨rfl, rfl, rfl, rfl, rfl, rfl, rfl, rfl⟩ := hv
  simp only [ExK]
  refine ⟨b, 0, rfl, ⟨A, cap, ⟨?_, ?_, ?_, ?_, ?_, ?_⟩, hc, hK⟩, trivial⟩ <;> rw [cell_of hb] <;> rfl
theorem exk_two {w : World} {b : Nat} {e e2 : Ee} {k n c k2 n2 c2 : Int} {s t s2 t2 : ByteArray} {A A2 : Option Addr} {len cap len2 cap2 : Nat} (h : ExV w e (exprV k s t n c A len cap)) (h2 : ExV w e2 (exprV k2 s2 t2 n2 c2 A2 len2 cap2))
    (hb : w.heap[b]? = some (.cells #[.int .u8 k, .string s, .string t, .int .i64 n, .int .i64 c, .slice A len cap, .int .u8 k2, .string s2, .string t2, .int .i64 n2, .int .i64 c2, .slice A2 len2 cap2] 25)) : ExK w [e, e2] (some ⟨b, 0, none⟩) := by
  obtain ⟨k', s', t', n', c', kids⟩ := e
  obtain ⟨k3, s3, t3, n3, c3, kids3⟩ := e2
  simp only [ExV] at h h2
  obtain ⟨A', cap', hv, hc, hK⟩ := h
  obtain ⟨A3, cap3, hv3, hc3, hK3⟩ := h2
  simp only [Value.agg.injEq, Array.mk.injEq, List.cons.injEq, Value.int.injEq, Value.string.injEq, Value.slice.injEq, true_and, and_true] at hv hv3
  obtain ⟨rfl, rfl, rfl, rfl, rfl, rfl, rfl, rfl⟩ := hv
  obtain ⟨rfl, rfl, rfl, rfl, rfl, rfl, rfl, rfl⟩ := hv3
  simp only [ExK]
  refine ⟨b, 0, rfl, ⟨A, cap, ⟨?_, ?_, ?_, ?_, ?_, ?_⟩, hc, hK⟩, b, 0 + 6, rfl, ⟨A2, cap2, ⟨?_, ?_, ?_, ?_, ?_, ?_⟩, hc3, hK3⟩, trivial⟩ <;> rw [cell_of hb] <;> rfl
theorem exv_form {w : World} {e : Ee} {v : Value} (h : ExV w e v) : ∃ k s t n c A len cap, v = exprV k s t n c A len cap := by
  obtain ⟨k', s', t', n', c', kids⟩ := e
  simp only [ExV] at h
  obtain ⟨A', cap', hv, -, -⟩ := h
  exact ⟨_, _, _, _, _, _, _, _, hv⟩
theorem heap_new (w : World) (o : Obj) : (w.alloc o).heap[w.heap.size]? = some o := World.alloc_heap_new w o
/-- all blocks but one are as they were -/
def Agree (q : Nat → Prop) (w w2 : World) : Prop := ∀ b, b < w.heap.size → ¬ q b → w2.heap[b]? = w.heap[b]?
theorem Agree.refl (q : Nat → Prop) (w : World) : Agree q w w := fun _ _ _ => rfl
theorem Agree.back {q : Nat → Prop} {w w' w2 : World} (hb : Below w.heap.size w w') (h : Agree q w' w2) : Agree q w w2 := fun b hlt hne => (h b (Nat.lt_of_lt_of_le hlt hb.size) hne).trans (hb.block b hlt)
/-- it reads so, whatever is stored into that block -/
def IsEq (q : Nat → Prop) (e : Ee) : Value → World → Prop := fun v w => ∀ w2, Agree q w w2 → ExV w2 e v
def IsKq (q : Nat → Prop) (l : List Ee) : Value → World → Prop := fun v w => ∃ A c, v = .slice A l.length c ∧ l.length ≤ c ∧ ∀ w2, Agree q w w2 → ExK w2 l A
theorem mono_isEq (q : Nat → Prop) (e : Ee) : MonoF (IsEq q e) := fun _ _ _ h hb w2 hw => h w2 (Agree.back hb hw)
theorem mono_isKq (q : Nat → Prop) (l : List Ee) : MonoF (IsKq q l) := fun _ _ _ ⟨A, c, h1, h2, h3⟩ hb => ⟨A, c, h1, h2, fun w2 hw => h3 w2 (Agree.back hb hw)⟩
theorem IsEq.now {q : Nat → Prop} {e : Ee} {v : Value} {w : World} (h : IsEq q e v w) : ExV w e v := h w (Agree.refl q w)
theorem IsKq.now {q : Nat → Prop} {l : List Ee} {v : Value} {w : World} (h : IsKq q l v w) : IsK l v w := by
  obtain ⟨A, c, h1, h2, h3⟩ := h
  exact ⟨A, c, h1, h2, h3 w (Agree.refl q w)⟩
theorem IsEq.change {q q' : Nat → Prop} {e : Ee} {v : Value} {w w' : World} (h : IsEq q e v w) (hs : w.heap.size ≤ w'.heap.size) (hA : ∀ b, b < w.heap.size → ¬ q b → w'.heap[b]? = w.heap[b]?) (hq : ∀ b, b < w.heap.size → ¬ q b → ¬ q' b) : IsEq q' e v w' := fun w2 h2 =>
  h w2 fun b hb hn => (h2 b (Nat.lt_of_lt_of_le hb hs) (hq b hb hn)).trans (hA b hb hn)
theorem isEq_leaf (q : Nat → Prop) (k n : Int) (w : World) : IsEq q (lf k n) (lfV k n) w := fun w2 _ => lf_is w2 k n
section
variable {ops : Array Oper} {Q : Exit → Act → World → Prop} {i : Nat} {a : Act} {w : World} {R : Value → World → Prop}
theorem step_k1 {x : Operand} {e : Ee} (hop : opO ops i = some (.buildSlice 23 1 #[(0, x)])) (hw : Wanted ops i a) (hx : IsE e (a.eval x) w)
    (hR : ∀ v w', IsK [e] v w' → Below w.heap.size w w' → R v w') : wpOp Tryz.prog ops Q i (fun a' w' => ∃ v, a' = a.put (dstO ops i) v ∧ R v w') a w := by
  obtain ⟨k, s, t, n, c, A, len, cap, hv⟩ := exv_form hx
  rw [IsE, hv] at hx
  have hal : ∀ o, Below w.heap.size w (w.alloc o) := fun o => (Below.refl _ _).alloc (Nat.le_refl _) _
  refine step_run (v := .slice (some ⟨w.heap.size, 0, none⟩) 1 1) (w' := w.alloc (.cells #[.int .u8 k, .string s, .string t, .int .i64 n, .int .i64 c, .slice A len cap] 25)) hop hw (fun o ho => ?_) (hR _ _ ⟨_, 1, rfl, Nat.le_refl _, exk_one (hx.on (hal _)) (heap_new _ _)⟩ (hal _))
  simp only [execOp, ho, List.map_toArray, List.map_cons, List.map_nil, hv]
  simp [go_sem]
theorem step_k2 {x y : Operand} {e e2 : Ee} (hop : opO ops i = some (.buildSlice 23 2 #[(0, x), (1, y)])) (hw : Wanted ops i a) (hx : IsE e (a.eval x) w) (hy : IsE e2 (a.eval y) w)
    (hR : ∀ v w', IsK [e, e2] v w' → Below w.heap.size w w' → R v w') : wpOp Tryz.prog ops Q i (fun a' w' => ∃ v, a' = a.put (dstO ops i) v ∧ R v w') a w := by
  obtain ⟨k, s, t, n, c, A, len, cap, hv⟩ := exv_form hx
  obtain ⟨k2, s2, t2, n2, c2, A2, len2, cap2, hv2⟩ := exv_form hy
  rw [IsE, hv] at hx
  rw [IsE, hv2] at hy
  have hal : ∀ o, Below w.heap.size w (w.alloc o) := fun o => (Below.refl _ _).alloc (Nat.le_refl _) _
  refine step_run (v := .slice (some ⟨w.heap.size, 0, none⟩) 2 2) (w' := w.alloc (.cells #[.int .u8 k, .string s, .string t, .int .i64 n, .int .i64 c, .slice A len cap, .int .u8 k2, .string s2, .string t2, .int .i64 n2, .int .i64 c2, .slice A2 len2 cap2] 25)) hop hw (fun o ho => ?_) (hR _ _ ⟨_, 2, rfl, Nat.le_refl _, exk_two (hx.on (hal _)) (hy.on (hal _)) (heap_new _ _)⟩ (hal _))
  simp only [execOp, ho, List.map_toArray, List.map_cons, List.map_nil, hv, hv2]
  simp [go_sem]
theorem step_kq2 {q : Nat → Prop} (hq : ¬ q w.heap.size) {x y : Operand} {e e2 : Ee} (hop : opO ops i = some (.buildSlice 23 2 #[(0, x), (1, y)])) (hw : Wanted ops i a) (hx : IsEq q e (a.eval x) w) (hy : IsEq q e2 (a.eval y) w)
    (hR : ∀ v w', IsKq q [e, e2] v w' → Below w.heap.size w w' → R v w') : wpOp Tryz.prog ops Q i (fun a' w' => ∃ v, a' = a.put (dstO ops i) v ∧ R v w') a w := by
  obtain ⟨k, s, t, n, c, A, len, cap, hv⟩ := exv_form hx.now
  obtain ⟨k2, s2, t2, n2, c2, A2, len2, cap2, hv2⟩ := exv_form hy.now
  rw [hv] at hx
  rw [hv2] at hy
  have hal : ∀ o, Below w.heap.size w (w.alloc o) := fun o => (Below.refl _ _).alloc (Nat.le_refl _) _
  refine step_run (v := .slice (some ⟨w.heap.size, 0, none⟩) 2 2) (w' := w.alloc (.cells #[.int .u8 k, .string s, .string t, .int .i64 n, .int .i64 c, .slice A len cap, .int .u8 k2, .string s2, .string t2, .int .i64 n2, .int .i64 c2, .slice A2 len2 cap2] 25)) hop hw (fun o ho => ?_) (hR _ _ ⟨_, 2, rfl, Nat.le_refl _, fun w2 hA => ?_⟩ (hal _))
  · simp only [execOp, ho, List.map_toArray, List.map_cons, List.map_nil, hv, hv2]
    simp [go_sem]
  · exact exk_two (hx w2 (Agree.back (hal _) hA)) (hy w2 (Agree.back (hal _) hA)) ((hA w.heap.size (by simp) hq).trans (heap_new _ _))
end
theorem opEq_is (q : Nat → Prop) (s : ByteArray) (l : List Ee) (v : Value) (w : World) (hv : IsKq q l v w) : Calls Tryz.prog 11 #[.string s, v] w fun e w' => ∃ v, e = .returned v ∧ IsEq q (.mk 7 s ⟨#[]⟩ 0 0 l) v w' ∧ Below w.heap.size w w' := by
  obtain ⟨A, c, rfl, hc, hK⟩ := hv
  refine (op_val s A l.length c w).mono ?_
  rintro e w' ⟨rfl, hb⟩
  exact ⟨_, rfl, fun w2 hA => by simp only [ExV]; exact ⟨A, c, rfl, hc, hK w2 (Agree.back hb hA)⟩, hb⟩
end Go.Proofs.YteijijoiifbjlaaGreatDoor
