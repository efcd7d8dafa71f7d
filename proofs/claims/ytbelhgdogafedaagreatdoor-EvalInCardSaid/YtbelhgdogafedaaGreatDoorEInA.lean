/-
  Layer 13, eval: EvalIn as mathematics: 'in' of binds is a chain of 'or' and '='. Conditions: the values are right.
  Layer 13, eval: expressions made of expressions: a slice of one, of two; what a store into another block leaves of them. No conditions.
  A region that draws its order and ends with one store into a block that was there. No conditions.
  Layer 13, eval: EvalIn's drawn regions that ask for a value. No conditions.
  Layer 13, eval: a store of an expression into its box. No conditions.
  Layer 13, eval: EvalIn's first region: the values in one list, in an Env. Conditions: sizes.
  Layer 13, eval: EvalIn's list of binds, owned by the call. Conditions: sizes.
-/
import Derived.Test.YtbelhgdogafedaaGreatDoorESaf
import Derived.RangeFuncRecord
import Derived.Test.YtbelhgdogafedaaGreatDoorStepBox
import Derived.Test.YtbelhgdogafedaaGreatDoorEAwR
import Derived.Deep.Heap
import Derived.Deep.Upon
import Derived.Maps.AppendAt
namespace Go.Proofs.YtbelhgdogafedaaGreatDoor
open Go.ChangeShapes Go.WideShapes Go.ChangeAt Go.RowKit
set_option linter.unusedVariables false
set_option maxRecDepth 100000

theorem or_rt (p q r s : Bool) : Rt (orK p q r s) (orN p q r s) ⟨#[]⟩ := by cases p <;> cases q <;> cases r <;> cases s <;> decide
theorem orX_ok {a b : Trip} (ha : RtT a) (hb : RtT b) : (opX sOr a b).2 = 0 ∧ RtT (opX sOr a b).1 := by
  rw [opX_or ha hb]
  exact ⟨rfl, or_rt _ _ _ _⟩
theorem eqX_ok {a b : Trip} (ha : RtT a) (hb : RtT b) : (opX sEq a b).2 = 0 ∧ RtT (opX sEq a b).1 := by
  by_cases h : a.1 = 0 ∨ b.1 = 0
  · rw [opX_null mem_eq ha hb h]
    exact ⟨rfl, RtT_nul⟩
  · rw [opX_two mem_eq ha hb h, twoX_eq]
    exact ⟨rfl, RtT_flag _⟩
theorem amL_rt {a : Trip} (ha : RtT a) : ∀ (r : List Trip) (told : Trip), RtT told → (∀ t ∈ r, RtT t) → (amL a told r).2 = 0 ∧ RtT (amL a told r).1
  | [], told, ht, _ => by rw [amL]; exact ⟨rfl, ht⟩
  | t :: r, told, ht, h => by
    have h1 := eqX_ok ha (h t List.mem_cons_self)
    simp only [amL]
    rw [if_pos h1.1]
    exact amL_rt ha r _ (orX_ok ht h1.2).2 fun u hu => h u (List.mem_cons_of_mem _ hu)
theorem amL_snoc {a : Trip} (ha : RtT a) (t : Trip) (htt : RtT t) : ∀ (r : List Trip) (told : Trip), RtT told → (∀ t ∈ r, RtT t) → amL a told (r ++ [t]) = ((opX sOr (amL a told r).1 (opX sEq a t).1).1, 0)
  | [], told, ht, _ => by
    have h1 := eqX_ok ha htt
    simp only [List.nil_append, amL]
    rw [if_pos h1.1]
  | u :: r, told, ht, h => by
    have h1 := eqX_ok ha (h u List.mem_cons_self)
    simp only [List.cons_append, amL]
    rw [if_pos h1.1, if_pos h1.1]
    exact amL_snoc ha t htt r _ (orX_ok ht h1.2).2 fun u hu => h u (List.mem_cons_of_mem _ hu)
theorem pair_of {α : Type} {p : α × Int} (h : p.2 = 0) : p = (p.1, 0) := by
  obtain ⟨a, b⟩ := p
  simp only at h
  rw [h]
/-- a bind -/
abbrev bindE (i : Nat) : Ee := .mk 5 ⟨#[]⟩ ⟨#[]⟩ (i : Int) 0 []
theorem ev_bind (x : EnvM) (i : Nat) (t : Trip) (h : x.binds[i]? = some t) : evX x (bindE i) = (t, 0) := by
  simp only [evX]
  rw [if_pos (by simp [mayB])]
  have h1 : toldX x 5 ⟨#[]⟩ (i : Int) 0 [] = (atT x.binds (i : Int), 0) := by simp [toldX]
  have h2 : atT x.binds (i : Int) = t := by
    unfold atT
    rw [if_neg (by omega)]
    simp [List.getD_eq_getElem?_getD, h]
  simp only [evL]
  rw [if_pos trivial, h1, h2]
theorem ev_op2 (x : EnvM) (s : ByteArray) {e1 e2 : Ee} {t1 t2 : Trip} (h1 : evX x e1 = (t1, 0)) (h2 : evX x e2 = (t2, 0)) : evX x (.mk 7 s ⟨#[]⟩ 0 0 [e1, e2]) = opX s t1 t2 := by
  simp only [evX]
  rw [if_pos (by simp [mayB]), evL2 x h1 h2]
  simp [toldX]
theorem ev_op1 (x : EnvM) (s : ByteArray) {e1 : Ee} {t1 : Trip} (h1 : evX x e1 = (t1, 0)) : evX x (.mk 7 s ⟨#[]⟩ 0 0 [e1]) = oneX s t1 := by
  have h2 : evL x [e1] = ([t1], 0) := by simp [evL, h1]
  simp only [evX]
  rw [if_pos (by simp [mayB]), h2]
  simp [toldX]
/-- the chain -/
def orE : Nat → Ee
  | 0 => .mk 2 ⟨#[]⟩ ⟨#[]⟩ 0 0 []
  | k + 1 => .mk 7 sOr ⟨#[]⟩ 0 0 [orE k, .mk 7 sEq ⟨#[]⟩ 0 0 [bindE 0, bindE (k + 1)]]
def kidsE (m : Nat) : List Ee := (List.range m).map bindE
theorem kidsE_succ (m : Nat) : kidsE (m + 1) = kidsE m ++ [bindE m] := by simp [kidsE, List.range_succ]
theorem ev_or (x : EnvM) (v : Trip) (rest : List Trip) (hx : x.binds = v :: rest) (hr : ∀ t ∈ x.binds, RtT t) : ∀ k : Nat, k ≤ rest.length → evX x (orE k) = ((amL v (flagT false) (rest.take k)).1, 0)
  | 0, _ => by
    rw [orE, ev_num, List.take_zero]
    simp only [amL]
    rfl
  | k + 1, hk => by
    have hv : RtT v := hr v (by rw [hx]; exact List.mem_cons_self)
    have hres : ∀ t ∈ rest, RtT t := fun t ht => hr t (by rw [hx]; exact List.mem_cons_of_mem _ ht)
    obtain ⟨t, ht⟩ : ∃ t, rest[k]? = some t := ⟨_, List.getElem?_eq_getElem (by omega)⟩
    have htt : RtT t := hres t (List.mem_of_getElem? ht)
    have h0 := ev_bind x 0 v (by rw [hx]; rfl)
    have h1 := ev_bind x (k + 1) t (by rw [hx]; simpa using ht)
    have h2 := ev_op2 x sEq h0 h1
    rw [pair_of (eqX_ok hv htt).1] at h2
    have htk : ∀ t ∈ rest.take k, RtT t := fun t ht => hres t (List.mem_of_mem_take ht)
    rw [orE, ev_op2 x sOr (ev_or x v rest hx hr k (by omega)) h2, List.take_add_one, ht]
    simp only [Option.toList_some]
    rw [amL_snoc hv t htt _ _ (RtT_flag false) htk]
    exact pair_of (orX_ok (amL_rt hv _ _ (RtT_flag false) htk).2 (eqX_ok hv htt).2).1
theorem evL_of (x : EnvM) : ∀ (l : List Ee) (ts : List Trip), l.length = ts.length → (∀ (i : Nat) (e : Ee) (t : Trip), l[i]? = some e → ts[i]? = some t → evX x e = (t, 0)) → evL x l = (ts, 0)
  | [], [], _, _ => by simp [evL]
  | e :: l, t :: ts, hl, h => by
    have h0 := h 0 e t rfl rfl
    have h1 := evL_of x l ts (by simpa using hl) fun i e t he ht => h (i + 1) e t (by simpa using he) (by simpa using ht)
    simp [evL, h0, h1]
theorem ev_kids (x : EnvM) : evL x (kidsE x.binds.length) = (x.binds, 0) := by
  refine evL_of x _ _ (by simp [kidsE]) fun i e t he ht => ?_
  simp only [kidsE, List.getElem?_map] at he
  have hi : i < x.binds.length := (List.getElem?_eq_some_iff.1 ht).1
  rw [List.getElem?_range hi] at he
  obtain rfl := Option.some.inj he
  exact ev_bind x i t ht
/-- in, and the chain -/
theorem in_is (x : EnvM) (v : Trip) (rest : List Trip) (hx : x.binds = v :: rest) (h1 : 1 ≤ rest.length) (hr : ∀ t ∈ x.binds, RtT t) :
    ∃ t, RtT t ∧ evX x (orE rest.length) = (t, 0) ∧ evX x (.mk 9 ⟨#[]⟩ ⟨#[]⟩ 0 0 (kidsE x.binds.length)) = (t, 0) := by
  have hv : RtT v := hr v (by rw [hx]; exact List.mem_cons_self)
  have hres : ∀ t ∈ rest, RtT t := fun t ht => hr t (by rw [hx]; exact List.mem_cons_of_mem _ ht)
  have ha := amL_rt hv rest _ (RtT_flag false) hres
  refine ⟨(amL v (flagT false) rest).1, ha.2, ?_, ?_⟩
  · have := ev_or x v rest hx hr rest.length (Nat.le_refl _)
    rwa [List.take_length] at this
  · rw [ev_in x 0 _ _ (.inl rfl) (by simp [kidsE, hx]; omega) (ev_kids x)]
    simp only [amX, hx, List.getD_cons_zero, List.tail_cons]
    rw [if_pos ha.1, if_neg (by decide)]
    exact pair_of ha.1
/-- not in, and not the chain -/
theorem not_is (x : EnvM) (v : Trip) (rest : List Trip) (hx : x.binds = v :: rest) (h1 : 1 ≤ rest.length) (hr : ∀ t ∈ x.binds, RtT t) :
    ∃ t, evX x (.mk 7 sNot ⟨#[]⟩ 0 0 [orE rest.length]) = (t, 0) ∧ evX x (.mk 9 ⟨#[]⟩ ⟨#[]⟩ 1 0 (kidsE x.binds.length)) = (t, 0) := by
  have hv : RtT v := hr v (by rw [hx]; exact List.mem_cons_self)
  have hres : ∀ t ∈ rest, RtT t := fun t ht => hr t (by rw [hx]; exact List.mem_cons_of_mem _ ht)
  have ha := amL_rt hv rest _ (RtT_flag false) hres
  have ho := ev_or x v rest hx hr rest.length (Nat.le_refl _)
  rw [List.take_length] at ho
  have hz : (oneX sNot (amL v (flagT false) rest).1).2 = 0 := by
    rw [oneX_not ha.2]
    split <;> rfl
  refine ⟨(oneX sNot (amL v (flagT false) rest).1).1, ?_, ?_⟩
  · rw [ev_op1 x sNot ho]
    exact pair_of hz
  · rw [ev_in x 1 _ _ (.inr rfl) (by simp [kidsE, hx]; omega) (ev_kids x)]
    simp only [amX, hx, List.getD_cons_zero, List.tail_cons]
    rw [if_pos ha.1, if_pos trivial]
    exact pair_of hz
end Go.Proofs.YtbelhgdogafedaaGreatDoor

namespace Go.Proofs.YtbelhgdogafedaaGreatDoor
open Go.ChangeShapes Go.WideShapes Go.ChangeAt Go.RowKit
set_option linter.unusedVariables false
set_option maxRecDepth 100000

theorem cell_of {w : World} {b : Nat} {C : Array Value} {ty : TypeId} (h : w.heap[b]? = some (.cells C ty)) (j : Nat) : w.cell? ⟨b, j, none⟩ = C[j]? := by simp [World.cell?, h]
/-- a block of one expression, of two -/
theorem exk_one {w : World} {b : Nat} {e : Ee} {k n c : Int} {s t : ByteArray} {A : Option Addr} {len cap : Nat} (h : ExV w e (exprV k s t n c A len cap)) (hb : w.heap[b]? = some (.cells #[.int .u8 k, .string s, .string t, .int .i64 n, .int .i64 c, .slice A len cap] 25)) : ExK w [e] (some ⟨b, 0, none⟩) := by
  obtain ⟨k', s', t', n', c', kids⟩ := e
  simp only [ExV] at h
  obtain ⟨A', cap', hv, hc, hK⟩ := h
  simp only [Value.agg.injEq, Array.mk.injEq, List.cons.injEq, Value.int.injEq, Value.string.injEq, Value.slice.injEq, true_and, and_true] at hv
  obtain ⟨rfl, rfl, rfl, rfl, rfl, rfl, rfl, rfl⟩ := hv
  simp only [ExK]
  refine ⟨b, 0, rfl, ⟨A, cap, ⟨?_, ?_, ?_, ?_, ?_, ?_⟩, hc, hK⟩, trivial⟩ <;> rw [cell_of hb] <;> rfl
theorem exk_two {w : World} {b : Nat} {e e2 : Ee} {k n c k2 n2 c2 : Int} {s t s2 t2 : ByteArray} {A A2 : Option Addr} {len cap len2 cap2 : Nat} (h : ExV w e (exprV k s t n c A len cap)) (h2 : ExV w e2 (exprV k2 s2 t2 n2 c2 A2 len2 cap2))
    (hb : w.heap[b]? = some (.cells #[.int .u8 k, .string s, .string t, .int .i64 n, .int .i64 c, .slice A len cap, .int .u8 k2, .string s2, .string t2, .int .i64 n2, .int .i64 c2, .slice A2 len2 cap2] 25)) : ExK w [e, e2] (some ⟨b, 0, none⟩) := by
  obtain ⟨k', s', t', n', c', kids⟩ := e
  obtain ⟨k3, s3, t3, n3, c3, kids3⟩ := e2
  simp only [ExV] at h h2
  obtain ⟨A', cap', hv, hc, hK⟩ := h
  obtain ⟨A3, cap3, hv3, hc3, hK3⟩ := h2
  simp only [Value.agg.injEq, Array.mk.injEq, List.cons.injEq, Value.int.injEq, Value.string.injEq, Value.slice.injEq, true_and, and_true] at hv hv3
  obtain ⟨rfl, rfl, rfl, rfl, rfl, rfl, rfl, rfl⟩ := hv
  obtain ⟨rfl, rfl, rfl, rfl, rfl, rfl, rfl, rfl⟩ := hv3
  simp only [ExK]
  refine ⟨b, 0, rfl, ⟨A, cap, ⟨?_, ?_, ?_, ?_, ?_, ?_⟩, hc, hK⟩, b, 0 + 6, rfl, ⟨A2, cap2, ⟨?_, ?_, ?_, ?_, ?_, ?_⟩, hc3, hK3⟩, trivial⟩ <;> rw [cell_of hb] <;> rfl
theorem exv_form {w : World} {e : Ee} {v : Value} (h : ExV w e v) : ∃ k s t n c A len cap, v = exprV k s t n c A len cap := by
  obtain ⟨k', s', t', n', c', kids⟩ := e
  simp only [ExV] at h
  obtain ⟨A', cap', hv, -, -⟩ := h
  exact ⟨_, _, _, _, _, _, _, _, hv⟩
theorem heap_new (w : World) (o : Obj) : (w.alloc o).heap[w.heap.size]? = some o := World.alloc_heap_new w o
/-- all blocks but one are as they were -/
def Agree (q : Nat → Prop) (w w2 : World) : Prop := ∀ b, b < w.heap.size → ¬ q b → w2.heap[b]? = w.heap[b]?
theorem Agree.refl (q : Nat → Prop) (w : World) : Agree q w w := fun _ _ _ => rfl
theorem Agree.back {q : Nat → Prop} {w w' w2 : World} (hb : Below w.heap.size w w') (h : Agree q w' w2) : Agree q w w2 := fun b hlt hne => (h b (Nat.lt_of_lt_of_le hlt hb.size) hne).trans (hb.block b hlt)
/-- it reads so, whatever is stored into that block -/
def IsEq (q : Nat → Prop) (e : Ee) : Value → World → Prop := fun v w => ∀ w2, Agree q w w2 → ExV w2 e v
def IsKq (q : Nat → Prop) (l : List Ee) : Value → World → Prop := fun v w => ∃ A c, v = .slice A l.length c ∧ l.length ≤ c ∧ ∀ w2, Agree q w w2 → ExK w2 l A
theorem mono_isEq (q : Nat → Prop) (e : Ee) : MonoF (IsEq q e) := fun _ _ _ h hb w2 hw => h w2 (Agree.back hb hw)
theorem mono_isKq (q : Nat → Prop) (l : List Ee) : MonoF (IsKq q l) := fun _ _ _ ⟨A, c, h1, h2, h3⟩ hb => ⟨A, c, h1, h2, fun w2 hw => h3 w2 (Agree.back hb hw)⟩
theorem IsEq.now {q : Nat → Prop} {e : Ee} {v : Value} {w : World} (h : IsEq q e v w) : ExV w e v := h w (Agree.refl q w)
theorem IsKq.now {q : Nat → Prop} {l : List Ee} {v : Value} {w : World} (h : IsKq q l v w) : IsK l v w := by
  obtain ⟨A, c, h1, h2, h3⟩ := h
  exact ⟨A, c, h1, h2, h3 w (Agree.refl q w)⟩
theorem IsEq.change {q q' : Nat → Prop} {e : Ee} {v : Value} {w w' : World} (h : IsEq q e v w) (hs : w.heap.size ≤ w'.heap.size) (hA : ∀ b, b < w.heap.size → ¬ q b → w'.heap[b]? = w.heap[b]?) (hq : ∀ b, b < w.heap.size → ¬ q b → ¬ q' b) : IsEq q' e v w' := fun w2 h2 =>
  h w2 fun b hb hn => (h2 b (Nat.lt_of_lt_of_le hb hs) (hq b hb hn)).trans (hA b hb hn)
theorem isEq_leaf (q : Nat → Prop) (k n : Int) (w : World) : IsEq q (lf k n) (lfV k n) w := fun w2 _ => lf_is w2 k n
section
variable {ops : Array Oper} {Q : Exit → Act → World → Prop} {i : Nat} {a : Act} {w : World} {R : Value → World → Prop}
theorem step_k1 {x : Operand} {e : Ee} (hop : opO ops i = some (.buildSlice 23 1 #[(0, x)])) (hw : Wanted ops i a) (hx : IsE e (a.eval x) w)
    (hR : ∀ v w', IsK [e] v w' → Below w.heap.size w w' → R v w') : wpOp Tryz.prog ops Q i (fun a' w' => ∃ v, a' = a.put (dstO ops i) v ∧ R v w') a w := by
  obtain ⟨k, s, t, n, c, A, len, cap, hv⟩ := exv_form hx
  rw [IsE, hv] at hx
  have hal : ∀ o, Below w.heap.size w (w.alloc o) := fun o => (Below.refl _ _).alloc (Nat.le_refl _) _
  refine step_run (v := .slice (some ⟨w.heap.size, 0, none⟩) 1 1) (w' := w.alloc (.cells #[.int .u8 k, .string s, .string t, .int .i64 n, .int .i64 c, .slice A len cap] 25)) hop hw (fun o ho => ?_) (hR _ _ ⟨_, 1, rfl, Nat.le_refl _, exk_one (hx.on (hal _)) (heap_new _ _)⟩ (hal _))
  simp only [execOp, ho, List.map_toArray, List.map_cons, List.map_nil, hv]
  simp [go_sem]
theorem step_k2 {x y : Operand} {e e2 : Ee} (hop : opO ops i = some (.buildSlice 23 2 #[(0, x), (1, y)])) (hw : Wanted ops i a) (hx : IsE e (a.eval x) w) (hy : IsE e2 (a.eval y) w)
    (hR : ∀ v w', IsK [e, e2] v w' → Below w.heap.size w w' → R v w') : wpOp Tryz.prog ops Q i (fun a' w' => ∃ v, a' = a.put (dstO ops i) v ∧ R v w') a w := by
  obtain ⟨k, s, t, n, c, A, len, cap, hv⟩ := exv_form hx
  obtain ⟨k2, s2, t2, n2, c2, A2, len2, cap2, hv2⟩ := exv_form hy
  rw [IsE, hv] at hx
  rw [IsE, hv2] at hy
  have hal : ∀ o, Below w.heap.size w (w.alloc o) := fun o => (Below.refl _ _).alloc (Nat.le_refl _) _
  refine step_run (v := .slice (some ⟨w.heap.size, 0, none⟩) 2 2) (w' := w.alloc (.cells #[.int .u8 k, .string s, .string t, .int .i64 n, .int .i64 c, .slice A len cap, .int .u8 k2, .string s2, .string t2, .int .i64 n2, .int .i64 c2, .slice A2 len2 cap2] 25)) hop hw (fun o ho => ?_) (hR _ _ ⟨_, 2, rfl, Nat.le_refl _, exk_two (hx.on (hal _)) (hy.on (hal _)) (heap_new _ _)⟩ (hal _))
  simp only [execOp, ho, List.map_toArray, List.map_cons, List.map_nil, hv, hv2]
  simp [go_sem]
theorem step_kq2 {q : Nat → Prop} (hq : ¬ q w.heap.size) {x y : Operand} {e e2 : Ee} (hop : opO ops i = some (.buildSlice 23 2 #[(0, x), (1, y)])) (hw : Wanted ops i a) (hx : IsEq q e (a.eval x) w) (hy : IsEq q e2 (a.eval y) w)
    (hR : ∀ v w', IsKq q [e, e2] v w' → Below w.heap.size w w' → R v w') : wpOp Tryz.prog ops Q i (fun a' w' => ∃ v, a' = a.put (dstO ops i) v ∧ R v w') a w := by
  obtain ⟨k, s, t, n, c, A, len, cap, hv⟩ := exv_form hx.now
  obtain ⟨k2, s2, t2, n2, c2, A2, len2, cap2, hv2⟩ := exv_form hy.now
  rw [hv] at hx
  rw [hv2] at hy
  have hal : ∀ o, Below w.heap.size w (w.alloc o) := fun o => (Below.refl _ _).alloc (Nat.le_refl _) _
  refine step_run (v := .slice (some ⟨w.heap.size, 0, none⟩) 2 2) (w' := w.alloc (.cells #[.int .u8 k, .string s, .string t, .int .i64 n, .int .i64 c, .slice A len cap, .int .u8 k2, .string s2, .string t2, .int .i64 n2, .int .i64 c2, .slice A2 len2 cap2] 25)) hop hw (fun o ho => ?_) (hR _ _ ⟨_, 2, rfl, Nat.le_refl _, fun w2 hA => ?_⟩ (hal _))
  · simp only [execOp, ho, List.map_toArray, List.map_cons, List.map_nil, hv, hv2]
    simp [go_sem]
  · exact exk_two (hx w2 (Agree.back (hal _) hA)) (hy w2 (Agree.back (hal _) hA)) ((hA w.heap.size (by simp) hq).trans (heap_new _ _))
end
theorem opEq_is (q : Nat → Prop) (s : ByteArray) (l : List Ee) (v : Value) (w : World) (hv : IsKq q l v w) : Calls Tryz.prog 15 #[.string s, v] w fun e w' => ∃ v, e = .returned v ∧ IsEq q (.mk 7 s ⟨#[]⟩ 0 0 l) v w' ∧ Below w.heap.size w w' := by
  obtain ⟨A, c, rfl, hc, hK⟩ := hv
  refine (op_val s A l.length c w).mono ?_
  rintro e w' ⟨rfl, hb⟩
  exact ⟨_, rfl, fun w2 hA => by simp only [ExV]; exact ⟨A, c, rfl, hc, hK w2 (Agree.back hb hA)⟩, hb⟩
theorem bind_any (n : Int) (w : World) : Calls Tryz.prog 14 #[.int .i64 n] w fun e w' => e = .returned (lfV 5 n) ∧ Below w.heap.size w w' := by
  go_enter Tryz.func14, Tryz.ntmps14
  go_wp2_with fail
  exact bodyPost_ret (v := lfV 5 n) (by simp [results, Tryz.results14, go_sem]) rfl ⟨rfl, (Below.refl _ _).alloc (Nat.le_refl _) _⟩
end Go.Proofs.YtbelhgdogafedaaGreatDoor

namespace Go.Proofs.YtbelhgdogafedaaGreatDoor
open Go.RowKit
set_option linter.unusedVariables false

theorem wp_region_last {P : Program} {id : Nat} {ops : Array Oper} {Q : Exit → Act → World → Prop} {a0 : Act} {w0 : World} (hm : P.follows .mixedOrders = true) (F : Nat → Value → World → Prop) (ib : Nat) (R : World → Prop)
    (hF : ∀ i v w w', F i v w → Below w.heap.size w w' → F i v w')
    (hib : dstO ops ib = none) (hlt : ib < ops.size) (hpre : ∀ i, i < ops.size → i ≠ ib → i ∈ depsO ops ib)
    (hok : okReg ops a0.tmps.size = true)
    (hstep : ∀ i, i < ops.size → i ≠ ib → OpStep P ops Q F w0 a0.tmps.size (fun t => a0.tmps.getD t undef) i)
    (hstore : ∀ (a : Act) (w : World), Below w0.heap.size w0 w → (∀ t, t < a0.tmps.size → freeT ops t = true → a.eval (.tmp t) = a0.tmps.getD t undef) → (∀ j ∈ depsO ops ib, ∀ d, dstO ops j = some d → F j (a.eval (.tmp d)) w) →
      wpOp P ops Q ib (fun a' w' => a' = a ∧ R w') a w)
    (hend : ∀ (V : Nat → Value) (w : World), R w → Q .normal ⟨fillT ops a0.tmps V, a0.defers⟩ w) :
    (Code.region id ops true).wp P Q a0 w0 := by
  simp only [okReg, Bool.and_eq_true, decide_eq_true_eq, List.all_eq_true] at hok
  obtain ⟨hn, hsz, hbk⟩ := hok
  have hdist : ∀ (i j : Nat) (o o' : Oper) (d : Tmp), ops[i]? = some o → ops[j]? = some o' → o.dst = some d → o'.dst = some d → i = j := fun i j o o' d hi hj ho ho' =>
    nodup_filterMap (·.dst) ops.toList hn i j o o' d (by simpa using hi) (by simpa using hj) ho ho'
  have hfree : ∀ t, freeT ops t = true → ∀ (i : Nat) (o : Oper), ops[i]? = some o → o.dst ≠ some t := by
    intro t ht i o ho he
    have := List.all_eq_true.1 ht o (by simpa using Array.mem_of_getElem? ho)
    rw [he] at this
    simp at this
  have hsize : ∀ (i : Nat) (o : Oper) (d : Tmp), ops[i]? = some o → o.dst = some d → d < a0.tmps.size := by
    intro i o d ho hd
    have := hsz o (by simpa using Array.mem_of_getElem? ho)
    rw [hd] at this
    simpa using this
  have hback : ∀ (i : Nat) (o : Oper), ops[i]? = some o → ∀ e ∈ o.after, Region.binds .any e = true → e.on < i := by
    intro i o ho e he hbe
    have := hbk (o, i) (by rw [List.mem_zipIdx_iff_getElem?]; simpa using ho) e (by simpa using he)
    simpa [hbe] using this
  have hdst : ∀ (i : Nat) (o : Oper), ops[i]? = some o → dstO ops i = o.dst := fun i o ho => by simp [dstO, ho]
  have hdep : ∀ (i : Nat) (o : Oper) (j : Nat), ops[i]? = some o → j ∈ depsO ops i → ∃ e ∈ o.after, e.on = j ∧ Region.binds .any e = true := by
    intro i o j ho hj
    simp only [depsO, ho, Option.map_some, Option.getD_some, List.mem_map, List.mem_filter] at hj
    obtain ⟨e, ⟨he, hb⟩, rfl⟩ := hj
    exact ⟨e, by simpa using he, rfl, hb⟩
  refine wp_region_inv hm (fun listed a w => a.defers = a0.defers ∧ a.tmps.size = a0.tmps.size ∧ (∀ t, freeT ops t = true → a.tmps.getD t undef = a0.tmps.getD t undef) ∧
      (gotB listed ib = false → Below w0.heap.size w0 w ∧ ∀ (j : Nat) (oj : Oper) (d : Tmp), gotB listed j = true → ops[j]? = some oj → oj.dst = some d → F j (a.tmps.getD d undef) w) ∧
      (gotB listed ib = true → R w ∧ ∀ j, j < ops.size → gotB listed j = true)) ?_ ?_ ?_
  · have none : ∀ j, gotB (Array.replicate ops.size false) j = false := by
      intro j
      by_cases h : j < ops.size <;> simp [gotB, Array.getD, h]
    refine ⟨rfl, rfl, fun _ _ => rfl, fun _ => ⟨(Below.refl _ _).drew, fun j oj d hj _ _ => ?_⟩, fun h => ?_⟩
    · rw [none] at hj; cases hj
    · rw [none] at h; cases h
  · rintro listed a w i hs ⟨hd, hsz', hk, hA, hB⟩ hi
    obtain ⟨hun, o, ho, haft⟩ := mem_ready.1 hi
    have hilt : i < ops.size := (Array.getElem?_eq_some_iff.1 ho).1
    have hunl : gotB listed i = false := by
      have hlt' : i < listed.size := by omega
      simp [gotB, Array.getD, hlt'] at hun ⊢
      exact hun
    have hset : gotB (listed.setIfInBounds i true) i = true := by
      have hlt' : i < listed.size := by omega
      simp [gotB, Array.getD, hlt']
    have hgb : gotB listed ib = false := by
      cases h : gotB listed ib with
      | false => rfl
      | true => rw [(hB h).2 i hilt] at hunl; cases hunl
    obtain ⟨hC, hFj⟩ := hA hgb
    have hdepsG : ∀ j ∈ depsO ops i, ∀ d, dstO ops j = some d → F j (a.eval (.tmp d)) w := by
      intro j hj d hjd
      obtain ⟨e, he, rfl, hb⟩ := hdep i o j ho hj
      cases hoj : ops[e.on]? with
      | none => simp [dstO, hoj] at hjd
      | some oj => exact hFj e.on oj d (haft e he hb) hoj (by simpa [dstO, hoj] using hjd)
    by_cases hib' : i = ib
    · subst hib'
      refine wpOp_mono ?_ (hstore a w hC (fun t _ ht => hk t ht) hdepsG)
      rintro a' w' ⟨rfl, hR⟩
      refine ⟨hd, hsz', hk, fun h => ?_, fun _ => ⟨hR, fun j hj => ?_⟩⟩
      · rw [hset] at h; cases h
      · by_cases hji : j = i
        · subst hji; exact hset
        · rw [got_set hji]
          obtain ⟨e, he, rfl, hb⟩ := hdep i o j ho (hpre j hj hji)
          exact haft e he hb
    · refine wpOp_mono ?_ (hstep i hilt hib' a w hC (fun t _ ht => hk t ht) hdepsG)
      rintro a' w' ⟨v, rfl, hv, hb⟩
      rw [hdst i o ho]
      refine ⟨?_, by rw [size_put]; exact hsz', fun t ht => ?_, fun _ => ⟨hC.trans (hb.mono hC.size), fun j oj d hj hoj hdj => ?_⟩, fun h => ?_⟩
      · cases o.dst <;> simpa [Act.put] using hd
      · cases hdst' : o.dst with
        | none => exact hk t ht
        | some d =>
          have hne' : t ≠ d := fun e => hfree t ht i o ho (by rw [hdst', e])
          rw [getD_put_other hne']
          exact hk t ht
      · by_cases hij : j = i
        · subst hij
          obtain rfl : oj = o := Option.some.inj (hoj.symm.trans ho)
          rw [hdj, getD_put_same (by rw [hsz']; exact hsize j oj d hoj hdj)]
          exact hv
        · rw [got_set hij] at hj
          have hold := hF j _ w w' (hFj j oj d hj hoj hdj) hb
          cases hdst' : o.dst with
          | none => exact hold
          | some d' =>
            have hne' : d ≠ d' := fun e => hij (hdist j i oj o d hoj ho hdj (by rw [hdst', e]))
            rw [getD_put_other hne']
            exact hold
      · rw [got_set (Ne.symm hib')] at h
        rw [hgb] at h; cases h
  · rintro listed a w hs ⟨hd, hsz', hk, hA, hB⟩ hr
    have hgb : gotB listed ib = true := ready_all hs hback hr ib hlt
    have hV : ∀ (j : Nat) (d : Tmp), dstO ops j = some d → a.tmps.getD d undef = (fun j => a.tmps.getD ((dstO ops j).getD 0) undef) j := fun j d hj => by simp [hj]
    have hfr := fill_eq hsz' (fun j => a.tmps.getD ((dstO ops j).getD 0) undef) (fun k hk' => hk k hk') hV
    have := hend (fun j => a.tmps.getD ((dstO ops j).getD 0) undef) w (hB hgb).1
    rw [← hfr, ← hd] at this
    exact this
end Go.Proofs.YtbelhgdogafedaaGreatDoor

namespace Go.Proofs.YtbelhgdogafedaaGreatDoor
open Go.ChangeShapes Go.WideShapes Go.ChangeAt Go.RowKit
set_option linter.unusedVariables false
set_option maxRecDepth 100000

noncomputable def in12Ops : Array Oper := regOf Tryz.f4 12
theorem in12_fill {v0 v1 v2 v3 v4 v5 v6 v7 v8 v9 v10 v11 v12 v13 v14 v15 v16 v17 v18 v19 v20 v21 v22 v23 v24 v25 v26 v27 v28 v29 v30 v31 v32 v33 v34 v35 v36 v37 v38 v39 v40 v41 v42 v43 v44 v45 v46 v47 v48 v49 v50 v51 v52 v53 v54 v55 v56 v57 v58 v59 v60 v61 v62 v63 v64 v65 v66 v67 v68 v69 v70 v71 v72 v73 v74 v75 v76 v77 v78 v79 v80 v81 v82 v83 v84 v85 v86 v87 v88 v89 v90 v91 v92 v93 v94 v95 v96 v97 v98 v99 v100 v101 v102 v103 v104 v105 v106 v107 v108 v109 v110 v111 v112 v113 v114 v115 v116 : Value} (V : Nat → Value) : fillT in12Ops #[v0, v1, v2, v3, v4, v5, v6, v7, v8, v9, v10, v11, v12, v13, v14, v15, v16, v17, v18, v19, v20, v21, v22, v23, v24, v25, v26, v27, v28, v29, v30, v31, v32, v33, v34, v35, v36, v37, v38, v39, v40, v41, v42, v43, v44, v45, v46, v47, v48, v49, v50, v51, v52, v53, v54, v55, v56, v57, v58, v59, v60, v61, v62, v63, v64, v65, v66, v67, v68, v69, v70, v71, v72, v73, v74, v75, v76, v77, v78, v79, v80, v81, v82, v83, v84, v85, v86, v87, v88, v89, v90, v91, v92, v93, v94, v95, v96, v97, v98, v99, v100, v101, v102, v103, v104, v105, v106, v107, v108, v109, v110, v111, v112, v113, v114, v115, v116] V = #[v0, v1, v2, v3, v4, v5, v6, v7, v8, v9, V 7, V 9, v12, v13, v14, v15, v16, v17, v18, v19, v20, v21, v22, v23, v24, v25, v26, v27, v28, v29, v30, v31, v32, v33, v34, v35, v36, v37, v38, v39, v40, v41, v42, v43, v44, v45, v46, v47, v48, v49, v50, v51, v52, v53, v54, v55, v56, v57, v58, v59, v60, v61, v62, v63, v64, v65, v66, v67, V 4, V 0, V 1, V 2, V 3, V 5, V 6, v75, v76, v77, v78, v79, v80, v81, v82, v83, v84, v85, v86, v87, v88, v89, v90, v91, v92, v93, v94, v95, v96, v97, v98, v99, v100, v101, v102, v103, v104, v105, v106, v107, v108, v109, v110, v111, v112, v113, v114, v115, v116] := by
  kernel_rfl
def in12L (x : EnvM) (p5 : Nat) (v0 v1 v2 v3 : Value) (l : List Ee) (A7 : Option Addr) (c7 : Nat) (r : Trip) : List (Value → World → Prop) := [IsV (.slice A7 l.length c7), IsE (.mk 9 ⟨#[]⟩ ⟨#[]⟩ 0 0 l), IsX x, IsV (.tuple #[vT r, .int .i64 0]), IsV (.tuple #[vT r, .int .i64 0]), IsV (vT r), IsV (.int .i64 0), AnyF, AnyF, IsV (.int .i64 0)]
def in12F (x : EnvM) (p5 : Nat) (v0 v1 v2 v3 : Value) (l : List Ee) (A7 : Option Addr) (c7 : Nat) (r : Trip) (i : Nat) : Value → World → Prop := (in12L x p5 v0 v1 v2 v3 l A7 c7 r).getD i AnyF
theorem in12F_mono (x : EnvM) (p5 : Nat) (v0 v1 v2 v3 : Value) (l : List Ee) (A7 : Option Addr) (c7 : Nat) (r : Trip) (i : Nat) (v : Value) (w w' : World) (hp : (in12F x p5 v0 v1 v2 v3 l A7 c7 r) i v w) (hb : Below w.heap.size w w') : (in12F x p5 v0 v1 v2 v3 l A7 c7 r) i v w' := by
  refine monoL ?_ i v w w' hp hb
  unfold in12L
  simp only [List.forall_mem_cons]
  exact ⟨mono_isV _, mono_isE _, mono_isX _, mono_isV _, mono_isV _, mono_isV _, mono_isV _, mono_any, mono_any, mono_isV _, fun _ h => by cases h⟩
def in12Fl (i : Nat) : Bool := ([true, false, false, true, true, true, true, true, true, true] : List Bool).getD i false
theorem in12F_flat (x : EnvM) (p5 : Nat) (v0 v1 v2 v3 : Value) (l : List Ee) (A7 : Option Addr) (c7 : Nat) (r : Trip) (i : Nat) (hi : in12Fl i = true) (v : Value) (w w' : World) (hp : (in12F x p5 v0 v1 v2 v3 l A7 c7 r) i v w) : (in12F x p5 v0 v1 v2 v3 l A7 c7 r) i v w' := by
  unfold in12Fl at hi
  unfold in12F in12L at hp ⊢
  match i, hi with
  | 0, _ => exact hp
  | 1, h => exact absurd h (by decide)
  | 2, h => exact absurd h (by decide)
  | 3, _ => exact hp
  | 4, _ => exact hp
  | 5, _ => exact hp
  | 6, _ => exact hp
  | 7, _ => exact hp
  | 8, _ => exact hp
  | 9, _ => exact hp
  | i + 10, h => simp at h
theorem in12_s0 {Q : Exit → Act → World → Prop} {w0 : World} {xs : Nat → Value} (x : EnvM) (p5 : Nat) (v0 v1 v2 v3 : Value) (l : List Ee) (A7 : Option Addr) (c7 : Nat) (r : Trip) (x4 : X4 w0 p5 v0 v1 v2 v3) (hX : EnvV w0 x (.agg #[v0, v1, v2, v3])) (hk7 : IsK l (.slice A7 l.length c7) w0) (hev : EvOn w0 x (.mk 9 ⟨#[]⟩ ⟨#[]⟩ 0 0 l) (r, 0)) (hx7 : xs 7 = .slice A7 l.length c7) (hx5 : xs 5 = .pointer (some ⟨p5, 0, none⟩)) : OpStep Tryz.prog in12Ops Q (in12F x p5 v0 v1 v2 v3 l A7 c7 r) w0 117 xs 0 := by
  intro act w hb hk hF
  have g7 : act.eval (.tmp 7) = .slice A7 l.length c7 := (hk 7 (by decide) (by kernel_rfl)).trans hx7
  exact step_move (show opO in12Ops 0 = some (.move (.tmp 7)) by kernel_rfl) (.free (by kernel_rfl)) g7 ⟨rfl, Below.refl _ _⟩
theorem in12_s1 {Q : Exit → Act → World → Prop} {w0 : World} {xs : Nat → Value} (x : EnvM) (p5 : Nat) (v0 v1 v2 v3 : Value) (l : List Ee) (A7 : Option Addr) (c7 : Nat) (r : Trip) (x4 : X4 w0 p5 v0 v1 v2 v3) (hX : EnvV w0 x (.agg #[v0, v1, v2, v3])) (hk7 : IsK l (.slice A7 l.length c7) w0) (hev : EvOn w0 x (.mk 9 ⟨#[]⟩ ⟨#[]⟩ 0 0 l) (r, 0)) (hx7 : xs 7 = .slice A7 l.length c7) (hx5 : xs 5 = .pointer (some ⟨p5, 0, none⟩)) : OpStep Tryz.prog in12Ops Q (in12F x p5 v0 v1 v2 v3 l A7 c7 r) w0 117 xs 1 := by
  intro act w hb hk hF
  have g69 : act.eval (.tmp 69) = .slice A7 l.length c7 := hF 0 (of_decide_eq_true (by kernel_rfl)) 69 (by kernel_rfl)
  exact step_call (f := 16) (xs := #[.const (.int .i64 0), .tmp 69]) (by kernel_rfl) (.free (by kernel_rfl)) (map2 rfl g69) (enters_of Tryz.func16 (by kernel_rfl) rfl) ((inE_is 0 l _ w (mono_isK l _ _ _ hk7 hb)).mono fun e w' ⟨v, h1, h2, h3⟩ => ⟨v, h1, h2, h3⟩)
theorem in12_s2 {Q : Exit → Act → World → Prop} {w0 : World} {xs : Nat → Value} (x : EnvM) (p5 : Nat) (v0 v1 v2 v3 : Value) (l : List Ee) (A7 : Option Addr) (c7 : Nat) (r : Trip) (x4 : X4 w0 p5 v0 v1 v2 v3) (hX : EnvV w0 x (.agg #[v0, v1, v2, v3])) (hk7 : IsK l (.slice A7 l.length c7) w0) (hev : EvOn w0 x (.mk 9 ⟨#[]⟩ ⟨#[]⟩ 0 0 l) (r, 0)) (hx7 : xs 7 = .slice A7 l.length c7) (hx5 : xs 5 = .pointer (some ⟨p5, 0, none⟩)) : OpStep Tryz.prog in12Ops Q (in12F x p5 v0 v1 v2 v3 l A7 c7 r) w0 117 xs 2 := by
  intro act w hb hk hF
  have g5 : act.eval (.tmp 5) = .pointer (some ⟨p5, 0, none⟩) := (hk 5 (by decide) (by kernel_rfl)).trans hx5
  exact step_loadX (show opO in12Ops 2 = some (.load 29 (.tmp 5)) by kernel_rfl) (.free (by kernel_rfl)) g5 (x4.on hb) ⟨hX.on hb, Below.refl _ _⟩
theorem in12_s3 {Q : Exit → Act → World → Prop} {w0 : World} {xs : Nat → Value} (x : EnvM) (p5 : Nat) (v0 v1 v2 v3 : Value) (l : List Ee) (A7 : Option Addr) (c7 : Nat) (r : Trip) (x4 : X4 w0 p5 v0 v1 v2 v3) (hX : EnvV w0 x (.agg #[v0, v1, v2, v3])) (hk7 : IsK l (.slice A7 l.length c7) w0) (hev : EvOn w0 x (.mk 9 ⟨#[]⟩ ⟨#[]⟩ 0 0 l) (r, 0)) (hx7 : xs 7 = .slice A7 l.length c7) (hx5 : xs 5 = .pointer (some ⟨p5, 0, none⟩)) : OpStep Tryz.prog in12Ops Q (in12F x p5 v0 v1 v2 v3 l A7 c7 r) w0 117 xs 3 := by
  intro act w hb hk hF
  have g70 : IsE (.mk 9 ⟨#[]⟩ ⟨#[]⟩ 0 0 l) (act.eval (.tmp 70)) w := hF 1 (of_decide_eq_true (by kernel_rfl)) 70 (by kernel_rfl)
  have g71 : IsX x (act.eval (.tmp 71)) w := hF 2 (of_decide_eq_true (by kernel_rfl)) 71 (by kernel_rfl)
  exact step_call (f := 12) (xs := #[.tmp 70, .tmp 71]) (by kernel_rfl) (.free (by kernel_rfl)) (map2 rfl rfl) (enters_of Tryz.func12 (by kernel_rfl) rfl) ((hev w _ _ hb g70 g71).mono fun e w' h => ⟨_, h.1, rfl, h.2⟩)
theorem in12_s4 {Q : Exit → Act → World → Prop} {w0 : World} {xs : Nat → Value} (x : EnvM) (p5 : Nat) (v0 v1 v2 v3 : Value) (l : List Ee) (A7 : Option Addr) (c7 : Nat) (r : Trip) (x4 : X4 w0 p5 v0 v1 v2 v3) (hX : EnvV w0 x (.agg #[v0, v1, v2, v3])) (hk7 : IsK l (.slice A7 l.length c7) w0) (hev : EvOn w0 x (.mk 9 ⟨#[]⟩ ⟨#[]⟩ 0 0 l) (r, 0)) (hx7 : xs 7 = .slice A7 l.length c7) (hx5 : xs 5 = .pointer (some ⟨p5, 0, none⟩)) : OpStep Tryz.prog in12Ops Q (in12F x p5 v0 v1 v2 v3 l A7 c7 r) w0 117 xs 4 := by
  intro act w hb hk hF
  have g72 : act.eval (.tmp 72) = .tuple #[vT r, .int .i64 0] := hF 3 (of_decide_eq_true (by kernel_rfl)) 72 (by kernel_rfl)
  exact step_move (show opO in12Ops 4 = some (.move (.tmp 72)) by kernel_rfl) (.free (by kernel_rfl)) g72 ⟨rfl, Below.refl _ _⟩
theorem in12_s5 {Q : Exit → Act → World → Prop} {w0 : World} {xs : Nat → Value} (x : EnvM) (p5 : Nat) (v0 v1 v2 v3 : Value) (l : List Ee) (A7 : Option Addr) (c7 : Nat) (r : Trip) (x4 : X4 w0 p5 v0 v1 v2 v3) (hX : EnvV w0 x (.agg #[v0, v1, v2, v3])) (hk7 : IsK l (.slice A7 l.length c7) w0) (hev : EvOn w0 x (.mk 9 ⟨#[]⟩ ⟨#[]⟩ 0 0 l) (r, 0)) (hx7 : xs 7 = .slice A7 l.length c7) (hx5 : xs 5 = .pointer (some ⟨p5, 0, none⟩)) : OpStep Tryz.prog in12Ops Q (in12F x p5 v0 v1 v2 v3 l A7 c7 r) w0 117 xs 5 := by
  intro act w hb hk hF
  have g68 : act.eval (.tmp 68) = .tuple #[vT r, .int .i64 0] := hF 4 (of_decide_eq_true (by kernel_rfl)) 68 (by kernel_rfl)
  exact step_extract (show opO in12Ops 5 = some (.extract (.tmp 68) 0) by kernel_rfl) (.free (by kernel_rfl)) g68 rfl ⟨rfl, Below.refl _ _⟩
theorem in12_s6 {Q : Exit → Act → World → Prop} {w0 : World} {xs : Nat → Value} (x : EnvM) (p5 : Nat) (v0 v1 v2 v3 : Value) (l : List Ee) (A7 : Option Addr) (c7 : Nat) (r : Trip) (x4 : X4 w0 p5 v0 v1 v2 v3) (hX : EnvV w0 x (.agg #[v0, v1, v2, v3])) (hk7 : IsK l (.slice A7 l.length c7) w0) (hev : EvOn w0 x (.mk 9 ⟨#[]⟩ ⟨#[]⟩ 0 0 l) (r, 0)) (hx7 : xs 7 = .slice A7 l.length c7) (hx5 : xs 5 = .pointer (some ⟨p5, 0, none⟩)) : OpStep Tryz.prog in12Ops Q (fun j v w => in12Fl j = true → (in12F x p5 v0 v1 v2 v3 l A7 c7 r) j v w) w0 117 xs 6 := by
  intro act w hb hk hF
  have g68 : act.eval (.tmp 68) = .tuple #[vT r, .int .i64 0] := (show in12Fl 4 = true → _ from hF 4 (of_decide_eq_true (by kernel_rfl)) 68 (by kernel_rfl)) (by kernel_rfl)
  exact step_extract (show opO in12Ops 6 = some (.extract (.tmp 68) 1) by kernel_rfl) (.free (by kernel_rfl)) g68 rfl ⟨fun _ => rfl, Below.refl _ _⟩
theorem in12_s9 {Q : Exit → Act → World → Prop} {w0 : World} {xs : Nat → Value} (x : EnvM) (p5 : Nat) (v0 v1 v2 v3 : Value) (l : List Ee) (A7 : Option Addr) (c7 : Nat) (r : Trip) (x4 : X4 w0 p5 v0 v1 v2 v3) (hX : EnvV w0 x (.agg #[v0, v1, v2, v3])) (hk7 : IsK l (.slice A7 l.length c7) w0) (hev : EvOn w0 x (.mk 9 ⟨#[]⟩ ⟨#[]⟩ 0 0 l) (r, 0)) (hx7 : xs 7 = .slice A7 l.length c7) (hx5 : xs 5 = .pointer (some ⟨p5, 0, none⟩)) : OpStep Tryz.prog in12Ops Q (fun j v w => in12Fl j = true → (in12F x p5 v0 v1 v2 v3 l A7 c7 r) j v w) w0 117 xs 9 := by
  intro act w hb hk hF
  have g74 : act.eval (.tmp 74) = .int .i64 0 := (show in12Fl 6 = true → _ from hF 6 (of_decide_eq_true (by kernel_rfl)) 74 (by kernel_rfl)) (by kernel_rfl)
  exact step_assign (show opO in12Ops 9 = some (.assign (.tmp 74)) by kernel_rfl) (.free (by kernel_rfl)) g74 ⟨fun _ => rfl, Below.refl _ _⟩
theorem in12 {Q : Exit → Act → World → Prop} {a0 : Act} {w0 : World} (x : EnvM) (p5 : Nat) (v0 v1 v2 v3 : Value) (l : List Ee) (A7 : Option Addr) (c7 : Nat) (r : Trip) (x4 : X4 w0 p5 v0 v1 v2 v3) (hX : EnvV w0 x (.agg #[v0, v1, v2, v3])) (hk7 : IsK l (.slice A7 l.length c7) w0) (hev : EvOn w0 x (.mk 9 ⟨#[]⟩ ⟨#[]⟩ 0 0 l) (r, 0)) (hx7 : a0.tmps.getD 7 undef = .slice A7 l.length c7) (hx5 : a0.tmps.getD 5 undef = .pointer (some ⟨p5, 0, none⟩)) (hs : a0.tmps.size = 117)
    (hend : ∀ (V : Nat → Value) (p : Nat) (X : World), Below w0.heap.size w0 X → V 7 = .pointer (some ⟨p, 0, none⟩) → w0.heap.size ≤ p → p < X.heap.size → BoxF p r X → V 9 = .int .i64 0 → Q .normal ⟨fillT in12Ops a0.tmps V, a0.defers⟩ X) : (Code.region 12 in12Ops true).wp Tryz.prog Q a0 w0 := by
  refine wp_region_boxM (by kernel_rfl) (in12F x p5 v0 v1 v2 v3 l A7 c7 r) 7 8 10 NewAt (fun p w => BoxF p r w) in12Fl (in12F_mono x p5 v0 v1 v2 v3 l A7 c7 r) (in12F_flat x p5 v0 v1 v2 v3 l A7 c7 r) (by kernel_rfl) (by kernel_rfl) (of_decide_eq_true (by kernel_rfl)) (of_decide_eq_true (by kernel_rfl)) (by decide) ?_ new_keep boxF_keep (by rw [hs]; kernel_rfl) ?_ ?_ ?_ ?_ ?_
  · have size_is : in12Ops.size = 10 := by kernel_rfl
    rw [size_is]
    intro i hi h1 h2
    have hq : ((List.range 10).all fun i => decide (i ∈ depsO in12Ops 8) || decide (i = 8) || in12Fl i) = true := by kernel_rfl
    have := List.all_eq_true.1 hq i (List.mem_range.2 hi)
    simp only [Bool.or_eq_true, decide_eq_true_eq] at this
    rcases this with (h | h) | h
    · exact absurd h h1
    · exact absurd h h2
    · exact h
  · rw [hs]
    have size_is : in12Ops.size = 10 := by kernel_rfl
    rw [size_is]
    intro i hi hne1 hne2 hdp
    have hall : ∀ j, j < 10 → j = i → OpStep Tryz.prog in12Ops Q (in12F x p5 v0 v1 v2 v3 l A7 c7 r) w0 117 (fun t => a0.tmps.getD t undef) j := by
      intro j hj hji
      match j, hj with
      | 0, _ => exact in12_s0 x p5 v0 v1 v2 v3 l A7 c7 r x4 hX hk7 hev hx7 hx5
      | 1, _ => exact in12_s1 x p5 v0 v1 v2 v3 l A7 c7 r x4 hX hk7 hev hx7 hx5
      | 2, _ => exact in12_s2 x p5 v0 v1 v2 v3 l A7 c7 r x4 hX hk7 hev hx7 hx5
      | 3, _ => exact in12_s3 x p5 v0 v1 v2 v3 l A7 c7 r x4 hX hk7 hev hx7 hx5
      | 4, _ => exact in12_s4 x p5 v0 v1 v2 v3 l A7 c7 r x4 hX hk7 hev hx7 hx5
      | 5, _ => exact in12_s5 x p5 v0 v1 v2 v3 l A7 c7 r x4 hX hk7 hev hx7 hx5
      | 6, _ => exact absurd hdp (by rw [← hji]; decide)
      | 7, _ => exact absurd hji.symm hne1
      | 8, _ => exact absurd hji.symm hne2
      | 9, _ => exact absurd hdp (by rw [← hji]; decide)
      | q + 10, hj => exact absurd hj (by omega)
    exact hall i hi rfl
  · rw [hs]
    have size_is : in12Ops.size = 10 := by kernel_rfl
    rw [size_is]
    intro i hi hne1 hne2 hdp
    have hall : ∀ j, j < 10 → j = i → OpStep Tryz.prog in12Ops Q (fun j v w => in12Fl j = true → (in12F x p5 v0 v1 v2 v3 l A7 c7 r) j v w) w0 117 (fun t => a0.tmps.getD t undef) j := by
      intro j hj hji
      match j, hj with
      | 0, _ => exact absurd hdp (by rw [← hji]; exact fun h => h (by decide))
      | 1, _ => exact absurd hdp (by rw [← hji]; exact fun h => h (by decide))
      | 2, _ => exact absurd hdp (by rw [← hji]; exact fun h => h (by decide))
      | 3, _ => exact absurd hdp (by rw [← hji]; exact fun h => h (by decide))
      | 4, _ => exact absurd hdp (by rw [← hji]; exact fun h => h (by decide))
      | 5, _ => exact absurd hdp (by rw [← hji]; exact fun h => h (by decide))
      | 6, _ => exact in12_s6 x p5 v0 v1 v2 v3 l A7 c7 r x4 hX hk7 hev hx7 hx5
      | 7, _ => exact absurd hji.symm hne1
      | 8, _ => exact absurd hji.symm hne2
      | 9, _ => exact in12_s9 x p5 v0 v1 v2 v3 l A7 c7 r x4 hX hk7 hev hx7 hx5
      | q + 10, hj => exact absurd hj (by omega)
    exact hall i hi rfl
  · intro a w hb
    exact step_allocV (by kernel_rfl) (.free (by kernel_rfl)) (by kernel_rfl) (fun _ _ => trivial)
  · intro act w p hb hp0 hp1 hp hn hF
    have gy : act.eval (.tmp 73) = vT r := hF 5 (of_decide_eq_true (by kernel_rfl)) 73 (by kernel_rfl)
    exact step_storeF (show opO in12Ops 8 = some (.store 38 (.tmp 10) (.tmp 73)) by kernel_rfl) (.free (by kernel_rfl)) (by kernel_rfl) hp gy hb hp0 hp1 hn
  · intro V p X hb hp hp0 hp1 hB hV
    exact hend V p X hb hp hp0 hp1 hB (hV 9 (of_decide_eq_true (by kernel_rfl)) (by kernel_rfl) (by kernel_rfl))
noncomputable def in14Ops : Array Oper := regOf Tryz.f4 14
theorem in14_fill {v0 v1 v2 v3 v4 v5 v6 v7 v8 v9 v10 v11 v12 v13 v14 v15 v16 v17 v18 v19 v20 v21 v22 v23 v24 v25 v26 v27 v28 v29 v30 v31 v32 v33 v34 v35 v36 v37 v38 v39 v40 v41 v42 v43 v44 v45 v46 v47 v48 v49 v50 v51 v52 v53 v54 v55 v56 v57 v58 v59 v60 v61 v62 v63 v64 v65 v66 v67 v68 v69 v70 v71 v72 v73 v74 v75 v76 v77 v78 v79 v80 v81 v82 v83 v84 v85 v86 v87 v88 v89 v90 v91 v92 v93 v94 v95 v96 v97 v98 v99 v100 v101 v102 v103 v104 v105 v106 v107 v108 v109 v110 v111 v112 v113 v114 v115 v116 : Value} (V : Nat → Value) : fillT in14Ops #[v0, v1, v2, v3, v4, v5, v6, v7, v8, v9, v10, v11, v12, v13, v14, v15, v16, v17, v18, v19, v20, v21, v22, v23, v24, v25, v26, v27, v28, v29, v30, v31, v32, v33, v34, v35, v36, v37, v38, v39, v40, v41, v42, v43, v44, v45, v46, v47, v48, v49, v50, v51, v52, v53, v54, v55, v56, v57, v58, v59, v60, v61, v62, v63, v64, v65, v66, v67, v68, v69, v70, v71, v72, v73, v74, v75, v76, v77, v78, v79, v80, v81, v82, v83, v84, v85, v86, v87, v88, v89, v90, v91, v92, v93, v94, v95, v96, v97, v98, v99, v100, v101, v102, v103, v104, v105, v106, v107, v108, v109, v110, v111, v112, v113, v114, v115, v116] V = #[v0, v1, v2, v3, v4, v5, v6, v7, v8, v9, v10, v11, v12, v13, V 7, V 9, v16, v17, v18, v19, v20, v21, v22, v23, v24, v25, v26, v27, v28, v29, v30, v31, v32, v33, v34, v35, v36, v37, v38, v39, v40, v41, v42, v43, v44, v45, v46, v47, v48, v49, v50, v51, v52, v53, v54, v55, v56, v57, v58, v59, v60, v61, v62, v63, v64, v65, v66, v67, v68, v69, v70, v71, v72, v73, v74, v75, v76, v77, v78, v79, v80, V 4, V 0, V 1, V 2, V 3, V 5, V 6, v88, v89, v90, v91, v92, v93, v94, v95, v96, v97, v98, v99, v100, v101, v102, v103, v104, v105, v106, v107, v108, v109, v110, v111, v112, v113, v114, v115, v116] := by
  kernel_rfl
def in14L (x : EnvM) (p5 : Nat) (v0 v1 v2 v3 : Value) (l : List Ee) (A7 : Option Addr) (c7 : Nat) (r : Trip) : List (Value → World → Prop) := [IsV (.slice A7 l.length c7), IsE (.mk 9 ⟨#[]⟩ ⟨#[]⟩ 1 0 l), IsX x, IsV (.tuple #[vT r, .int .i64 0]), IsV (.tuple #[vT r, .int .i64 0]), IsV (vT r), IsV (.int .i64 0), AnyF, AnyF, IsV (.int .i64 0)]
def in14F (x : EnvM) (p5 : Nat) (v0 v1 v2 v3 : Value) (l : List Ee) (A7 : Option Addr) (c7 : Nat) (r : Trip) (i : Nat) : Value → World → Prop := (in14L x p5 v0 v1 v2 v3 l A7 c7 r).getD i AnyF
theorem in14F_mono (x : EnvM) (p5 : Nat) (v0 v1 v2 v3 : Value) (l : List Ee) (A7 : Option Addr) (c7 : Nat) (r : Trip) (i : Nat) (v : Value) (w w' : World) (hp : (in14F x p5 v0 v1 v2 v3 l A7 c7 r) i v w) (hb : Below w.heap.size w w') : (in14F x p5 v0 v1 v2 v3 l A7 c7 r) i v w' := by
  refine monoL ?_ i v w w' hp hb
  unfold in14L
  simp only [List.forall_mem_cons]
  exact ⟨mono_isV _, mono_isE _, mono_isX _, mono_isV _, mono_isV _, mono_isV _, mono_isV _, mono_any, mono_any, mono_isV _, fun _ h => by cases h⟩
def in14Fl (i : Nat) : Bool := ([true, false, false, true, true, true, true, true, true, true] : List Bool).getD i false
theorem in14F_flat (x : EnvM) (p5 : Nat) (v0 v1 v2 v3 : Value) (l : List Ee) (A7 : Option Addr) (c7 : Nat) (r : Trip) (i : Nat) (hi : in14Fl i = true) (v : Value) (w w' : World) (hp : (in14F x p5 v0 v1 v2 v3 l A7 c7 r) i v w) : (in14F x p5 v0 v1 v2 v3 l A7 c7 r) i v w' := by
  unfold in14Fl at hi
  unfold in14F in14L at hp ⊢
  match i, hi with
  | 0, _ => exact hp
  | 1, h => exact absurd h (by decide)
  | 2, h => exact absurd h (by decide)
  | 3, _ => exact hp
  | 4, _ => exact hp
  | 5, _ => exact hp
  | 6, _ => exact hp
  | 7, _ => exact hp
  | 8, _ => exact hp
  | 9, _ => exact hp
  | i + 10, h => simp at h
theorem in14_s0 {Q : Exit → Act → World → Prop} {w0 : World} {xs : Nat → Value} (x : EnvM) (p5 : Nat) (v0 v1 v2 v3 : Value) (l : List Ee) (A7 : Option Addr) (c7 : Nat) (r : Trip) (x4 : X4 w0 p5 v0 v1 v2 v3) (hX : EnvV w0 x (.agg #[v0, v1, v2, v3])) (hk7 : IsK l (.slice A7 l.length c7) w0) (hev : EvOn w0 x (.mk 9 ⟨#[]⟩ ⟨#[]⟩ 1 0 l) (r, 0)) (hx7 : xs 7 = .slice A7 l.length c7) (hx5 : xs 5 = .pointer (some ⟨p5, 0, none⟩)) : OpStep Tryz.prog in14Ops Q (in14F x p5 v0 v1 v2 v3 l A7 c7 r) w0 117 xs 0 := by
  intro act w hb hk hF
  have g7 : act.eval (.tmp 7) = .slice A7 l.length c7 := (hk 7 (by decide) (by kernel_rfl)).trans hx7
  exact step_move (show opO in14Ops 0 = some (.move (.tmp 7)) by kernel_rfl) (.free (by kernel_rfl)) g7 ⟨rfl, Below.refl _ _⟩
theorem in14_s1 {Q : Exit → Act → World → Prop} {w0 : World} {xs : Nat → Value} (x : EnvM) (p5 : Nat) (v0 v1 v2 v3 : Value) (l : List Ee) (A7 : Option Addr) (c7 : Nat) (r : Trip) (x4 : X4 w0 p5 v0 v1 v2 v3) (hX : EnvV w0 x (.agg #[v0, v1, v2, v3])) (hk7 : IsK l (.slice A7 l.length c7) w0) (hev : EvOn w0 x (.mk 9 ⟨#[]⟩ ⟨#[]⟩ 1 0 l) (r, 0)) (hx7 : xs 7 = .slice A7 l.length c7) (hx5 : xs 5 = .pointer (some ⟨p5, 0, none⟩)) : OpStep Tryz.prog in14Ops Q (in14F x p5 v0 v1 v2 v3 l A7 c7 r) w0 117 xs 1 := by
  intro act w hb hk hF
  have g82 : act.eval (.tmp 82) = .slice A7 l.length c7 := hF 0 (of_decide_eq_true (by kernel_rfl)) 82 (by kernel_rfl)
  exact step_call (f := 16) (xs := #[.const (.int .i64 1), .tmp 82]) (by kernel_rfl) (.free (by kernel_rfl)) (map2 rfl g82) (enters_of Tryz.func16 (by kernel_rfl) rfl) ((inE_is 1 l _ w (mono_isK l _ _ _ hk7 hb)).mono fun e w' ⟨v, h1, h2, h3⟩ => ⟨v, h1, h2, h3⟩)
theorem in14_s2 {Q : Exit → Act → World → Prop} {w0 : World} {xs : Nat → Value} (x : EnvM) (p5 : Nat) (v0 v1 v2 v3 : Value) (l : List Ee) (A7 : Option Addr) (c7 : Nat) (r : Trip) (x4 : X4 w0 p5 v0 v1 v2 v3) (hX : EnvV w0 x (.agg #[v0, v1, v2, v3])) (hk7 : IsK l (.slice A7 l.length c7) w0) (hev : EvOn w0 x (.mk 9 ⟨#[]⟩ ⟨#[]⟩ 1 0 l) (r, 0)) (hx7 : xs 7 = .slice A7 l.length c7) (hx5 : xs 5 = .pointer (some ⟨p5, 0, none⟩)) : OpStep Tryz.prog in14Ops Q (in14F x p5 v0 v1 v2 v3 l A7 c7 r) w0 117 xs 2 := by
  intro act w hb hk hF
  have g5 : act.eval (.tmp 5) = .pointer (some ⟨p5, 0, none⟩) := (hk 5 (by decide) (by kernel_rfl)).trans hx5
  exact step_loadX (show opO in14Ops 2 = some (.load 29 (.tmp 5)) by kernel_rfl) (.free (by kernel_rfl)) g5 (x4.on hb) ⟨hX.on hb, Below.refl _ _⟩
theorem in14_s3 {Q : Exit → Act → World → Prop} {w0 : World} {xs : Nat → Value} (x : EnvM) (p5 : Nat) (v0 v1 v2 v3 : Value) (l : List Ee) (A7 : Option Addr) (c7 : Nat) (r : Trip) (x4 : X4 w0 p5 v0 v1 v2 v3) (hX : EnvV w0 x (.agg #[v0, v1, v2, v3])) (hk7 : IsK l (.slice A7 l.length c7) w0) (hev : EvOn w0 x (.mk 9 ⟨#[]⟩ ⟨#[]⟩ 1 0 l) (r, 0)) (hx7 : xs 7 = .slice A7 l.length c7) (hx5 : xs 5 = .pointer (some ⟨p5, 0, none⟩)) : OpStep Tryz.prog in14Ops Q (in14F x p5 v0 v1 v2 v3 l A7 c7 r) w0 117 xs 3 := by
  intro act w hb hk hF
  have g83 : IsE (.mk 9 ⟨#[]⟩ ⟨#[]⟩ 1 0 l) (act.eval (.tmp 83)) w := hF 1 (of_decide_eq_true (by kernel_rfl)) 83 (by kernel_rfl)
  have g84 : IsX x (act.eval (.tmp 84)) w := hF 2 (of_decide_eq_true (by kernel_rfl)) 84 (by kernel_rfl)
  exact step_call (f := 12) (xs := #[.tmp 83, .tmp 84]) (by kernel_rfl) (.free (by kernel_rfl)) (map2 rfl rfl) (enters_of Tryz.func12 (by kernel_rfl) rfl) ((hev w _ _ hb g83 g84).mono fun e w' h => ⟨_, h.1, rfl, h.2⟩)
theorem in14_s4 {Q : Exit → Act → World → Prop} {w0 : World} {xs : Nat → Value} (x : EnvM) (p5 : Nat) (v0 v1 v2 v3 : Value) (l : List Ee) (A7 : Option Addr) (c7 : Nat) (r : Trip) (x4 : X4 w0 p5 v0 v1 v2 v3) (hX : EnvV w0 x (.agg #[v0, v1, v2, v3])) (hk7 : IsK l (.slice A7 l.length c7) w0) (hev : EvOn w0 x (.mk 9 ⟨#[]⟩ ⟨#[]⟩ 1 0 l) (r, 0)) (hx7 : xs 7 = .slice A7 l.length c7) (hx5 : xs 5 = .pointer (some ⟨p5, 0, none⟩)) : OpStep Tryz.prog in14Ops Q (in14F x p5 v0 v1 v2 v3 l A7 c7 r) w0 117 xs 4 := by
  intro act w hb hk hF
  have g85 : act.eval (.tmp 85) = .tuple #[vT r, .int .i64 0] := hF 3 (of_decide_eq_true (by kernel_rfl)) 85 (by kernel_rfl)
  exact step_move (show opO in14Ops 4 = some (.move (.tmp 85)) by kernel_rfl) (.free (by kernel_rfl)) g85 ⟨rfl, Below.refl _ _⟩
theorem in14_s5 {Q : Exit → Act → World → Prop} {w0 : World} {xs : Nat → Value} (x : EnvM) (p5 : Nat) (v0 v1 v2 v3 : Value) (l : List Ee) (A7 : Option Addr) (c7 : Nat) (r : Trip) (x4 : X4 w0 p5 v0 v1 v2 v3) (hX : EnvV w0 x (.agg #[v0, v1, v2, v3])) (hk7 : IsK l (.slice A7 l.length c7) w0) (hev : EvOn w0 x (.mk 9 ⟨#[]⟩ ⟨#[]⟩ 1 0 l) (r, 0)) (hx7 : xs 7 = .slice A7 l.length c7) (hx5 : xs 5 = .pointer (some ⟨p5, 0, none⟩)) : OpStep Tryz.prog in14Ops Q (in14F x p5 v0 v1 v2 v3 l A7 c7 r) w0 117 xs 5 := by
  intro act w hb hk hF
  have g81 : act.eval (.tmp 81) = .tuple #[vT r, .int .i64 0] := hF 4 (of_decide_eq_true (by kernel_rfl)) 81 (by kernel_rfl)
  exact step_extract (show opO in14Ops 5 = some (.extract (.tmp 81) 0) by kernel_rfl) (.free (by kernel_rfl)) g81 rfl ⟨rfl, Below.refl _ _⟩
theorem in14_s6 {Q : Exit → Act → World → Prop} {w0 : World} {xs : Nat → Value} (x : EnvM) (p5 : Nat) (v0 v1 v2 v3 : Value) (l : List Ee) (A7 : Option Addr) (c7 : Nat) (r : Trip) (x4 : X4 w0 p5 v0 v1 v2 v3) (hX : EnvV w0 x (.agg #[v0, v1, v2, v3])) (hk7 : IsK l (.slice A7 l.length c7) w0) (hev : EvOn w0 x (.mk 9 ⟨#[]⟩ ⟨#[]⟩ 1 0 l) (r, 0)) (hx7 : xs 7 = .slice A7 l.length c7) (hx5 : xs 5 = .pointer (some ⟨p5, 0, none⟩)) : OpStep Tryz.prog in14Ops Q (fun j v w => in14Fl j = true → (in14F x p5 v0 v1 v2 v3 l A7 c7 r) j v w) w0 117 xs 6 := by
  intro act w hb hk hF
  have g81 : act.eval (.tmp 81) = .tuple #[vT r, .int .i64 0] := (show in14Fl 4 = true → _ from hF 4 (of_decide_eq_true (by kernel_rfl)) 81 (by kernel_rfl)) (by kernel_rfl)
  exact step_extract (show opO in14Ops 6 = some (.extract (.tmp 81) 1) by kernel_rfl) (.free (by kernel_rfl)) g81 rfl ⟨fun _ => rfl, Below.refl _ _⟩
theorem in14_s9 {Q : Exit → Act → World → Prop} {w0 : World} {xs : Nat → Value} (x : EnvM) (p5 : Nat) (v0 v1 v2 v3 : Value) (l : List Ee) (A7 : Option Addr) (c7 : Nat) (r : Trip) (x4 : X4 w0 p5 v0 v1 v2 v3) (hX : EnvV w0 x (.agg #[v0, v1, v2, v3])) (hk7 : IsK l (.slice A7 l.length c7) w0) (hev : EvOn w0 x (.mk 9 ⟨#[]⟩ ⟨#[]⟩ 1 0 l) (r, 0)) (hx7 : xs 7 = .slice A7 l.length c7) (hx5 : xs 5 = .pointer (some ⟨p5, 0, none⟩)) : OpStep Tryz.prog in14Ops Q (fun j v w => in14Fl j = true → (in14F x p5 v0 v1 v2 v3 l A7 c7 r) j v w) w0 117 xs 9 := by
  intro act w hb hk hF
  have g87 : act.eval (.tmp 87) = .int .i64 0 := (show in14Fl 6 = true → _ from hF 6 (of_decide_eq_true (by kernel_rfl)) 87 (by kernel_rfl)) (by kernel_rfl)
  exact step_assign (show opO in14Ops 9 = some (.assign (.tmp 87)) by kernel_rfl) (.free (by kernel_rfl)) g87 ⟨fun _ => rfl, Below.refl _ _⟩
theorem in14 {Q : Exit → Act → World → Prop} {a0 : Act} {w0 : World} (x : EnvM) (p5 : Nat) (v0 v1 v2 v3 : Value) (l : List Ee) (A7 : Option Addr) (c7 : Nat) (r : Trip) (x4 : X4 w0 p5 v0 v1 v2 v3) (hX : EnvV w0 x (.agg #[v0, v1, v2, v3])) (hk7 : IsK l (.slice A7 l.length c7) w0) (hev : EvOn w0 x (.mk 9 ⟨#[]⟩ ⟨#[]⟩ 1 0 l) (r, 0)) (hx7 : a0.tmps.getD 7 undef = .slice A7 l.length c7) (hx5 : a0.tmps.getD 5 undef = .pointer (some ⟨p5, 0, none⟩)) (hs : a0.tmps.size = 117)
    (hend : ∀ (V : Nat → Value) (p : Nat) (X : World), Below w0.heap.size w0 X → V 7 = .pointer (some ⟨p, 0, none⟩) → w0.heap.size ≤ p → p < X.heap.size → BoxF p r X → V 9 = .int .i64 0 → Q .normal ⟨fillT in14Ops a0.tmps V, a0.defers⟩ X) : (Code.region 14 in14Ops true).wp Tryz.prog Q a0 w0 := by
  refine wp_region_boxM (by kernel_rfl) (in14F x p5 v0 v1 v2 v3 l A7 c7 r) 7 8 14 NewAt (fun p w => BoxF p r w) in14Fl (in14F_mono x p5 v0 v1 v2 v3 l A7 c7 r) (in14F_flat x p5 v0 v1 v2 v3 l A7 c7 r) (by kernel_rfl) (by kernel_rfl) (of_decide_eq_true (by kernel_rfl)) (of_decide_eq_true (by kernel_rfl)) (by decide) ?_ new_keep boxF_keep (by rw [hs]; kernel_rfl) ?_ ?_ ?_ ?_ ?_
  · have size_is : in14Ops.size = 10 := by kernel_rfl
    rw [size_is]
    intro i hi h1 h2
    have hq : ((List.range 10).all fun i => decide (i ∈ depsO in14Ops 8) || decide (i = 8) || in14Fl i) = true := by kernel_rfl
    have := List.all_eq_true.1 hq i (List.mem_range.2 hi)
    simp only [Bool.or_eq_true, decide_eq_true_eq] at this
    rcases this with (h | h) | h
    · exact absurd h h1
    · exact absurd h h2
    · exact h
  · rw [hs]
    have size_is : in14Ops.size = 10 := by kernel_rfl
    rw [size_is]
    intro i hi hne1 hne2 hdp
    have hall : ∀ j, j < 10 → j = i → OpStep Tryz.prog in14Ops Q (in14F x p5 v0 v1 v2 v3 l A7 c7 r) w0 117 (fun t => a0.tmps.getD t undef) j := by
      intro j hj hji
      match j, hj with
      | 0, _ => exact in14_s0 x p5 v0 v1 v2 v3 l A7 c7 r x4 hX hk7 hev hx7 hx5
      | 1, _ => exact in14_s1 x p5 v0 v1 v2 v3 l A7 c7 r x4 hX hk7 hev hx7 hx5
      | 2, _ => exact in14_s2 x p5 v0 v1 v2 v3 l A7 c7 r x4 hX hk7 hev hx7 hx5
      | 3, _ => exact in14_s3 x p5 v0 v1 v2 v3 l A7 c7 r x4 hX hk7 hev hx7 hx5
      | 4, _ => exact in14_s4 x p5 v0 v1 v2 v3 l A7 c7 r x4 hX hk7 hev hx7 hx5
      | 5, _ => exact in14_s5 x p5 v0 v1 v2 v3 l A7 c7 r x4 hX hk7 hev hx7 hx5
      | 6, _ => exact absurd hdp (by rw [← hji]; decide)
      | 7, _ => exact absurd hji.symm hne1
      | 8, _ => exact absurd hji.symm hne2
      | 9, _ => exact absurd hdp (by rw [← hji]; decide)
      | q + 10, hj => exact absurd hj (by omega)
    exact hall i hi rfl
  · rw [hs]
    have size_is : in14Ops.size = 10 := by kernel_rfl
    rw [size_is]
    intro i hi hne1 hne2 hdp
    have hall : ∀ j, j < 10 → j = i → OpStep Tryz.prog in14Ops Q (fun j v w => in14Fl j = true → (in14F x p5 v0 v1 v2 v3 l A7 c7 r) j v w) w0 117 (fun t => a0.tmps.getD t undef) j := by
      intro j hj hji
      match j, hj with
      | 0, _ => exact absurd hdp (by rw [← hji]; exact fun h => h (by decide))
      | 1, _ => exact absurd hdp (by rw [← hji]; exact fun h => h (by decide))
      | 2, _ => exact absurd hdp (by rw [← hji]; exact fun h => h (by decide))
      | 3, _ => exact absurd hdp (by rw [← hji]; exact fun h => h (by decide))
      | 4, _ => exact absurd hdp (by rw [← hji]; exact fun h => h (by decide))
      | 5, _ => exact absurd hdp (by rw [← hji]; exact fun h => h (by decide))
      | 6, _ => exact in14_s6 x p5 v0 v1 v2 v3 l A7 c7 r x4 hX hk7 hev hx7 hx5
      | 7, _ => exact absurd hji.symm hne1
      | 8, _ => exact absurd hji.symm hne2
      | 9, _ => exact in14_s9 x p5 v0 v1 v2 v3 l A7 c7 r x4 hX hk7 hev hx7 hx5
      | q + 10, hj => exact absurd hj (by omega)
    exact hall i hi rfl
  · intro a w hb
    exact step_allocV (by kernel_rfl) (.free (by kernel_rfl)) (by kernel_rfl) (fun _ _ => trivial)
  · intro act w p hb hp0 hp1 hp hn hF
    have gy : act.eval (.tmp 86) = vT r := hF 5 (of_decide_eq_true (by kernel_rfl)) 86 (by kernel_rfl)
    exact step_storeF (show opO in14Ops 8 = some (.store 38 (.tmp 14) (.tmp 86)) by kernel_rfl) (.free (by kernel_rfl)) (by kernel_rfl) hp gy hb hp0 hp1 hn
  · intro V p X hb hp hp0 hp1 hB hV
    exact hend V p X hb hp hp0 hp1 hB (hV 9 (of_decide_eq_true (by kernel_rfl)) (by kernel_rfl) (by kernel_rfl))
noncomputable def in15Ops : Array Oper := regOf Tryz.f4 15
theorem in15_fill {v0 v1 v2 v3 v4 v5 v6 v7 v8 v9 v10 v11 v12 v13 v14 v15 v16 v17 v18 v19 v20 v21 v22 v23 v24 v25 v26 v27 v28 v29 v30 v31 v32 v33 v34 v35 v36 v37 v38 v39 v40 v41 v42 v43 v44 v45 v46 v47 v48 v49 v50 v51 v52 v53 v54 v55 v56 v57 v58 v59 v60 v61 v62 v63 v64 v65 v66 v67 v68 v69 v70 v71 v72 v73 v74 v75 v76 v77 v78 v79 v80 v81 v82 v83 v84 v85 v86 v87 v88 v89 v90 v91 v92 v93 v94 v95 v96 v97 v98 v99 v100 v101 v102 v103 v104 v105 v106 v107 v108 v109 v110 v111 v112 v113 v114 v115 v116 : Value} (V : Nat → Value) : fillT in15Ops #[v0, v1, v2, v3, v4, v5, v6, v7, v8, v9, v10, v11, v12, v13, v14, v15, v16, v17, v18, v19, v20, v21, v22, v23, v24, v25, v26, v27, v28, v29, v30, v31, v32, v33, v34, v35, v36, v37, v38, v39, v40, v41, v42, v43, v44, v45, v46, v47, v48, v49, v50, v51, v52, v53, v54, v55, v56, v57, v58, v59, v60, v61, v62, v63, v64, v65, v66, v67, v68, v69, v70, v71, v72, v73, v74, v75, v76, v77, v78, v79, v80, v81, v82, v83, v84, v85, v86, v87, v88, v89, v90, v91, v92, v93, v94, v95, v96, v97, v98, v99, v100, v101, v102, v103, v104, v105, v106, v107, v108, v109, v110, v111, v112, v113, v114, v115, v116] V = #[v0, v1, v2, v3, v4, v5, v6, v7, v8, v9, v10, v11, v12, v13, v14, v15, V 8, V 10, v18, v19, v20, v21, v22, v23, v24, v25, v26, v27, v28, v29, v30, v31, v32, v33, v34, v35, v36, v37, v38, v39, v40, v41, v42, v43, v44, v45, v46, v47, v48, v49, v50, v51, v52, v53, v54, v55, v56, v57, v58, v59, v60, v61, v62, v63, v64, v65, v66, v67, v68, v69, v70, v71, v72, v73, v74, v75, v76, v77, v78, v79, v80, v81, v82, v83, v84, v85, v86, v87, V 5, V 0, V 1, V 2, V 3, V 4, V 6, V 7, v96, v97, v98, v99, v100, v101, v102, v103, v104, v105, v106, v107, v108, v109, v110, v111, v112, v113, v114, v115, v116] := by
  kernel_rfl
def in15L (x : EnvM) (p5 : Nat) (v0 v1 v2 v3 : Value) (p8 : Nat) (e : Ee) (k n c : Int) (s tt : ByteArray) (A : Option Addr) (len cp : Nat) (r : Trip) : List (Value → World → Prop) := [IsE e, IsK [e], IsE (.mk 7 sNot ⟨#[]⟩ 0 0 [e]), IsX x, IsV (.tuple #[vT r, .int .i64 0]), IsV (.tuple #[vT r, .int .i64 0]), IsV (vT r), IsV (.int .i64 0), AnyF, AnyF, IsV (.int .i64 0)]
def in15F (x : EnvM) (p5 : Nat) (v0 v1 v2 v3 : Value) (p8 : Nat) (e : Ee) (k n c : Int) (s tt : ByteArray) (A : Option Addr) (len cp : Nat) (r : Trip) (i : Nat) : Value → World → Prop := (in15L x p5 v0 v1 v2 v3 p8 e k n c s tt A len cp r).getD i AnyF
theorem in15F_mono (x : EnvM) (p5 : Nat) (v0 v1 v2 v3 : Value) (p8 : Nat) (e : Ee) (k n c : Int) (s tt : ByteArray) (A : Option Addr) (len cp : Nat) (r : Trip) (i : Nat) (v : Value) (w w' : World) (hp : (in15F x p5 v0 v1 v2 v3 p8 e k n c s tt A len cp r) i v w) (hb : Below w.heap.size w w') : (in15F x p5 v0 v1 v2 v3 p8 e k n c s tt A len cp r) i v w' := by
  refine monoL ?_ i v w w' hp hb
  unfold in15L
  simp only [List.forall_mem_cons]
  exact ⟨mono_isE _, mono_isK _, mono_isE _, mono_isX _, mono_isV _, mono_isV _, mono_isV _, mono_isV _, mono_any, mono_any, mono_isV _, fun _ h => by cases h⟩
def in15Fl (i : Nat) : Bool := ([false, false, false, false, true, true, true, true, true, true, true] : List Bool).getD i false
theorem in15F_flat (x : EnvM) (p5 : Nat) (v0 v1 v2 v3 : Value) (p8 : Nat) (e : Ee) (k n c : Int) (s tt : ByteArray) (A : Option Addr) (len cp : Nat) (r : Trip) (i : Nat) (hi : in15Fl i = true) (v : Value) (w w' : World) (hp : (in15F x p5 v0 v1 v2 v3 p8 e k n c s tt A len cp r) i v w) : (in15F x p5 v0 v1 v2 v3 p8 e k n c s tt A len cp r) i v w' := by
  unfold in15Fl at hi
  unfold in15F in15L at hp ⊢
  match i, hi with
  | 0, h => exact absurd h (by decide)
  | 1, h => exact absurd h (by decide)
  | 2, h => exact absurd h (by decide)
  | 3, h => exact absurd h (by decide)
  | 4, _ => exact hp
  | 5, _ => exact hp
  | 6, _ => exact hp
  | 7, _ => exact hp
  | 8, _ => exact hp
  | 9, _ => exact hp
  | 10, _ => exact hp
  | i + 11, h => simp at h
theorem in15_s0 {Q : Exit → Act → World → Prop} {w0 : World} {xs : Nat → Value} (x : EnvM) (p5 : Nat) (v0 v1 v2 v3 : Value) (p8 : Nat) (e : Ee) (k n c : Int) (s tt : ByteArray) (A : Option Addr) (len cp : Nat) (r : Trip) (x4 : X4 w0 p5 v0 v1 v2 v3) (hX : EnvV w0 x (.agg #[v0, v1, v2, v3])) (c8 : ECell w0 p8 0 k s tt n c A len cp) (hE : ExV w0 e (exprV k s tt n c A len cp)) (hev : EvOn w0 x (.mk 7 sNot ⟨#[]⟩ 0 0 [e]) (r, 0)) (hx8 : xs 8 = .pointer (some ⟨p8, 0, none⟩)) (hx5 : xs 5 = .pointer (some ⟨p5, 0, none⟩)) : OpStep Tryz.prog in15Ops Q (in15F x p5 v0 v1 v2 v3 p8 e k n c s tt A len cp r) w0 117 xs 0 := by
  intro act w hb hk hF
  have g8 : act.eval (.tmp 8) = .pointer (some ⟨p8, 0, none⟩) := (hk 8 (by decide) (by kernel_rfl)).trans hx8
  exact step_loadE (show opO in15Ops 0 = some (.load 25 (.tmp 8)) by kernel_rfl) (.free (by kernel_rfl)) g8 (c8.on hb) ⟨hE.on hb, Below.refl _ _⟩
theorem in15_s1 {Q : Exit → Act → World → Prop} {w0 : World} {xs : Nat → Value} (x : EnvM) (p5 : Nat) (v0 v1 v2 v3 : Value) (p8 : Nat) (e : Ee) (k n c : Int) (s tt : ByteArray) (A : Option Addr) (len cp : Nat) (r : Trip) (x4 : X4 w0 p5 v0 v1 v2 v3) (hX : EnvV w0 x (.agg #[v0, v1, v2, v3])) (c8 : ECell w0 p8 0 k s tt n c A len cp) (hE : ExV w0 e (exprV k s tt n c A len cp)) (hev : EvOn w0 x (.mk 7 sNot ⟨#[]⟩ 0 0 [e]) (r, 0)) (hx8 : xs 8 = .pointer (some ⟨p8, 0, none⟩)) (hx5 : xs 5 = .pointer (some ⟨p5, 0, none⟩)) : OpStep Tryz.prog in15Ops Q (in15F x p5 v0 v1 v2 v3 p8 e k n c s tt A len cp r) w0 117 xs 1 := by
  intro act w hb hk hF
  have g89 : IsE e (act.eval (.tmp 89)) w := hF 0 (of_decide_eq_true (by kernel_rfl)) 89 (by kernel_rfl)
  exact step_k1 (show opO in15Ops 1 = some (.buildSlice 23 1 #[(0, .tmp 89)]) by kernel_rfl) (.free (by kernel_rfl)) g89 (fun v w' h1 h2 => ⟨h1, h2⟩)
theorem in15_s2 {Q : Exit → Act → World → Prop} {w0 : World} {xs : Nat → Value} (x : EnvM) (p5 : Nat) (v0 v1 v2 v3 : Value) (p8 : Nat) (e : Ee) (k n c : Int) (s tt : ByteArray) (A : Option Addr) (len cp : Nat) (r : Trip) (x4 : X4 w0 p5 v0 v1 v2 v3) (hX : EnvV w0 x (.agg #[v0, v1, v2, v3])) (c8 : ECell w0 p8 0 k s tt n c A len cp) (hE : ExV w0 e (exprV k s tt n c A len cp)) (hev : EvOn w0 x (.mk 7 sNot ⟨#[]⟩ 0 0 [e]) (r, 0)) (hx8 : xs 8 = .pointer (some ⟨p8, 0, none⟩)) (hx5 : xs 5 = .pointer (some ⟨p5, 0, none⟩)) : OpStep Tryz.prog in15Ops Q (in15F x p5 v0 v1 v2 v3 p8 e k n c s tt A len cp r) w0 117 xs 2 := by
  intro act w hb hk hF
  have g90 : IsK [e] (act.eval (.tmp 90)) w := hF 1 (of_decide_eq_true (by kernel_rfl)) 90 (by kernel_rfl)
  exact step_call (f := 15) (xs := #[.const (.string ⟨#[110, 111, 116]⟩), .tmp 90]) (by kernel_rfl) (.free (by kernel_rfl)) (map2 rfl rfl) (enters_of Tryz.func15 (by kernel_rfl) rfl) ((opE_is sNot _ _ w g90).mono fun e w' ⟨v, h1, h2, h3⟩ => ⟨v, h1, h2, h3⟩)
theorem in15_s3 {Q : Exit → Act → World → Prop} {w0 : World} {xs : Nat → Value} (x : EnvM) (p5 : Nat) (v0 v1 v2 v3 : Value) (p8 : Nat) (e : Ee) (k n c : Int) (s tt : ByteArray) (A : Option Addr) (len cp : Nat) (r : Trip) (x4 : X4 w0 p5 v0 v1 v2 v3) (hX : EnvV w0 x (.agg #[v0, v1, v2, v3])) (c8 : ECell w0 p8 0 k s tt n c A len cp) (hE : ExV w0 e (exprV k s tt n c A len cp)) (hev : EvOn w0 x (.mk 7 sNot ⟨#[]⟩ 0 0 [e]) (r, 0)) (hx8 : xs 8 = .pointer (some ⟨p8, 0, none⟩)) (hx5 : xs 5 = .pointer (some ⟨p5, 0, none⟩)) : OpStep Tryz.prog in15Ops Q (in15F x p5 v0 v1 v2 v3 p8 e k n c s tt A len cp r) w0 117 xs 3 := by
  intro act w hb hk hF
  have g5 : act.eval (.tmp 5) = .pointer (some ⟨p5, 0, none⟩) := (hk 5 (by decide) (by kernel_rfl)).trans hx5
  exact step_loadX (show opO in15Ops 3 = some (.load 29 (.tmp 5)) by kernel_rfl) (.free (by kernel_rfl)) g5 (x4.on hb) ⟨hX.on hb, Below.refl _ _⟩
theorem in15_s4 {Q : Exit → Act → World → Prop} {w0 : World} {xs : Nat → Value} (x : EnvM) (p5 : Nat) (v0 v1 v2 v3 : Value) (p8 : Nat) (e : Ee) (k n c : Int) (s tt : ByteArray) (A : Option Addr) (len cp : Nat) (r : Trip) (x4 : X4 w0 p5 v0 v1 v2 v3) (hX : EnvV w0 x (.agg #[v0, v1, v2, v3])) (c8 : ECell w0 p8 0 k s tt n c A len cp) (hE : ExV w0 e (exprV k s tt n c A len cp)) (hev : EvOn w0 x (.mk 7 sNot ⟨#[]⟩ 0 0 [e]) (r, 0)) (hx8 : xs 8 = .pointer (some ⟨p8, 0, none⟩)) (hx5 : xs 5 = .pointer (some ⟨p5, 0, none⟩)) : OpStep Tryz.prog in15Ops Q (in15F x p5 v0 v1 v2 v3 p8 e k n c s tt A len cp r) w0 117 xs 4 := by
  intro act w hb hk hF
  have g91 : IsE (.mk 7 sNot ⟨#[]⟩ 0 0 [e]) (act.eval (.tmp 91)) w := hF 2 (of_decide_eq_true (by kernel_rfl)) 91 (by kernel_rfl)
  have g92 : IsX x (act.eval (.tmp 92)) w := hF 3 (of_decide_eq_true (by kernel_rfl)) 92 (by kernel_rfl)
  exact step_call (f := 12) (xs := #[.tmp 91, .tmp 92]) (by kernel_rfl) (.free (by kernel_rfl)) (map2 rfl rfl) (enters_of Tryz.func12 (by kernel_rfl) rfl) ((hev w _ _ hb g91 g92).mono fun e w' h => ⟨_, h.1, rfl, h.2⟩)
theorem in15_s5 {Q : Exit → Act → World → Prop} {w0 : World} {xs : Nat → Value} (x : EnvM) (p5 : Nat) (v0 v1 v2 v3 : Value) (p8 : Nat) (e : Ee) (k n c : Int) (s tt : ByteArray) (A : Option Addr) (len cp : Nat) (r : Trip) (x4 : X4 w0 p5 v0 v1 v2 v3) (hX : EnvV w0 x (.agg #[v0, v1, v2, v3])) (c8 : ECell w0 p8 0 k s tt n c A len cp) (hE : ExV w0 e (exprV k s tt n c A len cp)) (hev : EvOn w0 x (.mk 7 sNot ⟨#[]⟩ 0 0 [e]) (r, 0)) (hx8 : xs 8 = .pointer (some ⟨p8, 0, none⟩)) (hx5 : xs 5 = .pointer (some ⟨p5, 0, none⟩)) : OpStep Tryz.prog in15Ops Q (in15F x p5 v0 v1 v2 v3 p8 e k n c s tt A len cp r) w0 117 xs 5 := by
  intro act w hb hk hF
  have g93 : act.eval (.tmp 93) = .tuple #[vT r, .int .i64 0] := hF 4 (of_decide_eq_true (by kernel_rfl)) 93 (by kernel_rfl)
  exact step_move (show opO in15Ops 5 = some (.move (.tmp 93)) by kernel_rfl) (.free (by kernel_rfl)) g93 ⟨rfl, Below.refl _ _⟩
theorem in15_s6 {Q : Exit → Act → World → Prop} {w0 : World} {xs : Nat → Value} (x : EnvM) (p5 : Nat) (v0 v1 v2 v3 : Value) (p8 : Nat) (e : Ee) (k n c : Int) (s tt : ByteArray) (A : Option Addr) (len cp : Nat) (r : Trip) (x4 : X4 w0 p5 v0 v1 v2 v3) (hX : EnvV w0 x (.agg #[v0, v1, v2, v3])) (c8 : ECell w0 p8 0 k s tt n c A len cp) (hE : ExV w0 e (exprV k s tt n c A len cp)) (hev : EvOn w0 x (.mk 7 sNot ⟨#[]⟩ 0 0 [e]) (r, 0)) (hx8 : xs 8 = .pointer (some ⟨p8, 0, none⟩)) (hx5 : xs 5 = .pointer (some ⟨p5, 0, none⟩)) : OpStep Tryz.prog in15Ops Q (in15F x p5 v0 v1 v2 v3 p8 e k n c s tt A len cp r) w0 117 xs 6 := by
  intro act w hb hk hF
  have g88 : act.eval (.tmp 88) = .tuple #[vT r, .int .i64 0] := hF 5 (of_decide_eq_true (by kernel_rfl)) 88 (by kernel_rfl)
  exact step_extract (show opO in15Ops 6 = some (.extract (.tmp 88) 0) by kernel_rfl) (.free (by kernel_rfl)) g88 rfl ⟨rfl, Below.refl _ _⟩
theorem in15_s7 {Q : Exit → Act → World → Prop} {w0 : World} {xs : Nat → Value} (x : EnvM) (p5 : Nat) (v0 v1 v2 v3 : Value) (p8 : Nat) (e : Ee) (k n c : Int) (s tt : ByteArray) (A : Option Addr) (len cp : Nat) (r : Trip) (x4 : X4 w0 p5 v0 v1 v2 v3) (hX : EnvV w0 x (.agg #[v0, v1, v2, v3])) (c8 : ECell w0 p8 0 k s tt n c A len cp) (hE : ExV w0 e (exprV k s tt n c A len cp)) (hev : EvOn w0 x (.mk 7 sNot ⟨#[]⟩ 0 0 [e]) (r, 0)) (hx8 : xs 8 = .pointer (some ⟨p8, 0, none⟩)) (hx5 : xs 5 = .pointer (some ⟨p5, 0, none⟩)) : OpStep Tryz.prog in15Ops Q (fun j v w => in15Fl j = true → (in15F x p5 v0 v1 v2 v3 p8 e k n c s tt A len cp r) j v w) w0 117 xs 7 := by
  intro act w hb hk hF
  have g88 : act.eval (.tmp 88) = .tuple #[vT r, .int .i64 0] := (show in15Fl 5 = true → _ from hF 5 (of_decide_eq_true (by kernel_rfl)) 88 (by kernel_rfl)) (by kernel_rfl)
  exact step_extract (show opO in15Ops 7 = some (.extract (.tmp 88) 1) by kernel_rfl) (.free (by kernel_rfl)) g88 rfl ⟨fun _ => rfl, Below.refl _ _⟩
theorem in15_s10 {Q : Exit → Act → World → Prop} {w0 : World} {xs : Nat → Value} (x : EnvM) (p5 : Nat) (v0 v1 v2 v3 : Value) (p8 : Nat) (e : Ee) (k n c : Int) (s tt : ByteArray) (A : Option Addr) (len cp : Nat) (r : Trip) (x4 : X4 w0 p5 v0 v1 v2 v3) (hX : EnvV w0 x (.agg #[v0, v1, v2, v3])) (c8 : ECell w0 p8 0 k s tt n c A len cp) (hE : ExV w0 e (exprV k s tt n c A len cp)) (hev : EvOn w0 x (.mk 7 sNot ⟨#[]⟩ 0 0 [e]) (r, 0)) (hx8 : xs 8 = .pointer (some ⟨p8, 0, none⟩)) (hx5 : xs 5 = .pointer (some ⟨p5, 0, none⟩)) : OpStep Tryz.prog in15Ops Q (fun j v w => in15Fl j = true → (in15F x p5 v0 v1 v2 v3 p8 e k n c s tt A len cp r) j v w) w0 117 xs 10 := by
  intro act w hb hk hF
  have g95 : act.eval (.tmp 95) = .int .i64 0 := (show in15Fl 7 = true → _ from hF 7 (of_decide_eq_true (by kernel_rfl)) 95 (by kernel_rfl)) (by kernel_rfl)
  exact step_assign (show opO in15Ops 10 = some (.assign (.tmp 95)) by kernel_rfl) (.free (by kernel_rfl)) g95 ⟨fun _ => rfl, Below.refl _ _⟩
theorem in15 {Q : Exit → Act → World → Prop} {a0 : Act} {w0 : World} (x : EnvM) (p5 : Nat) (v0 v1 v2 v3 : Value) (p8 : Nat) (e : Ee) (k n c : Int) (s tt : ByteArray) (A : Option Addr) (len cp : Nat) (r : Trip) (x4 : X4 w0 p5 v0 v1 v2 v3) (hX : EnvV w0 x (.agg #[v0, v1, v2, v3])) (c8 : ECell w0 p8 0 k s tt n c A len cp) (hE : ExV w0 e (exprV k s tt n c A len cp)) (hev : EvOn w0 x (.mk 7 sNot ⟨#[]⟩ 0 0 [e]) (r, 0)) (hx8 : a0.tmps.getD 8 undef = .pointer (some ⟨p8, 0, none⟩)) (hx5 : a0.tmps.getD 5 undef = .pointer (some ⟨p5, 0, none⟩)) (hs : a0.tmps.size = 117)
    (hend : ∀ (V : Nat → Value) (p : Nat) (X : World), Below w0.heap.size w0 X → V 8 = .pointer (some ⟨p, 0, none⟩) → w0.heap.size ≤ p → p < X.heap.size → BoxF p r X → V 10 = .int .i64 0 → Q .normal ⟨fillT in15Ops a0.tmps V, a0.defers⟩ X) : (Code.region 15 in15Ops true).wp Tryz.prog Q a0 w0 := by
  refine wp_region_boxM (by kernel_rfl) (in15F x p5 v0 v1 v2 v3 p8 e k n c s tt A len cp r) 8 9 16 NewAt (fun p w => BoxF p r w) in15Fl (in15F_mono x p5 v0 v1 v2 v3 p8 e k n c s tt A len cp r) (in15F_flat x p5 v0 v1 v2 v3 p8 e k n c s tt A len cp r) (by kernel_rfl) (by kernel_rfl) (of_decide_eq_true (by kernel_rfl)) (of_decide_eq_true (by kernel_rfl)) (by decide) ?_ new_keep boxF_keep (by rw [hs]; kernel_rfl) ?_ ?_ ?_ ?_ ?_
  · have size_is : in15Ops.size = 11 := by kernel_rfl
    rw [size_is]
    intro i hi h1 h2
    have hq : ((List.range 11).all fun i => decide (i ∈ depsO in15Ops 9) || decide (i = 9) || in15Fl i) = true := by kernel_rfl
    have := List.all_eq_true.1 hq i (List.mem_range.2 hi)
    simp only [Bool.or_eq_true, decide_eq_true_eq] at this
    rcases this with (h | h) | h
    · exact absurd h h1
    · exact absurd h h2
    · exact h
  · rw [hs]
    have size_is : in15Ops.size = 11 := by kernel_rfl
    rw [size_is]
    intro i hi hne1 hne2 hdp
    have hall : ∀ j, j < 11 → j = i → OpStep Tryz.prog in15Ops Q (in15F x p5 v0 v1 v2 v3 p8 e k n c s tt A len cp r) w0 117 (fun t => a0.tmps.getD t undef) j := by
      intro j hj hji
      match j, hj with
      | 0, _ => exact in15_s0 x p5 v0 v1 v2 v3 p8 e k n c s tt A len cp r x4 hX c8 hE hev hx8 hx5
      | 1, _ => exact in15_s1 x p5 v0 v1 v2 v3 p8 e k n c s tt A len cp r x4 hX c8 hE hev hx8 hx5
      | 2, _ => exact in15_s2 x p5 v0 v1 v2 v3 p8 e k n c s tt A len cp r x4 hX c8 hE hev hx8 hx5
      | 3, _ => exact in15_s3 x p5 v0 v1 v2 v3 p8 e k n c s tt A len cp r x4 hX c8 hE hev hx8 hx5
      | 4, _ => exact in15_s4 x p5 v0 v1 v2 v3 p8 e k n c s tt A len cp r x4 hX c8 hE hev hx8 hx5
      | 5, _ => exact in15_s5 x p5 v0 v1 v2 v3 p8 e k n c s tt A len cp r x4 hX c8 hE hev hx8 hx5
      | 6, _ => exact in15_s6 x p5 v0 v1 v2 v3 p8 e k n c s tt A len cp r x4 hX c8 hE hev hx8 hx5
      | 7, _ => exact absurd hdp (by rw [← hji]; decide)
      | 8, _ => exact absurd hji.symm hne1
      | 9, _ => exact absurd hji.symm hne2
      | 10, _ => exact absurd hdp (by rw [← hji]; decide)
      | q + 11, hj => exact absurd hj (by omega)
    exact hall i hi rfl
  · rw [hs]
    have size_is : in15Ops.size = 11 := by kernel_rfl
    rw [size_is]
    intro i hi hne1 hne2 hdp
    have hall : ∀ j, j < 11 → j = i → OpStep Tryz.prog in15Ops Q (fun j v w => in15Fl j = true → (in15F x p5 v0 v1 v2 v3 p8 e k n c s tt A len cp r) j v w) w0 117 (fun t => a0.tmps.getD t undef) j := by
      intro j hj hji
      match j, hj with
      | 0, _ => exact absurd hdp (by rw [← hji]; exact fun h => h (by decide))
      | 1, _ => exact absurd hdp (by rw [← hji]; exact fun h => h (by decide))
      | 2, _ => exact absurd hdp (by rw [← hji]; exact fun h => h (by decide))
      | 3, _ => exact absurd hdp (by rw [← hji]; exact fun h => h (by decide))
      | 4, _ => exact absurd hdp (by rw [← hji]; exact fun h => h (by decide))
      | 5, _ => exact absurd hdp (by rw [← hji]; exact fun h => h (by decide))
      | 6, _ => exact absurd hdp (by rw [← hji]; exact fun h => h (by decide))
      | 7, _ => exact in15_s7 x p5 v0 v1 v2 v3 p8 e k n c s tt A len cp r x4 hX c8 hE hev hx8 hx5
      | 8, _ => exact absurd hji.symm hne1
      | 9, _ => exact absurd hji.symm hne2
      | 10, _ => exact in15_s10 x p5 v0 v1 v2 v3 p8 e k n c s tt A len cp r x4 hX c8 hE hev hx8 hx5
      | q + 11, hj => exact absurd hj (by omega)
    exact hall i hi rfl
  · intro a w hb
    exact step_allocV (by kernel_rfl) (.free (by kernel_rfl)) (by kernel_rfl) (fun _ _ => trivial)
  · intro act w p hb hp0 hp1 hp hn hF
    have gy : act.eval (.tmp 94) = vT r := hF 6 (of_decide_eq_true (by kernel_rfl)) 94 (by kernel_rfl)
    exact step_storeF (show opO in15Ops 9 = some (.store 38 (.tmp 16) (.tmp 94)) by kernel_rfl) (.free (by kernel_rfl)) (by kernel_rfl) hp gy hb hp0 hp1 hn
  · intro V p X hb hp hp0 hp1 hB hV
    exact hend V p X hb hp hp0 hp1 hB (hV 10 (of_decide_eq_true (by kernel_rfl)) (by kernel_rfl) (by kernel_rfl))
end Go.Proofs.YtbelhgdogafedaaGreatDoor

namespace Go.Proofs.YtbelhgdogafedaaGreatDoor
open Go.ChangeShapes Go.WideShapes Go.ChangeAt Go.RowKit
set_option linter.unusedVariables false
set_option linter.unusedSimpArgs false
set_option maxRecDepth 100000

abbrev set6 (w : World) (p : Nat) (k : Int) (s t : ByteArray) (n c : Int) (A : Option Addr) (len cap : Nat) : World :=
  (((((w.setCell ⟨p, 0, none⟩ (.int .u8 k)).setCell ⟨p, 1, none⟩ (.string s)).setCell ⟨p, 2, none⟩ (.string t)).setCell ⟨p, 3, none⟩ (.int .i64 n)).setCell ⟨p, 4, none⟩ (.int .i64 c)).setCell ⟨p, 5, none⟩ (.slice A len cap)
theorem set6_other (w : World) (p : Nat) (k : Int) (s t : ByteArray) (n c : Int) (A : Option Addr) (len cap : Nat) (b : Nat) (h : b ≠ p) : (set6 w p k s t n c A len cap).heap[b]? = w.heap[b]? := by
  unfold set6
  rw [_root_.Go.Deep.blk_setCell_other _ _ _ _ h, _root_.Go.Deep.blk_setCell_other _ _ _ _ h, _root_.Go.Deep.blk_setCell_other _ _ _ _ h, _root_.Go.Deep.blk_setCell_other _ _ _ _ h, _root_.Go.Deep.blk_setCell_other _ _ _ _ h, _root_.Go.Deep.blk_setCell_other _ _ _ _ h]
theorem set6_size (w : World) (p : Nat) (k : Int) (s t : ByteArray) (n c : Int) (A : Option Addr) (len cap : Nat) : (set6 w p k s t n c A len cap).heap.size = w.heap.size := by
  unfold set6
  simp
/-- a box with an expression, that may be written -/
def PE (p : Nat) (q : Nat → Prop) (e : Ee) (w : World) : Prop := ∃ k s t n c A len cap, ECell w p 0 k s t n c A len cap ∧ (w.frozen? ⟨p, 0, none⟩ = false ∧ w.frozen? ⟨p, 1, none⟩ = false ∧ w.frozen? ⟨p, 2, none⟩ = false ∧ w.frozen? ⟨p, 3, none⟩ = false ∧ w.frozen? ⟨p, 4, none⟩ = false ∧ w.frozen? ⟨p, 5, none⟩ = false) ∧ IsEq q e (exprV k s t n c A len cap) w
theorem PE.lt {p : Nat} {q : Nat → Prop} {e : Ee} {w : World} (h : PE p q e w) : p < w.heap.size := by
  obtain ⟨k, s, t, n, c, A, len, cap, hc, -⟩ := h
  exact block_lt_of_cell hc.1
theorem PE.on {p : Nat} {q : Nat → Prop} {e : Ee} {w w' : World} (h : PE p q e w) (hb : Below w.heap.size w w') : PE p q e w' := by
  have hlt := h.lt
  obtain ⟨k, s, t, n, c, A, len, cap, h1, ⟨f0, f1, f2, f3, f4, f5⟩, h3⟩ := h
  obtain ⟨hc, hf⟩ := bcell hb
  exact ⟨k, s, t, n, c, A, len, cap, h1.on hb, ⟨(hf _ _ hlt).trans f0, (hf _ _ hlt).trans f1, (hf _ _ hlt).trans f2, (hf _ _ hlt).trans f3, (hf _ _ hlt).trans f4, (hf _ _ hlt).trans f5⟩, mono_isEq q e _ _ _ h3 hb⟩
section
variable {ops : Array Oper} {Q : Exit → Act → World → Prop} {i : Nat} {a : Act} {w : World} {R : Value → World → Prop}
theorem step_storeE {x y : Operand} {p : Nat} {q : Nat → Prop} (hqp : q p) {e e2 : Ee} (hop : opO ops i = some (.store 25 x y)) (hw : Wanted ops i a) (hd : dstO ops i = none) (hx : a.eval x = .pointer (some ⟨p, 0, none⟩)) (hy : IsEq q e (a.eval y) w) (hn : PE p q e2 w) :
    wpOp Tryz.prog ops Q i (fun a' w' => a' = a ∧ ∃ k s t n c A len cap, w' = set6 w p k s t n c A len cap ∧ PE p q e w') a w := by
  have hlt := hn.lt
  obtain ⟨k', s', t', n', c', A', len', cap', ⟨h0, h1, h2, h3, h4, h5⟩, ⟨f0, f1, f2, f3, f4, f5⟩, -⟩ := hn
  obtain ⟨k, s, t, n, c, A, len, cap, hv⟩ := exv_form hy.now
  rw [hv] at hy
  simp only [Nat.zero_add] at h0 h1 h2 h3 h4 h5
  cases ho : ops[i]? with
  | none => simp [opO, ho] at hop
  | some o =>
    have hoo : o.op = .store 25 x y := by simpa [opO, ho] using hop
    have hdn : o.dst = none := by simpa [dstO, ho] using hd
    have hrun : (execOp a.eval o).run Tryz.prog w = .ok .skip (set6 w p k s t n c A len cap) := by
      simp only [execOp, hoo, hx, hv]
      simp [go_sem, h0, h1, h2, h3, h4, h5, f0, f1, f2, f3, f4, f5]
    unfold wpOp
    rw [ho]
    simp only
    rw [if_pos (hw.is ho)]
    left
    unfold Oper.wp
    rw [hrun]
    refine ⟨by simp [hdn, Act.put], k, s, t, n, c, A, len, cap, rfl, k, s, t, n, c, A, len, cap, ⟨?_, ?_, ?_, ?_, ?_, ?_⟩, ⟨?_, ?_, ?_, ?_, ?_, ?_⟩, ?_⟩
    · simp [go_sem, h0, h1, h2, h3, h4, h5]
    · simp [go_sem, h0, h1, h2, h3, h4, h5]
    · simp [go_sem, h0, h1, h2, h3, h4, h5]
    · simp [go_sem, h0, h1, h2, h3, h4, h5]
    · simp [go_sem, h0, h1, h2, h3, h4, h5]
    · simp [go_sem, h0, h1, h2, h3, h4, h5]
    · simp [go_sem, f0, f1, f2, f3, f4, f5]
    · simp [go_sem, f0, f1, f2, f3, f4, f5]
    · simp [go_sem, f0, f1, f2, f3, f4, f5]
    · simp [go_sem, f0, f1, f2, f3, f4, f5]
    · simp [go_sem, f0, f1, f2, f3, f4, f5]
    · simp [go_sem, f0, f1, f2, f3, f4, f5]
    · intro w2 hA
      exact hy w2 fun b hb hne => (hA b (by rw [set6_size]; exact hb) hne).trans (set6_other _ _ _ _ _ _ _ _ _ _ _ fun e => hne (e ▸ hqp))
end
theorem mono_isQ {q : Nat → Prop} (e : Ee) : MonoF (IsEq q e) := mono_isEq q e
theorem mono_isW {q : Nat → Prop} (l : List Ee) : MonoF (IsKq q l) := mono_isKq q l
noncomputable def in11Ops : Array Oper := regOf Tryz.f4 11
theorem in11_fill {v0 v1 v2 v3 v4 v5 v6 v7 v8 v9 v10 v11 v12 v13 v14 v15 v16 v17 v18 v19 v20 v21 v22 v23 v24 v25 v26 v27 v28 v29 v30 v31 v32 v33 v34 v35 v36 v37 v38 v39 v40 v41 v42 v43 v44 v45 v46 v47 v48 v49 v50 v51 v52 v53 v54 v55 v56 v57 v58 v59 v60 v61 v62 v63 v64 v65 v66 v67 v68 v69 v70 v71 v72 v73 v74 v75 v76 v77 v78 v79 v80 v81 v82 v83 v84 v85 v86 v87 v88 v89 v90 v91 v92 v93 v94 v95 v96 v97 v98 v99 v100 v101 v102 v103 v104 v105 v106 v107 v108 v109 v110 v111 v112 v113 v114 v115 v116 : Value} (V : Nat → Value) : fillT in11Ops #[v0, v1, v2, v3, v4, v5, v6, v7, v8, v9, v10, v11, v12, v13, v14, v15, v16, v17, v18, v19, v20, v21, v22, v23, v24, v25, v26, v27, v28, v29, v30, v31, v32, v33, v34, v35, v36, v37, v38, v39, v40, v41, v42, v43, v44, v45, v46, v47, v48, v49, v50, v51, v52, v53, v54, v55, v56, v57, v58, v59, v60, v61, v62, v63, v64, v65, v66, v67, v68, v69, v70, v71, v72, v73, v74, v75, v76, v77, v78, v79, v80, v81, v82, v83, v84, v85, v86, v87, v88, v89, v90, v91, v92, v93, v94, v95, v96, v97, v98, v99, v100, v101, v102, v103, v104, v105, v106, v107, v108, v109, v110, v111, v112, v113, v114, v115, v116] V = #[v0, v1, v2, v3, v4, v5, v6, v7, v8, v9, v10, v11, v12, v13, v14, v15, v16, v17, v18, v19, v20, v21, v22, v23, v24, v25, v26, v27, v28, v29, v30, v31, v32, v33, v34, v35, v36, v37, v38, v39, v40, v41, v42, v43, v44, v45, v46, v47, v48, v49, v50, v51, v52, v53, v54, v55, v56, v57, V 0, V 1, V 2, V 3, V 4, V 5, V 6, V 7, V 8, V 9, v68, v69, v70, v71, v72, v73, v74, v75, v76, v77, v78, v79, v80, v81, v82, v83, v84, v85, v86, v87, v88, v89, v90, v91, v92, v93, v94, v95, v96, v97, v98, v99, v100, v101, v102, v103, v104, v105, v106, v107, v108, v109, v110, v111, v112, v113, v114, v115, v116] := by
  kernel_rfl
def in11L (p8 k : Nat) (q : Nat → Prop) (kk n c : Int) (s tt : ByteArray) (A : Option Addr) (len cp : Nat) : List (Value → World → Prop) := [IsEq q ((orE k)), IsV (.func (.func 14) #[] #[]), IsEq q ((lf 5 0)), IsV (.func (.func 14) #[] #[]), IsV (.int .i64 ((k + 1 : Nat) : Int)), IsEq q ((lf 5 ((k + 1 : Nat) : Int))), IsKq q [(lf 5 0), (lf 5 ((k + 1 : Nat) : Int))], IsEq q ((.mk 7 sEq ⟨#[]⟩ 0 0 [(lf 5 0), (lf 5 ((k + 1 : Nat) : Int))])), IsKq q ([(orE k), (.mk 7 sEq ⟨#[]⟩ 0 0 [(lf 5 0), (lf 5 ((k + 1 : Nat) : Int))])]), IsEq q ((.mk 7 sOr ⟨#[]⟩ 0 0 [(orE k), (.mk 7 sEq ⟨#[]⟩ 0 0 [(lf 5 0), (lf 5 ((k + 1 : Nat) : Int))])])), AnyF]
def in11F (p8 k : Nat) (q : Nat → Prop) (kk n c : Int) (s tt : ByteArray) (A : Option Addr) (len cp : Nat) (i : Nat) : Value → World → Prop := (in11L p8 k q kk n c s tt A len cp).getD i AnyF
theorem in11F_mono (p8 k : Nat) (q : Nat → Prop) (kk n c : Int) (s tt : ByteArray) (A : Option Addr) (len cp : Nat) (i : Nat) (v : Value) (w w' : World) (hp : (in11F p8 k q kk n c s tt A len cp) i v w) (hb : Below w.heap.size w w') : (in11F p8 k q kk n c s tt A len cp) i v w' := by
  refine monoL ?_ i v w w' hp hb
  unfold in11L
  simp only [List.forall_mem_cons]
  exact ⟨mono_isQ _, mono_isV _, mono_isQ _, mono_isV _, mono_isV _, mono_isQ _, mono_isW _, mono_isQ _, mono_isW _, mono_isQ _, mono_any, fun _ h => by cases h⟩
theorem in11_s0 {Q : Exit → Act → World → Prop} {w0 : World} {xs : Nat → Value} (p8 k : Nat) (q : Nat → Prop) (kk n c : Int) (s tt : ByteArray) (A : Option Addr) (len cp : Nat) (hqn : ∀ b, w0.heap.size ≤ b → ¬ q b) (hqp : q p8) (c8 : ECell w0 p8 0 kk s tt n c A len cp) (hq : IsEq q (orE k) (exprV kk s tt n c A len cp) w0) (hpe : PE p8 q (orE k) w0) (hx8 : xs 8 = .pointer (some ⟨p8, 0, none⟩)) (hx6 : xs 6 = .func (.func 14) #[] #[]) (hx9 : xs 9 = .int .i64 ((k + 1 : Nat) : Int)) : OpStep Tryz.prog in11Ops Q (in11F p8 k q kk n c s tt A len cp) w0 117 xs 0 := by
  intro act w hb hk hF
  have g8 : act.eval (.tmp 8) = .pointer (some ⟨p8, 0, none⟩) := (hk 8 (by decide) (by kernel_rfl)).trans hx8
  exact step_loadE (show opO in11Ops 0 = some (.load 25 (.tmp 8)) by kernel_rfl) (.free (by kernel_rfl)) g8 (c8.on hb) ⟨mono_isEq _ _ _ _ _ hq hb, Below.refl _ _⟩
theorem in11_s1 {Q : Exit → Act → World → Prop} {w0 : World} {xs : Nat → Value} (p8 k : Nat) (q : Nat → Prop) (kk n c : Int) (s tt : ByteArray) (A : Option Addr) (len cp : Nat) (hqn : ∀ b, w0.heap.size ≤ b → ¬ q b) (hqp : q p8) (c8 : ECell w0 p8 0 kk s tt n c A len cp) (hq : IsEq q (orE k) (exprV kk s tt n c A len cp) w0) (hpe : PE p8 q (orE k) w0) (hx8 : xs 8 = .pointer (some ⟨p8, 0, none⟩)) (hx6 : xs 6 = .func (.func 14) #[] #[]) (hx9 : xs 9 = .int .i64 ((k + 1 : Nat) : Int)) : OpStep Tryz.prog in11Ops Q (in11F p8 k q kk n c s tt A len cp) w0 117 xs 1 := by
  intro act w hb hk hF
  have g6 : act.eval (.tmp 6) = .func (.func 14) #[] #[] := (hk 6 (by decide) (by kernel_rfl)).trans hx6
  exact step_move (show opO in11Ops 1 = some (.move (.tmp 6)) by kernel_rfl) (.free (by kernel_rfl)) g6 ⟨rfl, Below.refl _ _⟩
theorem in11_s2 {Q : Exit → Act → World → Prop} {w0 : World} {xs : Nat → Value} (p8 k : Nat) (q : Nat → Prop) (kk n c : Int) (s tt : ByteArray) (A : Option Addr) (len cp : Nat) (hqn : ∀ b, w0.heap.size ≤ b → ¬ q b) (hqp : q p8) (c8 : ECell w0 p8 0 kk s tt n c A len cp) (hq : IsEq q (orE k) (exprV kk s tt n c A len cp) w0) (hpe : PE p8 q (orE k) w0) (hx8 : xs 8 = .pointer (some ⟨p8, 0, none⟩)) (hx6 : xs 6 = .func (.func 14) #[] #[]) (hx9 : xs 9 = .int .i64 ((k + 1 : Nat) : Int)) : OpStep Tryz.prog in11Ops Q (in11F p8 k q kk n c s tt A len cp) w0 117 xs 2 := by
  intro act w hb hk hF
  have g59 : act.eval (.tmp 59) = .func (.func 14) #[] #[] := hF 1 (of_decide_eq_true (by kernel_rfl)) 59 (by kernel_rfl)
  exact step_callC (show opO in11Ops 2 = some (.call { callee := .value (.tmp 59), args := #[.const (.int .i64 0)], argTypes := #[3] }) by kernel_rfl) (.free (by kernel_rfl)) g59 rfl (enters_of Tryz.func14 (by kernel_rfl) rfl) (by rw [Array.append_empty]; exact (bind_any 0 w).mono fun e w' h => ⟨_, h.1, isEq_leaf q 5 _ w', h.2⟩)
theorem in11_s3 {Q : Exit → Act → World → Prop} {w0 : World} {xs : Nat → Value} (p8 k : Nat) (q : Nat → Prop) (kk n c : Int) (s tt : ByteArray) (A : Option Addr) (len cp : Nat) (hqn : ∀ b, w0.heap.size ≤ b → ¬ q b) (hqp : q p8) (c8 : ECell w0 p8 0 kk s tt n c A len cp) (hq : IsEq q (orE k) (exprV kk s tt n c A len cp) w0) (hpe : PE p8 q (orE k) w0) (hx8 : xs 8 = .pointer (some ⟨p8, 0, none⟩)) (hx6 : xs 6 = .func (.func 14) #[] #[]) (hx9 : xs 9 = .int .i64 ((k + 1 : Nat) : Int)) : OpStep Tryz.prog in11Ops Q (in11F p8 k q kk n c s tt A len cp) w0 117 xs 3 := by
  intro act w hb hk hF
  have g6 : act.eval (.tmp 6) = .func (.func 14) #[] #[] := (hk 6 (by decide) (by kernel_rfl)).trans hx6
  exact step_move (show opO in11Ops 3 = some (.move (.tmp 6)) by kernel_rfl) (.free (by kernel_rfl)) g6 ⟨rfl, Below.refl _ _⟩
theorem in11_s4 {Q : Exit → Act → World → Prop} {w0 : World} {xs : Nat → Value} (p8 k : Nat) (q : Nat → Prop) (kk n c : Int) (s tt : ByteArray) (A : Option Addr) (len cp : Nat) (hqn : ∀ b, w0.heap.size ≤ b → ¬ q b) (hqp : q p8) (c8 : ECell w0 p8 0 kk s tt n c A len cp) (hq : IsEq q (orE k) (exprV kk s tt n c A len cp) w0) (hpe : PE p8 q (orE k) w0) (hx8 : xs 8 = .pointer (some ⟨p8, 0, none⟩)) (hx6 : xs 6 = .func (.func 14) #[] #[]) (hx9 : xs 9 = .int .i64 ((k + 1 : Nat) : Int)) : OpStep Tryz.prog in11Ops Q (in11F p8 k q kk n c s tt A len cp) w0 117 xs 4 := by
  intro act w hb hk hF
  have g9 : act.eval (.tmp 9) = .int .i64 ((k + 1 : Nat) : Int) := (hk 9 (by decide) (by kernel_rfl)).trans hx9
  exact step_move (show opO in11Ops 4 = some (.move (.tmp 9)) by kernel_rfl) (.free (by kernel_rfl)) g9 ⟨rfl, Below.refl _ _⟩
theorem in11_s5 {Q : Exit → Act → World → Prop} {w0 : World} {xs : Nat → Value} (p8 k : Nat) (q : Nat → Prop) (kk n c : Int) (s tt : ByteArray) (A : Option Addr) (len cp : Nat) (hqn : ∀ b, w0.heap.size ≤ b → ¬ q b) (hqp : q p8) (c8 : ECell w0 p8 0 kk s tt n c A len cp) (hq : IsEq q (orE k) (exprV kk s tt n c A len cp) w0) (hpe : PE p8 q (orE k) w0) (hx8 : xs 8 = .pointer (some ⟨p8, 0, none⟩)) (hx6 : xs 6 = .func (.func 14) #[] #[]) (hx9 : xs 9 = .int .i64 ((k + 1 : Nat) : Int)) : OpStep Tryz.prog in11Ops Q (in11F p8 k q kk n c s tt A len cp) w0 117 xs 5 := by
  intro act w hb hk hF
  have g61 : act.eval (.tmp 61) = .func (.func 14) #[] #[] := hF 3 (of_decide_eq_true (by kernel_rfl)) 61 (by kernel_rfl)
  have g62 : act.eval (.tmp 62) = .int .i64 ((k + 1 : Nat) : Int) := hF 4 (of_decide_eq_true (by kernel_rfl)) 62 (by kernel_rfl)
  exact step_callC (show opO in11Ops 5 = some (.call { callee := .value (.tmp 61), args := #[.tmp 62], argTypes := #[3] }) by kernel_rfl) (.free (by kernel_rfl)) g61 g62 (enters_of Tryz.func14 (by kernel_rfl) rfl) (by rw [Array.append_empty]; exact (bind_any ((k + 1 : Nat) : Int) w).mono fun e w' h => ⟨_, h.1, isEq_leaf q 5 _ w', h.2⟩)
theorem in11_s6 {Q : Exit → Act → World → Prop} {w0 : World} {xs : Nat → Value} (p8 k : Nat) (q : Nat → Prop) (kk n c : Int) (s tt : ByteArray) (A : Option Addr) (len cp : Nat) (hqn : ∀ b, w0.heap.size ≤ b → ¬ q b) (hqp : q p8) (c8 : ECell w0 p8 0 kk s tt n c A len cp) (hq : IsEq q (orE k) (exprV kk s tt n c A len cp) w0) (hpe : PE p8 q (orE k) w0) (hx8 : xs 8 = .pointer (some ⟨p8, 0, none⟩)) (hx6 : xs 6 = .func (.func 14) #[] #[]) (hx9 : xs 9 = .int .i64 ((k + 1 : Nat) : Int)) : OpStep Tryz.prog in11Ops Q (in11F p8 k q kk n c s tt A len cp) w0 117 xs 6 := by
  intro act w hb hk hF
  have g60 : IsEq q ((lf 5 0)) (act.eval (.tmp 60)) w := hF 2 (of_decide_eq_true (by kernel_rfl)) 60 (by kernel_rfl)
  have g63 : IsEq q ((lf 5 ((k + 1 : Nat) : Int))) (act.eval (.tmp 63)) w := hF 5 (of_decide_eq_true (by kernel_rfl)) 63 (by kernel_rfl)
  exact step_kq2 (hqn _ hb.size) (show opO in11Ops 6 = some (.buildSlice 23 2 #[(0, .tmp 60), (1, .tmp 63)]) by kernel_rfl) (.free (by kernel_rfl)) g60 g63 (fun v w' h1 h2 => ⟨h1, h2⟩)
theorem in11_s7 {Q : Exit → Act → World → Prop} {w0 : World} {xs : Nat → Value} (p8 k : Nat) (q : Nat → Prop) (kk n c : Int) (s tt : ByteArray) (A : Option Addr) (len cp : Nat) (hqn : ∀ b, w0.heap.size ≤ b → ¬ q b) (hqp : q p8) (c8 : ECell w0 p8 0 kk s tt n c A len cp) (hq : IsEq q (orE k) (exprV kk s tt n c A len cp) w0) (hpe : PE p8 q (orE k) w0) (hx8 : xs 8 = .pointer (some ⟨p8, 0, none⟩)) (hx6 : xs 6 = .func (.func 14) #[] #[]) (hx9 : xs 9 = .int .i64 ((k + 1 : Nat) : Int)) : OpStep Tryz.prog in11Ops Q (in11F p8 k q kk n c s tt A len cp) w0 117 xs 7 := by
  intro act w hb hk hF
  have g64 : IsKq q [(lf 5 0), (lf 5 ((k + 1 : Nat) : Int))] (act.eval (.tmp 64)) w := hF 6 (of_decide_eq_true (by kernel_rfl)) 64 (by kernel_rfl)
  exact step_call (f := 15) (xs := #[.const (.string ⟨#[61]⟩), .tmp 64]) (by kernel_rfl) (.free (by kernel_rfl)) (map2 rfl rfl) (enters_of Tryz.func15 (by kernel_rfl) rfl) ((opEq_is q sEq _ _ w g64).mono fun e w' ⟨v, h1, h2, h3⟩ => ⟨v, h1, h2, h3⟩)
theorem in11_s8 {Q : Exit → Act → World → Prop} {w0 : World} {xs : Nat → Value} (p8 k : Nat) (q : Nat → Prop) (kk n c : Int) (s tt : ByteArray) (A : Option Addr) (len cp : Nat) (hqn : ∀ b, w0.heap.size ≤ b → ¬ q b) (hqp : q p8) (c8 : ECell w0 p8 0 kk s tt n c A len cp) (hq : IsEq q (orE k) (exprV kk s tt n c A len cp) w0) (hpe : PE p8 q (orE k) w0) (hx8 : xs 8 = .pointer (some ⟨p8, 0, none⟩)) (hx6 : xs 6 = .func (.func 14) #[] #[]) (hx9 : xs 9 = .int .i64 ((k + 1 : Nat) : Int)) : OpStep Tryz.prog in11Ops Q (in11F p8 k q kk n c s tt A len cp) w0 117 xs 8 := by
  intro act w hb hk hF
  have g58 : IsEq q ((orE k)) (act.eval (.tmp 58)) w := hF 0 (of_decide_eq_true (by kernel_rfl)) 58 (by kernel_rfl)
  have g65 : IsEq q ((.mk 7 sEq ⟨#[]⟩ 0 0 [(lf 5 0), (lf 5 ((k + 1 : Nat) : Int))])) (act.eval (.tmp 65)) w := hF 7 (of_decide_eq_true (by kernel_rfl)) 65 (by kernel_rfl)
  exact step_kq2 (hqn _ hb.size) (show opO in11Ops 8 = some (.buildSlice 23 2 #[(0, .tmp 58), (1, .tmp 65)]) by kernel_rfl) (.free (by kernel_rfl)) g58 g65 (fun v w' h1 h2 => ⟨h1, h2⟩)
theorem in11_s9 {Q : Exit → Act → World → Prop} {w0 : World} {xs : Nat → Value} (p8 k : Nat) (q : Nat → Prop) (kk n c : Int) (s tt : ByteArray) (A : Option Addr) (len cp : Nat) (hqn : ∀ b, w0.heap.size ≤ b → ¬ q b) (hqp : q p8) (c8 : ECell w0 p8 0 kk s tt n c A len cp) (hq : IsEq q (orE k) (exprV kk s tt n c A len cp) w0) (hpe : PE p8 q (orE k) w0) (hx8 : xs 8 = .pointer (some ⟨p8, 0, none⟩)) (hx6 : xs 6 = .func (.func 14) #[] #[]) (hx9 : xs 9 = .int .i64 ((k + 1 : Nat) : Int)) : OpStep Tryz.prog in11Ops Q (in11F p8 k q kk n c s tt A len cp) w0 117 xs 9 := by
  intro act w hb hk hF
  have g66 : IsKq q ([(orE k), (.mk 7 sEq ⟨#[]⟩ 0 0 [(lf 5 0), (lf 5 ((k + 1 : Nat) : Int))])]) (act.eval (.tmp 66)) w := hF 8 (of_decide_eq_true (by kernel_rfl)) 66 (by kernel_rfl)
  exact step_call (f := 15) (xs := #[.const (.string ⟨#[111, 114]⟩), .tmp 66]) (by kernel_rfl) (.free (by kernel_rfl)) (map2 rfl rfl) (enters_of Tryz.func15 (by kernel_rfl) rfl) ((opEq_is q sOr _ _ w g66).mono fun e w' ⟨v, h1, h2, h3⟩ => ⟨v, h1, h2, h3⟩)
theorem in11 {Q : Exit → Act → World → Prop} {a0 : Act} {w0 : World} (p8 k : Nat) (q : Nat → Prop) (kk n c : Int) (s tt : ByteArray) (A : Option Addr) (len cp : Nat) (hqn : ∀ b, w0.heap.size ≤ b → ¬ q b) (hqp : q p8) (c8 : ECell w0 p8 0 kk s tt n c A len cp) (hq : IsEq q (orE k) (exprV kk s tt n c A len cp) w0) (hpe : PE p8 q (orE k) w0) (hx8 : a0.tmps.getD 8 undef = .pointer (some ⟨p8, 0, none⟩)) (hx6 : a0.tmps.getD 6 undef = .func (.func 14) #[] #[]) (hx9 : a0.tmps.getD 9 undef = .int .i64 ((k + 1 : Nat) : Int)) (hs : a0.tmps.size = 117)
    (hend : ∀ (V : Nat → Value) (X : World), (∃ w k2 s t n c A len cap, Below w0.heap.size w0 w ∧ X = set6 w p8 k2 s t n c A len cap ∧ PE p8 q (orE (k + 1)) X) → Q .normal ⟨fillT in11Ops a0.tmps V, a0.defers⟩ X) : (Code.region 11 in11Ops true).wp Tryz.prog Q a0 w0 := by
  have size_is : in11Ops.size = 11 := by kernel_rfl
  refine wp_region_last (by kernel_rfl) (in11F p8 k q kk n c s tt A len cp) 10 (fun X => ∃ w k2 s t n c A len cap, Below w0.heap.size w0 w ∧ X = set6 w p8 k2 s t n c A len cap ∧ PE p8 q (orE (k + 1)) X) (in11F_mono p8 k q kk n c s tt A len cp) (by kernel_rfl) (of_decide_eq_true (by kernel_rfl)) ?_ (by rw [hs]; kernel_rfl) ?_ ?_ ?_
  · rw [size_is]
    intro i hi h1
    have hq : ((List.range 11).all fun i => decide (i ∈ depsO in11Ops 10) || decide (i = 10)) = true := by kernel_rfl
    have := List.all_eq_true.1 hq i (List.mem_range.2 hi)
    simp only [Bool.or_eq_true, decide_eq_true_eq] at this
    rcases this with h | h
    · exact h
    · exact absurd h h1
  · rw [hs, size_is]
    intro i hi hne
    have hall : ∀ j, j < 11 → j = i → OpStep Tryz.prog in11Ops Q (in11F p8 k q kk n c s tt A len cp) w0 117 (fun t => a0.tmps.getD t undef) j := by
      intro j hj hji
      match j, hj with
      | 0, _ => exact in11_s0 p8 k q kk n c s tt A len cp hqn hqp c8 hq hpe hx8 hx6 hx9
      | 1, _ => exact in11_s1 p8 k q kk n c s tt A len cp hqn hqp c8 hq hpe hx8 hx6 hx9
      | 2, _ => exact in11_s2 p8 k q kk n c s tt A len cp hqn hqp c8 hq hpe hx8 hx6 hx9
      | 3, _ => exact in11_s3 p8 k q kk n c s tt A len cp hqn hqp c8 hq hpe hx8 hx6 hx9
      | 4, _ => exact in11_s4 p8 k q kk n c s tt A len cp hqn hqp c8 hq hpe hx8 hx6 hx9
      | 5, _ => exact in11_s5 p8 k q kk n c s tt A len cp hqn hqp c8 hq hpe hx8 hx6 hx9
      | 6, _ => exact in11_s6 p8 k q kk n c s tt A len cp hqn hqp c8 hq hpe hx8 hx6 hx9
      | 7, _ => exact in11_s7 p8 k q kk n c s tt A len cp hqn hqp c8 hq hpe hx8 hx6 hx9
      | 8, _ => exact in11_s8 p8 k q kk n c s tt A len cp hqn hqp c8 hq hpe hx8 hx6 hx9
      | 9, _ => exact in11_s9 p8 k q kk n c s tt A len cp hqn hqp c8 hq hpe hx8 hx6 hx9
      | 10, _ => exact absurd hji.symm hne
      | qq + 11, hj => exact absurd hj (by omega)
    exact hall i hi rfl
  · intro act w hb hk hF
    have g8 : act.eval (.tmp 8) = .pointer (some ⟨p8, 0, none⟩) := (hk 8 (by rw [hs]; decide) (by kernel_rfl)).trans hx8
    have g67 : IsEq q (.mk 7 sOr ⟨#[]⟩ 0 0 [(orE k), (.mk 7 sEq ⟨#[]⟩ 0 0 [(lf 5 0), (lf 5 ((k + 1 : Nat) : Int))])]) (act.eval (.tmp 67)) w := hF 9 (of_decide_eq_true (by kernel_rfl)) 67 (by kernel_rfl)
    refine wpOp_mono ?_ (step_storeE hqp (show opO in11Ops 10 = some (.store 25 (.tmp 8) (.tmp 67)) by kernel_rfl) (.free (by kernel_rfl)) (by kernel_rfl) g8 g67 (hpe.on hb))
    rintro a' w' ⟨h1, k2, s2, t2, n2, c2, A2, len2, cap2, h2, h3⟩
    exact ⟨h1, w, k2, s2, t2, n2, c2, A2, len2, cap2, hb, h2, h3⟩
  · exact hend
end Go.Proofs.YtbelhgdogafedaaGreatDoor

namespace Go.Proofs.YtbelhgdogafedaaGreatDoor
open Go.ChangeShapes Go.WideShapes Go.ChangeAt Go.RowKit
set_option linter.unusedVariables false
set_option linter.unusedSimpArgs false
set_option maxRecDepth 100000

theorem add_plainI (b o n : Nat) : (⟨b, o, none⟩ : Addr).add n = ⟨b, o + n, none⟩ := by
  unfold Addr.add
  by_cases hn : n = 0 <;> simp [hn]
theorem cells_of_rd {w : World} {b o : Nat} : ∀ (l : List Trip), (∀ (i : Nat) (t : Trip), l[i]? = some t → w.cell? ⟨b, o + i * 3, none⟩ = some (.int .u8 t.1) ∧ w.cell? ⟨b, o + i * 3 + 1, none⟩ = some (.int .i64 t.2.1) ∧ w.cell? ⟨b, o + i * 3 + 2, none⟩ = some (.string t.2.2)) →
    ∀ (j : Nat) (u : Value), (cellsT l)[j]? = some u → w.cell? ((⟨b, o, none⟩ : Addr).add j) = some u := by
  intro l h j u hj
  have hjl : j < l.length * 3 := by rw [← cellsT_length]; exact (List.getElem?_eq_some_iff.1 hj).1
  have hi : j / 3 < l.length := by omega
  obtain ⟨t, ht⟩ : ∃ t, l[j / 3]? = some t := ⟨_, List.getElem?_eq_getElem hi⟩
  obtain ⟨c0, c1, c2⟩ := cellsT_get l _ t ht
  obtain ⟨y0, y1, y2⟩ := h _ t ht
  rw [add_plainI]
  have h3 : j = j / 3 * 3 ∨ j = j / 3 * 3 + 1 ∨ j = j / 3 * 3 + 2 := by omega
  rcases h3 with e | e | e
  · rw [e] at hj ⊢
    have : j / 3 * 3 / 3 = j / 3 := by omega
    rw [c0] at hj
    rw [← Option.some.inj hj]
    exact y0
  · rw [e] at hj ⊢
    rw [c1] at hj
    rw [← Option.some.inj hj]
    exact y1
  · rw [e] at hj ⊢
    rw [c2] at hj
    rw [← Option.some.inj hj]
    exact y2
section
variable {ops : Array Oper} {Q : Exit → Act → World → Prop} {i : Nat} {a : Act} {w : World} {R : Value → World → Prop}
theorem step_len {x : Operand} {A : Option Addr} {n c : Nat} (hop : opO ops i = some (.call { callee := .builtin .len, args := #[x], argTypes := #[27] })) (hw : Wanted ops i a) (hx : a.eval x = .slice A n c) (hR : R (.int .i64 (n : Int)) w) : wpOp Tryz.prog ops Q i (fun a' w' => ∃ v, a' = a.put (dstO ops i) v ∧ R v w') a w := by
  refine step_run hop hw (fun o ho => ?_) hR
  generalize a.eval = f at hx ⊢
  simp only [execOp, ho, List.map_toArray, List.map_cons, List.map_nil, hx]
  simp [go_sem, hx]
theorem step_min8 {x : Operand} {n : Nat} (hop : opO ops i = some (.call { callee := .builtin .min, args := #[x, .const (.int .i64 8)], argTypes := #[3, 3] })) (hw : Wanted ops i a) (hx : a.eval x = .int .i64 (n : Int)) (hR : R (.int .i64 ((min n 8 : Nat) : Int)) w) : wpOp Tryz.prog ops Q i (fun a' w' => ∃ v, a' = a.put (dstO ops i) v ∧ R v w') a w := by
  refine step_run hop hw (fun o ho => ?_) hR
  have h8 : a.eval (.const (.int .i64 8)) = .int .i64 8 := rfl
  generalize a.eval = f at hx h8 ⊢
  simp only [execOp, ho, List.map_toArray, List.map_cons, List.map_nil, hx, h8]
  by_cases h : n ≤ 8
  · have h1 : min n 8 = n := by omega
    have h2 : ¬ (8 : Int) < (n : Int) := by omega
    simp [go_sem, hx, h8, h1, h2]; omega
  · have h1 : min n 8 = 8 := by omega
    have h2 : (8 : Int) < (n : Int) := by omega
    simp [go_sem, hx, h8, h1, h2]; omega
theorem step_slc {x y : Operand} {A : Option Addr} {n c m : Nat} (hop : opO ops i = some (.slice 27 x none (some y) none)) (hw : Wanted ops i a) (hx : a.eval x = .slice A n c) (hy : a.eval y = .int .i64 (m : Int)) (hm : m ≤ n) (hc : n ≤ c) (hR : R (.slice A m c) w) : wpOp Tryz.prog ops Q i (fun a' w' => ∃ v, a' = a.put (dstO ops i) v ∧ R v w') a w := by
  refine step_run hop hw (fun o ho => ?_) hR
  have h1 : (0 : Int) ≤ (m : Int) := by omega
  have h2 : (m : Int) ≤ (c : Int) := by omega
  generalize a.eval = f at hx hy ⊢
  simp only [execOp, ho, hx, hy]
  cases A <;> simp [go_sem, h1, h2, hx, hy]
/-- a slice of one value, full -/
def IsU (t : Trip) : Value → World → Prop := fun v w => ∃ g, v = .slice (some ⟨g, 0, none⟩) 1 1 ∧ RdT w (some ⟨g, 0, none⟩) [t]
theorem mono_isU (t : Trip) : MonoF (IsU t) := fun _ _ _ ⟨g, h1, h2⟩ hb => ⟨g, h1, h2.on hb⟩
theorem step_u1 {x : Operand} {t : Trip} (hop : opO ops i = some (.buildSlice 27 1 #[(0, x)])) (hw : Wanted ops i a) (hx : a.eval x = vT t)
    (hR : ∀ v w', IsU t v w' → Below w.heap.size w w' → R v w') : wpOp Tryz.prog ops Q i (fun a' w' => ∃ v, a' = a.put (dstO ops i) v ∧ R v w') a w := by
  obtain ⟨k, n, s⟩ := t
  refine step_run (v := .slice (some ⟨w.heap.size, 0, none⟩) 1 1) (w' := w.alloc (box k n s)) hop hw (fun o ho => ?_) (hR _ _ ?_ ((Below.refl _ _).alloc (Nat.le_refl _) _))
  · simp only [execOp, ho, List.map_toArray, List.map_cons, List.map_nil, hx]
    simp [go_sem]
  · refine ⟨_, rfl, .inr ⟨w.heap.size, 0, rfl, by simp, fun j k' n' s' hj => ?_⟩⟩
    match j, hj with
    | 0, hj =>
      obtain ⟨rfl, h2⟩ := Prod.mk.inj (Option.some.inj hj)
      obtain ⟨rfl, rfl⟩ := Prod.mk.inj h2
      refine ⟨?_, ?_, ?_⟩ <;> simp [go_sem]
    | j + 1, hj => simp at hj
theorem rd_trip {w : World} {b o : Nat} {l : List Trip} (h : RdV w b o l) : ∀ (i : Nat) (t : Trip), l[i]? = some t → w.cell? ⟨b, o + i * 3, none⟩ = some (.int .u8 t.1) ∧ w.cell? ⟨b, o + i * 3 + 1, none⟩ = some (.int .i64 t.2.1) ∧ w.cell? ⟨b, o + i * 3 + 2, none⟩ = some (.string t.2.2) := fun i t ht => h.2 i t.1 t.2.1 t.2.2 ht
/-- append to the full slice -/
theorem step_app {x y : Operand} {t : Trip} {A : Option Addr} {c : Nat} {l : List Trip} (hop : opO ops i = some (.call { callee := .builtin .append, args := #[x, y], argTypes := #[27, 27] })) (hw : Wanted ops i a) (hx : IsU t (a.eval x) w) (hy : a.eval y = .slice A l.length c) (hl : RdT w A l) (h0 : l ≠ []) (h8 : l.length ≤ 8)
    (hR : ∀ v w', IsT (t :: l) v w' → Below w.heap.size w w' → R v w') : wpOp Tryz.prog ops Q i (fun a' w' => ∃ v, a' = a.put (dstO ops i) v ∧ R v w') a w := by
  obtain ⟨g, hv, hU⟩ := hx
  obtain ⟨i0, hi, hz0, hz1, hz2⟩ := info_parts Tryz.info_trip
  rcases hU with hU | ⟨b1, o1, e1, hU⟩
  · cases hU
  obtain ⟨rfl, rfl⟩ : g = b1 ∧ 0 = o1 := by injection e1 with e; injection e with e2 e3; exact ⟨e2, e3⟩
  rcases hl with hl | ⟨b2, o2, rfl, hl⟩
  · exact absurd hl h0
  have hlen : 1 ≤ l.length := by cases l with | nil => exact absurd rfl h0 | cons _ _ => simp
  have hrun := fun ty => run_append_grow (P := Tryz.prog) (w := w) 27 ty 38 i0 _ Tryz.underlying27 hi hz0 ⟨g, 0, none⟩ 1 1 (cellsT [t]) (by rw [cellsT_length, hz1]; rfl) (cells_of_rd [t] (rd_trip hU)) ⟨b2, o2, none⟩ l.length c (cellsT l) (by rw [cellsT_length, hz1]) (cells_of_rd l (rd_trip hl)) (by omega) (by omega) (by
    have h : ∀ n, n < 9 → Builtin.nextslicecap (1 + n) 1 ≤ 100 := by decide
    have := h l.length (by omega)
    rw [hz2]
    omega)
  obtain ⟨w', hw'⟩ : ∃ w', (w.drew.alloc (.cells ((cellsT [t]).toArray ++ (cellsT l).toArray ++ Builtin.zeroCells (Value.agg #[.int .u8 0, .int .i64 0, .string ⟨#[]⟩]).cells (grownCap w (1 + l.length) 1 38 - (1 + l.length))) 38)) = w' := ⟨_, rfl⟩
  have hbd : Below w.heap.size w w' := by rw [← hw']; exact (Below.refl _ _).drew.alloc (by simp) _
  have hnew : w'.heap[w.heap.size]? = some (.cells ((cellsT [t]).toArray ++ (cellsT l).toArray ++ Builtin.zeroCells (Value.agg #[.int .u8 0, .int .i64 0, .string ⟨#[]⟩]).cells (grownCap w (1 + l.length) 1 38 - (1 + l.length))) 38) := by
    rw [← hw']
    exact heap_new w.drew _
  have hcell : ∀ (j : Nat) (u : Value), (cellsT (t :: l))[j]? = some u → w'.cell? ⟨w.heap.size, j, none⟩ = some u := by
    intro j u hj
    rw [cell_of hnew]
    have e1 : ((cellsT [t]).toArray ++ (cellsT l).toArray) = (cellsT (t :: l)).toArray := by rw [List.append_toArray, ← cellsT_append]; rfl
    rw [e1, Array.getElem?_append_left (by have := (List.getElem?_eq_some_iff.1 hj).1; simpa using this)]
    simpa using hj
  refine step_run (v := .slice (some ⟨w.heap.size, 0, none⟩) (t :: l).length (grownCap w (1 + l.length) 1 38)) (w' := w') hop hw (fun o ho => ?_) (hR _ _ ⟨_, _, rfl, by have := grownCap_ge w (1 + l.length) 1 38; simp only [List.length_cons]; omega, .inr ⟨w.heap.size, 0, rfl, ?_, fun j k n s hj => ?_⟩⟩ hbd)
  · generalize a.eval = f at hv hy ⊢
    have e3 : (t :: l).length = 1 + l.length := by simp only [List.length_cons]; omega
    simp only [hw'] at hrun
    rw [e3]
    unfold execOp
    simp only [ho, resolve, invoke, builtin, Sem.run_bind, Sem.run_pure, Result.andThen_ok, List.map_toArray, List.map_cons, List.map_nil, hv, hy, hrun]
  · exact block_lt_of_cell (hcell 0 _ (cellsT_get (t :: l) 0 t rfl).1)
  · obtain ⟨c0, c1, c2⟩ := cellsT_get (t :: l) j _ hj
    rw [Nat.zero_add]
    exact ⟨hcell _ _ c0, hcell _ _ c1, hcell _ _ c2⟩
theorem step_appT {x y : Operand} {t : Trip} {A : Option Addr} {c : Nat} {l : List Trip} (hop : opO ops i = some (.call { callee := .builtin .append, args := #[x, y], argTypes := #[27, 27] })) (hw : Wanted ops i a) (hx : IsU t (a.eval x) w) (hy : a.eval y = .slice A l.length c) (hl : RdT w A l) (h8 : l.length ≤ 8)
    (hR : ∀ v w', IsT (t :: l) v w' → Below w.heap.size w w' → R v w') : wpOp Tryz.prog ops Q i (fun a' w' => ∃ v, a' = a.put (dstO ops i) v ∧ R v w') a w := by
  by_cases h0 : l = []
  · subst h0
    obtain ⟨g, hv, hU⟩ := hx
    obtain ⟨i0, hi, hz0, hz1, hz2⟩ := info_parts Tryz.info_trip
    have hsrc : Src Tryz.prog i0.size 27 (.slice A 0 c) 0 [] w := ⟨.inl ⟨_, Tryz.underlying27⟩, fun w' => by simp [Builtin.lenOf], by cases A with | none => simp [Builtin.firstCells] | some ad => exact run_firstCells_some w i0.size 0 ad 0 c [] (by simp) (by simp), by cases A with | none => simp [Builtin.firstCells] | some ad => exact run_firstCells_some w.drew i0.size 0 ad 0 c [] (by simp) (by simp), by simp, by simp⟩
    have hrun := fun ty => run_append_nothing (P := Tryz.prog) w 27 27 ty 38 i0 Tryz.underlying27 hi (some ⟨g, 0, none⟩) 1 1 (Nat.le_refl _) _ hsrc
    refine step_run (v := .slice (some ⟨g, 0, none⟩) 1 1) (w' := w) hop hw (fun o ho => ?_) (hR _ _ ⟨_, 1, rfl, Nat.le_refl _, hU⟩ (Below.refl _ _))
    generalize a.eval = f at hv hy ⊢
    unfold execOp
    simp only [List.length_nil] at hy
    simp only [ho, resolve, invoke, builtin, Sem.run_bind, Sem.run_pure, Result.andThen_ok, List.map_toArray, List.map_cons, List.map_nil, hv, hy, hrun]
  · exact step_app hop hw hx hy hl h0 h8 hR
theorem RdT.take8 {w : World} {A : Option Addr} {l : List Trip} (h : RdT w A l) : RdT w A (l.take 8) := by
  rcases h with rfl | ⟨b, o, rfl, h1, h2⟩
  · exact .inl rfl
  · refine .inr ⟨b, o, rfl, h1, fun j k n s hj => h2 j k n s ?_⟩
    rw [List.getElem?_take] at hj
    split at hj
    · exact hj
    · cases hj
/-- an Env of binds alone -/
def IsB (xs : List Trip) : Value → World → Prop := fun v w => ∃ A c, v = .agg #[.slice none 0 0, .slice none 0 0, .slice none 0 0, .slice A xs.length c] ∧ xs.length ≤ c ∧ RdT w A xs
theorem mono_isB (xs : List Trip) : MonoF (IsB xs) := fun _ _ _ ⟨A, c, h1, h2, h3⟩ hb => ⟨A, c, h1, h2, h3.on hb⟩
theorem step_bindX {x : Operand} {xs : List Trip} (hop : opO ops i = some (.build 29 #[(3, x)])) (hw : Wanted ops i a) (hx : IsT xs (a.eval x) w)
    (hR : ∀ v, IsB xs v w → R v w) : wpOp Tryz.prog ops Q i (fun a' w' => ∃ v, a' = a.put (dstO ops i) v ∧ R v w') a w := by
  obtain ⟨A, c, hA, hc, hl⟩ := hx
  refine step_run (v := .agg #[.slice none 0 0, .slice none 0 0, .slice none 0 0, .slice A xs.length c]) hop hw (fun o ho => ?_) (hR _ ⟨A, c, rfl, hc, hl⟩)
  simp only [execOp, ho, List.map_toArray, List.map_cons, List.map_nil, hA]
  simp [go_sem]
/-- a box for an Env -/
def NewX (p : Nat) (w : World) : Prop := w.heap[p]? = some (.cells #[.slice none 0 0, .slice none 0 0, .slice none 0 0, .slice none 0 0] 29) ∧ w.frozen? ⟨p, 0, none⟩ = false ∧ w.frozen? ⟨p, 1, none⟩ = false ∧ w.frozen? ⟨p, 2, none⟩ = false ∧ w.frozen? ⟨p, 3, none⟩ = false
theorem newX_keep (p : Nat) (w w' : World) (h : NewX p w) (hp : p < w.heap.size) (hb : Below w.heap.size w w') : NewX p w' := by
  obtain ⟨h1, f0, f1, f2, f3⟩ := h
  obtain ⟨hc, hf⟩ := bcell hb
  exact ⟨(hb.block p hp).trans h1, (hf _ _ hp).trans f0, (hf _ _ hp).trans f1, (hf _ _ hp).trans f2, (hf _ _ hp).trans f3⟩
/-- it holds an Env of binds -/
def EnvP (p : Nat) (xs : List Trip) (w : World) : Prop := ∃ A c, X4 w p (.slice none 0 0) (.slice none 0 0) (.slice none 0 0) (.slice A xs.length c) ∧ xs.length ≤ c ∧ RdT w A xs
theorem envP_keep {xs : List Trip} (p : Nat) (w w' : World) (h : EnvP p xs w) (hp : p < w.heap.size) (hb : Below w.heap.size w w') : EnvP p xs w' := by
  obtain ⟨A, c, h1, h2, h3⟩ := h
  exact ⟨A, c, h1.on hb, h2, h3.on hb⟩
theorem step_allocX {F : Nat → Value → World → Prop} {da : Tmp} (hop : opO ops i = some (.alloc 29)) (hw : Wanted ops i a) (hd : dstO ops i = some da) (hF : ∀ v w, F i v w) :
    wpOp Tryz.prog ops Q i (fun a' w' => ∃ p, a' = a.put (some da) (.pointer (some ⟨p, 0, none⟩)) ∧ F i (.pointer (some ⟨p, 0, none⟩)) w' ∧ w.heap.size ≤ p ∧ p < w'.heap.size ∧ NewX p w' ∧ Below w.heap.size w w') a w := by
  have h := step_run (P := Tryz.prog) (ops := ops) (i := i) (a := a) (w := w) (Q := Q) (R := fun v w' => v = .pointer (some ⟨w.heap.size, 0, none⟩) ∧ w' = w.alloc (.cells #[.slice none 0 0, .slice none 0 0, .slice none 0 0, .slice none 0 0] 29)) (v := .pointer (some ⟨w.heap.size, 0, none⟩)) (w' := w.alloc (.cells #[.slice none 0 0, .slice none 0 0, .slice none 0 0, .slice none 0 0] 29)) hop hw (fun o ho => by simp only [execOp, ho]; simp [go_sem]) ⟨rfl, rfl⟩
  rw [hd] at h
  refine wpOp_mono ?_ h
  rintro a' w' ⟨v, rfl, rfl, rfl⟩
  refine ⟨w.heap.size, rfl, hF _ _, Nat.le_refl _, by simp, ⟨heap_new _ _, ?_, ?_, ?_, ?_⟩, (Below.refl _ _).alloc (Nat.le_refl _) _⟩ <;> simp [go_sem]
theorem step_storeX {w0 : World} {x y : Operand} {p : Nat} {xs : List Trip} (hop : opO ops i = some (.store 29 x y)) (hw : Wanted ops i a) (hd : dstO ops i = none) (hx : a.eval x = .pointer (some ⟨p, 0, none⟩)) (hy : IsB xs (a.eval y) w) (hC : Below w0.heap.size w0 w) (hp0 : w0.heap.size ≤ p) (hp1 : p < w.heap.size) (hn : NewX p w) :
    wpOp Tryz.prog ops Q i (fun a' w' => a' = a ∧ EnvP p xs w' ∧ Below w0.heap.size w0 w' ∧ w'.heap.size = w.heap.size) a w := by
  obtain ⟨hh, f0, f1, f2, f3⟩ := hn
  have h0 := cell_of hh 0
  have h1 := cell_of hh 1
  have h2 := cell_of hh 2
  have h3 := cell_of hh 3
  simp only [List.getElem?_toArray, List.getElem?_cons_zero, List.getElem?_cons_succ] at h0 h1 h2 h3
  obtain ⟨A, c, hv, hc, hR⟩ := hy
  obtain ⟨W, hW⟩ : ∃ W, ((((w.setCell ⟨p, 0, none⟩ (.slice none 0 0)).setCell ⟨p, 1, none⟩ (.slice none 0 0)).setCell ⟨p, 2, none⟩ (.slice none 0 0)).setCell ⟨p, 3, none⟩ (.slice A xs.length c)) = W := ⟨_, rfl⟩
  have hs : ∀ b, b ≠ p → W.heap[b]? = w.heap[b]? := fun b hb => by
    rw [← hW, _root_.Go.Deep.blk_setCell_other _ _ _ _ hb, _root_.Go.Deep.blk_setCell_other _ _ _ _ hb, _root_.Go.Deep.blk_setCell_other _ _ _ _ hb, _root_.Go.Deep.blk_setCell_other _ _ _ _ hb]
  have hsz : W.heap.size = w.heap.size := by rw [← hW]; simp
  have hB : Below w0.heap.size w0 W := by rw [← hW]; exact (((hC.setCell hp0 _).setCell hp0 _).setCell hp0 _).setCell hp0 _
  have hX : X4 W p (.slice none 0 0) (.slice none 0 0) (.slice none 0 0) (.slice A xs.length c) := by
    rw [← hW]
    refine ⟨?_, ?_, ?_, ?_⟩ <;> simp [go_sem, h0, h1, h2, h3]
  have hrd : RdT W A xs := by
    rcases hR with hR | ⟨b, o', rfl, hR⟩
    · exact .inl hR
    · cases xs with
      | nil => exact .inl rfl
      | cons t r =>
        have hne : b ≠ p := by
          intro e
          have y0 := (hR.2 0 t.1 t.2.1 t.2.2 rfl).1
          rw [e, cell_of hh] at y0
          have : o' + 0 * 3 = 0 ∨ o' + 0 * 3 = 1 ∨ o' + 0 * 3 = 2 ∨ o' + 0 * 3 = 3 ∨ 4 ≤ o' + 0 * 3 := by omega
          rcases this with h | h | h | h | h
          · rw [h] at y0; simp at y0
          · rw [h] at y0; simp at y0
          · rw [h] at y0; simp at y0
          · rw [h] at y0; simp at y0
          · rw [Array.getElem?_eq_none (by simpa using h)] at y0; cases y0
        have hcell : ∀ q, W.cell? ⟨b, q, none⟩ = w.cell? ⟨b, q, none⟩ := fun q => World.cell?_of_block (a := ⟨b, q, none⟩) (hs b hne)
        refine .inr ⟨b, o', rfl, by rw [hsz]; exact hR.1, fun j k n s hj => ?_⟩
        obtain ⟨y0, y1, y2⟩ := hR.2 j k n s hj
        exact ⟨(hcell _).trans y0, (hcell _).trans y1, (hcell _).trans y2⟩
  cases ho : ops[i]? with
  | none => simp [opO, ho] at hop
  | some o =>
    have hoo : o.op = .store 29 x y := by simpa [opO, ho] using hop
    have hdn : o.dst = none := by simpa [dstO, ho] using hd
    have hrun : (execOp a.eval o).run Tryz.prog w = .ok .skip W := by
      rw [← hW]
      simp only [execOp, hoo, hx, hv]
      simp [go_sem, h0, h1, h2, h3, f0, f1, f2, f3]
    unfold wpOp
    rw [ho]
    simp only
    rw [if_pos (hw.is ho)]
    left
    unfold Oper.wp
    rw [hrun]
    exact ⟨by simp [hdn, Act.put], ⟨A, c, hX, hc, hrd⟩, hB, hsz⟩
end
noncomputable def in1Ops : Array Oper := regOf Tryz.f4 1
theorem in1_fill {v0 v1 v2 v3 v4 v5 v6 v7 v8 v9 v10 v11 v12 v13 v14 v15 v16 v17 v18 v19 v20 v21 v22 v23 v24 v25 v26 v27 v28 v29 v30 v31 v32 v33 v34 v35 v36 v37 v38 v39 v40 v41 v42 v43 v44 v45 v46 v47 v48 v49 v50 v51 v52 v53 v54 v55 v56 v57 v58 v59 v60 v61 v62 v63 v64 v65 v66 v67 v68 v69 v70 v71 v72 v73 v74 v75 v76 v77 v78 v79 v80 v81 v82 v83 v84 v85 v86 v87 v88 v89 v90 v91 v92 v93 v94 v95 v96 v97 v98 v99 v100 v101 v102 v103 v104 v105 v106 v107 v108 v109 v110 v111 v112 v113 v114 v115 v116 : Value} (V : Nat → Value) : fillT in1Ops #[v0, v1, v2, v3, v4, v5, v6, v7, v8, v9, v10, v11, v12, v13, v14, v15, v16, v17, v18, v19, v20, v21, v22, v23, v24, v25, v26, v27, v28, v29, v30, v31, v32, v33, v34, v35, v36, v37, v38, v39, v40, v41, v42, v43, v44, v45, v46, v47, v48, v49, v50, v51, v52, v53, v54, v55, v56, v57, v58, v59, v60, v61, v62, v63, v64, v65, v66, v67, v68, v69, v70, v71, v72, v73, v74, v75, v76, v77, v78, v79, v80, v81, v82, v83, v84, v85, v86, v87, v88, v89, v90, v91, v92, v93, v94, v95, v96, v97, v98, v99, v100, v101, v102, v103, v104, v105, v106, v107, v108, v109, v110, v111, v112, v113, v114, v115, v116] V = #[v0, v1, v2, v3, v4, V 9, v6, v7, v8, v9, v10, v11, v12, v13, v14, v15, v16, v17, V 0, V 1, V 2, V 3, V 4, V 5, V 6, V 7, V 8, v27, v28, v29, v30, v31, v32, v33, v34, v35, v36, v37, v38, v39, v40, v41, v42, v43, v44, v45, v46, v47, v48, v49, v50, v51, v52, v53, v54, v55, v56, v57, v58, v59, v60, v61, v62, v63, v64, v65, v66, v67, v68, v69, v70, v71, v72, v73, v74, v75, v76, v77, v78, v79, v80, v81, v82, v83, v84, v85, v86, v87, v88, v89, v90, v91, v92, v93, v94, v95, v96, v97, v98, v99, v100, v101, v102, v103, v104, v105, v106, v107, v108, v109, v110, v111, v112, v113, v114, v115, v116] := by
  kernel_rfl
def in1L (p2 c : Nat) (t : Trip) (l : List Trip) (A : Option Addr) : List (Value → World → Prop) := [IsV (vT t), IsU t, IsV (.slice A l.length c), IsV (.slice A l.length c), IsV (.int .i64 (l.length : Int)), IsV (.int .i64 ((min l.length 8 : Nat) : Int)), IsV (.slice A (min l.length 8) c), IsT ((t :: l.take 8)), IsB ((t :: l.take 8)), AnyF, AnyF]
def in1F (p2 c : Nat) (t : Trip) (l : List Trip) (A : Option Addr) (i : Nat) : Value → World → Prop := (in1L p2 c t l A).getD i AnyF
theorem in1F_mono (p2 c : Nat) (t : Trip) (l : List Trip) (A : Option Addr) (i : Nat) (v : Value) (w w' : World) (hp : (in1F p2 c t l A) i v w) (hb : Below w.heap.size w w') : (in1F p2 c t l A) i v w' := by
  refine monoL ?_ i v w w' hp hb
  unfold in1L
  simp only [List.forall_mem_cons]
  exact ⟨mono_isV _, mono_isU _, mono_isV _, mono_isV _, mono_isV _, mono_isV _, mono_isV _, mono_isT _, mono_isB _, mono_any, mono_any, fun _ h => by cases h⟩
def in1Fl (i : Nat) : Bool := ([true, false, true, true, true, true, true, false, false, true, true] : List Bool).getD i false
theorem in1F_flat (p2 c : Nat) (t : Trip) (l : List Trip) (A : Option Addr) (i : Nat) (hi : in1Fl i = true) (v : Value) (w w' : World) (hp : (in1F p2 c t l A) i v w) : (in1F p2 c t l A) i v w' := by
  unfold in1Fl at hi
  unfold in1F in1L at hp ⊢
  match i, hi with
  | 0, _ => exact hp
  | 1, h => exact absurd h (by decide)
  | 2, _ => exact hp
  | 3, _ => exact hp
  | 4, _ => exact hp
  | 5, _ => exact hp
  | 6, _ => exact hp
  | 7, h => exact absurd h (by decide)
  | 8, h => exact absurd h (by decide)
  | 9, _ => exact hp
  | 10, _ => exact hp
  | i + 11, h => simp at h
theorem in1_s0 {Q : Exit → Act → World → Prop} {w0 : World} {xs : Nat → Value} (p2 c : Nat) (t : Trip) (l : List Trip) (A : Option Addr) (b2 : BoxF p2 t w0) (hl : RdT w0 A l) (hlc : l.length ≤ c) (hx2 : xs 2 = .pointer (some ⟨p2, 0, none⟩)) (hx1 : xs 1 = .slice A l.length c) : OpStep Tryz.prog in1Ops Q (in1F p2 c t l A) w0 117 xs 0 := by
  intro act w hb hk hF
  have g2 : act.eval (.tmp 2) = .pointer (some ⟨p2, 0, none⟩) := (hk 2 (by decide) (by kernel_rfl)).trans hx2
  exact step_loadB (show opO in1Ops 0 = some (.load 38 (.tmp 2)) by kernel_rfl) (.free (by kernel_rfl)) g2 (b2.on hb).1 ⟨rfl, Below.refl _ _⟩
theorem in1_s1 {Q : Exit → Act → World → Prop} {w0 : World} {xs : Nat → Value} (p2 c : Nat) (t : Trip) (l : List Trip) (A : Option Addr) (b2 : BoxF p2 t w0) (hl : RdT w0 A l) (hlc : l.length ≤ c) (hx2 : xs 2 = .pointer (some ⟨p2, 0, none⟩)) (hx1 : xs 1 = .slice A l.length c) : OpStep Tryz.prog in1Ops Q (in1F p2 c t l A) w0 117 xs 1 := by
  intro act w hb hk hF
  have g18 : act.eval (.tmp 18) = vT t := hF 0 (of_decide_eq_true (by kernel_rfl)) 18 (by kernel_rfl)
  exact step_u1 (show opO in1Ops 1 = some (.buildSlice 27 1 #[(0, .tmp 18)]) by kernel_rfl) (.free (by kernel_rfl)) g18 (fun v w' h1 h2 => ⟨h1, h2⟩)
theorem in1_s2 {Q : Exit → Act → World → Prop} {w0 : World} {xs : Nat → Value} (p2 c : Nat) (t : Trip) (l : List Trip) (A : Option Addr) (b2 : BoxF p2 t w0) (hl : RdT w0 A l) (hlc : l.length ≤ c) (hx2 : xs 2 = .pointer (some ⟨p2, 0, none⟩)) (hx1 : xs 1 = .slice A l.length c) : OpStep Tryz.prog in1Ops Q (in1F p2 c t l A) w0 117 xs 2 := by
  intro act w hb hk hF
  have g1 : act.eval (.tmp 1) = .slice A l.length c := (hk 1 (by decide) (by kernel_rfl)).trans hx1
  exact step_move (show opO in1Ops 2 = some (.move (.tmp 1)) by kernel_rfl) (.free (by kernel_rfl)) g1 ⟨rfl, Below.refl _ _⟩
theorem in1_s3 {Q : Exit → Act → World → Prop} {w0 : World} {xs : Nat → Value} (p2 c : Nat) (t : Trip) (l : List Trip) (A : Option Addr) (b2 : BoxF p2 t w0) (hl : RdT w0 A l) (hlc : l.length ≤ c) (hx2 : xs 2 = .pointer (some ⟨p2, 0, none⟩)) (hx1 : xs 1 = .slice A l.length c) : OpStep Tryz.prog in1Ops Q (in1F p2 c t l A) w0 117 xs 3 := by
  intro act w hb hk hF
  have g1 : act.eval (.tmp 1) = .slice A l.length c := (hk 1 (by decide) (by kernel_rfl)).trans hx1
  exact step_move (show opO in1Ops 3 = some (.move (.tmp 1)) by kernel_rfl) (.free (by kernel_rfl)) g1 ⟨rfl, Below.refl _ _⟩
theorem in1_s4 {Q : Exit → Act → World → Prop} {w0 : World} {xs : Nat → Value} (p2 c : Nat) (t : Trip) (l : List Trip) (A : Option Addr) (b2 : BoxF p2 t w0) (hl : RdT w0 A l) (hlc : l.length ≤ c) (hx2 : xs 2 = .pointer (some ⟨p2, 0, none⟩)) (hx1 : xs 1 = .slice A l.length c) : OpStep Tryz.prog in1Ops Q (in1F p2 c t l A) w0 117 xs 4 := by
  intro act w hb hk hF
  have g21 : act.eval (.tmp 21) = .slice A l.length c := hF 3 (of_decide_eq_true (by kernel_rfl)) 21 (by kernel_rfl)
  exact step_len (show opO in1Ops 4 = some (.call { callee := .builtin .len, args := #[.tmp 21], argTypes := #[27] }) by kernel_rfl) (.free (by kernel_rfl)) g21 ⟨rfl, Below.refl _ _⟩
theorem in1_s5 {Q : Exit → Act → World → Prop} {w0 : World} {xs : Nat → Value} (p2 c : Nat) (t : Trip) (l : List Trip) (A : Option Addr) (b2 : BoxF p2 t w0) (hl : RdT w0 A l) (hlc : l.length ≤ c) (hx2 : xs 2 = .pointer (some ⟨p2, 0, none⟩)) (hx1 : xs 1 = .slice A l.length c) : OpStep Tryz.prog in1Ops Q (in1F p2 c t l A) w0 117 xs 5 := by
  intro act w hb hk hF
  have g22 : act.eval (.tmp 22) = .int .i64 (l.length : Int) := hF 4 (of_decide_eq_true (by kernel_rfl)) 22 (by kernel_rfl)
  exact step_min8 (show opO in1Ops 5 = some (.call { callee := .builtin .min, args := #[.tmp 22, .const (.int .i64 8)], argTypes := #[3, 3] }) by kernel_rfl) (.free (by kernel_rfl)) g22 ⟨rfl, Below.refl _ _⟩
theorem in1_s6 {Q : Exit → Act → World → Prop} {w0 : World} {xs : Nat → Value} (p2 c : Nat) (t : Trip) (l : List Trip) (A : Option Addr) (b2 : BoxF p2 t w0) (hl : RdT w0 A l) (hlc : l.length ≤ c) (hx2 : xs 2 = .pointer (some ⟨p2, 0, none⟩)) (hx1 : xs 1 = .slice A l.length c) : OpStep Tryz.prog in1Ops Q (in1F p2 c t l A) w0 117 xs 6 := by
  intro act w hb hk hF
  have g20 : act.eval (.tmp 20) = .slice A l.length c := hF 2 (of_decide_eq_true (by kernel_rfl)) 20 (by kernel_rfl)
  have g23 : act.eval (.tmp 23) = .int .i64 ((min l.length 8 : Nat) : Int) := hF 5 (of_decide_eq_true (by kernel_rfl)) 23 (by kernel_rfl)
  exact step_slc (show opO in1Ops 6 = some (.slice 27 (.tmp 20) none (some (.tmp 23)) none) by kernel_rfl) (.free (by kernel_rfl)) g20 g23 (Nat.min_le_left _ _) hlc ⟨rfl, Below.refl _ _⟩
theorem in1_s7 {Q : Exit → Act → World → Prop} {w0 : World} {xs : Nat → Value} (p2 c : Nat) (t : Trip) (l : List Trip) (A : Option Addr) (b2 : BoxF p2 t w0) (hl : RdT w0 A l) (hlc : l.length ≤ c) (hx2 : xs 2 = .pointer (some ⟨p2, 0, none⟩)) (hx1 : xs 1 = .slice A l.length c) : OpStep Tryz.prog in1Ops Q (in1F p2 c t l A) w0 117 xs 7 := by
  intro act w hb hk hF
  have g19 : IsU t (act.eval (.tmp 19)) w := hF 1 (of_decide_eq_true (by kernel_rfl)) 19 (by kernel_rfl)
  have g24 : act.eval (.tmp 24) = .slice A (min l.length 8) c := hF 6 (of_decide_eq_true (by kernel_rfl)) 24 (by kernel_rfl)
  exact step_appT (show opO in1Ops 7 = some (.call { callee := .builtin .append, args := #[.tmp 19, .tmp 24], argTypes := #[27, 27] }) by kernel_rfl) (.free (by kernel_rfl)) g19 (by rw [List.length_take, Nat.min_comm]; exact g24) ((hl.on hb).take8) (by rw [List.length_take]; omega) (fun v w' h1 h2 => ⟨h1, h2⟩)
theorem in1_s8 {Q : Exit → Act → World → Prop} {w0 : World} {xs : Nat → Value} (p2 c : Nat) (t : Trip) (l : List Trip) (A : Option Addr) (b2 : BoxF p2 t w0) (hl : RdT w0 A l) (hlc : l.length ≤ c) (hx2 : xs 2 = .pointer (some ⟨p2, 0, none⟩)) (hx1 : xs 1 = .slice A l.length c) : OpStep Tryz.prog in1Ops Q (in1F p2 c t l A) w0 117 xs 8 := by
  intro act w hb hk hF
  have g25 : IsT ((t :: l.take 8)) (act.eval (.tmp 25)) w := hF 7 (of_decide_eq_true (by kernel_rfl)) 25 (by kernel_rfl)
  exact step_bindX (show opO in1Ops 8 = some (.build 29 #[(3, .tmp 25)]) by kernel_rfl) (.free (by kernel_rfl)) g25 (fun v h1 => ⟨h1, Below.refl _ _⟩)
theorem in1 {Q : Exit → Act → World → Prop} {a0 : Act} {w0 : World} (p2 c : Nat) (t : Trip) (l : List Trip) (A : Option Addr) (b2 : BoxF p2 t w0) (hl : RdT w0 A l) (hlc : l.length ≤ c) (hx2 : a0.tmps.getD 2 undef = .pointer (some ⟨p2, 0, none⟩)) (hx1 : a0.tmps.getD 1 undef = .slice A l.length c) (hs : a0.tmps.size = 117)
    (hend : ∀ (V : Nat → Value) (p : Nat) (X : World), Below w0.heap.size w0 X → V 9 = .pointer (some ⟨p, 0, none⟩) → w0.heap.size ≤ p → p < X.heap.size → EnvP p (t :: l.take 8) X → Q .normal ⟨fillT in1Ops a0.tmps V, a0.defers⟩ X) : (Code.region 1 in1Ops true).wp Tryz.prog Q a0 w0 := by
  refine wp_region_boxM (by kernel_rfl) (in1F p2 c t l A) 9 10 5 NewX (fun p w => EnvP p (t :: l.take 8) w) in1Fl (in1F_mono p2 c t l A) (in1F_flat p2 c t l A) (by kernel_rfl) (by kernel_rfl) (of_decide_eq_true (by kernel_rfl)) (of_decide_eq_true (by kernel_rfl)) (by decide) ?_ newX_keep envP_keep (by rw [hs]; kernel_rfl) ?_ ?_ ?_ ?_ ?_
  · have size_is : in1Ops.size = 11 := by kernel_rfl
    rw [size_is]
    intro i hi h1 h2
    have hq : ((List.range 11).all fun i => decide (i ∈ depsO in1Ops 10) || decide (i = 10) || in1Fl i) = true := by kernel_rfl
    have := List.all_eq_true.1 hq i (List.mem_range.2 hi)
    simp only [Bool.or_eq_true, decide_eq_true_eq] at this
    rcases this with (h | h) | h
    · exact absurd h h1
    · exact absurd h h2
    · exact h
  · rw [hs]
    have size_is : in1Ops.size = 11 := by kernel_rfl
    rw [size_is]
    intro i hi hne1 hne2 hdp
    have hall : ∀ j, j < 11 → j = i → OpStep Tryz.prog in1Ops Q (in1F p2 c t l A) w0 117 (fun t => a0.tmps.getD t undef) j := by
      intro j hj hji
      match j, hj with
      | 0, _ => exact in1_s0 p2 c t l A b2 hl hlc hx2 hx1
      | 1, _ => exact in1_s1 p2 c t l A b2 hl hlc hx2 hx1
      | 2, _ => exact in1_s2 p2 c t l A b2 hl hlc hx2 hx1
      | 3, _ => exact in1_s3 p2 c t l A b2 hl hlc hx2 hx1
      | 4, _ => exact in1_s4 p2 c t l A b2 hl hlc hx2 hx1
      | 5, _ => exact in1_s5 p2 c t l A b2 hl hlc hx2 hx1
      | 6, _ => exact in1_s6 p2 c t l A b2 hl hlc hx2 hx1
      | 7, _ => exact in1_s7 p2 c t l A b2 hl hlc hx2 hx1
      | 8, _ => exact in1_s8 p2 c t l A b2 hl hlc hx2 hx1
      | 9, _ => exact absurd hji.symm hne1
      | 10, _ => exact absurd hji.symm hne2
      | q + 11, hj => exact absurd hj (by omega)
    exact hall i hi rfl
  · rw [hs]
    have size_is : in1Ops.size = 11 := by kernel_rfl
    rw [size_is]
    intro i hi hne1 hne2 hdp
    have hall : ∀ j, j < 11 → j = i → OpStep Tryz.prog in1Ops Q (fun j v w => in1Fl j = true → (in1F p2 c t l A) j v w) w0 117 (fun t => a0.tmps.getD t undef) j := by
      intro j hj hji
      match j, hj with
      | 0, _ => exact absurd hdp (by rw [← hji]; exact fun h => h (by decide))
      | 1, _ => exact absurd hdp (by rw [← hji]; exact fun h => h (by decide))
      | 2, _ => exact absurd hdp (by rw [← hji]; exact fun h => h (by decide))
      | 3, _ => exact absurd hdp (by rw [← hji]; exact fun h => h (by decide))
      | 4, _ => exact absurd hdp (by rw [← hji]; exact fun h => h (by decide))
      | 5, _ => exact absurd hdp (by rw [← hji]; exact fun h => h (by decide))
      | 6, _ => exact absurd hdp (by rw [← hji]; exact fun h => h (by decide))
      | 7, _ => exact absurd hdp (by rw [← hji]; exact fun h => h (by decide))
      | 8, _ => exact absurd hdp (by rw [← hji]; exact fun h => h (by decide))
      | 9, _ => exact absurd hji.symm hne1
      | 10, _ => exact absurd hji.symm hne2
      | q + 11, hj => exact absurd hj (by omega)
    exact hall i hi rfl
  · intro a w hb
    exact step_allocX (by kernel_rfl) (.free (by kernel_rfl)) (by kernel_rfl) (fun _ _ => trivial)
  · intro act w p hb hp0 hp1 hp hn hF
    have gy : IsB ((t :: l.take 8)) (act.eval (.tmp 26)) w := hF 8 (of_decide_eq_true (by kernel_rfl)) 26 (by kernel_rfl)
    exact step_storeX (show opO in1Ops 10 = some (.store 29 (.tmp 5) (.tmp 26)) by kernel_rfl) (.free (by kernel_rfl)) (by kernel_rfl) hp gy hb hp0 hp1 hn
  · intro V p X hb hp hp0 hp1 hB hV
    exact hend V p X hb hp hp0 hp1 hB 
end Go.Proofs.YtbelhgdogafedaaGreatDoor

namespace Go.Proofs.YtbelhgdogafedaaGreatDoor
open Go.Maps Go.ChangeShapes Go.WideShapes Go.ChangeAt Go.RowKit
set_option linter.unusedVariables false
set_option linter.unusedSimpArgs false
set_option maxRecDepth 100000

theorem Tryz.info_expr : (Tryz.prog.info? 25).map (fun i => (i.zero, i.size, i.bytes)) = some (some (.agg #[.int .u8 0, .string ⟨#[]⟩, .string ⟨#[]⟩, .int .i64 0, .int .i64 0, .slice none 0 0]), 6, 80) := by kernel_rfl
def cellsL : List Nat → List Value
  | [] => []
  | i :: r => .int .u8 5 :: .string ⟨#[]⟩ :: .string ⟨#[]⟩ :: .int .i64 (i : Int) :: .int .i64 0 :: .slice none 0 0 :: cellsL r
theorem cellsL_append : ∀ a b, cellsL (a ++ b) = cellsL a ++ cellsL b
  | [], b => rfl
  | i :: r, b => by simp [cellsL, cellsL_append r b]
theorem cellsL_length : ∀ a, (cellsL a).length = a.length * 6
  | [] => rfl
  | i :: r => by simp [cellsL, cellsL_length r]; omega
theorem cellsL_one (i : Nat) : ∀ u ∈ cellsL [i], u.oneCell' = true := by
  intro u hu
  simp only [cellsL, List.mem_cons, List.not_mem_nil, or_false] at hu
  rcases hu with rfl | rfl | rfl | rfl | rfl | rfl <;> rfl
theorem exk_cells (w : World) (g : Nat) : ∀ (l : List Nat) (o : Nat), (∀ (j : Nat) (u : Value), (cellsL l)[j]? = some u → w.cell? ⟨g, o + j, none⟩ = some u) → ExK w (l.map bindE) (some ⟨g, o, none⟩)
  | [], o, _ => by simp only [List.map_nil, ExK]
  | i :: r, o, h => by
    simp only [List.map_cons, ExK]
    refine ⟨g, o, rfl, ⟨none, 0, ⟨h 0 _ rfl, h 1 _ rfl, h 2 _ rfl, h 3 _ rfl, h 4 _ rfl, h 5 _ rfl⟩, Nat.le_refl _, trivial⟩, exk_cells w g r (o + 6) fun j u hj => ?_⟩
    have := h (j + 6) u (by simpa [cellsL] using hj)
    rw [← this]
    congr 2
    omega
/-- the call's own list of the first binds -/
def OwnE (w : World) (base : Nat) (v : Value) (m : Nat) : Prop := w.ownsRow base 25 6 v m (cellsL (List.range m))
theorem OwnE.isK {w : World} {base : Nat} {v : Value} {m : Nat} (h : OwnE w base v m) (hm : 0 < m) : ∃ A c, v = .slice A (kidsE m).length c ∧ IsK (kidsE m) v w := by
  have hc := fun g hg => World.ownsRow.cells h (g := g) hg
  obtain ⟨h1, h2⟩ := h
  rcases h2 with ⟨rfl, hq⟩ | ⟨g, cap, cur, rfl, hg, hh, hcc, hmm, hs, ht⟩
  · omega
  · refine ⟨some ⟨g, 0, none⟩, cap, by simp [kidsE], some ⟨g, 0, none⟩, cap, by simp [kidsE], by simpa [kidsE] using hcc, ?_⟩
    refine exk_cells w g (List.range m) 0 fun j u hj => ?_
    have := hc g rfl j u hj
    rwa [add_plainI] at this
theorem OwnE.onB {w w' : World} {base : Nat} {v : Value} {m : Nat} (h : OwnE w base v m) (hb : Below w.heap.size w w') : OwnE w' base v m := by
  have hlt := World.ownsRow.lt h
  obtain ⟨h1, h2⟩ := h
  refine ⟨h1, ?_⟩
  rcases h2 with hn | ⟨g, cap, cur, rfl, hg, hh, rest⟩
  · exact .inl hn
  · exact .inr ⟨g, cap, cur, rfl, hg, (hb.block g (hlt g rfl).2).trans hh, rest⟩
theorem OwnE.agree {w w' : World} {base p : Nat} {v : Value} {m : Nat} (h : OwnE w base v m) (hne : v.ownBlock ≠ some p) (hb : ∀ b, b ≠ p → w'.heap[b]? = w.heap[b]?) : OwnE w' base v m := by
  obtain ⟨h1, h2⟩ := h
  refine ⟨h1, ?_⟩
  rcases h2 with hn | ⟨g, cap, cur, rfl, hg, hh, rest⟩
  · exact .inl hn
  · exact .inr ⟨g, cap, cur, rfl, hg, (hb g (fun e => hne (by simp [Value.ownBlock, e]))).trans hh, rest⟩
theorem OwnE.one (w : World) (base : Nat) (hb : base ≤ w.heap.size) : OwnE (w.alloc (.cells #[.int .u8 5, .string ⟨#[]⟩, .string ⟨#[]⟩, .int .i64 0, .int .i64 0, .slice none 0 0] 25)) base (.slice (some ⟨w.heap.size, 0, none⟩) 1 1) 1 :=
  ⟨rfl, .inr ⟨w.heap.size, 1, _, rfl, hb, heap_new _ _, Nat.le_refl _, by decide, rfl, rfl⟩⟩
section
variable {ops : Array Oper} {rest : List Oper} {o : Oper} {a : Act} {Q : Exit → Act → World → Prop}
/-- append of one more -/
theorem wpList_appE {W : World} (hgd : o.guard = none) (s x : Operand)
    (hop : o.op = .call { callee := .builtin .append, args := #[s, x], argTypes := #[23, 23] })
    (base : Nat) (v : Value) (m : Nat) (hs : a.eval s = v) (ho : OwnE W base v m) (b c : Nat) (hx : a.eval x = .slice (some ⟨b, 0, none⟩) 1 c) (hblk : ∀ (j : Nat) (u : Value), (cellsL [m])[j]? = some u → W.cell? ⟨b, j, none⟩ = some u)
    (hm : m ≤ 1000) (hbase : base ≤ W.heap.size)
    (h : ∀ v' w', Hid (OwnE w' base v' (m + 1)) → Hid (W.grownBy w' v.ownBlock) → Hid (v'.ownBlock = v.ownBlock ∨ v'.ownBlock = some W.heap.size) → wpList Tryz.prog ops Q rest (a.put o.dst v') w') : wpList Tryz.prog ops Q (o :: rest) a W := by
  obtain ⟨i0, hi, hz0, hz1, hz2⟩ := info_parts Tryz.info_expr
  refine wpList_append_own_at W hgd s x 23 hop base 25 i0 _ 6 80 Tryz.underlying23 hi hz0 hz1 hz2 rfl (by decide) v m (cellsL (List.range m)) hs ho ⟨b, 0, none⟩ 1 c (cellsL [m]) hx rfl (fun j u hj => by rw [add_plainI, Nat.zero_add]; exact hblk j u hj) (cellsL_one m) (by simp only [maxLen]; omega) (by omega) hbase ?_
  intro v' w' g1 g2 _ g4
  have g3 : w'.ownsRow base 25 6 v' (m + 1) (cellsL (List.range (m + 1))) := by
    rw [List.range_succ, cellsL_append]
    exact g1
  exact h v' w' (Lib.hid g3) (Lib.hid g2) (Lib.hid g4)
end
end Go.Proofs.YtbelhgdogafedaaGreatDoor
