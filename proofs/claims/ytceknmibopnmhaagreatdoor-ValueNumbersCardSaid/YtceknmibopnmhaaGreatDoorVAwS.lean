/-
  The statements' helper awake of layer 2, operation by operation. Conditions: the library's variables are as its text lays them.
-/
import Derived.Test.YtceknmibopnmhaaGreatDoorVAwake
import Derived.Test.YtceknmibopnmhaaGreatDoorSlot
namespace Go.Proofs.YtceknmibopnmhaaGreatDoor
open Go.ChangeShapes Go.WideShapes Go.ChangeAt Go.RowKit
set_option linter.unusedVariables false
set_option maxRecDepth 100000

noncomputable def awOps : Array Oper := regOf Tryz.f24 3
/-- the slot holds a slice of these values -/
def IsL (l : List Trip) : Value → World → Prop := fun v w => ∃ b, v = .slice (some ⟨b, 0, none⟩) l.length l.length ∧ RdV w b 0 l
theorem mono_isL (l : List Trip) : MonoF (IsL l) := fun _ _ _ ⟨b, e, h⟩ hb => ⟨b, e, h.on hb⟩
/-- the boxed value at p is NULL -/
def NulAt (p : Nat) (w : World) : Prop := w.cell? ⟨p, 0, none⟩ = some (.int .u8 0) ∧ w.cell? ⟨p, 1, none⟩ = some (.int .i64 0) ∧ w.cell? ⟨p, 2, none⟩ = some (.string ⟨#[]⟩)
structure AwC (w0 : World) (x : Nat → Value) (p1 p2 : Nat) : Prop where
  x1 : x 1 = .pointer (some ⟨p1, 0, none⟩)
  x2 : x 2 = .pointer (some ⟨p2, 0, none⟩)
  x3 : x 3 = .int .i64 20
  n1 : ∀ w, Below w0.heap.size w0 w → NulAt p1 w
  n2 : ∀ w, Below w0.heap.size w0 w → NulAt p2 w
  wd : ∀ w, Below w0.heap.size w0 w → Wd w

theorem upto_zero {p : Nat → Prop} : ∀ i, i < 0 → p i := fun i h => absurd h (Nat.not_lt_zero i)
theorem upto_succ {p : Nat → Prop} {n : Nat} (h : ∀ i, i < n → p i) (hn : p n) : ∀ i, i < n + 1 → p i := by
  intro i hi
  rcases Nat.lt_succ_iff_lt_or_eq.1 hi with h1 | h1
  · exact h i h1
  · subst h1; exact hn

section
variable {ops : Array Oper} {Q : Exit → Act → World → Prop} {i : Nat} {a : Act} {w : World} {R : Value → World → Prop}
theorem step_loadV {x : Operand} {p : Nat} (hop : opO ops i = some (.load 24 x)) (hw : Wanted ops i a) (hx : a.eval x = .pointer (some ⟨p, 0, none⟩)) (hn : NulAt p w) (hR : R nul w) : wpOp Tryz.prog ops Q i (fun a' w' => ∃ v, a' = a.put (dstO ops i) v ∧ R v w') a w := by
  obtain ⟨h0, h1, h2⟩ := hn
  refine step_run (v := nul) hop hw (fun o ho => ?_) hR
  simp only [execOp, ho, hx]
  simp [go_sem, h0, h1, h2]
theorem step_build1 {x : Operand} {k n : Int} {s : ByteArray} (hop : opO ops i = some (.buildSlice 27 1 #[(0, x)])) (hw : Wanted ops i a) (hx : a.eval x = vv k n s)
    (hR : ∀ b, RdV (w.alloc (box k n s)) b 0 [(k, n, s)] → Below w.heap.size w (w.alloc (box k n s)) → R (.slice (some ⟨b, 0, none⟩) 1 1) (w.alloc (box k n s))) : wpOp Tryz.prog ops Q i (fun a' w' => ∃ v, a' = a.put (dstO ops i) v ∧ R v w') a w := by
  refine step_run (v := .slice (some ⟨w.heap.size, 0, none⟩) 1 1) (w' := w.alloc (box k n s)) hop hw (fun o ho => ?_) (hR _ (rdv1 w k n s) ((Below.refl _ _).alloc (Nat.le_refl _) _))
  simp only [execOp, ho, List.map_toArray, List.map_cons, List.map_nil, hx]
  simp [go_sem]
theorem step_build3 {x y z : Operand} {k n : Int} {s : ByteArray} {k' n' : Int} {s' : ByteArray} {k2 n2 : Int} {s2 : ByteArray} (hop : opO ops i = some (.buildSlice 27 3 #[(0, x), (1, y), (2, z)])) (hw : Wanted ops i a) (hx : a.eval x = vv k n s) (hy : a.eval y = vv k' n' s') (hz : a.eval z = vv k2 n2 s2)
    (hR : ∀ b, RdV (w.alloc (cells3 k n s k' n' s' k2 n2 s2)) b 0 [(k, n, s), (k', n', s'), (k2, n2, s2)] → Below w.heap.size w (w.alloc (cells3 k n s k' n' s' k2 n2 s2)) → R (.slice (some ⟨b, 0, none⟩) 3 3) (w.alloc (cells3 k n s k' n' s' k2 n2 s2))) : wpOp Tryz.prog ops Q i (fun a' w' => ∃ v, a' = a.put (dstO ops i) v ∧ R v w') a w := by
  refine step_run (v := .slice (some ⟨w.heap.size, 0, none⟩) 3 3) (w' := w.alloc (cells3 k n s k' n' s' k2 n2 s2)) hop hw (fun o ho => ?_) (hR _ (rdv3 w k n s k' n' s' k2 n2 s2) ((Below.refl _ _).alloc (Nat.le_refl _) _))
  simp only [execOp, ho, List.map_toArray, List.map_cons, List.map_nil, hx, hy, hz]
  simp [go_sem]
end

/-- 'substr' of a text, a place and a number, wherever they lie -/
theorem calls_substrAt (X : World) (b : Nat) (hW : Wd X) (s want : ByteArray) (f c : Int) (hs : s.size ≤ 65536) (hf : In64 f) (hc : In64 c) (hR : RdV X b 0 [(2, 0, s), (1, f, ⟨#[]⟩), (1, c, ⟨#[]⟩)])
    (hw : cutS s (min (fromP s.size f) (addW (fromP s.size f) c)) (max (fromP s.size f) (addW (fromP s.size f) c)) = want) :
    Calls Tryz.prog 22 #[vv 2 0 want, .string ⟨#[115, 117, 98, 115, 116, 114]⟩, .slice (some ⟨b, 0, none⟩) 3 3] X fun e w' => e = .returned (.bool true) ∧ Below X.heap.size X w' := by
  refine calls_yes 2 0 want _ _ 3 3 _ fun W hb => ?_
  have hR' := hR.on hb
  have hW' := hW.on hb
  refine Call_fn _ 2 3 false _ _ named_substr b 0 3 [(2, 0, s), (1, f, ⟨#[]⟩), (1, c, ⟨#[]⟩)] W ?_ (by simp) hR' (by simp) (by simp) ?_ (.inr (by simp [pNul])) 2 0 want 0 enters_substr ?_
  · intro t ht
    simp only [List.mem_cons, List.mem_nil_iff, or_false] at ht
    rcases ht with rfl | rfl | rfl
    · show s.size ≤ _; omega
    · show 0 ≤ _; omega
    · show 0 ≤ _; omega
  · have e1 : pBad (2, 0, s) = false := pBad_of (.inr (.inr ⟨.inl rfl, rfl, hs⟩))
    have e2 : ∀ z, pBad (1, z, ⟨#[]⟩) = false := fun z => pBad_of (.inr (.inl ⟨rfl, rfl⟩))
    simp [e1, e2]
  · intro V c1 c2 hV _
    have := subCall3 b 0 2 0 s 1 f ⟨#[]⟩ 1 c ⟨#[]⟩ V (by unfold In64; omega) (hW'.on hV) (by show s.size ≤ _; omega) (by omega) (by show 0 ≤ _; omega) hf (by show 0 ≤ _; omega) hc (hR'.on hV)
    have e : cutS (textV 2 0 s) (min (fromP (textV 2 0 s).size (intV 1 f ⟨#[]⟩)) (addW (fromP (textV 2 0 s).size (intV 1 f ⟨#[]⟩)) (intV 1 c ⟨#[]⟩))) (max (fromP (textV 2 0 s).size (intV 1 f ⟨#[]⟩)) (addW (fromP (textV 2 0 s).size (intV 1 f ⟨#[]⟩)) (intV 1 c ⟨#[]⟩))) = want := hw
    rw [e] at this
    exact this
/-- 'hex' of NULL, wherever it lies -/
theorem calls_hexAt (X : World) (b : Nat) (hW : Wd X) (hR : RdV X b 0 [(0, 0, ⟨#[]⟩)]) :
    Calls Tryz.prog 22 #[vv 2 0 ⟨#[]⟩, .string ⟨#[104, 101, 120]⟩, .slice (some ⟨b, 0, none⟩) 1 1] X fun e w' => e = .returned (.bool true) ∧ Below X.heap.size X w' := by
  refine calls_yes 2 0 ⟨#[]⟩ _ _ 1 1 _ fun W hb => ?_
  have hR' := hR.on hb
  have hW' := hW.on hb
  refine Call_fn _ 1 1 true _ _ named_hex b 0 1 [(0, 0, ⟨#[]⟩)] W ?_ (by simp) hR' (by simp) (by simp) ?_ (.inl rfl) 2 0 ⟨#[]⟩ 0 enters_hex ?_
  · intro t ht
    simp only [List.mem_cons, List.mem_nil_iff, or_false] at ht
    subst ht
    show 0 ≤ _
    omega
  · have e1 : pBad (0, 0, ⟨#[]⟩) = false := pBad_of (.inl ⟨rfl, rfl, rfl⟩)
    simp [e1]
  · intro V c1 c2 hV _
    exact hexCall b 0 0 0 ⟨#[]⟩ V (by unfold In64; omega) (hW'.on hV) 2 0 ⟨#[]⟩ 0 (hR'.on hV) fun U _ => hex_ok _ U (by show 2 * 0 ≤ _; omega)
theorem aw_st (X : World) (hW : Wd X) : Calls Tryz.prog 69 #[vv 2 0 ⟨#[105, 116, 39, 115]⟩] X fun e w' => e = .returned (.string ⟨#[39, 105, 116, 39, 39, 115, 39]⟩) ∧ Below X.heap.size X w' := by
  have h := Show_text 0 ⟨#[105, 116, 39, 115]⟩ X hW (by decide) (by rw [aw_count]; decide) (by have := aw_repl; show (Lib.replaceAll [105, 116, 39, 115] [39] [39, 39]).length ≤ _; omega)
  rw [aw_showT] at h
  exact h
theorem aw_sb (X : World) : Calls Tryz.prog 69 #[vv 3 0 ⟨#[0, 255]⟩] X fun e w' => e = .returned (.string ⟨#[88, 39, 48, 48, 70, 70, 39]⟩) ∧ Below X.heap.size X w' := by
  have h := Show_blob 0 ⟨#[0, 255]⟩ X (by decide)
  rw [aw_showB] at h
  exact h
theorem aw_c1 (X : World) : Calls Tryz.prog 67 #[vv 0 0 ⟨#[]⟩, vv 1 (-5) ⟨#[]⟩] X fun e w' => e = .returned (.int .i64 (-1)) ∧ Below X.heap.size X w' := by
  have h := Compare_any 0 0 ⟨#[]⟩ 1 (-5) ⟨#[]⟩ X
  rw [aw_cmp1] at h
  exact h
theorem aw_c2 (X : World) : Calls Tryz.prog 67 #[vv 2 0 ⟨#[57]⟩, vv 1 10 ⟨#[]⟩] X fun e w' => e = .returned (.int .i64 1) ∧ Below X.heap.size X w' := by
  have h := Compare_any 2 0 ⟨#[57]⟩ 1 10 ⟨#[]⟩ X
  rw [aw_cmp2] at h
  exact h
theorem aw_i1 (X : World) : Calls Tryz.prog 41 #[vv 2 0 ⟨#[32, 45, 49, 50, 97, 98]⟩] X fun e w' => e = .returned (.int .i64 (-12)) ∧ Below X.heap.size X w' := by
  have h := Int_any 2 0 ⟨#[32, 45, 49, 50, 97, 98]⟩ X (by decide)
  rw [aw_int1] at h
  exact h
theorem aw_i2 (X : World) : Calls Tryz.prog 41 #[vv 2 0 ⟨#[57, 57, 57, 57, 57, 57, 57, 57, 57, 57, 57, 57, 57, 57, 57, 57, 57, 57, 57, 57]⟩] X fun e w' => e = .returned (.int .i64 9223372036854775807) ∧ Below X.heap.size X w' := by
  have h := Int_any 2 0 ⟨#[57, 57, 57, 57, 57, 57, 57, 57, 57, 57, 57, 57, 57, 57, 57, 57, 57, 57, 57, 57]⟩ X (by decide)
  rw [aw_int2] at h
  exact h

def awL : List (Value → World → Prop) := [IsV (vv 0 0 ⟨#[]⟩), IsV (vv 1 (-5) ⟨#[]⟩), IsV (.int .i64 (-1)), IsV (.bool true), IsV (.bool true), IsV (vv 2 0 ⟨#[57]⟩), IsV (vv 1 10 ⟨#[]⟩), IsV (.int .i64 1), IsV (.bool true), IsV (.bool true), IsV (.bool true), IsV (vv 0 0 ⟨#[]⟩), IsV (.int .i64 20), IsV (.bool true), IsV (.bool true), IsV (.bool true), IsV (vv 1 7 ⟨#[]⟩), IsV (vv 1 (-2) ⟨#[]⟩), IsV (vv 1 (-3) ⟨#[]⟩), IsV (.bool true), IsV (.bool true), IsV (.bool true), IsV (vv 1 7 ⟨#[]⟩), IsV (vv 1 (-2) ⟨#[]⟩), IsV (vv 1 1 ⟨#[]⟩), IsV (.bool true), IsV (.bool true), IsV (.bool true), IsV (vv 1 7 ⟨#[]⟩), IsV (vv 1 0 ⟨#[]⟩), IsV (vv 0 0 ⟨#[]⟩), IsV (.bool true), IsV (.bool true), IsV (.bool true), IsV (vv 0 0 ⟨#[]⟩), IsV (vv 1 0 ⟨#[]⟩), IsV (vv 1 0 ⟨#[]⟩), IsV (.bool true), IsV (.bool true), IsV (.bool true), IsV (vv 0 0 ⟨#[]⟩), IsV (vv 1 0 ⟨#[]⟩), IsV (vv 0 0 ⟨#[]⟩), IsV (.bool true), IsV (.bool true), IsV (.bool true), IsV (vv 2 0 ⟨#[32, 45, 49, 50, 97, 98]⟩), IsV (.int .i64 (-12)), IsV (.bool true), IsV (.bool true), IsV (.bool true), IsV (vv 2 0 ⟨#[57, 57, 57, 57, 57, 57, 57, 57, 57, 57, 57, 57, 57, 57, 57, 57, 57, 57, 57, 57]⟩), IsV (.int .i64 9223372036854775807), IsV (.bool true), IsV (.bool true), IsV (.bool true), IsV (.bool true), IsV (.bool true), IsV (.bool true), IsV (vv 2 0 ⟨#[108, 108]⟩), IsV (vv 2 0 ⟨#[104, 101, 108, 108, 111]⟩), IsV (vv 1 (-3) ⟨#[]⟩), IsV (vv 1 2 ⟨#[]⟩), IsL [(2, 0, ⟨#[104, 101, 108, 108, 111]⟩), (1, (-3), ⟨#[]⟩), (1, 2, ⟨#[]⟩)], IsV (.bool true), IsV (.bool true), IsV (.bool true), IsV (vv 2 0 ⟨#[104]⟩), IsV (vv 2 0 ⟨#[104, 101, 108, 108, 111]⟩), IsV (vv 1 0 ⟨#[]⟩), IsV (vv 1 2 ⟨#[]⟩), IsL [(2, 0, ⟨#[104, 101, 108, 108, 111]⟩), (1, 0, ⟨#[]⟩), (1, 2, ⟨#[]⟩)], IsV (.bool true), IsV (.bool true), IsV (.bool true), IsV (vv 2 0 ⟨#[104, 101]⟩), IsV (vv 2 0 ⟨#[104, 101, 108, 108, 111]⟩), IsV (vv 1 3 ⟨#[]⟩), IsV (vv 1 (-2) ⟨#[]⟩), IsL [(2, 0, ⟨#[104, 101, 108, 108, 111]⟩), (1, 3, ⟨#[]⟩), (1, (-2), ⟨#[]⟩)], IsV (.bool true), IsV (.bool true), IsV (.bool true), IsV (vv 2 0 ⟨#[]⟩), IsV (vv 0 0 ⟨#[]⟩), IsL [(0, 0, ⟨#[]⟩)], IsV (.bool true), IsV (.bool true), IsV (.bool true), IsV (vv 2 0 ⟨#[105, 116, 39, 115]⟩), IsV (.string ⟨#[39, 105, 116, 39, 39, 115, 39]⟩), IsV (.bool true), IsV (.bool true), IsV (.bool true), IsV (vv 3 0 ⟨#[0, 255]⟩), IsV (.string ⟨#[88, 39, 48, 48, 70, 70, 39]⟩), IsV (.bool true), IsV (.bool true), IsV (.bool true)]
def awF (i : Nat) : Value → World → Prop := awL.getD i AnyF
theorem awF_mono (i : Nat) (v : Value) (w w' : World) (hp : awF i v w) (hb : Below w.heap.size w w') : awF i v w' := by
  refine monoL ?_ i v w w' hp hb
  unfold awL
  simp only [List.forall_mem_cons]
  exact ⟨mono_isV _, mono_isV _, mono_isV _, mono_isV _, mono_isV _, mono_isV _, mono_isV _, mono_isV _, mono_isV _, mono_isV _, mono_isV _, mono_isV _, mono_isV _, mono_isV _, mono_isV _, mono_isV _, mono_isV _, mono_isV _, mono_isV _, mono_isV _, mono_isV _, mono_isV _, mono_isV _, mono_isV _, mono_isV _, mono_isV _, mono_isV _, mono_isV _, mono_isV _, mono_isV _, mono_isV _, mono_isV _, mono_isV _, mono_isV _, mono_isV _, mono_isV _, mono_isV _, mono_isV _, mono_isV _, mono_isV _, mono_isV _, mono_isV _, mono_isV _, mono_isV _, mono_isV _, mono_isV _, mono_isV _, mono_isV _, mono_isV _, mono_isV _, mono_isV _, mono_isV _, mono_isV _, mono_isV _, mono_isV _, mono_isV _, mono_isV _, mono_isV _, mono_isV _, mono_isV _, mono_isV _, mono_isV _, mono_isV _, mono_isL _, mono_isV _, mono_isV _, mono_isV _, mono_isV _, mono_isV _, mono_isV _, mono_isV _, mono_isL _, mono_isV _, mono_isV _, mono_isV _, mono_isV _, mono_isV _, mono_isV _, mono_isV _, mono_isL _, mono_isV _, mono_isV _, mono_isV _, mono_isV _, mono_isV _, mono_isL _, mono_isV _, mono_isV _, mono_isV _, mono_isV _, mono_isV _, mono_isV _, mono_isV _, mono_isV _, mono_isV _, mono_isV _, mono_isV _, mono_isV _, mono_isV _, fun _ h => by cases h⟩
theorem aw_s0 {Q : Exit → Act → World → Prop} {w0 : World} {x : Nat → Value} {p1 p2 : Nat} (C : AwC w0 x p1 p2) : OpStep Tryz.prog awOps Q awF w0 109 x 0 := by
  intro a w hb hk hF
  have g1 : a.eval (.tmp 1) = .pointer (some ⟨p1, 0, none⟩) := (hk 1 (by decide) (by kernel_rfl)).trans C.x1
  exact step_loadV (show opO awOps 0 = some (.load 24 (.tmp 1)) by kernel_rfl) (.free (by kernel_rfl)) g1 (C.n1 w hb) ⟨rfl, Below.refl _ _⟩

theorem aw_s1 {Q : Exit → Act → World → Prop} {w0 : World} {x : Nat → Value} {p1 p2 : Nat} (C : AwC w0 x p1 p2) : OpStep Tryz.prog awOps Q awF w0 109 x 1 := by
  intro a w hb hk hF
  exact step_call (f := 13) (xs := #[.const (.int .i64 (-5))]) (by kernel_rfl) (.free (by kernel_rfl)) (map1 rfl) (enters_of Tryz.func13 (by kernel_rfl) rfl) ((num_any (-5) w).mono fun e w' h => ⟨_, h.1, rfl, h.2⟩)

theorem aw_s2 {Q : Exit → Act → World → Prop} {w0 : World} {x : Nat → Value} {p1 p2 : Nat} (C : AwC w0 x p1 p2) : OpStep Tryz.prog awOps Q awF w0 109 x 2 := by
  intro a w hb hk hF
  have g11 : a.eval (.tmp 11) = vv 0 0 ⟨#[]⟩ := hF 0 (of_decide_eq_true (by kernel_rfl)) 11 (by kernel_rfl)
  have g12 : a.eval (.tmp 12) = vv 1 (-5) ⟨#[]⟩ := hF 1 (of_decide_eq_true (by kernel_rfl)) 12 (by kernel_rfl)
  exact step_call (f := 67) (xs := #[.tmp 11, .tmp 12]) (by kernel_rfl) (.free (by kernel_rfl)) (map2 g11 g12) (enters_of Tryz.func67 (by kernel_rfl) rfl) ((aw_c1 w).mono fun e w' h => ⟨_, h.1, rfl, h.2⟩)

theorem aw_s3 {Q : Exit → Act → World → Prop} {w0 : World} {x : Nat → Value} {p1 p2 : Nat} (C : AwC w0 x p1 p2) : OpStep Tryz.prog awOps Q awF w0 109 x 3 := by
  intro a w hb hk hF
  have g13 : a.eval (.tmp 13) = .int .i64 (-1) := hF 2 (of_decide_eq_true (by kernel_rfl)) 13 (by kernel_rfl)
  exact step_eqI (show opO awOps 3 = some (.binOp .eql 3 (.tmp 13) (.const (.int .i64 (-1))) 3) by kernel_rfl) (.free (by kernel_rfl)) g13 rfl (by decide +kernel) ⟨rfl, Below.refl _ _⟩

theorem aw_s4 {Q : Exit → Act → World → Prop} {w0 : World} {x : Nat → Value} {p1 p2 : Nat} (C : AwC w0 x p1 p2) : OpStep Tryz.prog awOps Q awF w0 109 x 4 := by
  intro a w hb hk hF
  have g14 : a.eval (.tmp 14) = .bool true := hF 3 (of_decide_eq_true (by kernel_rfl)) 14 (by kernel_rfl)
  exact step_move (show opO awOps 4 = some (.move (.tmp 14)) by kernel_rfl) (.free (by kernel_rfl)) g14 ⟨rfl, Below.refl _ _⟩

theorem aw_s5 {Q : Exit → Act → World → Prop} {w0 : World} {x : Nat → Value} {p1 p2 : Nat} (C : AwC w0 x p1 p2) : OpStep Tryz.prog awOps Q awF w0 109 x 5 := by
  intro a w hb hk hF
  have g15 : a.eval (.tmp 15) = .bool true := hF 4 (of_decide_eq_true (by kernel_rfl)) 15 (by kernel_rfl)
  exact step_call (f := 10) (xs := #[.const (.string ⟨#[57]⟩)]) (by kernel_rfl) (.told 4 true 15 (by kernel_rfl) (by kernel_rfl) g15) (map1 rfl) (enters_of Tryz.func10 (by kernel_rfl) rfl) ((text_any ⟨#[57]⟩ w).mono fun e w' h => ⟨_, h.1, rfl, h.2⟩)

theorem aw_s6 {Q : Exit → Act → World → Prop} {w0 : World} {x : Nat → Value} {p1 p2 : Nat} (C : AwC w0 x p1 p2) : OpStep Tryz.prog awOps Q awF w0 109 x 6 := by
  intro a w hb hk hF
  have g15 : a.eval (.tmp 15) = .bool true := hF 4 (of_decide_eq_true (by kernel_rfl)) 15 (by kernel_rfl)
  exact step_call (f := 13) (xs := #[.const (.int .i64 10)]) (by kernel_rfl) (.told 4 true 15 (by kernel_rfl) (by kernel_rfl) g15) (map1 rfl) (enters_of Tryz.func13 (by kernel_rfl) rfl) ((num_any 10 w).mono fun e w' h => ⟨_, h.1, rfl, h.2⟩)

theorem aw_s7 {Q : Exit → Act → World → Prop} {w0 : World} {x : Nat → Value} {p1 p2 : Nat} (C : AwC w0 x p1 p2) : OpStep Tryz.prog awOps Q awF w0 109 x 7 := by
  intro a w hb hk hF
  have g15 : a.eval (.tmp 15) = .bool true := hF 4 (of_decide_eq_true (by kernel_rfl)) 15 (by kernel_rfl)
  have g16 : a.eval (.tmp 16) = vv 2 0 ⟨#[57]⟩ := hF 5 (of_decide_eq_true (by kernel_rfl)) 16 (by kernel_rfl)
  have g17 : a.eval (.tmp 17) = vv 1 10 ⟨#[]⟩ := hF 6 (of_decide_eq_true (by kernel_rfl)) 17 (by kernel_rfl)
  exact step_call (f := 67) (xs := #[.tmp 16, .tmp 17]) (by kernel_rfl) (.told 4 true 15 (by kernel_rfl) (by kernel_rfl) g15) (map2 g16 g17) (enters_of Tryz.func67 (by kernel_rfl) rfl) ((aw_c2 w).mono fun e w' h => ⟨_, h.1, rfl, h.2⟩)

theorem aw_s8 {Q : Exit → Act → World → Prop} {w0 : World} {x : Nat → Value} {p1 p2 : Nat} (C : AwC w0 x p1 p2) : OpStep Tryz.prog awOps Q awF w0 109 x 8 := by
  intro a w hb hk hF
  have g15 : a.eval (.tmp 15) = .bool true := hF 4 (of_decide_eq_true (by kernel_rfl)) 15 (by kernel_rfl)
  have g18 : a.eval (.tmp 18) = .int .i64 1 := hF 7 (of_decide_eq_true (by kernel_rfl)) 18 (by kernel_rfl)
  exact step_eqI (show opO awOps 8 = some (.binOp .eql 3 (.tmp 18) (.const (.int .i64 1)) 3) by kernel_rfl) (.told 4 true 15 (by kernel_rfl) (by kernel_rfl) g15) g18 rfl (by decide +kernel) ⟨rfl, Below.refl _ _⟩

theorem aw_s9 {Q : Exit → Act → World → Prop} {w0 : World} {x : Nat → Value} {p1 p2 : Nat} (C : AwC w0 x p1 p2) : OpStep Tryz.prog awOps Q awF w0 109 x 9 := by
  intro a w hb hk hF
  have g15 : a.eval (.tmp 15) = .bool true := hF 4 (of_decide_eq_true (by kernel_rfl)) 15 (by kernel_rfl)
  have g19 : a.eval (.tmp 19) = .bool true := hF 8 (of_decide_eq_true (by kernel_rfl)) 19 (by kernel_rfl)
  exact step_pickT (show opO awOps 9 = some (.pick (.tmp 15) (.tmp 19) (.const (.bool false))) by kernel_rfl) (.free (by kernel_rfl)) g15 g19 ⟨rfl, Below.refl _ _⟩

theorem aw_s10 {Q : Exit → Act → World → Prop} {w0 : World} {x : Nat → Value} {p1 p2 : Nat} (C : AwC w0 x p1 p2) : OpStep Tryz.prog awOps Q awF w0 109 x 10 := by
  intro a w hb hk hF
  have g20 : a.eval (.tmp 20) = .bool true := hF 9 (of_decide_eq_true (by kernel_rfl)) 20 (by kernel_rfl)
  exact step_move (show opO awOps 10 = some (.move (.tmp 20)) by kernel_rfl) (.free (by kernel_rfl)) g20 ⟨rfl, Below.refl _ _⟩

theorem aw_s11 {Q : Exit → Act → World → Prop} {w0 : World} {x : Nat → Value} {p1 p2 : Nat} (C : AwC w0 x p1 p2) : OpStep Tryz.prog awOps Q awF w0 109 x 11 := by
  intro a w hb hk hF
  have g21 : a.eval (.tmp 21) = .bool true := hF 10 (of_decide_eq_true (by kernel_rfl)) 21 (by kernel_rfl)
  have g2 : a.eval (.tmp 2) = .pointer (some ⟨p2, 0, none⟩) := (hk 2 (by decide) (by kernel_rfl)).trans C.x2
  exact step_loadV (show opO awOps 11 = some (.load 24 (.tmp 2)) by kernel_rfl) (.told 10 true 21 (by kernel_rfl) (by kernel_rfl) g21) g2 (C.n2 w hb) ⟨rfl, Below.refl _ _⟩

theorem aw_s12 {Q : Exit → Act → World → Prop} {w0 : World} {x : Nat → Value} {p1 p2 : Nat} (C : AwC w0 x p1 p2) : OpStep Tryz.prog awOps Q awF w0 109 x 12 := by
  intro a w hb hk hF
  have g21 : a.eval (.tmp 21) = .bool true := hF 10 (of_decide_eq_true (by kernel_rfl)) 21 (by kernel_rfl)
  have g3 : a.eval (.tmp 3) = .int .i64 20 := (hk 3 (by decide) (by kernel_rfl)).trans C.x3
  exact step_move (show opO awOps 12 = some (.move (.tmp 3)) by kernel_rfl) (.told 10 true 21 (by kernel_rfl) (by kernel_rfl) g21) g3 ⟨rfl, Below.refl _ _⟩

theorem aw_s13 {Q : Exit → Act → World → Prop} {w0 : World} {x : Nat → Value} {p1 p2 : Nat} (C : AwC w0 x p1 p2) : OpStep Tryz.prog awOps Q awF w0 109 x 13 := by
  intro a w hb hk hF
  have g21 : a.eval (.tmp 21) = .bool true := hF 10 (of_decide_eq_true (by kernel_rfl)) 21 (by kernel_rfl)
  have g22 : a.eval (.tmp 22) = vv 0 0 ⟨#[]⟩ := hF 11 (of_decide_eq_true (by kernel_rfl)) 22 (by kernel_rfl)
  have g23 : a.eval (.tmp 23) = .int .i64 20 := hF 12 (of_decide_eq_true (by kernel_rfl)) 23 (by kernel_rfl)
  exact step_call (f := 18) (xs := #[.tmp 22, .tmp 23, .const (.int .i64 20)]) (by kernel_rfl) (.told 10 true 21 (by kernel_rfl) (by kernel_rfl) g21) (map3 g22 g23 rfl) (enters_of Tryz.func18 (by kernel_rfl) rfl) ((errs_yes 20 w).mono fun e w' h => ⟨_, h.1, rfl, h.2⟩)

theorem aw_s14 {Q : Exit → Act → World → Prop} {w0 : World} {x : Nat → Value} {p1 p2 : Nat} (C : AwC w0 x p1 p2) : OpStep Tryz.prog awOps Q awF w0 109 x 14 := by
  intro a w hb hk hF
  have g21 : a.eval (.tmp 21) = .bool true := hF 10 (of_decide_eq_true (by kernel_rfl)) 21 (by kernel_rfl)
  have g24 : a.eval (.tmp 24) = .bool true := hF 13 (of_decide_eq_true (by kernel_rfl)) 24 (by kernel_rfl)
  exact step_pickT (show opO awOps 14 = some (.pick (.tmp 21) (.tmp 24) (.const (.bool false))) by kernel_rfl) (.free (by kernel_rfl)) g21 g24 ⟨rfl, Below.refl _ _⟩

theorem aw_s15 {Q : Exit → Act → World → Prop} {w0 : World} {x : Nat → Value} {p1 p2 : Nat} (C : AwC w0 x p1 p2) : OpStep Tryz.prog awOps Q awF w0 109 x 15 := by
  intro a w hb hk hF
  have g25 : a.eval (.tmp 25) = .bool true := hF 14 (of_decide_eq_true (by kernel_rfl)) 25 (by kernel_rfl)
  exact step_move (show opO awOps 15 = some (.move (.tmp 25)) by kernel_rfl) (.free (by kernel_rfl)) g25 ⟨rfl, Below.refl _ _⟩

theorem aw_s16 {Q : Exit → Act → World → Prop} {w0 : World} {x : Nat → Value} {p1 p2 : Nat} (C : AwC w0 x p1 p2) : OpStep Tryz.prog awOps Q awF w0 109 x 16 := by
  intro a w hb hk hF
  have g26 : a.eval (.tmp 26) = .bool true := hF 15 (of_decide_eq_true (by kernel_rfl)) 26 (by kernel_rfl)
  exact step_call (f := 13) (xs := #[.const (.int .i64 7)]) (by kernel_rfl) (.told 15 true 26 (by kernel_rfl) (by kernel_rfl) g26) (map1 rfl) (enters_of Tryz.func13 (by kernel_rfl) rfl) ((num_any 7 w).mono fun e w' h => ⟨_, h.1, rfl, h.2⟩)

theorem aw_s17 {Q : Exit → Act → World → Prop} {w0 : World} {x : Nat → Value} {p1 p2 : Nat} (C : AwC w0 x p1 p2) : OpStep Tryz.prog awOps Q awF w0 109 x 17 := by
  intro a w hb hk hF
  have g26 : a.eval (.tmp 26) = .bool true := hF 15 (of_decide_eq_true (by kernel_rfl)) 26 (by kernel_rfl)
  exact step_call (f := 13) (xs := #[.const (.int .i64 (-2))]) (by kernel_rfl) (.told 15 true 26 (by kernel_rfl) (by kernel_rfl) g26) (map1 rfl) (enters_of Tryz.func13 (by kernel_rfl) rfl) ((num_any (-2) w).mono fun e w' h => ⟨_, h.1, rfl, h.2⟩)

theorem aw_s18 {Q : Exit → Act → World → Prop} {w0 : World} {x : Nat → Value} {p1 p2 : Nat} (C : AwC w0 x p1 p2) : OpStep Tryz.prog awOps Q awF w0 109 x 18 := by
  intro a w hb hk hF
  have g26 : a.eval (.tmp 26) = .bool true := hF 15 (of_decide_eq_true (by kernel_rfl)) 26 (by kernel_rfl)
  exact step_call (f := 13) (xs := #[.const (.int .i64 (-3))]) (by kernel_rfl) (.told 15 true 26 (by kernel_rfl) (by kernel_rfl) g26) (map1 rfl) (enters_of Tryz.func13 (by kernel_rfl) rfl) ((num_any (-3) w).mono fun e w' h => ⟨_, h.1, rfl, h.2⟩)

theorem aw_s19 {Q : Exit → Act → World → Prop} {w0 : World} {x : Nat → Value} {p1 p2 : Nat} (C : AwC w0 x p1 p2) : OpStep Tryz.prog awOps Q awF w0 109 x 19 := by
  intro a w hb hk hF
  have g26 : a.eval (.tmp 26) = .bool true := hF 15 (of_decide_eq_true (by kernel_rfl)) 26 (by kernel_rfl)
  have g27 : a.eval (.tmp 27) = vv 1 7 ⟨#[]⟩ := hF 16 (of_decide_eq_true (by kernel_rfl)) 27 (by kernel_rfl)
  have g28 : a.eval (.tmp 28) = vv 1 (-2) ⟨#[]⟩ := hF 17 (of_decide_eq_true (by kernel_rfl)) 28 (by kernel_rfl)
  have g29 : a.eval (.tmp 29) = vv 1 (-3) ⟨#[]⟩ := hF 18 (of_decide_eq_true (by kernel_rfl)) 29 (by kernel_rfl)
  exact step_call (f := 65) (xs := #[.const (.string ⟨#[47]⟩), .tmp 27, .tmp 28, .tmp 29]) (by kernel_rfl) (.told 15 true 26 (by kernel_rfl) (by kernel_rfl) g26) (map4 rfl g27 g28 g29) (enters_of Tryz.func65 (by kernel_rfl) rfl) ((aw_quo w).mono fun e w' h => ⟨_, h.1, rfl, h.2⟩)

theorem aw_s20 {Q : Exit → Act → World → Prop} {w0 : World} {x : Nat → Value} {p1 p2 : Nat} (C : AwC w0 x p1 p2) : OpStep Tryz.prog awOps Q awF w0 109 x 20 := by
  intro a w hb hk hF
  have g26 : a.eval (.tmp 26) = .bool true := hF 15 (of_decide_eq_true (by kernel_rfl)) 26 (by kernel_rfl)
  have g30 : a.eval (.tmp 30) = .bool true := hF 19 (of_decide_eq_true (by kernel_rfl)) 30 (by kernel_rfl)
  exact step_pickT (show opO awOps 20 = some (.pick (.tmp 26) (.tmp 30) (.const (.bool false))) by kernel_rfl) (.free (by kernel_rfl)) g26 g30 ⟨rfl, Below.refl _ _⟩

theorem aw_s21 {Q : Exit → Act → World → Prop} {w0 : World} {x : Nat → Value} {p1 p2 : Nat} (C : AwC w0 x p1 p2) : OpStep Tryz.prog awOps Q awF w0 109 x 21 := by
  intro a w hb hk hF
  have g31 : a.eval (.tmp 31) = .bool true := hF 20 (of_decide_eq_true (by kernel_rfl)) 31 (by kernel_rfl)
  exact step_move (show opO awOps 21 = some (.move (.tmp 31)) by kernel_rfl) (.free (by kernel_rfl)) g31 ⟨rfl, Below.refl _ _⟩

theorem aw_s22 {Q : Exit → Act → World → Prop} {w0 : World} {x : Nat → Value} {p1 p2 : Nat} (C : AwC w0 x p1 p2) : OpStep Tryz.prog awOps Q awF w0 109 x 22 := by
  intro a w hb hk hF
  have g32 : a.eval (.tmp 32) = .bool true := hF 21 (of_decide_eq_true (by kernel_rfl)) 32 (by kernel_rfl)
  exact step_call (f := 13) (xs := #[.const (.int .i64 7)]) (by kernel_rfl) (.told 21 true 32 (by kernel_rfl) (by kernel_rfl) g32) (map1 rfl) (enters_of Tryz.func13 (by kernel_rfl) rfl) ((num_any 7 w).mono fun e w' h => ⟨_, h.1, rfl, h.2⟩)

theorem aw_s23 {Q : Exit → Act → World → Prop} {w0 : World} {x : Nat → Value} {p1 p2 : Nat} (C : AwC w0 x p1 p2) : OpStep Tryz.prog awOps Q awF w0 109 x 23 := by
  intro a w hb hk hF
  have g32 : a.eval (.tmp 32) = .bool true := hF 21 (of_decide_eq_true (by kernel_rfl)) 32 (by kernel_rfl)
  exact step_call (f := 13) (xs := #[.const (.int .i64 (-2))]) (by kernel_rfl) (.told 21 true 32 (by kernel_rfl) (by kernel_rfl) g32) (map1 rfl) (enters_of Tryz.func13 (by kernel_rfl) rfl) ((num_any (-2) w).mono fun e w' h => ⟨_, h.1, rfl, h.2⟩)

theorem aw_s24 {Q : Exit → Act → World → Prop} {w0 : World} {x : Nat → Value} {p1 p2 : Nat} (C : AwC w0 x p1 p2) : OpStep Tryz.prog awOps Q awF w0 109 x 24 := by
  intro a w hb hk hF
  have g32 : a.eval (.tmp 32) = .bool true := hF 21 (of_decide_eq_true (by kernel_rfl)) 32 (by kernel_rfl)
  exact step_call (f := 13) (xs := #[.const (.int .i64 1)]) (by kernel_rfl) (.told 21 true 32 (by kernel_rfl) (by kernel_rfl) g32) (map1 rfl) (enters_of Tryz.func13 (by kernel_rfl) rfl) ((num_any 1 w).mono fun e w' h => ⟨_, h.1, rfl, h.2⟩)

theorem aw_s25 {Q : Exit → Act → World → Prop} {w0 : World} {x : Nat → Value} {p1 p2 : Nat} (C : AwC w0 x p1 p2) : OpStep Tryz.prog awOps Q awF w0 109 x 25 := by
  intro a w hb hk hF
  have g32 : a.eval (.tmp 32) = .bool true := hF 21 (of_decide_eq_true (by kernel_rfl)) 32 (by kernel_rfl)
  have g33 : a.eval (.tmp 33) = vv 1 7 ⟨#[]⟩ := hF 22 (of_decide_eq_true (by kernel_rfl)) 33 (by kernel_rfl)
  have g34 : a.eval (.tmp 34) = vv 1 (-2) ⟨#[]⟩ := hF 23 (of_decide_eq_true (by kernel_rfl)) 34 (by kernel_rfl)
  have g35 : a.eval (.tmp 35) = vv 1 1 ⟨#[]⟩ := hF 24 (of_decide_eq_true (by kernel_rfl)) 35 (by kernel_rfl)
  exact step_call (f := 65) (xs := #[.const (.string ⟨#[37]⟩), .tmp 33, .tmp 34, .tmp 35]) (by kernel_rfl) (.told 21 true 32 (by kernel_rfl) (by kernel_rfl) g32) (map4 rfl g33 g34 g35) (enters_of Tryz.func65 (by kernel_rfl) rfl) ((aw_rem w).mono fun e w' h => ⟨_, h.1, rfl, h.2⟩)

theorem aw_s26 {Q : Exit → Act → World → Prop} {w0 : World} {x : Nat → Value} {p1 p2 : Nat} (C : AwC w0 x p1 p2) : OpStep Tryz.prog awOps Q awF w0 109 x 26 := by
  intro a w hb hk hF
  have g32 : a.eval (.tmp 32) = .bool true := hF 21 (of_decide_eq_true (by kernel_rfl)) 32 (by kernel_rfl)
  have g36 : a.eval (.tmp 36) = .bool true := hF 25 (of_decide_eq_true (by kernel_rfl)) 36 (by kernel_rfl)
  exact step_pickT (show opO awOps 26 = some (.pick (.tmp 32) (.tmp 36) (.const (.bool false))) by kernel_rfl) (.free (by kernel_rfl)) g32 g36 ⟨rfl, Below.refl _ _⟩

theorem aw_s27 {Q : Exit → Act → World → Prop} {w0 : World} {x : Nat → Value} {p1 p2 : Nat} (C : AwC w0 x p1 p2) : OpStep Tryz.prog awOps Q awF w0 109 x 27 := by
  intro a w hb hk hF
  have g37 : a.eval (.tmp 37) = .bool true := hF 26 (of_decide_eq_true (by kernel_rfl)) 37 (by kernel_rfl)
  exact step_move (show opO awOps 27 = some (.move (.tmp 37)) by kernel_rfl) (.free (by kernel_rfl)) g37 ⟨rfl, Below.refl _ _⟩

theorem aw_s28 {Q : Exit → Act → World → Prop} {w0 : World} {x : Nat → Value} {p1 p2 : Nat} (C : AwC w0 x p1 p2) : OpStep Tryz.prog awOps Q awF w0 109 x 28 := by
  intro a w hb hk hF
  have g38 : a.eval (.tmp 38) = .bool true := hF 27 (of_decide_eq_true (by kernel_rfl)) 38 (by kernel_rfl)
  exact step_call (f := 13) (xs := #[.const (.int .i64 7)]) (by kernel_rfl) (.told 27 true 38 (by kernel_rfl) (by kernel_rfl) g38) (map1 rfl) (enters_of Tryz.func13 (by kernel_rfl) rfl) ((num_any 7 w).mono fun e w' h => ⟨_, h.1, rfl, h.2⟩)

theorem aw_s29 {Q : Exit → Act → World → Prop} {w0 : World} {x : Nat → Value} {p1 p2 : Nat} (C : AwC w0 x p1 p2) : OpStep Tryz.prog awOps Q awF w0 109 x 29 := by
  intro a w hb hk hF
  have g38 : a.eval (.tmp 38) = .bool true := hF 27 (of_decide_eq_true (by kernel_rfl)) 38 (by kernel_rfl)
  exact step_call (f := 13) (xs := #[.const (.int .i64 0)]) (by kernel_rfl) (.told 27 true 38 (by kernel_rfl) (by kernel_rfl) g38) (map1 rfl) (enters_of Tryz.func13 (by kernel_rfl) rfl) ((num_any 0 w).mono fun e w' h => ⟨_, h.1, rfl, h.2⟩)

theorem aw_s30 {Q : Exit → Act → World → Prop} {w0 : World} {x : Nat → Value} {p1 p2 : Nat} (C : AwC w0 x p1 p2) : OpStep Tryz.prog awOps Q awF w0 109 x 30 := by
  intro a w hb hk hF
  have g38 : a.eval (.tmp 38) = .bool true := hF 27 (of_decide_eq_true (by kernel_rfl)) 38 (by kernel_rfl)
  have g1 : a.eval (.tmp 1) = .pointer (some ⟨p1, 0, none⟩) := (hk 1 (by decide) (by kernel_rfl)).trans C.x1
  exact step_loadV (show opO awOps 30 = some (.load 24 (.tmp 1)) by kernel_rfl) (.told 27 true 38 (by kernel_rfl) (by kernel_rfl) g38) g1 (C.n1 w hb) ⟨rfl, Below.refl _ _⟩

theorem aw_s31 {Q : Exit → Act → World → Prop} {w0 : World} {x : Nat → Value} {p1 p2 : Nat} (C : AwC w0 x p1 p2) : OpStep Tryz.prog awOps Q awF w0 109 x 31 := by
  intro a w hb hk hF
  have g38 : a.eval (.tmp 38) = .bool true := hF 27 (of_decide_eq_true (by kernel_rfl)) 38 (by kernel_rfl)
  have g39 : a.eval (.tmp 39) = vv 1 7 ⟨#[]⟩ := hF 28 (of_decide_eq_true (by kernel_rfl)) 39 (by kernel_rfl)
  have g40 : a.eval (.tmp 40) = vv 1 0 ⟨#[]⟩ := hF 29 (of_decide_eq_true (by kernel_rfl)) 40 (by kernel_rfl)
  have g41 : a.eval (.tmp 41) = vv 0 0 ⟨#[]⟩ := hF 30 (of_decide_eq_true (by kernel_rfl)) 41 (by kernel_rfl)
  exact step_call (f := 65) (xs := #[.const (.string ⟨#[47]⟩), .tmp 39, .tmp 40, .tmp 41]) (by kernel_rfl) (.told 27 true 38 (by kernel_rfl) (by kernel_rfl) g38) (map4 rfl g39 g40 g41) (enters_of Tryz.func65 (by kernel_rfl) rfl) ((aw_quo0 w).mono fun e w' h => ⟨_, h.1, rfl, h.2⟩)

theorem aw_s32 {Q : Exit → Act → World → Prop} {w0 : World} {x : Nat → Value} {p1 p2 : Nat} (C : AwC w0 x p1 p2) : OpStep Tryz.prog awOps Q awF w0 109 x 32 := by
  intro a w hb hk hF
  have g38 : a.eval (.tmp 38) = .bool true := hF 27 (of_decide_eq_true (by kernel_rfl)) 38 (by kernel_rfl)
  have g42 : a.eval (.tmp 42) = .bool true := hF 31 (of_decide_eq_true (by kernel_rfl)) 42 (by kernel_rfl)
  exact step_pickT (show opO awOps 32 = some (.pick (.tmp 38) (.tmp 42) (.const (.bool false))) by kernel_rfl) (.free (by kernel_rfl)) g38 g42 ⟨rfl, Below.refl _ _⟩

theorem aw_s33 {Q : Exit → Act → World → Prop} {w0 : World} {x : Nat → Value} {p1 p2 : Nat} (C : AwC w0 x p1 p2) : OpStep Tryz.prog awOps Q awF w0 109 x 33 := by
  intro a w hb hk hF
  have g43 : a.eval (.tmp 43) = .bool true := hF 32 (of_decide_eq_true (by kernel_rfl)) 43 (by kernel_rfl)
  exact step_move (show opO awOps 33 = some (.move (.tmp 43)) by kernel_rfl) (.free (by kernel_rfl)) g43 ⟨rfl, Below.refl _ _⟩

theorem aw_s34 {Q : Exit → Act → World → Prop} {w0 : World} {x : Nat → Value} {p1 p2 : Nat} (C : AwC w0 x p1 p2) : OpStep Tryz.prog awOps Q awF w0 109 x 34 := by
  intro a w hb hk hF
  have g44 : a.eval (.tmp 44) = .bool true := hF 33 (of_decide_eq_true (by kernel_rfl)) 44 (by kernel_rfl)
  have g1 : a.eval (.tmp 1) = .pointer (some ⟨p1, 0, none⟩) := (hk 1 (by decide) (by kernel_rfl)).trans C.x1
  exact step_loadV (show opO awOps 34 = some (.load 24 (.tmp 1)) by kernel_rfl) (.told 33 true 44 (by kernel_rfl) (by kernel_rfl) g44) g1 (C.n1 w hb) ⟨rfl, Below.refl _ _⟩

theorem aw_s35 {Q : Exit → Act → World → Prop} {w0 : World} {x : Nat → Value} {p1 p2 : Nat} (C : AwC w0 x p1 p2) : OpStep Tryz.prog awOps Q awF w0 109 x 35 := by
  intro a w hb hk hF
  have g44 : a.eval (.tmp 44) = .bool true := hF 33 (of_decide_eq_true (by kernel_rfl)) 44 (by kernel_rfl)
  exact step_call (f := 13) (xs := #[.const (.int .i64 0)]) (by kernel_rfl) (.told 33 true 44 (by kernel_rfl) (by kernel_rfl) g44) (map1 rfl) (enters_of Tryz.func13 (by kernel_rfl) rfl) ((num_any 0 w).mono fun e w' h => ⟨_, h.1, rfl, h.2⟩)

theorem aw_s36 {Q : Exit → Act → World → Prop} {w0 : World} {x : Nat → Value} {p1 p2 : Nat} (C : AwC w0 x p1 p2) : OpStep Tryz.prog awOps Q awF w0 109 x 36 := by
  intro a w hb hk hF
  have g44 : a.eval (.tmp 44) = .bool true := hF 33 (of_decide_eq_true (by kernel_rfl)) 44 (by kernel_rfl)
  exact step_call (f := 13) (xs := #[.const (.int .i64 0)]) (by kernel_rfl) (.told 33 true 44 (by kernel_rfl) (by kernel_rfl) g44) (map1 rfl) (enters_of Tryz.func13 (by kernel_rfl) rfl) ((num_any 0 w).mono fun e w' h => ⟨_, h.1, rfl, h.2⟩)

theorem aw_s37 {Q : Exit → Act → World → Prop} {w0 : World} {x : Nat → Value} {p1 p2 : Nat} (C : AwC w0 x p1 p2) : OpStep Tryz.prog awOps Q awF w0 109 x 37 := by
  intro a w hb hk hF
  have g44 : a.eval (.tmp 44) = .bool true := hF 33 (of_decide_eq_true (by kernel_rfl)) 44 (by kernel_rfl)
  have g45 : a.eval (.tmp 45) = vv 0 0 ⟨#[]⟩ := hF 34 (of_decide_eq_true (by kernel_rfl)) 45 (by kernel_rfl)
  have g46 : a.eval (.tmp 46) = vv 1 0 ⟨#[]⟩ := hF 35 (of_decide_eq_true (by kernel_rfl)) 46 (by kernel_rfl)
  have g47 : a.eval (.tmp 47) = vv 1 0 ⟨#[]⟩ := hF 36 (of_decide_eq_true (by kernel_rfl)) 47 (by kernel_rfl)
  exact step_call (f := 65) (xs := #[.const (.string ⟨#[97, 110, 100]⟩), .tmp 45, .tmp 46, .tmp 47]) (by kernel_rfl) (.told 33 true 44 (by kernel_rfl) (by kernel_rfl) g44) (map4 rfl g45 g46 g47) (enters_of Tryz.func65 (by kernel_rfl) rfl) ((aw_and w).mono fun e w' h => ⟨_, h.1, rfl, h.2⟩)

theorem aw_s38 {Q : Exit → Act → World → Prop} {w0 : World} {x : Nat → Value} {p1 p2 : Nat} (C : AwC w0 x p1 p2) : OpStep Tryz.prog awOps Q awF w0 109 x 38 := by
  intro a w hb hk hF
  have g44 : a.eval (.tmp 44) = .bool true := hF 33 (of_decide_eq_true (by kernel_rfl)) 44 (by kernel_rfl)
  have g48 : a.eval (.tmp 48) = .bool true := hF 37 (of_decide_eq_true (by kernel_rfl)) 48 (by kernel_rfl)
  exact step_pickT (show opO awOps 38 = some (.pick (.tmp 44) (.tmp 48) (.const (.bool false))) by kernel_rfl) (.free (by kernel_rfl)) g44 g48 ⟨rfl, Below.refl _ _⟩

theorem aw_s39 {Q : Exit → Act → World → Prop} {w0 : World} {x : Nat → Value} {p1 p2 : Nat} (C : AwC w0 x p1 p2) : OpStep Tryz.prog awOps Q awF w0 109 x 39 := by
  intro a w hb hk hF
  have g49 : a.eval (.tmp 49) = .bool true := hF 38 (of_decide_eq_true (by kernel_rfl)) 49 (by kernel_rfl)
  exact step_move (show opO awOps 39 = some (.move (.tmp 49)) by kernel_rfl) (.free (by kernel_rfl)) g49 ⟨rfl, Below.refl _ _⟩

theorem aw_s40 {Q : Exit → Act → World → Prop} {w0 : World} {x : Nat → Value} {p1 p2 : Nat} (C : AwC w0 x p1 p2) : OpStep Tryz.prog awOps Q awF w0 109 x 40 := by
  intro a w hb hk hF
  have g50 : a.eval (.tmp 50) = .bool true := hF 39 (of_decide_eq_true (by kernel_rfl)) 50 (by kernel_rfl)
  have g1 : a.eval (.tmp 1) = .pointer (some ⟨p1, 0, none⟩) := (hk 1 (by decide) (by kernel_rfl)).trans C.x1
  exact step_loadV (show opO awOps 40 = some (.load 24 (.tmp 1)) by kernel_rfl) (.told 39 true 50 (by kernel_rfl) (by kernel_rfl) g50) g1 (C.n1 w hb) ⟨rfl, Below.refl _ _⟩

theorem aw_s41 {Q : Exit → Act → World → Prop} {w0 : World} {x : Nat → Value} {p1 p2 : Nat} (C : AwC w0 x p1 p2) : OpStep Tryz.prog awOps Q awF w0 109 x 41 := by
  intro a w hb hk hF
  have g50 : a.eval (.tmp 50) = .bool true := hF 39 (of_decide_eq_true (by kernel_rfl)) 50 (by kernel_rfl)
  exact step_call (f := 13) (xs := #[.const (.int .i64 0)]) (by kernel_rfl) (.told 39 true 50 (by kernel_rfl) (by kernel_rfl) g50) (map1 rfl) (enters_of Tryz.func13 (by kernel_rfl) rfl) ((num_any 0 w).mono fun e w' h => ⟨_, h.1, rfl, h.2⟩)

theorem aw_s42 {Q : Exit → Act → World → Prop} {w0 : World} {x : Nat → Value} {p1 p2 : Nat} (C : AwC w0 x p1 p2) : OpStep Tryz.prog awOps Q awF w0 109 x 42 := by
  intro a w hb hk hF
  have g50 : a.eval (.tmp 50) = .bool true := hF 39 (of_decide_eq_true (by kernel_rfl)) 50 (by kernel_rfl)
  have g1 : a.eval (.tmp 1) = .pointer (some ⟨p1, 0, none⟩) := (hk 1 (by decide) (by kernel_rfl)).trans C.x1
  exact step_loadV (show opO awOps 42 = some (.load 24 (.tmp 1)) by kernel_rfl) (.told 39 true 50 (by kernel_rfl) (by kernel_rfl) g50) g1 (C.n1 w hb) ⟨rfl, Below.refl _ _⟩

theorem aw_s43 {Q : Exit → Act → World → Prop} {w0 : World} {x : Nat → Value} {p1 p2 : Nat} (C : AwC w0 x p1 p2) : OpStep Tryz.prog awOps Q awF w0 109 x 43 := by
  intro a w hb hk hF
  have g50 : a.eval (.tmp 50) = .bool true := hF 39 (of_decide_eq_true (by kernel_rfl)) 50 (by kernel_rfl)
  have g51 : a.eval (.tmp 51) = vv 0 0 ⟨#[]⟩ := hF 40 (of_decide_eq_true (by kernel_rfl)) 51 (by kernel_rfl)
  have g52 : a.eval (.tmp 52) = vv 1 0 ⟨#[]⟩ := hF 41 (of_decide_eq_true (by kernel_rfl)) 52 (by kernel_rfl)
  have g53 : a.eval (.tmp 53) = vv 0 0 ⟨#[]⟩ := hF 42 (of_decide_eq_true (by kernel_rfl)) 53 (by kernel_rfl)
  exact step_call (f := 65) (xs := #[.const (.string ⟨#[111, 114]⟩), .tmp 51, .tmp 52, .tmp 53]) (by kernel_rfl) (.told 39 true 50 (by kernel_rfl) (by kernel_rfl) g50) (map4 rfl g51 g52 g53) (enters_of Tryz.func65 (by kernel_rfl) rfl) ((aw_or w).mono fun e w' h => ⟨_, h.1, rfl, h.2⟩)

theorem aw_s44 {Q : Exit → Act → World → Prop} {w0 : World} {x : Nat → Value} {p1 p2 : Nat} (C : AwC w0 x p1 p2) : OpStep Tryz.prog awOps Q awF w0 109 x 44 := by
  intro a w hb hk hF
  have g50 : a.eval (.tmp 50) = .bool true := hF 39 (of_decide_eq_true (by kernel_rfl)) 50 (by kernel_rfl)
  have g54 : a.eval (.tmp 54) = .bool true := hF 43 (of_decide_eq_true (by kernel_rfl)) 54 (by kernel_rfl)
  exact step_pickT (show opO awOps 44 = some (.pick (.tmp 50) (.tmp 54) (.const (.bool false))) by kernel_rfl) (.free (by kernel_rfl)) g50 g54 ⟨rfl, Below.refl _ _⟩

theorem aw_s45 {Q : Exit → Act → World → Prop} {w0 : World} {x : Nat → Value} {p1 p2 : Nat} (C : AwC w0 x p1 p2) : OpStep Tryz.prog awOps Q awF w0 109 x 45 := by
  intro a w hb hk hF
  have g55 : a.eval (.tmp 55) = .bool true := hF 44 (of_decide_eq_true (by kernel_rfl)) 55 (by kernel_rfl)
  exact step_move (show opO awOps 45 = some (.move (.tmp 55)) by kernel_rfl) (.free (by kernel_rfl)) g55 ⟨rfl, Below.refl _ _⟩

theorem aw_s46 {Q : Exit → Act → World → Prop} {w0 : World} {x : Nat → Value} {p1 p2 : Nat} (C : AwC w0 x p1 p2) : OpStep Tryz.prog awOps Q awF w0 109 x 46 := by
  intro a w hb hk hF
  have g56 : a.eval (.tmp 56) = .bool true := hF 45 (of_decide_eq_true (by kernel_rfl)) 56 (by kernel_rfl)
  exact step_call (f := 10) (xs := #[.const (.string ⟨#[32, 45, 49, 50, 97, 98]⟩)]) (by kernel_rfl) (.told 45 true 56 (by kernel_rfl) (by kernel_rfl) g56) (map1 rfl) (enters_of Tryz.func10 (by kernel_rfl) rfl) ((text_any ⟨#[32, 45, 49, 50, 97, 98]⟩ w).mono fun e w' h => ⟨_, h.1, rfl, h.2⟩)

theorem aw_s47 {Q : Exit → Act → World → Prop} {w0 : World} {x : Nat → Value} {p1 p2 : Nat} (C : AwC w0 x p1 p2) : OpStep Tryz.prog awOps Q awF w0 109 x 47 := by
  intro a w hb hk hF
  have g56 : a.eval (.tmp 56) = .bool true := hF 45 (of_decide_eq_true (by kernel_rfl)) 56 (by kernel_rfl)
  have g57 : a.eval (.tmp 57) = vv 2 0 ⟨#[32, 45, 49, 50, 97, 98]⟩ := hF 46 (of_decide_eq_true (by kernel_rfl)) 57 (by kernel_rfl)
  exact step_call (f := 41) (xs := #[.tmp 57]) (by kernel_rfl) (.told 45 true 56 (by kernel_rfl) (by kernel_rfl) g56) (map1 g57) (enters_of Tryz.func41 (by kernel_rfl) rfl) ((aw_i1 w).mono fun e w' h => ⟨_, h.1, rfl, h.2⟩)

theorem aw_s48 {Q : Exit → Act → World → Prop} {w0 : World} {x : Nat → Value} {p1 p2 : Nat} (C : AwC w0 x p1 p2) : OpStep Tryz.prog awOps Q awF w0 109 x 48 := by
  intro a w hb hk hF
  have g56 : a.eval (.tmp 56) = .bool true := hF 45 (of_decide_eq_true (by kernel_rfl)) 56 (by kernel_rfl)
  have g58 : a.eval (.tmp 58) = .int .i64 (-12) := hF 47 (of_decide_eq_true (by kernel_rfl)) 58 (by kernel_rfl)
  exact step_eqI (show opO awOps 48 = some (.binOp .eql 2 (.tmp 58) (.const (.int .i64 (-12))) 2) by kernel_rfl) (.told 45 true 56 (by kernel_rfl) (by kernel_rfl) g56) g58 rfl (by decide +kernel) ⟨rfl, Below.refl _ _⟩

theorem aw_s49 {Q : Exit → Act → World → Prop} {w0 : World} {x : Nat → Value} {p1 p2 : Nat} (C : AwC w0 x p1 p2) : OpStep Tryz.prog awOps Q awF w0 109 x 49 := by
  intro a w hb hk hF
  have g56 : a.eval (.tmp 56) = .bool true := hF 45 (of_decide_eq_true (by kernel_rfl)) 56 (by kernel_rfl)
  have g59 : a.eval (.tmp 59) = .bool true := hF 48 (of_decide_eq_true (by kernel_rfl)) 59 (by kernel_rfl)
  exact step_pickT (show opO awOps 49 = some (.pick (.tmp 56) (.tmp 59) (.const (.bool false))) by kernel_rfl) (.free (by kernel_rfl)) g56 g59 ⟨rfl, Below.refl _ _⟩

theorem aw_s50 {Q : Exit → Act → World → Prop} {w0 : World} {x : Nat → Value} {p1 p2 : Nat} (C : AwC w0 x p1 p2) : OpStep Tryz.prog awOps Q awF w0 109 x 50 := by
  intro a w hb hk hF
  have g60 : a.eval (.tmp 60) = .bool true := hF 49 (of_decide_eq_true (by kernel_rfl)) 60 (by kernel_rfl)
  exact step_move (show opO awOps 50 = some (.move (.tmp 60)) by kernel_rfl) (.free (by kernel_rfl)) g60 ⟨rfl, Below.refl _ _⟩

theorem aw_s51 {Q : Exit → Act → World → Prop} {w0 : World} {x : Nat → Value} {p1 p2 : Nat} (C : AwC w0 x p1 p2) : OpStep Tryz.prog awOps Q awF w0 109 x 51 := by
  intro a w hb hk hF
  have g61 : a.eval (.tmp 61) = .bool true := hF 50 (of_decide_eq_true (by kernel_rfl)) 61 (by kernel_rfl)
  exact step_call (f := 10) (xs := #[.const (.string ⟨#[57, 57, 57, 57, 57, 57, 57, 57, 57, 57, 57, 57, 57, 57, 57, 57, 57, 57, 57, 57]⟩)]) (by kernel_rfl) (.told 50 true 61 (by kernel_rfl) (by kernel_rfl) g61) (map1 rfl) (enters_of Tryz.func10 (by kernel_rfl) rfl) ((text_any ⟨#[57, 57, 57, 57, 57, 57, 57, 57, 57, 57, 57, 57, 57, 57, 57, 57, 57, 57, 57, 57]⟩ w).mono fun e w' h => ⟨_, h.1, rfl, h.2⟩)

theorem aw_s52 {Q : Exit → Act → World → Prop} {w0 : World} {x : Nat → Value} {p1 p2 : Nat} (C : AwC w0 x p1 p2) : OpStep Tryz.prog awOps Q awF w0 109 x 52 := by
  intro a w hb hk hF
  have g61 : a.eval (.tmp 61) = .bool true := hF 50 (of_decide_eq_true (by kernel_rfl)) 61 (by kernel_rfl)
  have g62 : a.eval (.tmp 62) = vv 2 0 ⟨#[57, 57, 57, 57, 57, 57, 57, 57, 57, 57, 57, 57, 57, 57, 57, 57, 57, 57, 57, 57]⟩ := hF 51 (of_decide_eq_true (by kernel_rfl)) 62 (by kernel_rfl)
  exact step_call (f := 41) (xs := #[.tmp 62]) (by kernel_rfl) (.told 50 true 61 (by kernel_rfl) (by kernel_rfl) g61) (map1 g62) (enters_of Tryz.func41 (by kernel_rfl) rfl) ((aw_i2 w).mono fun e w' h => ⟨_, h.1, rfl, h.2⟩)

theorem aw_s53 {Q : Exit → Act → World → Prop} {w0 : World} {x : Nat → Value} {p1 p2 : Nat} (C : AwC w0 x p1 p2) : OpStep Tryz.prog awOps Q awF w0 109 x 53 := by
  intro a w hb hk hF
  have g61 : a.eval (.tmp 61) = .bool true := hF 50 (of_decide_eq_true (by kernel_rfl)) 61 (by kernel_rfl)
  have g63 : a.eval (.tmp 63) = .int .i64 9223372036854775807 := hF 52 (of_decide_eq_true (by kernel_rfl)) 63 (by kernel_rfl)
  exact step_eqI (show opO awOps 53 = some (.binOp .eql 2 (.tmp 63) (.const (.int .i64 9223372036854775807)) 2) by kernel_rfl) (.told 50 true 61 (by kernel_rfl) (by kernel_rfl) g61) g63 rfl (by decide +kernel) ⟨rfl, Below.refl _ _⟩

theorem aw_s54 {Q : Exit → Act → World → Prop} {w0 : World} {x : Nat → Value} {p1 p2 : Nat} (C : AwC w0 x p1 p2) : OpStep Tryz.prog awOps Q awF w0 109 x 54 := by
  intro a w hb hk hF
  have g61 : a.eval (.tmp 61) = .bool true := hF 50 (of_decide_eq_true (by kernel_rfl)) 61 (by kernel_rfl)
  have g64 : a.eval (.tmp 64) = .bool true := hF 53 (of_decide_eq_true (by kernel_rfl)) 64 (by kernel_rfl)
  exact step_pickT (show opO awOps 54 = some (.pick (.tmp 61) (.tmp 64) (.const (.bool false))) by kernel_rfl) (.free (by kernel_rfl)) g61 g64 ⟨rfl, Below.refl _ _⟩

theorem aw_s55 {Q : Exit → Act → World → Prop} {w0 : World} {x : Nat → Value} {p1 p2 : Nat} (C : AwC w0 x p1 p2) : OpStep Tryz.prog awOps Q awF w0 109 x 55 := by
  intro a w hb hk hF
  have g65 : a.eval (.tmp 65) = .bool true := hF 54 (of_decide_eq_true (by kernel_rfl)) 65 (by kernel_rfl)
  exact step_move (show opO awOps 55 = some (.move (.tmp 65)) by kernel_rfl) (.free (by kernel_rfl)) g65 ⟨rfl, Below.refl _ _⟩

theorem aw_s56 {Q : Exit → Act → World → Prop} {w0 : World} {x : Nat → Value} {p1 p2 : Nat} (C : AwC w0 x p1 p2) : OpStep Tryz.prog awOps Q awF w0 109 x 56 := by
  intro a w hb hk hF
  have g66 : a.eval (.tmp 66) = .bool true := hF 55 (of_decide_eq_true (by kernel_rfl)) 66 (by kernel_rfl)
  exact step_call (f := 68) (xs := #[.const (.string ⟨#[67, 97, 114, 100]⟩), .const (.string ⟨#[99, 37, 114, 95]⟩)]) (by kernel_rfl) (.told 55 true 66 (by kernel_rfl) (by kernel_rfl) g66) (map2 rfl rfl) (enters_of Tryz.func68 (by kernel_rfl) rfl) ((Like_any _ _ true 20 w (by decide) (by decide) aw_like).mono fun e w' h => ⟨_, h.1, rfl, h.2⟩)

theorem aw_s57 {Q : Exit → Act → World → Prop} {w0 : World} {x : Nat → Value} {p1 p2 : Nat} (C : AwC w0 x p1 p2) : OpStep Tryz.prog awOps Q awF w0 109 x 57 := by
  intro a w hb hk hF
  have g66 : a.eval (.tmp 66) = .bool true := hF 55 (of_decide_eq_true (by kernel_rfl)) 66 (by kernel_rfl)
  have g67 : a.eval (.tmp 67) = .bool true := hF 56 (of_decide_eq_true (by kernel_rfl)) 67 (by kernel_rfl)
  exact step_pickT (show opO awOps 57 = some (.pick (.tmp 66) (.tmp 67) (.const (.bool false))) by kernel_rfl) (.free (by kernel_rfl)) g66 g67 ⟨rfl, Below.refl _ _⟩

theorem aw_s58 {Q : Exit → Act → World → Prop} {w0 : World} {x : Nat → Value} {p1 p2 : Nat} (C : AwC w0 x p1 p2) : OpStep Tryz.prog awOps Q awF w0 109 x 58 := by
  intro a w hb hk hF
  have g68 : a.eval (.tmp 68) = .bool true := hF 57 (of_decide_eq_true (by kernel_rfl)) 68 (by kernel_rfl)
  exact step_move (show opO awOps 58 = some (.move (.tmp 68)) by kernel_rfl) (.free (by kernel_rfl)) g68 ⟨rfl, Below.refl _ _⟩

theorem aw_s59 {Q : Exit → Act → World → Prop} {w0 : World} {x : Nat → Value} {p1 p2 : Nat} (C : AwC w0 x p1 p2) : OpStep Tryz.prog awOps Q awF w0 109 x 59 := by
  intro a w hb hk hF
  have g69 : a.eval (.tmp 69) = .bool true := hF 58 (of_decide_eq_true (by kernel_rfl)) 69 (by kernel_rfl)
  exact step_call (f := 10) (xs := #[.const (.string ⟨#[108, 108]⟩)]) (by kernel_rfl) (.told 58 true 69 (by kernel_rfl) (by kernel_rfl) g69) (map1 rfl) (enters_of Tryz.func10 (by kernel_rfl) rfl) ((text_any ⟨#[108, 108]⟩ w).mono fun e w' h => ⟨_, h.1, rfl, h.2⟩)

theorem aw_s60 {Q : Exit → Act → World → Prop} {w0 : World} {x : Nat → Value} {p1 p2 : Nat} (C : AwC w0 x p1 p2) : OpStep Tryz.prog awOps Q awF w0 109 x 60 := by
  intro a w hb hk hF
  have g69 : a.eval (.tmp 69) = .bool true := hF 58 (of_decide_eq_true (by kernel_rfl)) 69 (by kernel_rfl)
  exact step_call (f := 10) (xs := #[.const (.string ⟨#[104, 101, 108, 108, 111]⟩)]) (by kernel_rfl) (.told 58 true 69 (by kernel_rfl) (by kernel_rfl) g69) (map1 rfl) (enters_of Tryz.func10 (by kernel_rfl) rfl) ((text_any ⟨#[104, 101, 108, 108, 111]⟩ w).mono fun e w' h => ⟨_, h.1, rfl, h.2⟩)

theorem aw_s61 {Q : Exit → Act → World → Prop} {w0 : World} {x : Nat → Value} {p1 p2 : Nat} (C : AwC w0 x p1 p2) : OpStep Tryz.prog awOps Q awF w0 109 x 61 := by
  intro a w hb hk hF
  have g69 : a.eval (.tmp 69) = .bool true := hF 58 (of_decide_eq_true (by kernel_rfl)) 69 (by kernel_rfl)
  exact step_call (f := 13) (xs := #[.const (.int .i64 (-3))]) (by kernel_rfl) (.told 58 true 69 (by kernel_rfl) (by kernel_rfl) g69) (map1 rfl) (enters_of Tryz.func13 (by kernel_rfl) rfl) ((num_any (-3) w).mono fun e w' h => ⟨_, h.1, rfl, h.2⟩)

theorem aw_s62 {Q : Exit → Act → World → Prop} {w0 : World} {x : Nat → Value} {p1 p2 : Nat} (C : AwC w0 x p1 p2) : OpStep Tryz.prog awOps Q awF w0 109 x 62 := by
  intro a w hb hk hF
  have g69 : a.eval (.tmp 69) = .bool true := hF 58 (of_decide_eq_true (by kernel_rfl)) 69 (by kernel_rfl)
  exact step_call (f := 13) (xs := #[.const (.int .i64 2)]) (by kernel_rfl) (.told 58 true 69 (by kernel_rfl) (by kernel_rfl) g69) (map1 rfl) (enters_of Tryz.func13 (by kernel_rfl) rfl) ((num_any 2 w).mono fun e w' h => ⟨_, h.1, rfl, h.2⟩)

theorem aw_s63 {Q : Exit → Act → World → Prop} {w0 : World} {x : Nat → Value} {p1 p2 : Nat} (C : AwC w0 x p1 p2) : OpStep Tryz.prog awOps Q awF w0 109 x 63 := by
  intro a w hb hk hF
  have g69 : a.eval (.tmp 69) = .bool true := hF 58 (of_decide_eq_true (by kernel_rfl)) 69 (by kernel_rfl)
  have g71 : a.eval (.tmp 71) = vv 2 0 ⟨#[104, 101, 108, 108, 111]⟩ := hF 60 (of_decide_eq_true (by kernel_rfl)) 71 (by kernel_rfl)
  have g72 : a.eval (.tmp 72) = vv 1 (-3) ⟨#[]⟩ := hF 61 (of_decide_eq_true (by kernel_rfl)) 72 (by kernel_rfl)
  have g73 : a.eval (.tmp 73) = vv 1 2 ⟨#[]⟩ := hF 62 (of_decide_eq_true (by kernel_rfl)) 73 (by kernel_rfl)
  exact step_build3 (show opO awOps 63 = some (.buildSlice 27 3 #[(0, .tmp 71), (1, .tmp 72), (2, .tmp 73)]) by kernel_rfl) (.told 58 true 69 (by kernel_rfl) (by kernel_rfl) g69) g71 g72 g73 fun b hR hb' => ⟨⟨b, rfl, hR⟩, hb'⟩

theorem aw_s64 {Q : Exit → Act → World → Prop} {w0 : World} {x : Nat → Value} {p1 p2 : Nat} (C : AwC w0 x p1 p2) : OpStep Tryz.prog awOps Q awF w0 109 x 64 := by
  intro a w hb hk hF
  have g69 : a.eval (.tmp 69) = .bool true := hF 58 (of_decide_eq_true (by kernel_rfl)) 69 (by kernel_rfl)
  have g70 : a.eval (.tmp 70) = vv 2 0 ⟨#[108, 108]⟩ := hF 59 (of_decide_eq_true (by kernel_rfl)) 70 (by kernel_rfl)
  obtain ⟨b74, g74, hR74⟩ := (show IsL [(2, 0, ⟨#[104, 101, 108, 108, 111]⟩), (1, (-3), ⟨#[]⟩), (1, 2, ⟨#[]⟩)] _ w from hF 63 (of_decide_eq_true (by kernel_rfl)) 74 (by kernel_rfl))
  exact step_call (f := 22) (xs := #[.tmp 70, .const (.string ⟨#[115, 117, 98, 115, 116, 114]⟩), .tmp 74]) (by kernel_rfl) (.told 58 true 69 (by kernel_rfl) (by kernel_rfl) g69) (map3 g70 rfl g74) (enters_of Tryz.func22 (by kernel_rfl) rfl) ((calls_substrAt w b74 (C.wd w hb) ⟨#[104, 101, 108, 108, 111]⟩ ⟨#[108, 108]⟩ (-3) 2 (by decide) (by decide) (by decide) hR74 aw_cut1).mono fun e w' h => ⟨_, h.1, rfl, h.2⟩)

theorem aw_s65 {Q : Exit → Act → World → Prop} {w0 : World} {x : Nat → Value} {p1 p2 : Nat} (C : AwC w0 x p1 p2) : OpStep Tryz.prog awOps Q awF w0 109 x 65 := by
  intro a w hb hk hF
  have g69 : a.eval (.tmp 69) = .bool true := hF 58 (of_decide_eq_true (by kernel_rfl)) 69 (by kernel_rfl)
  have g75 : a.eval (.tmp 75) = .bool true := hF 64 (of_decide_eq_true (by kernel_rfl)) 75 (by kernel_rfl)
  exact step_pickT (show opO awOps 65 = some (.pick (.tmp 69) (.tmp 75) (.const (.bool false))) by kernel_rfl) (.free (by kernel_rfl)) g69 g75 ⟨rfl, Below.refl _ _⟩

theorem aw_s66 {Q : Exit → Act → World → Prop} {w0 : World} {x : Nat → Value} {p1 p2 : Nat} (C : AwC w0 x p1 p2) : OpStep Tryz.prog awOps Q awF w0 109 x 66 := by
  intro a w hb hk hF
  have g76 : a.eval (.tmp 76) = .bool true := hF 65 (of_decide_eq_true (by kernel_rfl)) 76 (by kernel_rfl)
  exact step_move (show opO awOps 66 = some (.move (.tmp 76)) by kernel_rfl) (.free (by kernel_rfl)) g76 ⟨rfl, Below.refl _ _⟩

theorem aw_s67 {Q : Exit → Act → World → Prop} {w0 : World} {x : Nat → Value} {p1 p2 : Nat} (C : AwC w0 x p1 p2) : OpStep Tryz.prog awOps Q awF w0 109 x 67 := by
  intro a w hb hk hF
  have g77 : a.eval (.tmp 77) = .bool true := hF 66 (of_decide_eq_true (by kernel_rfl)) 77 (by kernel_rfl)
  exact step_call (f := 10) (xs := #[.const (.string ⟨#[104]⟩)]) (by kernel_rfl) (.told 66 true 77 (by kernel_rfl) (by kernel_rfl) g77) (map1 rfl) (enters_of Tryz.func10 (by kernel_rfl) rfl) ((text_any ⟨#[104]⟩ w).mono fun e w' h => ⟨_, h.1, rfl, h.2⟩)

theorem aw_s68 {Q : Exit → Act → World → Prop} {w0 : World} {x : Nat → Value} {p1 p2 : Nat} (C : AwC w0 x p1 p2) : OpStep Tryz.prog awOps Q awF w0 109 x 68 := by
  intro a w hb hk hF
  have g77 : a.eval (.tmp 77) = .bool true := hF 66 (of_decide_eq_true (by kernel_rfl)) 77 (by kernel_rfl)
  exact step_call (f := 10) (xs := #[.const (.string ⟨#[104, 101, 108, 108, 111]⟩)]) (by kernel_rfl) (.told 66 true 77 (by kernel_rfl) (by kernel_rfl) g77) (map1 rfl) (enters_of Tryz.func10 (by kernel_rfl) rfl) ((text_any ⟨#[104, 101, 108, 108, 111]⟩ w).mono fun e w' h => ⟨_, h.1, rfl, h.2⟩)

theorem aw_s69 {Q : Exit → Act → World → Prop} {w0 : World} {x : Nat → Value} {p1 p2 : Nat} (C : AwC w0 x p1 p2) : OpStep Tryz.prog awOps Q awF w0 109 x 69 := by
  intro a w hb hk hF
  have g77 : a.eval (.tmp 77) = .bool true := hF 66 (of_decide_eq_true (by kernel_rfl)) 77 (by kernel_rfl)
  exact step_call (f := 13) (xs := #[.const (.int .i64 0)]) (by kernel_rfl) (.told 66 true 77 (by kernel_rfl) (by kernel_rfl) g77) (map1 rfl) (enters_of Tryz.func13 (by kernel_rfl) rfl) ((num_any 0 w).mono fun e w' h => ⟨_, h.1, rfl, h.2⟩)

theorem aw_s70 {Q : Exit → Act → World → Prop} {w0 : World} {x : Nat → Value} {p1 p2 : Nat} (C : AwC w0 x p1 p2) : OpStep Tryz.prog awOps Q awF w0 109 x 70 := by
  intro a w hb hk hF
  have g77 : a.eval (.tmp 77) = .bool true := hF 66 (of_decide_eq_true (by kernel_rfl)) 77 (by kernel_rfl)
  exact step_call (f := 13) (xs := #[.const (.int .i64 2)]) (by kernel_rfl) (.told 66 true 77 (by kernel_rfl) (by kernel_rfl) g77) (map1 rfl) (enters_of Tryz.func13 (by kernel_rfl) rfl) ((num_any 2 w).mono fun e w' h => ⟨_, h.1, rfl, h.2⟩)

theorem aw_s71 {Q : Exit → Act → World → Prop} {w0 : World} {x : Nat → Value} {p1 p2 : Nat} (C : AwC w0 x p1 p2) : OpStep Tryz.prog awOps Q awF w0 109 x 71 := by
  intro a w hb hk hF
  have g77 : a.eval (.tmp 77) = .bool true := hF 66 (of_decide_eq_true (by kernel_rfl)) 77 (by kernel_rfl)
  have g79 : a.eval (.tmp 79) = vv 2 0 ⟨#[104, 101, 108, 108, 111]⟩ := hF 68 (of_decide_eq_true (by kernel_rfl)) 79 (by kernel_rfl)
  have g80 : a.eval (.tmp 80) = vv 1 0 ⟨#[]⟩ := hF 69 (of_decide_eq_true (by kernel_rfl)) 80 (by kernel_rfl)
  have g81 : a.eval (.tmp 81) = vv 1 2 ⟨#[]⟩ := hF 70 (of_decide_eq_true (by kernel_rfl)) 81 (by kernel_rfl)
  exact step_build3 (show opO awOps 71 = some (.buildSlice 27 3 #[(0, .tmp 79), (1, .tmp 80), (2, .tmp 81)]) by kernel_rfl) (.told 66 true 77 (by kernel_rfl) (by kernel_rfl) g77) g79 g80 g81 fun b hR hb' => ⟨⟨b, rfl, hR⟩, hb'⟩

theorem aw_s72 {Q : Exit → Act → World → Prop} {w0 : World} {x : Nat → Value} {p1 p2 : Nat} (C : AwC w0 x p1 p2) : OpStep Tryz.prog awOps Q awF w0 109 x 72 := by
  intro a w hb hk hF
  have g77 : a.eval (.tmp 77) = .bool true := hF 66 (of_decide_eq_true (by kernel_rfl)) 77 (by kernel_rfl)
  have g78 : a.eval (.tmp 78) = vv 2 0 ⟨#[104]⟩ := hF 67 (of_decide_eq_true (by kernel_rfl)) 78 (by kernel_rfl)
  obtain ⟨b82, g82, hR82⟩ := (show IsL [(2, 0, ⟨#[104, 101, 108, 108, 111]⟩), (1, 0, ⟨#[]⟩), (1, 2, ⟨#[]⟩)] _ w from hF 71 (of_decide_eq_true (by kernel_rfl)) 82 (by kernel_rfl))
  exact step_call (f := 22) (xs := #[.tmp 78, .const (.string ⟨#[115, 117, 98, 115, 116, 114]⟩), .tmp 82]) (by kernel_rfl) (.told 66 true 77 (by kernel_rfl) (by kernel_rfl) g77) (map3 g78 rfl g82) (enters_of Tryz.func22 (by kernel_rfl) rfl) ((calls_substrAt w b82 (C.wd w hb) ⟨#[104, 101, 108, 108, 111]⟩ ⟨#[104]⟩ 0 2 (by decide) (by decide) (by decide) hR82 aw_cut2).mono fun e w' h => ⟨_, h.1, rfl, h.2⟩)

theorem aw_s73 {Q : Exit → Act → World → Prop} {w0 : World} {x : Nat → Value} {p1 p2 : Nat} (C : AwC w0 x p1 p2) : OpStep Tryz.prog awOps Q awF w0 109 x 73 := by
  intro a w hb hk hF
  have g77 : a.eval (.tmp 77) = .bool true := hF 66 (of_decide_eq_true (by kernel_rfl)) 77 (by kernel_rfl)
  have g83 : a.eval (.tmp 83) = .bool true := hF 72 (of_decide_eq_true (by kernel_rfl)) 83 (by kernel_rfl)
  exact step_pickT (show opO awOps 73 = some (.pick (.tmp 77) (.tmp 83) (.const (.bool false))) by kernel_rfl) (.free (by kernel_rfl)) g77 g83 ⟨rfl, Below.refl _ _⟩

theorem aw_s74 {Q : Exit → Act → World → Prop} {w0 : World} {x : Nat → Value} {p1 p2 : Nat} (C : AwC w0 x p1 p2) : OpStep Tryz.prog awOps Q awF w0 109 x 74 := by
  intro a w hb hk hF
  have g84 : a.eval (.tmp 84) = .bool true := hF 73 (of_decide_eq_true (by kernel_rfl)) 84 (by kernel_rfl)
  exact step_move (show opO awOps 74 = some (.move (.tmp 84)) by kernel_rfl) (.free (by kernel_rfl)) g84 ⟨rfl, Below.refl _ _⟩

theorem aw_s75 {Q : Exit → Act → World → Prop} {w0 : World} {x : Nat → Value} {p1 p2 : Nat} (C : AwC w0 x p1 p2) : OpStep Tryz.prog awOps Q awF w0 109 x 75 := by
  intro a w hb hk hF
  have g85 : a.eval (.tmp 85) = .bool true := hF 74 (of_decide_eq_true (by kernel_rfl)) 85 (by kernel_rfl)
  exact step_call (f := 10) (xs := #[.const (.string ⟨#[104, 101]⟩)]) (by kernel_rfl) (.told 74 true 85 (by kernel_rfl) (by kernel_rfl) g85) (map1 rfl) (enters_of Tryz.func10 (by kernel_rfl) rfl) ((text_any ⟨#[104, 101]⟩ w).mono fun e w' h => ⟨_, h.1, rfl, h.2⟩)

theorem aw_s76 {Q : Exit → Act → World → Prop} {w0 : World} {x : Nat → Value} {p1 p2 : Nat} (C : AwC w0 x p1 p2) : OpStep Tryz.prog awOps Q awF w0 109 x 76 := by
  intro a w hb hk hF
  have g85 : a.eval (.tmp 85) = .bool true := hF 74 (of_decide_eq_true (by kernel_rfl)) 85 (by kernel_rfl)
  exact step_call (f := 10) (xs := #[.const (.string ⟨#[104, 101, 108, 108, 111]⟩)]) (by kernel_rfl) (.told 74 true 85 (by kernel_rfl) (by kernel_rfl) g85) (map1 rfl) (enters_of Tryz.func10 (by kernel_rfl) rfl) ((text_any ⟨#[104, 101, 108, 108, 111]⟩ w).mono fun e w' h => ⟨_, h.1, rfl, h.2⟩)

theorem aw_s77 {Q : Exit → Act → World → Prop} {w0 : World} {x : Nat → Value} {p1 p2 : Nat} (C : AwC w0 x p1 p2) : OpStep Tryz.prog awOps Q awF w0 109 x 77 := by
  intro a w hb hk hF
  have g85 : a.eval (.tmp 85) = .bool true := hF 74 (of_decide_eq_true (by kernel_rfl)) 85 (by kernel_rfl)
  exact step_call (f := 13) (xs := #[.const (.int .i64 3)]) (by kernel_rfl) (.told 74 true 85 (by kernel_rfl) (by kernel_rfl) g85) (map1 rfl) (enters_of Tryz.func13 (by kernel_rfl) rfl) ((num_any 3 w).mono fun e w' h => ⟨_, h.1, rfl, h.2⟩)

theorem aw_s78 {Q : Exit → Act → World → Prop} {w0 : World} {x : Nat → Value} {p1 p2 : Nat} (C : AwC w0 x p1 p2) : OpStep Tryz.prog awOps Q awF w0 109 x 78 := by
  intro a w hb hk hF
  have g85 : a.eval (.tmp 85) = .bool true := hF 74 (of_decide_eq_true (by kernel_rfl)) 85 (by kernel_rfl)
  exact step_call (f := 13) (xs := #[.const (.int .i64 (-2))]) (by kernel_rfl) (.told 74 true 85 (by kernel_rfl) (by kernel_rfl) g85) (map1 rfl) (enters_of Tryz.func13 (by kernel_rfl) rfl) ((num_any (-2) w).mono fun e w' h => ⟨_, h.1, rfl, h.2⟩)

theorem aw_s79 {Q : Exit → Act → World → Prop} {w0 : World} {x : Nat → Value} {p1 p2 : Nat} (C : AwC w0 x p1 p2) : OpStep Tryz.prog awOps Q awF w0 109 x 79 := by
  intro a w hb hk hF
  have g85 : a.eval (.tmp 85) = .bool true := hF 74 (of_decide_eq_true (by kernel_rfl)) 85 (by kernel_rfl)
  have g87 : a.eval (.tmp 87) = vv 2 0 ⟨#[104, 101, 108, 108, 111]⟩ := hF 76 (of_decide_eq_true (by kernel_rfl)) 87 (by kernel_rfl)
  have g88 : a.eval (.tmp 88) = vv 1 3 ⟨#[]⟩ := hF 77 (of_decide_eq_true (by kernel_rfl)) 88 (by kernel_rfl)
  have g89 : a.eval (.tmp 89) = vv 1 (-2) ⟨#[]⟩ := hF 78 (of_decide_eq_true (by kernel_rfl)) 89 (by kernel_rfl)
  exact step_build3 (show opO awOps 79 = some (.buildSlice 27 3 #[(0, .tmp 87), (1, .tmp 88), (2, .tmp 89)]) by kernel_rfl) (.told 74 true 85 (by kernel_rfl) (by kernel_rfl) g85) g87 g88 g89 fun b hR hb' => ⟨⟨b, rfl, hR⟩, hb'⟩

theorem aw_s80 {Q : Exit → Act → World → Prop} {w0 : World} {x : Nat → Value} {p1 p2 : Nat} (C : AwC w0 x p1 p2) : OpStep Tryz.prog awOps Q awF w0 109 x 80 := by
  intro a w hb hk hF
  have g85 : a.eval (.tmp 85) = .bool true := hF 74 (of_decide_eq_true (by kernel_rfl)) 85 (by kernel_rfl)
  have g86 : a.eval (.tmp 86) = vv 2 0 ⟨#[104, 101]⟩ := hF 75 (of_decide_eq_true (by kernel_rfl)) 86 (by kernel_rfl)
  obtain ⟨b90, g90, hR90⟩ := (show IsL [(2, 0, ⟨#[104, 101, 108, 108, 111]⟩), (1, 3, ⟨#[]⟩), (1, (-2), ⟨#[]⟩)] _ w from hF 79 (of_decide_eq_true (by kernel_rfl)) 90 (by kernel_rfl))
  exact step_call (f := 22) (xs := #[.tmp 86, .const (.string ⟨#[115, 117, 98, 115, 116, 114]⟩), .tmp 90]) (by kernel_rfl) (.told 74 true 85 (by kernel_rfl) (by kernel_rfl) g85) (map3 g86 rfl g90) (enters_of Tryz.func22 (by kernel_rfl) rfl) ((calls_substrAt w b90 (C.wd w hb) ⟨#[104, 101, 108, 108, 111]⟩ ⟨#[104, 101]⟩ 3 (-2) (by decide) (by decide) (by decide) hR90 aw_cut3).mono fun e w' h => ⟨_, h.1, rfl, h.2⟩)

theorem aw_s81 {Q : Exit → Act → World → Prop} {w0 : World} {x : Nat → Value} {p1 p2 : Nat} (C : AwC w0 x p1 p2) : OpStep Tryz.prog awOps Q awF w0 109 x 81 := by
  intro a w hb hk hF
  have g85 : a.eval (.tmp 85) = .bool true := hF 74 (of_decide_eq_true (by kernel_rfl)) 85 (by kernel_rfl)
  have g91 : a.eval (.tmp 91) = .bool true := hF 80 (of_decide_eq_true (by kernel_rfl)) 91 (by kernel_rfl)
  exact step_pickT (show opO awOps 81 = some (.pick (.tmp 85) (.tmp 91) (.const (.bool false))) by kernel_rfl) (.free (by kernel_rfl)) g85 g91 ⟨rfl, Below.refl _ _⟩

theorem aw_s82 {Q : Exit → Act → World → Prop} {w0 : World} {x : Nat → Value} {p1 p2 : Nat} (C : AwC w0 x p1 p2) : OpStep Tryz.prog awOps Q awF w0 109 x 82 := by
  intro a w hb hk hF
  have g92 : a.eval (.tmp 92) = .bool true := hF 81 (of_decide_eq_true (by kernel_rfl)) 92 (by kernel_rfl)
  exact step_move (show opO awOps 82 = some (.move (.tmp 92)) by kernel_rfl) (.free (by kernel_rfl)) g92 ⟨rfl, Below.refl _ _⟩

theorem aw_s83 {Q : Exit → Act → World → Prop} {w0 : World} {x : Nat → Value} {p1 p2 : Nat} (C : AwC w0 x p1 p2) : OpStep Tryz.prog awOps Q awF w0 109 x 83 := by
  intro a w hb hk hF
  have g93 : a.eval (.tmp 93) = .bool true := hF 82 (of_decide_eq_true (by kernel_rfl)) 93 (by kernel_rfl)
  exact step_call (f := 10) (xs := #[.const (.string ⟨#[]⟩)]) (by kernel_rfl) (.told 82 true 93 (by kernel_rfl) (by kernel_rfl) g93) (map1 rfl) (enters_of Tryz.func10 (by kernel_rfl) rfl) ((text_any ⟨#[]⟩ w).mono fun e w' h => ⟨_, h.1, rfl, h.2⟩)

theorem aw_s84 {Q : Exit → Act → World → Prop} {w0 : World} {x : Nat → Value} {p1 p2 : Nat} (C : AwC w0 x p1 p2) : OpStep Tryz.prog awOps Q awF w0 109 x 84 := by
  intro a w hb hk hF
  have g93 : a.eval (.tmp 93) = .bool true := hF 82 (of_decide_eq_true (by kernel_rfl)) 93 (by kernel_rfl)
  have g1 : a.eval (.tmp 1) = .pointer (some ⟨p1, 0, none⟩) := (hk 1 (by decide) (by kernel_rfl)).trans C.x1
  exact step_loadV (show opO awOps 84 = some (.load 24 (.tmp 1)) by kernel_rfl) (.told 82 true 93 (by kernel_rfl) (by kernel_rfl) g93) g1 (C.n1 w hb) ⟨rfl, Below.refl _ _⟩

theorem aw_s85 {Q : Exit → Act → World → Prop} {w0 : World} {x : Nat → Value} {p1 p2 : Nat} (C : AwC w0 x p1 p2) : OpStep Tryz.prog awOps Q awF w0 109 x 85 := by
  intro a w hb hk hF
  have g93 : a.eval (.tmp 93) = .bool true := hF 82 (of_decide_eq_true (by kernel_rfl)) 93 (by kernel_rfl)
  have g95 : a.eval (.tmp 95) = vv 0 0 ⟨#[]⟩ := hF 84 (of_decide_eq_true (by kernel_rfl)) 95 (by kernel_rfl)
  exact step_build1 (show opO awOps 85 = some (.buildSlice 27 1 #[(0, .tmp 95)]) by kernel_rfl) (.told 82 true 93 (by kernel_rfl) (by kernel_rfl) g93) g95 fun b hR hb' => ⟨⟨b, rfl, hR⟩, hb'⟩

theorem aw_s86 {Q : Exit → Act → World → Prop} {w0 : World} {x : Nat → Value} {p1 p2 : Nat} (C : AwC w0 x p1 p2) : OpStep Tryz.prog awOps Q awF w0 109 x 86 := by
  intro a w hb hk hF
  have g93 : a.eval (.tmp 93) = .bool true := hF 82 (of_decide_eq_true (by kernel_rfl)) 93 (by kernel_rfl)
  have g94 : a.eval (.tmp 94) = vv 2 0 ⟨#[]⟩ := hF 83 (of_decide_eq_true (by kernel_rfl)) 94 (by kernel_rfl)
  obtain ⟨b96, g96, hR96⟩ := (show IsL [(0, 0, ⟨#[]⟩)] _ w from hF 85 (of_decide_eq_true (by kernel_rfl)) 96 (by kernel_rfl))
  exact step_call (f := 22) (xs := #[.tmp 94, .const (.string ⟨#[104, 101, 120]⟩), .tmp 96]) (by kernel_rfl) (.told 82 true 93 (by kernel_rfl) (by kernel_rfl) g93) (map3 g94 rfl g96) (enters_of Tryz.func22 (by kernel_rfl) rfl) ((calls_hexAt w b96 (C.wd w hb) hR96).mono fun e w' h => ⟨_, h.1, rfl, h.2⟩)

theorem aw_s87 {Q : Exit → Act → World → Prop} {w0 : World} {x : Nat → Value} {p1 p2 : Nat} (C : AwC w0 x p1 p2) : OpStep Tryz.prog awOps Q awF w0 109 x 87 := by
  intro a w hb hk hF
  have g93 : a.eval (.tmp 93) = .bool true := hF 82 (of_decide_eq_true (by kernel_rfl)) 93 (by kernel_rfl)
  have g97 : a.eval (.tmp 97) = .bool true := hF 86 (of_decide_eq_true (by kernel_rfl)) 97 (by kernel_rfl)
  exact step_pickT (show opO awOps 87 = some (.pick (.tmp 93) (.tmp 97) (.const (.bool false))) by kernel_rfl) (.free (by kernel_rfl)) g93 g97 ⟨rfl, Below.refl _ _⟩

theorem aw_s88 {Q : Exit → Act → World → Prop} {w0 : World} {x : Nat → Value} {p1 p2 : Nat} (C : AwC w0 x p1 p2) : OpStep Tryz.prog awOps Q awF w0 109 x 88 := by
  intro a w hb hk hF
  have g98 : a.eval (.tmp 98) = .bool true := hF 87 (of_decide_eq_true (by kernel_rfl)) 98 (by kernel_rfl)
  exact step_move (show opO awOps 88 = some (.move (.tmp 98)) by kernel_rfl) (.free (by kernel_rfl)) g98 ⟨rfl, Below.refl _ _⟩

theorem aw_s89 {Q : Exit → Act → World → Prop} {w0 : World} {x : Nat → Value} {p1 p2 : Nat} (C : AwC w0 x p1 p2) : OpStep Tryz.prog awOps Q awF w0 109 x 89 := by
  intro a w hb hk hF
  have g99 : a.eval (.tmp 99) = .bool true := hF 88 (of_decide_eq_true (by kernel_rfl)) 99 (by kernel_rfl)
  exact step_call (f := 10) (xs := #[.const (.string ⟨#[105, 116, 39, 115]⟩)]) (by kernel_rfl) (.told 88 true 99 (by kernel_rfl) (by kernel_rfl) g99) (map1 rfl) (enters_of Tryz.func10 (by kernel_rfl) rfl) ((text_any ⟨#[105, 116, 39, 115]⟩ w).mono fun e w' h => ⟨_, h.1, rfl, h.2⟩)

theorem aw_s90 {Q : Exit → Act → World → Prop} {w0 : World} {x : Nat → Value} {p1 p2 : Nat} (C : AwC w0 x p1 p2) : OpStep Tryz.prog awOps Q awF w0 109 x 90 := by
  intro a w hb hk hF
  have g99 : a.eval (.tmp 99) = .bool true := hF 88 (of_decide_eq_true (by kernel_rfl)) 99 (by kernel_rfl)
  have g100 : a.eval (.tmp 100) = vv 2 0 ⟨#[105, 116, 39, 115]⟩ := hF 89 (of_decide_eq_true (by kernel_rfl)) 100 (by kernel_rfl)
  exact step_call (f := 69) (xs := #[.tmp 100]) (by kernel_rfl) (.told 88 true 99 (by kernel_rfl) (by kernel_rfl) g99) (map1 g100) (enters_of Tryz.func69 (by kernel_rfl) rfl) ((aw_st w (C.wd w hb)).mono fun e w' h => ⟨_, h.1, rfl, h.2⟩)

theorem aw_s91 {Q : Exit → Act → World → Prop} {w0 : World} {x : Nat → Value} {p1 p2 : Nat} (C : AwC w0 x p1 p2) : OpStep Tryz.prog awOps Q awF w0 109 x 91 := by
  intro a w hb hk hF
  have g99 : a.eval (.tmp 99) = .bool true := hF 88 (of_decide_eq_true (by kernel_rfl)) 99 (by kernel_rfl)
  have g101 : a.eval (.tmp 101) = .string ⟨#[39, 105, 116, 39, 39, 115, 39]⟩ := hF 90 (of_decide_eq_true (by kernel_rfl)) 101 (by kernel_rfl)
  exact step_eqS (show opO awOps 91 = some (.binOp .eql 9 (.tmp 101) (.const (.string ⟨#[39, 105, 116, 39, 39, 115, 39]⟩)) 9) by kernel_rfl) (.told 88 true 99 (by kernel_rfl) (by kernel_rfl) g99) g101 rfl (by decide +kernel) ⟨rfl, Below.refl _ _⟩

theorem aw_s92 {Q : Exit → Act → World → Prop} {w0 : World} {x : Nat → Value} {p1 p2 : Nat} (C : AwC w0 x p1 p2) : OpStep Tryz.prog awOps Q awF w0 109 x 92 := by
  intro a w hb hk hF
  have g99 : a.eval (.tmp 99) = .bool true := hF 88 (of_decide_eq_true (by kernel_rfl)) 99 (by kernel_rfl)
  have g102 : a.eval (.tmp 102) = .bool true := hF 91 (of_decide_eq_true (by kernel_rfl)) 102 (by kernel_rfl)
  exact step_pickT (show opO awOps 92 = some (.pick (.tmp 99) (.tmp 102) (.const (.bool false))) by kernel_rfl) (.free (by kernel_rfl)) g99 g102 ⟨rfl, Below.refl _ _⟩

theorem aw_s93 {Q : Exit → Act → World → Prop} {w0 : World} {x : Nat → Value} {p1 p2 : Nat} (C : AwC w0 x p1 p2) : OpStep Tryz.prog awOps Q awF w0 109 x 93 := by
  intro a w hb hk hF
  have g103 : a.eval (.tmp 103) = .bool true := hF 92 (of_decide_eq_true (by kernel_rfl)) 103 (by kernel_rfl)
  exact step_move (show opO awOps 93 = some (.move (.tmp 103)) by kernel_rfl) (.free (by kernel_rfl)) g103 ⟨rfl, Below.refl _ _⟩

theorem aw_s94 {Q : Exit → Act → World → Prop} {w0 : World} {x : Nat → Value} {p1 p2 : Nat} (C : AwC w0 x p1 p2) : OpStep Tryz.prog awOps Q awF w0 109 x 94 := by
  intro a w hb hk hF
  have g104 : a.eval (.tmp 104) = .bool true := hF 93 (of_decide_eq_true (by kernel_rfl)) 104 (by kernel_rfl)
  exact step_call (f := 23) (xs := #[.const (.string ⟨#[0, 255]⟩)]) (by kernel_rfl) (.told 93 true 104 (by kernel_rfl) (by kernel_rfl) g104) (map1 rfl) (enters_of Tryz.func23 (by kernel_rfl) rfl) ((blob_any ⟨#[0, 255]⟩ w).mono fun e w' h => ⟨_, h.1, rfl, h.2⟩)

theorem aw_s95 {Q : Exit → Act → World → Prop} {w0 : World} {x : Nat → Value} {p1 p2 : Nat} (C : AwC w0 x p1 p2) : OpStep Tryz.prog awOps Q awF w0 109 x 95 := by
  intro a w hb hk hF
  have g104 : a.eval (.tmp 104) = .bool true := hF 93 (of_decide_eq_true (by kernel_rfl)) 104 (by kernel_rfl)
  have g105 : a.eval (.tmp 105) = vv 3 0 ⟨#[0, 255]⟩ := hF 94 (of_decide_eq_true (by kernel_rfl)) 105 (by kernel_rfl)
  exact step_call (f := 69) (xs := #[.tmp 105]) (by kernel_rfl) (.told 93 true 104 (by kernel_rfl) (by kernel_rfl) g104) (map1 g105) (enters_of Tryz.func69 (by kernel_rfl) rfl) ((aw_sb w).mono fun e w' h => ⟨_, h.1, rfl, h.2⟩)

theorem aw_s96 {Q : Exit → Act → World → Prop} {w0 : World} {x : Nat → Value} {p1 p2 : Nat} (C : AwC w0 x p1 p2) : OpStep Tryz.prog awOps Q awF w0 109 x 96 := by
  intro a w hb hk hF
  have g104 : a.eval (.tmp 104) = .bool true := hF 93 (of_decide_eq_true (by kernel_rfl)) 104 (by kernel_rfl)
  have g106 : a.eval (.tmp 106) = .string ⟨#[88, 39, 48, 48, 70, 70, 39]⟩ := hF 95 (of_decide_eq_true (by kernel_rfl)) 106 (by kernel_rfl)
  exact step_eqS (show opO awOps 96 = some (.binOp .eql 9 (.tmp 106) (.const (.string ⟨#[88, 39, 48, 48, 70, 70, 39]⟩)) 9) by kernel_rfl) (.told 93 true 104 (by kernel_rfl) (by kernel_rfl) g104) g106 rfl (by decide +kernel) ⟨rfl, Below.refl _ _⟩

theorem aw_s97 {Q : Exit → Act → World → Prop} {w0 : World} {x : Nat → Value} {p1 p2 : Nat} (C : AwC w0 x p1 p2) : OpStep Tryz.prog awOps Q awF w0 109 x 97 := by
  intro a w hb hk hF
  have g104 : a.eval (.tmp 104) = .bool true := hF 93 (of_decide_eq_true (by kernel_rfl)) 104 (by kernel_rfl)
  have g107 : a.eval (.tmp 107) = .bool true := hF 96 (of_decide_eq_true (by kernel_rfl)) 107 (by kernel_rfl)
  exact step_pickT (show opO awOps 97 = some (.pick (.tmp 104) (.tmp 107) (.const (.bool false))) by kernel_rfl) (.free (by kernel_rfl)) g104 g107 ⟨rfl, Below.refl _ _⟩

theorem aw_s98 {Q : Exit → Act → World → Prop} {w0 : World} {x : Nat → Value} {p1 p2 : Nat} (C : AwC w0 x p1 p2) : OpStep Tryz.prog awOps Q awF w0 109 x 98 := by
  intro a w hb hk hF
  have g108 : a.eval (.tmp 108) = .bool true := hF 97 (of_decide_eq_true (by kernel_rfl)) 108 (by kernel_rfl)
  exact step_assign (show opO awOps 98 = some (.assign (.tmp 108)) by kernel_rfl) (.free (by kernel_rfl)) g108 ⟨rfl, Below.refl _ _⟩

theorem aw_all {Q : Exit → Act → World → Prop} {w0 : World} {x : Nat → Value} {p1 p2 : Nat} (C : AwC w0 x p1 p2) : ∀ i, i < awOps.size → OpStep Tryz.prog awOps Q awF w0 109 x i := by
  have e : awOps.size = 99 := by kernel_rfl
  rw [e]
  have u1 : ∀ i, i < 1 → OpStep Tryz.prog awOps Q awF w0 109 x i := upto_succ upto_zero (aw_s0 C)
  have u2 : ∀ i, i < 2 → OpStep Tryz.prog awOps Q awF w0 109 x i := upto_succ u1 (aw_s1 C)
  have u3 : ∀ i, i < 3 → OpStep Tryz.prog awOps Q awF w0 109 x i := upto_succ u2 (aw_s2 C)
  have u4 : ∀ i, i < 4 → OpStep Tryz.prog awOps Q awF w0 109 x i := upto_succ u3 (aw_s3 C)
  have u5 : ∀ i, i < 5 → OpStep Tryz.prog awOps Q awF w0 109 x i := upto_succ u4 (aw_s4 C)
  have u6 : ∀ i, i < 6 → OpStep Tryz.prog awOps Q awF w0 109 x i := upto_succ u5 (aw_s5 C)
  have u7 : ∀ i, i < 7 → OpStep Tryz.prog awOps Q awF w0 109 x i := upto_succ u6 (aw_s6 C)
  have u8 : ∀ i, i < 8 → OpStep Tryz.prog awOps Q awF w0 109 x i := upto_succ u7 (aw_s7 C)
  have u9 : ∀ i, i < 9 → OpStep Tryz.prog awOps Q awF w0 109 x i := upto_succ u8 (aw_s8 C)
  have u10 : ∀ i, i < 10 → OpStep Tryz.prog awOps Q awF w0 109 x i := upto_succ u9 (aw_s9 C)
  have u11 : ∀ i, i < 11 → OpStep Tryz.prog awOps Q awF w0 109 x i := upto_succ u10 (aw_s10 C)
  have u12 : ∀ i, i < 12 → OpStep Tryz.prog awOps Q awF w0 109 x i := upto_succ u11 (aw_s11 C)
  have u13 : ∀ i, i < 13 → OpStep Tryz.prog awOps Q awF w0 109 x i := upto_succ u12 (aw_s12 C)
  have u14 : ∀ i, i < 14 → OpStep Tryz.prog awOps Q awF w0 109 x i := upto_succ u13 (aw_s13 C)
  have u15 : ∀ i, i < 15 → OpStep Tryz.prog awOps Q awF w0 109 x i := upto_succ u14 (aw_s14 C)
  have u16 : ∀ i, i < 16 → OpStep Tryz.prog awOps Q awF w0 109 x i := upto_succ u15 (aw_s15 C)
  have u17 : ∀ i, i < 17 → OpStep Tryz.prog awOps Q awF w0 109 x i := upto_succ u16 (aw_s16 C)
  have u18 : ∀ i, i < 18 → OpStep Tryz.prog awOps Q awF w0 109 x i := upto_succ u17 (aw_s17 C)
  have u19 : ∀ i, i < 19 → OpStep Tryz.prog awOps Q awF w0 109 x i := upto_succ u18 (aw_s18 C)
  have u20 : ∀ i, i < 20 → OpStep Tryz.prog awOps Q awF w0 109 x i := upto_succ u19 (aw_s19 C)
  have u21 : ∀ i, i < 21 → OpStep Tryz.prog awOps Q awF w0 109 x i := upto_succ u20 (aw_s20 C)
  have u22 : ∀ i, i < 22 → OpStep Tryz.prog awOps Q awF w0 109 x i := upto_succ u21 (aw_s21 C)
  have u23 : ∀ i, i < 23 → OpStep Tryz.prog awOps Q awF w0 109 x i := upto_succ u22 (aw_s22 C)
  have u24 : ∀ i, i < 24 → OpStep Tryz.prog awOps Q awF w0 109 x i := upto_succ u23 (aw_s23 C)
  have u25 : ∀ i, i < 25 → OpStep Tryz.prog awOps Q awF w0 109 x i := upto_succ u24 (aw_s24 C)
  have u26 : ∀ i, i < 26 → OpStep Tryz.prog awOps Q awF w0 109 x i := upto_succ u25 (aw_s25 C)
  have u27 : ∀ i, i < 27 → OpStep Tryz.prog awOps Q awF w0 109 x i := upto_succ u26 (aw_s26 C)
  have u28 : ∀ i, i < 28 → OpStep Tryz.prog awOps Q awF w0 109 x i := upto_succ u27 (aw_s27 C)
  have u29 : ∀ i, i < 29 → OpStep Tryz.prog awOps Q awF w0 109 x i := upto_succ u28 (aw_s28 C)
  have u30 : ∀ i, i < 30 → OpStep Tryz.prog awOps Q awF w0 109 x i := upto_succ u29 (aw_s29 C)
  have u31 : ∀ i, i < 31 → OpStep Tryz.prog awOps Q awF w0 109 x i := upto_succ u30 (aw_s30 C)
  have u32 : ∀ i, i < 32 → OpStep Tryz.prog awOps Q awF w0 109 x i := upto_succ u31 (aw_s31 C)
  have u33 : ∀ i, i < 33 → OpStep Tryz.prog awOps Q awF w0 109 x i := upto_succ u32 (aw_s32 C)
  have u34 : ∀ i, i < 34 → OpStep Tryz.prog awOps Q awF w0 109 x i := upto_succ u33 (aw_s33 C)
  have u35 : ∀ i, i < 35 → OpStep Tryz.prog awOps Q awF w0 109 x i := upto_succ u34 (aw_s34 C)
  have u36 : ∀ i, i < 36 → OpStep Tryz.prog awOps Q awF w0 109 x i := upto_succ u35 (aw_s35 C)
  have u37 : ∀ i, i < 37 → OpStep Tryz.prog awOps Q awF w0 109 x i := upto_succ u36 (aw_s36 C)
  have u38 : ∀ i, i < 38 → OpStep Tryz.prog awOps Q awF w0 109 x i := upto_succ u37 (aw_s37 C)
  have u39 : ∀ i, i < 39 → OpStep Tryz.prog awOps Q awF w0 109 x i := upto_succ u38 (aw_s38 C)
  have u40 : ∀ i, i < 40 → OpStep Tryz.prog awOps Q awF w0 109 x i := upto_succ u39 (aw_s39 C)
  have u41 : ∀ i, i < 41 → OpStep Tryz.prog awOps Q awF w0 109 x i := upto_succ u40 (aw_s40 C)
  have u42 : ∀ i, i < 42 → OpStep Tryz.prog awOps Q awF w0 109 x i := upto_succ u41 (aw_s41 C)
  have u43 : ∀ i, i < 43 → OpStep Tryz.prog awOps Q awF w0 109 x i := upto_succ u42 (aw_s42 C)
  have u44 : ∀ i, i < 44 → OpStep Tryz.prog awOps Q awF w0 109 x i := upto_succ u43 (aw_s43 C)
  have u45 : ∀ i, i < 45 → OpStep Tryz.prog awOps Q awF w0 109 x i := upto_succ u44 (aw_s44 C)
  have u46 : ∀ i, i < 46 → OpStep Tryz.prog awOps Q awF w0 109 x i := upto_succ u45 (aw_s45 C)
  have u47 : ∀ i, i < 47 → OpStep Tryz.prog awOps Q awF w0 109 x i := upto_succ u46 (aw_s46 C)
  have u48 : ∀ i, i < 48 → OpStep Tryz.prog awOps Q awF w0 109 x i := upto_succ u47 (aw_s47 C)
  have u49 : ∀ i, i < 49 → OpStep Tryz.prog awOps Q awF w0 109 x i := upto_succ u48 (aw_s48 C)
  have u50 : ∀ i, i < 50 → OpStep Tryz.prog awOps Q awF w0 109 x i := upto_succ u49 (aw_s49 C)
  have u51 : ∀ i, i < 51 → OpStep Tryz.prog awOps Q awF w0 109 x i := upto_succ u50 (aw_s50 C)
  have u52 : ∀ i, i < 52 → OpStep Tryz.prog awOps Q awF w0 109 x i := upto_succ u51 (aw_s51 C)
  have u53 : ∀ i, i < 53 → OpStep Tryz.prog awOps Q awF w0 109 x i := upto_succ u52 (aw_s52 C)
  have u54 : ∀ i, i < 54 → OpStep Tryz.prog awOps Q awF w0 109 x i := upto_succ u53 (aw_s53 C)
  have u55 : ∀ i, i < 55 → OpStep Tryz.prog awOps Q awF w0 109 x i := upto_succ u54 (aw_s54 C)
  have u56 : ∀ i, i < 56 → OpStep Tryz.prog awOps Q awF w0 109 x i := upto_succ u55 (aw_s55 C)
  have u57 : ∀ i, i < 57 → OpStep Tryz.prog awOps Q awF w0 109 x i := upto_succ u56 (aw_s56 C)
  have u58 : ∀ i, i < 58 → OpStep Tryz.prog awOps Q awF w0 109 x i := upto_succ u57 (aw_s57 C)
  have u59 : ∀ i, i < 59 → OpStep Tryz.prog awOps Q awF w0 109 x i := upto_succ u58 (aw_s58 C)
  have u60 : ∀ i, i < 60 → OpStep Tryz.prog awOps Q awF w0 109 x i := upto_succ u59 (aw_s59 C)
  have u61 : ∀ i, i < 61 → OpStep Tryz.prog awOps Q awF w0 109 x i := upto_succ u60 (aw_s60 C)
  have u62 : ∀ i, i < 62 → OpStep Tryz.prog awOps Q awF w0 109 x i := upto_succ u61 (aw_s61 C)
  have u63 : ∀ i, i < 63 → OpStep Tryz.prog awOps Q awF w0 109 x i := upto_succ u62 (aw_s62 C)
  have u64 : ∀ i, i < 64 → OpStep Tryz.prog awOps Q awF w0 109 x i := upto_succ u63 (aw_s63 C)
  have u65 : ∀ i, i < 65 → OpStep Tryz.prog awOps Q awF w0 109 x i := upto_succ u64 (aw_s64 C)
  have u66 : ∀ i, i < 66 → OpStep Tryz.prog awOps Q awF w0 109 x i := upto_succ u65 (aw_s65 C)
  have u67 : ∀ i, i < 67 → OpStep Tryz.prog awOps Q awF w0 109 x i := upto_succ u66 (aw_s66 C)
  have u68 : ∀ i, i < 68 → OpStep Tryz.prog awOps Q awF w0 109 x i := upto_succ u67 (aw_s67 C)
  have u69 : ∀ i, i < 69 → OpStep Tryz.prog awOps Q awF w0 109 x i := upto_succ u68 (aw_s68 C)
  have u70 : ∀ i, i < 70 → OpStep Tryz.prog awOps Q awF w0 109 x i := upto_succ u69 (aw_s69 C)
  have u71 : ∀ i, i < 71 → OpStep Tryz.prog awOps Q awF w0 109 x i := upto_succ u70 (aw_s70 C)
  have u72 : ∀ i, i < 72 → OpStep Tryz.prog awOps Q awF w0 109 x i := upto_succ u71 (aw_s71 C)
  have u73 : ∀ i, i < 73 → OpStep Tryz.prog awOps Q awF w0 109 x i := upto_succ u72 (aw_s72 C)
  have u74 : ∀ i, i < 74 → OpStep Tryz.prog awOps Q awF w0 109 x i := upto_succ u73 (aw_s73 C)
  have u75 : ∀ i, i < 75 → OpStep Tryz.prog awOps Q awF w0 109 x i := upto_succ u74 (aw_s74 C)
  have u76 : ∀ i, i < 76 → OpStep Tryz.prog awOps Q awF w0 109 x i := upto_succ u75 (aw_s75 C)
  have u77 : ∀ i, i < 77 → OpStep Tryz.prog awOps Q awF w0 109 x i := upto_succ u76 (aw_s76 C)
  have u78 : ∀ i, i < 78 → OpStep Tryz.prog awOps Q awF w0 109 x i := upto_succ u77 (aw_s77 C)
  have u79 : ∀ i, i < 79 → OpStep Tryz.prog awOps Q awF w0 109 x i := upto_succ u78 (aw_s78 C)
  have u80 : ∀ i, i < 80 → OpStep Tryz.prog awOps Q awF w0 109 x i := upto_succ u79 (aw_s79 C)
  have u81 : ∀ i, i < 81 → OpStep Tryz.prog awOps Q awF w0 109 x i := upto_succ u80 (aw_s80 C)
  have u82 : ∀ i, i < 82 → OpStep Tryz.prog awOps Q awF w0 109 x i := upto_succ u81 (aw_s81 C)
  have u83 : ∀ i, i < 83 → OpStep Tryz.prog awOps Q awF w0 109 x i := upto_succ u82 (aw_s82 C)
  have u84 : ∀ i, i < 84 → OpStep Tryz.prog awOps Q awF w0 109 x i := upto_succ u83 (aw_s83 C)
  have u85 : ∀ i, i < 85 → OpStep Tryz.prog awOps Q awF w0 109 x i := upto_succ u84 (aw_s84 C)
  have u86 : ∀ i, i < 86 → OpStep Tryz.prog awOps Q awF w0 109 x i := upto_succ u85 (aw_s85 C)
  have u87 : ∀ i, i < 87 → OpStep Tryz.prog awOps Q awF w0 109 x i := upto_succ u86 (aw_s86 C)
  have u88 : ∀ i, i < 88 → OpStep Tryz.prog awOps Q awF w0 109 x i := upto_succ u87 (aw_s87 C)
  have u89 : ∀ i, i < 89 → OpStep Tryz.prog awOps Q awF w0 109 x i := upto_succ u88 (aw_s88 C)
  have u90 : ∀ i, i < 90 → OpStep Tryz.prog awOps Q awF w0 109 x i := upto_succ u89 (aw_s89 C)
  have u91 : ∀ i, i < 91 → OpStep Tryz.prog awOps Q awF w0 109 x i := upto_succ u90 (aw_s90 C)
  have u92 : ∀ i, i < 92 → OpStep Tryz.prog awOps Q awF w0 109 x i := upto_succ u91 (aw_s91 C)
  have u93 : ∀ i, i < 93 → OpStep Tryz.prog awOps Q awF w0 109 x i := upto_succ u92 (aw_s92 C)
  have u94 : ∀ i, i < 94 → OpStep Tryz.prog awOps Q awF w0 109 x i := upto_succ u93 (aw_s93 C)
  have u95 : ∀ i, i < 95 → OpStep Tryz.prog awOps Q awF w0 109 x i := upto_succ u94 (aw_s94 C)
  have u96 : ∀ i, i < 96 → OpStep Tryz.prog awOps Q awF w0 109 x i := upto_succ u95 (aw_s95 C)
  have u97 : ∀ i, i < 97 → OpStep Tryz.prog awOps Q awF w0 109 x i := upto_succ u96 (aw_s96 C)
  have u98 : ∀ i, i < 98 → OpStep Tryz.prog awOps Q awF w0 109 x i := upto_succ u97 (aw_s97 C)
  have u99 : ∀ i, i < 99 → OpStep Tryz.prog awOps Q awF w0 109 x i := upto_succ u98 (aw_s98 C)
  exact u99
theorem aw_fill (t : Array Value) (ht : t.size = 109) (V : Nat → Value) : fillT awOps t V = #[V 98, t.getD 1 undef, t.getD 2 undef, t.getD 3 undef, t.getD 4 undef, t.getD 5 undef, t.getD 6 undef, t.getD 7 undef, t.getD 8 undef, t.getD 9 undef, t.getD 10 undef, V 0, V 1, V 2, V 3, V 4, V 5, V 6, V 7, V 8, V 9, V 10, V 11, V 12, V 13, V 14, V 15, V 16, V 17, V 18, V 19, V 20, V 21, V 22, V 23, V 24, V 25, V 26, V 27, V 28, V 29, V 30, V 31, V 32, V 33, V 34, V 35, V 36, V 37, V 38, V 39, V 40, V 41, V 42, V 43, V 44, V 45, V 46, V 47, V 48, V 49, V 50, V 51, V 52, V 53, V 54, V 55, V 56, V 57, V 58, V 59, V 60, V 61, V 62, V 63, V 64, V 65, V 66, V 67, V 68, V 69, V 70, V 71, V 72, V 73, V 74, V 75, V 76, V 77, V 78, V 79, V 80, V 81, V 82, V 83, V 84, V 85, V 86, V 87, V 88, V 89, V 90, V 91, V 92, V 93, V 94, V 95, V 96, V 97] := by
  unfold fillT
  rw [ht]
  kernel_rfl
end Go.Proofs.YtceknmibopnmhaaGreatDoor
