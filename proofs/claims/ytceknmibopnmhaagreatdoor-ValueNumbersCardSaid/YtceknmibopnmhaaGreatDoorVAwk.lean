/-
  What the statements' own examples of substr and hex come to. Conditions: numbers of 64 bits; the library's variables are as its text lays them.
-/
import Derived.Test.YtceknmibopnmhaaGreatDoorVHelp
namespace Go.Proofs.YtceknmibopnmhaaGreatDoor
open Go.ChangeShapes Go.WideShapes Go.ChangeAt Go.RowKit
set_option linter.unusedVariables false

abbrev cells3 (k n : Int) (s : ByteArray) (k' n' : Int) (s' : ByteArray) (k2 n2 : Int) (s2 : ByteArray) : Obj :=
  .cells #[.int .u8 k, .int .i64 n, .string s, .int .u8 k', .int .i64 n', .string s', .int .u8 k2, .int .i64 n2, .string s2] 24
theorem rdv3 (X : World) (k n : Int) (s : ByteArray) (k' n' : Int) (s' : ByteArray) (k2 n2 : Int) (s2 : ByteArray) : RdV (X.alloc (cells3 k n s k' n' s' k2 n2 s2)) X.heap.size 0 [(k, n, s), (k', n', s'), (k2, n2, s2)] := by
  refine ⟨by simp, fun j a b c hj => ?_⟩
  match j, hj with
  | 0, hj => obtain ⟨rfl, rfl, rfl⟩ : k = a ∧ n = b ∧ s = c := by simpa using hj
             refine ⟨?_, ?_, ?_⟩ <;> simp [go_sem]
  | 1, hj => obtain ⟨rfl, rfl, rfl⟩ : k' = a ∧ n' = b ∧ s' = c := by simpa using hj
             refine ⟨?_, ?_, ?_⟩ <;> simp [go_sem]
  | 2, hj => obtain ⟨rfl, rfl, rfl⟩ : k2 = a ∧ n2 = b ∧ s2 = c := by simpa using hj
             refine ⟨?_, ?_, ?_⟩ <;> simp [go_sem]
  | j + 3, hj => simp at hj
theorem rdv1 (X : World) (k n : Int) (s : ByteArray) : RdV (X.alloc (box k n s)) X.heap.size 0 [(k, n, s)] := by
  refine ⟨by simp, fun j a b c hj => ?_⟩
  match j, hj with
  | 0, hj => obtain ⟨rfl, rfl, rfl⟩ : k = a ∧ n = b ∧ s = c := by simpa using hj
             refine ⟨?_, ?_, ?_⟩ <;> simp [go_sem]
  | j + 1, hj => simp at hj

theorem pBad_of {t : Trip} (h : Rt t.1 t.2.1 t.2.2) : pBad t = false := by simp [pBad, h]

set_option maxRecDepth 100000 in
/-- 'substr' of a text, a place and a number -/
theorem calls_substr (X : World) (hW : Wd X) (s want : ByteArray) (f c : Int) (hs : s.size ≤ 65536) (hf : In64 f) (hc : In64 c)
    (hw : cutS s (min (fromP s.size f) (addW (fromP s.size f) c)) (max (fromP s.size f) (addW (fromP s.size f) c)) = want) :
    Calls Tryz.prog 22 #[vv 2 0 want, .string ⟨#[115, 117, 98, 115, 116, 114]⟩, .slice (some ⟨X.heap.size, 0, none⟩) 3 3] (X.alloc (cells3 2 0 s 1 f ⟨#[]⟩ 1 c ⟨#[]⟩)) fun e w' => e = .returned (.bool true) ∧ Below X.heap.size X w' := by
  have hx : Below X.heap.size X (X.alloc (cells3 2 0 s 1 f ⟨#[]⟩ 1 c ⟨#[]⟩)) := (Below.refl _ _).alloc (Nat.le_refl _) _
  have hR := rdv3 X 2 0 s 1 f ⟨#[]⟩ 1 c ⟨#[]⟩
  refine (calls_yes 2 0 want _ _ 3 3 _ fun W hb => ?_).mono fun e w' ⟨he, hb⟩ => ⟨he, hx.trans (hb.mono hx.size)⟩
  have hR' := hR.on hb
  have hW' := (hW.on hx).on hb
  refine Call_fn _ 2 3 false _ _ named_substr X.heap.size 0 3 [(2, 0, s), (1, f, ⟨#[]⟩), (1, c, ⟨#[]⟩)] W ?_ (by simp) hR' (by simp) (by simp) ?_ (.inr (by simp [pNul])) 2 0 want 0 enters_substr ?_
  · intro t ht
    simp only [List.mem_cons, List.mem_nil_iff, or_false] at ht
    rcases ht with rfl | rfl | rfl
    · show s.size ≤ _; omega
    · show 0 ≤ _; omega
    · show 0 ≤ _; omega
  · have e1 : pBad (2, 0, s) = false := pBad_of (.inr (.inr ⟨.inl rfl, rfl, hs⟩))
    have e2 : ∀ z, pBad (1, z, ⟨#[]⟩) = false := fun z => pBad_of (.inr (.inl ⟨rfl, rfl⟩))
    simp [e1, e2]
  · intro V c1 c2 hV _
    have := subCall3 X.heap.size 0 2 0 s 1 f ⟨#[]⟩ 1 c ⟨#[]⟩ V (by unfold In64; omega) (hW'.on hV) (by show s.size ≤ _; omega) (by omega) (by show 0 ≤ _; omega) hf (by show 0 ≤ _; omega) hc (hR'.on hV)
    have e : cutS (textV 2 0 s) (min (fromP (textV 2 0 s).size (intV 1 f ⟨#[]⟩)) (addW (fromP (textV 2 0 s).size (intV 1 f ⟨#[]⟩)) (intV 1 c ⟨#[]⟩))) (max (fromP (textV 2 0 s).size (intV 1 f ⟨#[]⟩)) (addW (fromP (textV 2 0 s).size (intV 1 f ⟨#[]⟩)) (intV 1 c ⟨#[]⟩))) = want := hw
    rw [e] at this
    exact this

set_option maxRecDepth 100000 in
/-- 'hex' of NULL -/
theorem calls_hexNull (X : World) (hW : Wd X) :
    Calls Tryz.prog 22 #[vv 2 0 ⟨#[]⟩, .string ⟨#[104, 101, 120]⟩, .slice (some ⟨X.heap.size, 0, none⟩) 1 1] (X.alloc (box 0 0 ⟨#[]⟩)) fun e w' => e = .returned (.bool true) ∧ Below X.heap.size X w' := by
  have hx : Below X.heap.size X (X.alloc (box 0 0 ⟨#[]⟩)) := (Below.refl _ _).alloc (Nat.le_refl _) _
  have hR := rdv1 X 0 0 ⟨#[]⟩
  refine (calls_yes 2 0 ⟨#[]⟩ _ _ 1 1 _ fun W hb => ?_).mono fun e w' ⟨he, hb⟩ => ⟨he, hx.trans (hb.mono hx.size)⟩
  have hR' := hR.on hb
  have hW' := (hW.on hx).on hb
  refine Call_fn _ 1 1 true _ _ named_hex X.heap.size 0 1 [(0, 0, ⟨#[]⟩)] W ?_ (by simp) hR' (by simp) (by simp) ?_ (.inl rfl) 2 0 ⟨#[]⟩ 0 enters_hex ?_
  · intro t ht
    simp only [List.mem_cons, List.mem_nil_iff, or_false] at ht
    subst ht
    show 0 ≤ _
    omega
  · have e1 : pBad (0, 0, ⟨#[]⟩) = false := pBad_of (.inl ⟨rfl, rfl, rfl⟩)
    simp [e1]
  · intro V c1 c2 hV _
    exact hexCall X.heap.size 0 0 0 ⟨#[]⟩ V (by unfold In64; omega) (hW'.on hV) 2 0 ⟨#[]⟩ 0 (hR'.on hV) fun U _ => hex_ok _ U (by show 2 * 0 ≤ _; omega)
end Go.Proofs.YtceknmibopnmhaaGreatDoor
