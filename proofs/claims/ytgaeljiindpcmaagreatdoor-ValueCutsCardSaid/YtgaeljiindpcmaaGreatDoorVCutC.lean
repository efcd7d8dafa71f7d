/-
  What the law on cuts calls (layer 2, value): its closure (Call, the error dropped) at length, upper, lower, hex, instr and substr. Conditions: texts of at most 65536 bytes; the library's variables are as its text lays them.
-/
import Derived.Test.YtgaeljiindpcmaaGreatDoorVUpper
import Derived.Test.YtgaeljiindpcmaaGreatDoorVCallC
import Derived.Test.YtgaeljiindpcmaaGreatDoorVHelp
import Derived.Test.YtgaeljiindpcmaaGreatDoorVAwS
namespace Go.Proofs.YtgaeljiindpcmaaGreatDoor
open Go.ChangeShapes Go.WideShapes Go.ChangeAt Go.RowKit
set_option linter.unusedVariables false

theorem cut_any (a b : Int) (c : ByteArray) (er : Int) (name : ByteArray) (A : Option Addr) (m cap : Nat) (w : World)
    (H : ∀ W, Below w.heap.size w W → Calls Tryz.prog 12 #[.string name, .slice A m cap] W (RetV (vv a b c) er W)) :
    Calls Tryz.prog 26 #[.string name, .slice A m cap] w fun e w' => e = .returned (vv a b c) ∧ Below w.heap.size w w' := by
  have HH := Lib.hid H
  clear H
  go_enter Tryz.func26, Tryz.ntmps26
  go_wp2_with (go_at_call 12; refine (HH.out _ (w1_below w)).mono ?_; rintro e wa ⟨rfl, ba⟩; have HB := Lib.hid ba; obtain ⟨hc0, hc1, hc2, hf0, hf1, hf2⟩ := w1_out _ _ ba; have hz : w.heap.size < wa.heap.size := (by have := ba.size; simp at this; omega); clear ba)
  exact bodyPost_ret (v := vv a b c) (by simp [results, Tryz.results26, go_sem, hc0, hc1, hc2, hz]) rfl ⟨rfl, (w1_end _ _ HB.out _ _ _).alloc (by simp; omega) _⟩

/-- a text of the law's: right, not too long -/
theorem bad_text {s : ByteArray} (h : s.size ≤ 65536) : pBad (2, 0, s) = false := pBad_of (.inr (.inr ⟨.inl rfl, rfl, h⟩))
theorem bad_int (z : Int) : pBad (1, z, ⟨#[]⟩) = false := pBad_of (.inr (.inl ⟨rfl, rfl⟩))

theorem cut_length (X : World) (b : Nat) (hW : Wd X) (s : ByteArray) (hs : s.size ≤ 65536) (hR : RdV X b 0 [(2, 0, s)]) :
    Calls Tryz.prog 26 #[.string ⟨#[108, 101, 110, 103, 116, 104]⟩, .slice (some ⟨b, 0, none⟩) 1 1] X fun e w' => e = .returned (vv 1 s.size ⟨#[]⟩) ∧ Below X.heap.size X w' := by
  refine cut_any 1 s.size ⟨#[]⟩ 0 _ _ 1 1 _ fun W hb => ?_
  have hR' := hR.on hb
  have hW' := hW.on hb
  refine Call_fn _ 1 1 false _ _ named_length b 0 1 [(2, 0, s)] W ?_ (by simp) hR' (by simp) (by simp) (by simp [bad_text hs]) (.inr (by simp [pNul])) 1 s.size ⟨#[]⟩ 0 (enters_of Tryz.func95 (by kernel_rfl) rfl) ?_
  · intro t ht
    simp only [List.mem_cons, List.mem_nil_iff, or_false] at ht
    subst ht
    show s.size ≤ _; omega
  · intro V c1 c2 hV _
    exact lengthCall b 0 2 0 s V (by unfold In64; omega) (hW'.on hV) (hR'.on hV)

theorem cut_upper (X : World) (b : Nat) (hW : Wd X) (s : ByteArray) (hs : s.size ≤ 65536) (hR : RdV X b 0 [(2, 0, s)]) (x : ByteArray) (hx : turnedS largeU s = x) :
    Calls Tryz.prog 26 #[.string ⟨#[117, 112, 112, 101, 114]⟩, .slice (some ⟨b, 0, none⟩) 1 1] X fun e w' => e = .returned (vv 2 0 x) ∧ Below X.heap.size X w' := by
  subst hx
  refine cut_any 2 0 _ 0 _ _ 1 1 _ fun W hb => ?_
  have hR' := hR.on hb
  have hW' := hW.on hb
  refine Call_fn _ 1 1 false _ _ named_upper b 0 1 [(2, 0, s)] W ?_ (by simp) hR' (by simp) (by simp) (by simp [bad_text hs]) (.inr (by simp [pNul])) 2 0 _ 0 (enters_of Tryz.func122 (by kernel_rfl) rfl) ?_
  · intro t ht
    simp only [List.mem_cons, List.mem_nil_iff, or_false] at ht
    subst ht
    show s.size ≤ _; omega
  · intro V c1 c2 hV hB
    exact upperCall b 0 c1 2 0 s V (by unfold In64; omega) (hW'.on hV) (hR'.on hV) hB.1 s rfl (by omega)

theorem cut_lower (X : World) (b : Nat) (hW : Wd X) (s : ByteArray) (hs : s.size ≤ 65536) (hR : RdV X b 0 [(2, 0, s)]) (x : ByteArray) (hx : turnedS smallU s = x) :
    Calls Tryz.prog 26 #[.string ⟨#[108, 111, 119, 101, 114]⟩, .slice (some ⟨b, 0, none⟩) 1 1] X fun e w' => e = .returned (vv 2 0 x) ∧ Below X.heap.size X w' := by
  subst hx
  refine cut_any 2 0 _ 0 _ _ 1 1 _ fun W hb => ?_
  have hR' := hR.on hb
  have hW' := hW.on hb
  refine Call_fn _ 1 1 false _ _ named_lower b 0 1 [(2, 0, s)] W ?_ (by simp) hR' (by simp) (by simp) (by simp [bad_text hs]) (.inr (by simp [pNul])) 2 0 _ 0 (enters_of Tryz.func122 (by kernel_rfl) rfl) ?_
  · intro t ht
    simp only [List.mem_cons, List.mem_nil_iff, or_false] at ht
    subst ht
    show s.size ≤ _; omega
  · intro V c1 c2 hV hB
    exact lowerCall b 0 c2 2 0 s V (by unfold In64; omega) (hW'.on hV) (hR'.on hV) hB.2 s rfl (by omega)

theorem cut_hex (X : World) (b : Nat) (hW : Wd X) (s : ByteArray) (hs : 2 * s.size ≤ 65536) (hR : RdV X b 0 [(2, 0, s)]) (x : ByteArray) (hx : (⟨(hexL s.data.toList).toArray⟩ : ByteArray) = x) :
    Calls Tryz.prog 26 #[.string ⟨#[104, 101, 120]⟩, .slice (some ⟨b, 0, none⟩) 1 1] X fun e w' => e = .returned (vv 2 0 x) ∧ Below X.heap.size X w' := by
  subst hx
  refine cut_any 2 0 _ 0 _ _ 1 1 _ fun W hb => ?_
  have hR' := hR.on hb
  have hW' := hW.on hb
  refine Call_fn _ 1 1 true _ _ named_hex b 0 1 [(2, 0, s)] W ?_ (by simp) hR' (by simp) (by simp) (by simp [bad_text (show s.size ≤ 65536 by omega)]) (.inl rfl) 2 0 _ 0 enters_hex ?_
  · intro t ht
    simp only [List.mem_cons, List.mem_nil_iff, or_false] at ht
    subst ht
    show s.size ≤ _; omega
  · intro V c1 c2 hV _
    exact hexCall b 0 2 0 s V (by unfold In64; omega) (hW'.on hV) 2 0 _ 0 (hR'.on hV) fun W' _ => hex_ok s W' hs

theorem cut_instr (X : World) (b : Nat) (hW : Wd X) (s t : ByteArray) (hs : s.size ≤ 65536) (ht : t.size ≤ 65536) (hR : RdV X b 0 [(2, 0, s), (2, 0, t)]) (z : Int) (hz : Lib.index s.data.toList t.data.toList + 1 = z) :
    Calls Tryz.prog 26 #[.string ⟨#[105, 110, 115, 116, 114]⟩, .slice (some ⟨b, 0, none⟩) 2 2] X fun e w' => e = .returned (vv 1 z ⟨#[]⟩) ∧ Below X.heap.size X w' := by
  subst hz
  refine cut_any 1 _ ⟨#[]⟩ 0 _ _ 2 2 _ fun W hb => ?_
  have hR' := hR.on hb
  have hW' := hW.on hb
  refine Call_fn _ 2 2 false _ _ named_instr b 0 2 [(2, 0, s), (2, 0, t)] W ?_ (by simp) hR' (by simp) (by simp) (by simp [bad_text hs, bad_text ht]) (.inr (by simp [pNul])) 1 _ ⟨#[]⟩ 0 (enters_of Tryz.func105 (by kernel_rfl) rfl) ?_
  · intro t' ht'
    simp only [List.mem_cons, List.mem_nil_iff, or_false] at ht'
    rcases ht' with rfl | rfl
    · show s.size ≤ _; omega
    · show t.size ≤ _; omega
  · intro V c1 c2 hV _
    exact instrCall b 0 2 0 s 2 0 t V (by unfold In64; omega) (by unfold In64; omega) (hW'.on hV) hs (hR'.on hV) _ rfl

theorem cut_sub2 (X : World) (b : Nat) (hW : Wd X) (s : ByteArray) (hs : s.size ≤ 65536) (f : Int) (hf : In64 f) (hR : RdV X b 0 [(2, 0, s), (1, f, ⟨#[]⟩)]) (x : ByteArray) (hx : cutS s (fromP s.size f) (s.size + 1) = x) :
    Calls Tryz.prog 26 #[.string ⟨#[115, 117, 98, 115, 116, 114]⟩, .slice (some ⟨b, 0, none⟩) 2 2] X fun e w' => e = .returned (vv 2 0 x) ∧ Below X.heap.size X w' := by
  refine cut_any 2 0 x 0 _ _ 2 2 _ fun W hb => ?_
  have hR' := hR.on hb
  have hW' := hW.on hb
  refine Call_fn _ 2 3 false _ _ named_substr b 0 2 [(2, 0, s), (1, f, ⟨#[]⟩)] W ?_ (by simp) hR' (by simp) (by simp) (by simp [bad_text hs, bad_int]) (.inr (by simp [pNul])) 2 0 x 0 enters_substr ?_
  · intro t' ht'
    simp only [List.mem_cons, List.mem_nil_iff, or_false] at ht'
    rcases ht' with rfl | rfl
    · show s.size ≤ _; omega
    · show 0 ≤ _; omega
  · intro V c1 c2 hV _
    exact subCall2 b 0 2 0 s 1 f ⟨#[]⟩ V (by unfold In64; omega) (hW'.on hV) (by show s.size ≤ _; omega) (by omega) (by show 0 ≤ _; omega) hf (hR'.on hV) x hx

theorem cut_sub3 (X : World) (b : Nat) (hW : Wd X) (s : ByteArray) (hs : s.size ≤ 65536) (f c : Int) (hf : In64 f) (hc : In64 c) (hR : RdV X b 0 [(2, 0, s), (1, f, ⟨#[]⟩), (1, c, ⟨#[]⟩)]) (x : ByteArray)
    (hx : cutS s (min (fromP s.size f) (addW (fromP s.size f) c)) (max (fromP s.size f) (addW (fromP s.size f) c)) = x) :
    Calls Tryz.prog 26 #[.string ⟨#[115, 117, 98, 115, 116, 114]⟩, .slice (some ⟨b, 0, none⟩) 3 3] X fun e w' => e = .returned (vv 2 0 x) ∧ Below X.heap.size X w' := by
  subst hx
  refine cut_any 2 0 _ 0 _ _ 3 3 _ fun W hb => ?_
  have hR' := hR.on hb
  have hW' := hW.on hb
  refine Call_fn _ 2 3 false _ _ named_substr b 0 3 [(2, 0, s), (1, f, ⟨#[]⟩), (1, c, ⟨#[]⟩)] W ?_ (by simp) hR' (by simp) (by simp) (by simp [bad_text hs, bad_int]) (.inr (by simp [pNul])) 2 0 _ 0 enters_substr ?_
  · intro t' ht'
    simp only [List.mem_cons, List.mem_nil_iff, or_false] at ht'
    rcases ht' with rfl | rfl | rfl
    · show s.size ≤ _; omega
    · show 0 ≤ _; omega
    · show 0 ≤ _; omega
  · intro V c1 c2 hV _
    exact subCall3 b 0 2 0 s 1 f ⟨#[]⟩ 1 c ⟨#[]⟩ V (by unfold In64; omega) (hW'.on hV) (by show s.size ≤ _; omega) (by omega) (by show 0 ≤ _; omega) hf (by show 0 ≤ _; omega) hc (hR'.on hV)
end Go.Proofs.YtgaeljiindpcmaaGreatDoor
