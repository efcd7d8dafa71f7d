/-
  Layer 2: ValueNumbers: what its last region's calls tell. Conditions: the library's variables are as its text lays them.
-/
import Derived.Test.YtceknmibopnmhaaGreatDoorVNumR2
import Derived.Test.YtceknmibopnmhaaGreatDoorVUpper
namespace Go.Proofs.YtceknmibopnmhaaGreatDoor
open Go.ChangeShapes Go.WideShapes Go.ChangeAt Go.RowKit Go.ChangeMaps Go.Lib
set_option linter.unusedVariables false
def CallIs (w0 : World) (k n : Int) (s name : ByteArray) (vs : List Trip) : Prop := ∀ (w : World) (b : Nat), Below w0.heap.size w0 w → RdV w b 0 vs → Calls Tryz.prog 22 #[vv k n s, .string name, .slice (some ⟨b, 0, none⟩) vs.length vs.length] w fun e w' => e = .returned (.bool true) ∧ Below w.heap.size w w'
theorem rt2 (s : ByteArray) (h : s.size ≤ 65536) : Rt 2 0 s := .inr (.inr ⟨.inl rfl, rfl, h⟩)
theorem allR2 {a b : Trip} (h1 : Rt a.1 a.2.1 a.2.2) (h2 : Rt b.1 b.2.1 b.2.2) : AllR [a, b] := by
  intro t ht
  simp only [List.mem_cons, List.mem_nil_iff, or_false] at ht
  rcases ht with rfl | rfl <;> assumption
theorem allR1 {a : Trip} (h1 : Rt a.1 a.2.1 a.2.2) : AllR [a] := by
  intro t ht
  rw [List.mem_singleton.1 ht]
  exact h1
theorem ci_ifnull (w0 : World) : CallIs w0 0 0 ⟨#[]⟩ ⟨#[105, 102, 110, 117, 108, 108]⟩ [(0, 0, ⟨#[]⟩), (0, 0, ⟨#[]⟩)] := fun w b _ hR =>
  calls_first named_ifnull b [(0, 0, ⟨#[]⟩), (0, 0, ⟨#[]⟩)] w (allR2 Rt_nul Rt_nul) (by simp) hR (by simp) (by simp) 0 0 ⟨#[]⟩ rfl
theorem ci_instr (w0 : World) (hW : Wd w0) (s t : ByteArray) (hs : s.size ≤ 100) (ht : t.size ≤ 100) (z : Int) (hz : Lib.index s.data.toList t.data.toList = z) : CallIs w0 1 (z + 1) ⟨#[]⟩ ⟨#[105, 110, 115, 116, 114]⟩ [(2, 0, s), (2, 0, t)] := fun w b hb hR => by
  have hA : AllR [(2, 0, s), (2, 0, t)] := allR2 (rt2 s (by omega)) (rt2 t (by omega))
  refine calls_yes 1 (z + 1) ⟨#[]⟩ _ _ 2 2 w fun W hb2 => ?_
  refine Call_fn _ 2 2 false _ _ named_instr b 0 2 [(2, 0, s), (2, 0, t)] W (allR_size hA) (by simp) (hR.on hb2) (by simp) (by simp) (allR_bad hA) (.inr (by simp [pNul])) 1 (z + 1) ⟨#[]⟩ 0 (enters_of Tryz.func125 (by kernel_rfl) rfl) ?_
  intro V c1 c2 hV _
  exact instrCall b 0 2 0 s 2 0 t V in0 in0 (hW.on ((hb.trans (hb2.mono hb.size)).trans (hV.mono (hb.trans (hb2.mono hb.size)).size))) (by rw [tv2]; omega) ((hR.on hb2).on hV) z (by rw [tv2, tv2]; exact hz)
theorem ci_upper (w0 : World) (hW : Wd w0) (s u : ByteArray) (hs : s.size ≤ 100) (h : turnedS largeU s = u) : CallIs w0 2 0 u ⟨#[117, 112, 112, 101, 114]⟩ [(2, 0, s)] := fun w b hb hR => by
  have hA : AllR [(2, 0, s)] := allR1 (rt2 s (by omega))
  refine calls_yes 2 0 u _ _ 1 1 w fun W hb2 => ?_
  refine Call_fn _ 1 1 false _ _ named_upper b 0 1 [(2, 0, s)] W (allR_size hA) (by simp) (hR.on hb2) (by simp) (by simp) (allR_bad hA) (.inr (by simp [pNul])) 2 0 u 0 (enters_of Tryz.func152 (by kernel_rfl) rfl) ?_
  intro V c1 c2 hV hx
  have := upperCall b 0 c1 2 0 s V in0 (hW.on ((hb.trans (hb2.mono hb.size)).trans (hV.mono (hb.trans (hb2.mono hb.size)).size))) ((hR.on hb2).on hV) hx.1 s (tv2 s) (by omega)
  rw [h] at this
  exact this
theorem ci_sub2 (w0 : World) (hW : Wd w0) (n f : Int) (t : ByteArray) (hn : In64 n) (hf : In64 f) (hl : (textV 1 n ⟨#[]⟩).size ≤ 100) (h : cutS (textV 1 n ⟨#[]⟩) (fromP (textV 1 n ⟨#[]⟩).size f) ((textV 1 n ⟨#[]⟩).size + 1) = t) : CallIs w0 2 0 t ⟨#[115, 117, 98, 115, 116, 114]⟩ [(1, n, ⟨#[]⟩), (1, f, ⟨#[]⟩)] := fun w b hb hR => by
  have hA : AllR [(1, n, ⟨#[]⟩), (1, f, ⟨#[]⟩)] := allR2 (rt1 n) (rt1 f)
  refine calls_yes 2 0 t _ _ 2 2 w fun W hb2 => ?_
  refine Call_fn _ 2 3 false _ _ named_substr b 0 2 [(1, n, ⟨#[]⟩), (1, f, ⟨#[]⟩)] W (allR_size hA) (by simp) (hR.on hb2) (by simp) (by simp) (allR_bad hA) (.inr (by simp [pNul])) 2 0 t 0 enters_substr ?_
  intro V c1 c2 hV _
  exact subCall2 b 0 1 n ⟨#[]⟩ 1 f ⟨#[]⟩ V hn (hW.on ((hb.trans (hb2.mono hb.size)).trans (hV.mono (hb.trans (hb2.mono hb.size)).size))) (by omega) (by decide) (by decide) (by rw [iv1]; exact hf) ((hR.on hb2).on hV) t (by rw [iv1]; exact h)
theorem known_100 (w : World) : Calls Tryz.prog 19 #[.string ⟨#[99, 111, 97, 108, 101, 115, 99, 101]⟩, .int .i64 100] w fun e w' => e = .returned (.bool true) ∧ Below w.heap.size w w' := Known_yes _ 2 100 100 true _ _ named_coalesce (by decide) (by decide) w
end Go.Proofs.YtceknmibopnmhaaGreatDoor
