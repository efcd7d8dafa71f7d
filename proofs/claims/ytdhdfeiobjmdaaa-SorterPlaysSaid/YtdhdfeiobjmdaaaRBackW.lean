/-
  RecordBack returns true for every two rows, flags and bytes: the walk. Conditions: numbers of 64 bits; sizes.
-/
import Derived.Test.YtdhdfeiobjmdaaaRBackS
namespace Go.Proofs.Ytdhdfeiobjmdaaa
open Go.ChangeShapes Go.WideShapes Go.ChangeAt Go.RowKit
set_option linter.unusedVariables false

/-- right values, as many as a row may have, whose bytes are not too many -/
def FineR (vs : List Trip) : Prop := ∀ v ∈ vs, Rt v.1 v.2.1 v.2.2 ∧ In64 v.2.1
theorem GoodR.fine {vs : List Trip} (h : GoodR vs) : FineR vs := fun v hv => ⟨(h v hv).1, (h v hv).2.2⟩
theorem FineR.bad {vs : List Trip} (h : FineR vs) : vs.any pBad = false := by
  rw [List.any_eq_false]
  intro t ht
  simp [pBad, (h t ht).1]
theorem put_all (A : Option Addr) (cap m : Nat) (vs : List Trip) (w : World) (hR : RdR w w.heap.size A vs) (hl : vs.length ≤ 200) (hg : FineR vs) (hm : m = vs.length) (l : List UInt8) (hl0 : putL vs = l) (hlen : l.length ≤ 1048576) :
    Calls Try.prog 27 #[.slice A m cap] w fun e w' => ∃ B c, e = .returned (.tuple #[.slice B l.length c, .int .i64 0]) ∧ Own w' w.heap.size (.slice B l.length c) l ∧ Below w.heap.size w w' := by
  subst hm hl0
  refine (Put_ok A cap vs w hR hl hg.bad (fun t ht => ⟨rt_size (hg t ht).1, (hg t ht).2⟩) (by rw [putL, List.length_append, bodies_len vs hg] at hlen; exact hlen)).mono ?_
  rintro e w' ⟨v, rfl, ho, hb⟩
  obtain ⟨B, c, rfl, m1, m2, _⟩ := ho.form
  clear m1 m2
  exact ⟨B, c, rfl, ho, hb⟩
theorem escL_count : ∀ l : List UInt8, (escL l).length = l.length + Lib.countByte l 0
  | [] => rfl
  | c :: l => by
    have ih := escL_count l
    unfold Lib.countByte at *
    have e : escL (c :: l) = esc c ++ escL l := rfl
    rw [e, List.length_append, ih, List.length_cons, List.count_cons]
    unfold esc
    by_cases h : c = 0
    · subst h; simp; omega
    · simp [h]; omega
theorem part_len (k n : Int) (s : ByteArray) (h : Rt k n s) : (partL k n s).length = partN k s := by
  have hl : s.data.toList.length = s.size := by rcases s with ⟨⟨l⟩⟩; rfl
  rcases h with ⟨rfl, rfl, h⟩ | ⟨rfl, h⟩ | ⟨hk, rfl, h⟩
  · rfl
  · show (2 :: beN (intN n) 8).length = 9
    rw [List.length_cons, beN_length]
  · rcases hk with rfl | rfl
    · show (3 :: (escL s.data.toList ++ [0, 0])).length = 1 + s.size + Lib.countByte s.data.toList 0 + 2
      rw [List.length_cons, List.length_append, escL_count, hl]
      simp; omega
    · show (4 :: (escL s.data.toList ++ [0, 0])).length = 1 + s.size + Lib.countByte s.data.toList 0 + 2
      rw [List.length_cons, List.length_append, escL_count, hl]
      simp; omega
theorem key_len : ∀ (vs : List Trip) (ds : List Bool), FineR vs → vs.length = ds.length → (keyL vs ds).length = sumP vs
  | [], [], _, _ => rfl
  | (k, n, s) :: vs, d :: ds, h, hl => by
    have ih := key_len vs ds (fun v hv => h v (List.mem_cons_of_mem _ hv)) (by simpa using hl)
    have e : sumP ((k, n, s) :: vs) = partN k s + sumP vs := by simp [sumP]
    rw [keyL, List.length_append, turnL_length, ih, e, part_len k n s (h _ List.mem_cons_self).1]
  | [], _ :: _, _, h => by simp at h
  | _ :: _, [], _, h => by simp at h
theorem key_all (A : Option Addr) (cap m : Nat) (vs : List Trip) (F : Option Addr) (fcap m' : Nat) (ds : List Bool) (w : World) (hR : RdR w w.heap.size A vs) (hF : RdF w w.heap.size F ds) (hl : vs.length ≤ 200) (hd : ds.length = vs.length) (hg : FineR vs) (hm : m = vs.length) (hm' : m' = ds.length) (l : List UInt8) (hl0 : keyL vs ds = l) (hlen : l.length ≤ 1048576) :
    Calls Try.prog 26 #[.slice A m cap, .slice F m' fcap] w fun e w' => ∃ B c, e = .returned (.tuple #[.slice B l.length c, .int .i64 0]) ∧ Own w' w.heap.size (.slice B l.length c) l ∧ Below w.heap.size w w' := by
  subst hm hm' hl0
  refine (Key_ok A cap vs F fcap ds w hR hF hl hd hg.bad (fun t ht => ⟨rt_size (hg t ht).1, (hg t ht).2⟩) (by rw [key_len vs ds hg hd.symm] at hlen; exact hlen)).mono ?_
  rintro e w' ⟨v, rfl, ho, hb⟩
  obtain ⟨B, c, rfl, m1, m2, _⟩ := ho.form
  clear m1 m2
  exact ⟨B, c, rfl, ho, hb⟩
theorem own_caps {w : World} {base : Nat} {B : Option Addr} {n c : Nat} {l : List UInt8} (h : Own w base (.slice B n c) l) : l.length ≤ c ∧ c ≤ 9223372036854775807 := by
  obtain ⟨B', c', e, h1, h2, _⟩ := h.form
  injection e with _ _ e3
  unfold maxLen at h2
  omega

end Go.Proofs.Ytdhdfeiobjmdaaa
