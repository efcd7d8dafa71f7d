/-
  Layer 8: AggOrder's walk. Conditions: sizes.
-/
import Derived.Test.YtceknmibopnmhaaGreatDoorATrn
import Derived.Test.YtceknmibopnmhaaGreatDoorAPrm
import Derived.Test.YtceknmibopnmhaaGreatDoorANoD
import Derived.Test.YtceknmibopnmhaaGreatDoorARgt
import Derived.Test.YtceknmibopnmhaaGreatDoorACom
import Derived.Test.YtceknmibopnmhaaGreatDoorAAwk
namespace Go.Proofs.YtceknmibopnmhaaGreatDoor
open Go.ChangeShapes Go.WideShapes Go.ChangeAt Go.RowKit Go.Maps Go.Sort Go.Shelf Go.ChangeMaps Go.Lib
set_option linter.unusedVariables false
set_option linter.unusedSimpArgs false

/-- what a total tells of any order of its values -/
def OfIs (name : ByteArray) (d : Bool) (vs : List Trip) (t : Trip) (r : Int) : Prop := ∀ out : List Trip, out.Perm vs → ∀ (w : World) (A : Option Addr) (c : Nat), Wd w → RdT w A out → vs.length ≤ c →
  Calls Tryz.prog 40 #[.string name, .bool d, .slice A vs.length c] w fun e w' => e = .returned (.tuple #[vvT t, .int .i64 r]) ∧ Below w.heap.size w w'
def PermFin (all : Bool) (fin : Bool → List Trip → Trip × Int) : Prop := ∀ (d : Bool) (L L' : List Trip), L.Perm L' → (∀ t ∈ L, GoodT t ∧ (all = false → t.1 ≠ 0)) → fin d L = fin d L'
theorem of_same {name : ByteArray} {all : Bool} {fin : Bool → List Trip → Trip × Int} (hn : Named name all fin) (hp : PermFin all fin) (d : Bool) (vs : List Trip) (hg : ∀ t ∈ vs, GoodT t) (hl : vs.length ≤ 60) : ∃ t r, OfIs name d vs t r := by
  cases had : (all && d)
  · refine ⟨(fin d (valsOf all vs)).1, (fin d (valsOf all vs)).2, fun out hpm w A c hW hR hc => ?_⟩
    have h := of_any hn had w hW A c out hR (fun t ht => hg t (hpm.mem_iff.1 ht)) (by rw [hpm.length_eq]; omega) (by rw [hpm.length_eq]; exact hc)
    rw [hpm.length_eq, hp d (valsOf all out) (valsOf all vs) (by rw [valsOf_filter, valsOf_filter]; exact hpm.filter _) (fun t ht => by
      rw [valsOf_filter, List.mem_filter] at ht
      refine ⟨hg t (hpm.mem_iff.1 ht.1), fun ha => ?_⟩
      have h2 := ht.2
      rw [ha] at h2
      simpa using h2)] at h
    exact h
  · obtain ⟨rfl, rfl⟩ : all = true ∧ d = true := by simpa using had
    exact ⟨(0, 0, ⟨#[]⟩), 2, fun out hpm w A c hW hR hc => of_dis hn w _⟩
theorem named_at (i : Nat) (hi : i < 7) : ∃ name all fin, namesL[i]? = some name ∧ Named name all fin ∧ PermFin all fin := by
  match i, hi with
  | 0, _ => exact ⟨_, _, _, rfl, named_count, fun d L L' h _ => finCnt_perm (dsel_perm d h)⟩
  | 1, _ => exact ⟨_, _, _, rfl, named_countAll, fun d L L' h _ => finCnt_perm (dsel_perm d h)⟩
  | 2, _ => exact ⟨_, _, _, rfl, named_sum, fun d L L' h _ => finSum_perm _ (dsel_perm d h)⟩
  | 3, _ => exact ⟨_, _, _, rfl, named_total, fun d L L' h _ => finSum_perm _ (dsel_perm d h)⟩
  | 4, _ => exact ⟨_, _, _, rfl, named_min, fun d L L' h hg => by rw [bestMn_perm h fun t ht => ⟨(hg t ht).1, (hg t ht).2 rfl⟩]⟩
  | 5, _ => exact ⟨_, _, _, rfl, named_max, fun d L L' h hg => by rw [bestMx_perm h fun t ht => ⟨(hg t ht).1, (hg t ht).2 rfl⟩]⟩
  | 6, _ => exact ⟨_, _, _, rfl, named_join, fun d L L' h _ => finJoin_perm d h⟩
theorem names_at (w : World) : Calls Tryz.prog 43 #[] w fun e w' => e = .returned (.slice (some ⟨w.heap.size, 0, none⟩) 7 7) ∧ (∀ i name, namesL[i]? = some name → w'.cell? ⟨w.heap.size, i, none⟩ = some (.string name)) ∧ Below w.heap.size w w' := by
  refine (names_any w).mono ?_
  rintro e w' ⟨rfl, rfl⟩
  refine ⟨rfl, fun i name h => ?_, (Below.refl _ _).alloc (Nat.le_refl _) _⟩
  have h2 := World.alloc_heap_new w (.cells (namesL.map Value.string).toArray 9)
  simp only [World.cell?, h2]
  simp [h]
theorem cellsT_at : ∀ (l : List Trip) (i : Nat) (k z : Int) (s : ByteArray), l[i]? = some (k, z, s) → (cellsT l)[i * 3]? = some (.int .u8 k) ∧ (cellsT l)[i * 3 + 1]? = some (.int .i64 z) ∧ (cellsT l)[i * 3 + 2]? = some (.string s)
  | [], i, k, z, s, h => by simp at h
  | t :: r, 0, k, z, s, h => by
    obtain rfl : t = (k, z, s) := by simpa using h
    simp [cellsT]
  | t :: r, i + 1, k, z, s, h => by
    have h2 := cellsT_at r i k z s (by simpa using h)
    rw [show (i + 1) * 3 = i * 3 + 1 + 1 + 1 by omega]
    simpa only [cellsT, List.getElem?_cons_succ] using h2
theorem rdT_src {w : World} {A : Option Addr} {l : List Trip} (h : SrcT w A l) (hA : ∀ ad, A = some ad → ∃ g, ad = ⟨g, 0, none⟩) : RdT w A l := by
  rcases h with rfl | ⟨ad, rfl, hb, hc⟩
  · exact .inl rfl
  · obtain ⟨g, rfl⟩ := hA ad rfl
    refine .inr ⟨g, 0, rfl, hb, fun j k z s hj => ?_⟩
    obtain ⟨h0, h1, h2⟩ := cellsT_at l j k z s hj
    have ha : ∀ (o : Nat), ((⟨g, 0, none⟩ : Addr).add o) = ⟨g, o, none⟩ := by
      intro o
      unfold Addr.add
      by_cases ho : o = 0 <;> simp [ho]
    have e0 := hc _ _ h0
    have e1 := hc _ _ h1
    have e2 := hc _ _ h2
    rw [ha] at e0 e1 e2
    rw [Nat.zero_add]
    exact ⟨e0, e1, e2⟩
theorem good_of {vs : List Trip} (h : rightA vs = true) (h64 : ∀ t ∈ vs, In64 t.2.1) : vs.length ≤ 60 ∧ ∀ t ∈ vs, GoodT t := by
  unfold rightA smallA at h
  simp only [Bool.and_eq_true, decide_eq_true_eq, List.all_eq_true] at h
  exact ⟨h.1.1, fun t ht => ⟨h.2 t ht, h64 t ht⟩⟩
end Go.Proofs.YtceknmibopnmhaaGreatDoor
