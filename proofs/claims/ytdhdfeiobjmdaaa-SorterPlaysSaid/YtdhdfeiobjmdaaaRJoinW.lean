/-
  RecordJoin returns true for every row: the walk. Conditions: numbers of 64 bits; sizes.
-/
import Derived.Test.YtdhdfeiobjmdaaaRAwk
import Derived.Deep.RegionHeld3
import Derived.Deep.DeepCutAuto
namespace Go.Proofs.Ytdhdfeiobjmdaaa
open Go.ChangeShapes Go.WideShapes Go.ChangeAt Go.RowKit
set_option linter.unusedVariables false

theorem RdR.on {w w' : World} {A : Option Addr} {vs : List Trip} (h : RdR w w.heap.size A vs) (hb : Below w.heap.size w w') : RdR w' w'.heap.size A vs := by
  intro hp
  obtain ⟨ad, e, hlt, hc⟩ := (h.below hb) hp
  exact ⟨ad, e, Nat.lt_of_lt_of_le hlt hb.size, hc⟩
theorem RdF.on {w w' : World} {A : Option Addr} {ds : List Bool} (h : RdF w w.heap.size A ds) (hb : Below w.heap.size w w') : RdF w' w'.heap.size A ds := by
  intro hp
  obtain ⟨ad, e, hlt, hc⟩ := (h.below hb) hp
  exact ⟨ad, e, Nat.lt_of_lt_of_le hlt hb.size, hc⟩
/-- rows that the statements look at -/
def GoodR (vs : List Trip) : Prop := ∀ t ∈ vs, Rt t.1 t.2.1 t.2.2 ∧ t.2.2.size ≤ 100 ∧ In64 t.2.1
theorem GoodR.of {vs : List Trip} {most : Nat} (h : rowOk vs most = true) (hn : ∀ t ∈ vs, In64 t.2.1) : GoodR vs ∧ vs.length ≤ most := by
  obtain ⟨h1, h2⟩ := Bool.and_eq_true_iff.1 h
  obtain ⟨h3, h4⟩ := Bool.and_eq_true_iff.1 h1
  refine ⟨fun t ht => ⟨of_decide_eq_true (List.all_eq_true.1 h2 t ht), of_decide_eq_true (List.all_eq_true.1 h4 t ht), hn t ht⟩, of_decide_eq_true h3⟩
theorem GoodR.take {vs : List Trip} (h : GoodR vs) (k : Nat) : GoodR (vs.take k) := fun t ht => h t (List.mem_of_mem_take ht)
theorem GoodR.drop {vs : List Trip} (h : GoodR vs) (k : Nat) : GoodR (vs.drop k) := fun t ht => h t (List.mem_of_mem_drop ht)
theorem GoodR.bad {vs : List Trip} (h : GoodR vs) : vs.any pBad = false := by
  rw [List.any_eq_false]
  intro t ht
  simp [pBad, (h t ht).1]
theorem sumP_good : ∀ (vs : List Trip), GoodR vs → sumP vs ≤ 210 * vs.length
  | [], _ => by simp [sumP]
  | (k, n, s) :: vs, h => by
    have ih := sumP_good vs fun t ht => h t (List.mem_cons_of_mem _ ht)
    have h1 : s.size ≤ 100 := (h (k, n, s) List.mem_cons_self).2.1
    have h2 := count_le s 0
    have h0 : partN k s ≤ 210 := by
      unfold partN
      split
      · omega
      · split <;> omega
    simp only [sumP, List.map_cons, List.sum_cons, List.length_cons] at *
    omega
set_option maxRecDepth 100000 in
theorem key_good (A : Option Addr) (cap m : Nat) (vs : List Trip) (F : Option Addr) (fcap m' : Nat) (ds : List Bool) (w : World) (hR : RdR w w.heap.size A vs) (hF : RdF w w.heap.size F ds) (hl : vs.length ≤ 150) (hd : ds.length = vs.length) (hg : GoodR vs) (hm : m = vs.length) (hm' : m' = vs.length) (l : List UInt8) (hl0 : keyL vs ds = l) :
    Calls Try.prog 26 #[.slice A m cap, .slice F m' fcap] w fun e w' => ∃ B c, e = .returned (.tuple #[.slice B l.length c, .int .i64 0]) ∧ Own w' w.heap.size (.slice B l.length c) l ∧ Below w.heap.size w w' := by
  subst hm hl0
  have e1 : Value.slice F m' fcap = .slice F ds.length fcap := by rw [hm', hd]
  rw [e1]
  refine (Key_ok A cap vs F fcap ds w hR hF (by omega) hd hg.bad (fun t ht => ⟨by have := (hg t ht).2.1; omega, (hg t ht).2.2⟩) (by have := sumP_good vs hg; omega)).mono ?_
  rintro e w' ⟨v, rfl, ho, hb⟩
  obtain ⟨B, c, rfl, _, _, _⟩ := ho.form
  exact ⟨B, c, rfl, ho, hb⟩

theorem RdR.pre {w : World} {B : Nat} {A : Option Addr} {vs : List Trip} (h : RdR w B A vs) (k : Nat) : RdR w B A (vs.take k) := by
  intro hp
  obtain ⟨ad, e, hl, hc⟩ := h (by rw [List.length_take] at hp; omega)
  refine ⟨ad, e, hl, fun j a n s hj => hc j a n s ?_⟩
  rw [List.getElem?_take] at hj
  split at hj
  · exact hj
  · cases hj
theorem RdF.pre {w : World} {B : Nat} {A : Option Addr} {ds : List Bool} (h : RdF w B A ds) (k : Nat) : RdF w B A (ds.take k) := by
  intro hp
  obtain ⟨ad, e, hl, hc⟩ := h (by rw [List.length_take] at hp; omega)
  refine ⟨ad, e, hl, fun j d hj => hc j d ?_⟩
  rw [List.getElem?_take] at hj
  split at hj
  · exact hj
  · cases hj

theorem RdR.post {w : World} {B : Nat} {ad : Addr} {vs : List Trip} (h : RdR w B (some ad) vs) (k : Nat) : RdR w B (some (ad.add (k * 3))) (vs.drop k) := by
  intro hp
  obtain ⟨ad', e, hl, hc⟩ := h (by rw [List.length_drop] at hp; omega)
  injection e with e
  subst e
  refine ⟨_, rfl, by rw [blockAdd]; exact hl, fun j a n s hj => ?_⟩
  rw [List.getElem?_drop] at hj
  have := hc _ a n s hj
  rw [addAdd, show k * 3 + j * 3 = (k + j) * 3 by omega]
  exact this
theorem RdF.post {w : World} {B : Nat} {ad : Addr} {ds : List Bool} (h : RdF w B (some ad) ds) (k : Nat) : RdF w B (some (ad.add k)) (ds.drop k) := by
  intro hp
  obtain ⟨ad', e, hl, hc⟩ := h (by rw [List.length_drop] at hp; omega)
  injection e with e
  subst e
  refine ⟨_, rfl, by rw [blockAdd]; exact hl, fun j d hj => ?_⟩
  rw [List.getElem?_drop] at hj
  rw [addAdd]
  exact hc _ d hj
theorem RdR.post2 {w : World} {B : Nat} {ad : Addr} {vs : List Trip} (h : RdR w B (some ad) vs) (k cap : Nat) (hc : vs.length ≤ cap) : RdR w B (if cap = k then some ad else some (ad.add (k * 3))) (vs.drop k) := by
  by_cases e : cap = k
  · intro hp
    rw [List.length_drop] at hp
    omega
  · rw [if_neg e]
    exact h.post k
theorem RdF.post2 {w : World} {B g : Nat} {ds : List Bool} (h : RdF w B (some ⟨g, 0, none⟩) ds) (k n : Nat) (hn : ds.length = n) : RdF w B (if n = k then some ⟨g, 0, none⟩ else some ⟨g, k, none⟩) (ds.drop k) := by
  by_cases e : n = k
  · intro hp
    rw [List.length_drop] at hp
    omega
  · rw [if_neg e]
    have := h.post k
    have ha : ((⟨g, 0, none⟩ : Addr).add k) = ⟨g, k, none⟩ := by
      unfold Addr.add
      by_cases hj0 : k = 0 <;> simp [hj0]
    rw [ha] at this
    exact this
theorem wpList_unguard {P : Program} {ops : Array Oper} {rest : List Oper} {o : Oper} {a : Act} {w : World} {Q : Exit → Act → World → Prop} (hw : Region.wanted o (yielded ops a.tmps) = true) (h : wpList P ops Q ({ o with guard := none } :: rest) a w) : wpList P ops Q (o :: rest) a w := by
  unfold wpList at h ⊢
  rw [if_pos hw]
  rw [if_pos (by simp [Region.wanted])] at h
  exact h
theorem rdr_end (w : World) (B : Nat) (A : Option Addr) (vs : List Trip) : RdR w B A (vs.drop vs.length) := by
  intro hp
  simp at hp
theorem rdr_nil (w : World) (B : Nat) (A : Option Addr) : RdR w B A (([] : List Trip).drop 0) := fun hp => by simp at hp
theorem rdf_end (w : World) (B : Nat) (A : Option Addr) (l : List Bool) (n : Nat) : RdF w B A ((flagsL l n).drop n) := by
  intro hp
  rw [List.length_drop, flagsL_length] at hp
  omega
end Go.Proofs.Ytdhdfeiobjmdaaa
