/-
  Layer 7, sorter: what comes out of a distinct one, and of one whose rows are in order already (mathematics).
-/
import Derived.Test.YtbeaiaepbmldbaaQSpec
namespace Go.Proofs.Ytbeaiaepbmldbaa
open Go.ChangeShapes Go.WideShapes Go.ChangeAt Go.RowKit
set_option linter.unusedVariables false

def sameP (ds : List Bool) (x y : PN) : Bool := sameK (kf ds x) (kf ds y)
def onceL (ds : List Bool) (ps : List Pr) : List PN := cmpct (sameP ds) (ordS ds ps)
theorem left_onceL (ds : List Bool) (ps : List Pr) : (left true (krs ds ps 0)).map Prod.snd = ((onceL ds ps).map fun x => row3 x.1 x.2).map putL := by
  rw [left, if_pos rfl, krs_zip, srt_map (kf ds) ltK _ _ (Nat.le_refl _), cmpct_map (kf ds) sameK, List.map_map, List.map_map]
  rfl
theorem onceL_mem {ds : List Bool} {ps : List Pr} {x : PN} (h : x ∈ onceL ds ps) : ps[x.2]? = some x.1 := ordS_mem (cmpct_mem _ _ _ h)
theorem onceL_length (ds : List Bool) (ps : List Pr) : (onceL ds ps).length ≤ ps.length := by
  have h := cmpct_length (sameP ds) (ordS ds ps)
  rw [ordS_length] at h
  exact h
/-- two keys are the same just if the rows are -/
theorem sameP_rowsC {ds : List Bool} {ps : List Pr} (hg : GoodQ ps) (hd : ds.length = 2) {x y : PN} (hx : x ∈ ordS ds ps) (hy : y ∈ ordS ds ps) :
    sameP ds y x = decide (rowsC [x.1.1, x.1.2] [y.1.1, y.1.2] ds = 0) := by
  have g1 := hg.2 _ (List.mem_of_getElem? (ordS_mem hx))
  have g2 := hg.2 _ (List.mem_of_getElem? (ordS_mem hy))
  rw [← keys_order _ _ ds g1 g2 rfl hd]
  show ((kf ds y).1 == (kf ds x).1) = _
  have h := cb_zero (kf ds x).1 (kf ds y).1
  by_cases e : (kf ds x).1 = (kf ds y).1
  · have h2 := h.2 e
    rw [beq_iff_eq.2 e.symm]
    exact (decide_eq_true (p := Lib.compareBytes (kf ds x).1 (kf ds y).1 = 0) h2).symm
  · have h2 : ¬ Lib.compareBytes (kf ds x).1 (kf ds y).1 = 0 := fun h3 => e (h.1 h3)
    rw [beq_eq_false_iff_ne.2 (fun h3 => e h3.symm)]
    exact (decide_eq_false h2).symm
/-- the walk's place: i of the rows are asked, k of the distinct ones are met -/
def OnceAt (ds : List Bool) (ps : List Pr) (i k : Nat) : Prop :=
  k ≤ (onceL ds ps).length ∧ ((i = 0 ∧ k = 0) ∨ ∃ p c, 0 < i ∧ (ordS ds ps)[i - 1]? = some p ∧ onceL ds ps = c ++ cmpA (sameP ds) p ((ordS ds ps).drop i) ∧ c.length = k)
theorem OnceAt.first {ds : List Bool} {ps : List Pr} {y : PN} (hy : (ordS ds ps)[0]? = some y) : (onceL ds ps)[0]? = some y ∧ OnceAt ds ps 1 1 := by
  have h : onceL ds ps = [y] ++ cmpA (sameP ds) y ((ordS ds ps).drop 1) := by
    unfold onceL
    generalize ordS ds ps = S at hy
    match S, hy with
    | z :: S, hy =>
      obtain rfl : z = y := by simpa using hy
      simp [cmpct]
  exact ⟨by rw [h]; rfl, by rw [h]; simp, .inr ⟨y, [y], by omega, hy, h, rfl⟩⟩
theorem OnceAt.skip {ds : List Bool} {ps : List Pr} {i k : Nat} {p y : PN} (h : OnceAt ds ps (i + 1) k) (hp : (ordS ds ps)[i]? = some p) (hy : (ordS ds ps)[i + 1]? = some y) (hs : sameP ds y p = true) : OnceAt ds ps (i + 2) k := by
  obtain ⟨h0, h1⟩ := h
  refine ⟨h0, ?_⟩
  rcases h1 with ⟨h1, _⟩ | ⟨q, c, _, hq, hc, hk⟩
  · omega
  · rw [Nat.add_sub_cancel, hp] at hq
    obtain rfl : p = q := by simpa using hq
    exact .inr ⟨y, c, by omega, hy, cmp_skip (sameP ds) (ordS ds ps) c (i + 1) p y hy hs hc, hk⟩
theorem OnceAt.step {ds : List Bool} {ps : List Pr} {i k : Nat} {p y : PN} (h : OnceAt ds ps (i + 1) k) (hp : (ordS ds ps)[i]? = some p) (hy : (ordS ds ps)[i + 1]? = some y) (hs : sameP ds y p = false) :
    (onceL ds ps)[k]? = some y ∧ OnceAt ds ps (i + 2) (k + 1) := by
  obtain ⟨h0, h1⟩ := h
  rcases h1 with ⟨h1, _⟩ | ⟨q, c, _, hq, hc, hk⟩
  · omega
  · rw [Nat.add_sub_cancel, hp] at hq
    obtain rfl : p = q := by simpa using hq
    have h2 := cmp_step (sameP ds) (ordS ds ps) c (i + 1) p y hy hs hc
    have h3 : onceL ds ps = (c ++ [y]) ++ cmpA (sameP ds) y ((ordS ds ps).drop (i + 1 + 1)) := h2
    refine ⟨by rw [h3, ← hk]; simp, by rw [h3, ← hk]; simp, .inr ⟨y, c ++ [y], by omega, hy, h3, by simp [hk]⟩⟩
theorem OnceAt.done {ds : List Bool} {ps : List Pr} {k : Nat} (h : OnceAt ds ps (ordS ds ps).length k) : k = (onceL ds ps).length := by
  obtain ⟨h0, h1⟩ := h
  rcases h1 with ⟨h1, h2⟩ | ⟨q, c, _, hq, hc, hk⟩
  · have : ordS ds ps = [] := List.length_eq_zero_iff.1 h1
    rw [h2, onceL, this]
    rfl
  · rw [hc, List.drop_length, cmpA, List.append_nil, hk]

/-! ### Rows that are in order -/
/-- the one key lies ahead of the other -/
def RK (ds : List Bool) (x y : PN) : Prop := Lib.compareBytes (kf ds x).1 (kf ds y).1 < 0
theorem cmpA_rise (ds : List Bool) : ∀ (l : List PN) (p : PN), (p :: l).Pairwise (RS ds) → (p :: cmpA (sameP ds) p l).Pairwise (RK ds)
  | [], p, _ => by simp [cmpA]
  | y :: l, p, h => by
    obtain ⟨h1, h2⟩ := List.pairwise_cons.1 h
    have ih := cmpA_rise ds l y h2
    have h3 := h1 y List.mem_cons_self
    unfold cmpA
    cases hs : sameP ds y p with
    | true =>
      rw [if_pos rfl]
      have e : (kf ds y).1 = (kf ds p).1 := by simpa [sameP, sameK] using hs
      refine List.pairwise_cons.2 ⟨fun z hz => ?_, (List.pairwise_cons.1 ih).2⟩
      have := (List.pairwise_cons.1 ih).1 z hz
      unfold RK at *
      rw [← e]
      exact this
    | false =>
      rw [if_neg (by decide)]
      have hlt : RK ds p y := by
        rcases h3 with h3 | ⟨h3, _⟩
        · exact h3
        · exfalso
          have e := (cb_zero _ _).1 h3
          simp [sameP, sameK, e] at hs
      refine List.pairwise_cons.2 ⟨fun z hz => ?_, ih⟩
      rcases List.mem_cons.1 hz with rfl | hz
      · exact hlt
      · have h4 := (List.pairwise_cons.1 ih).1 z hz
        unfold RK at *
        exact (cb_trans _ _ _ (by omega) (by omega)).2 hlt
theorem onceL_rise (ds : List Bool) (ps : List Pr) : (onceL ds ps).Pairwise (RK ds) := by
  have h := ordS_in ds ps
  unfold onceL
  generalize ordS ds ps = S at h
  cases S with
  | nil => exact List.Pairwise.nil
  | cons x l => exact cmpA_rise ds l x h
/-- two lists of the same, in the same strict order, are the same -/
theorem perm_one {α : Type} (R : α → α → Prop) (ha : ∀ x y, R x y → R y x → False) : ∀ (l m : List α), l.Perm m → l.Pairwise R → m.Pairwise R → l = m
  | [], m, h, _, _ => (List.nil_perm.1 h).symm ▸ rfl
  | x :: l, [], h, _, _ => by simp at h
  | x :: l, y :: m, h, h1, h2 => by
    obtain ⟨a1, a2⟩ := List.pairwise_cons.1 h1
    obtain ⟨b1, b2⟩ := List.pairwise_cons.1 h2
    have e : x = y := by
      have q1 : x ∈ y :: m := h.mem_iff.1 List.mem_cons_self
      have q2 : y ∈ x :: l := h.mem_iff.2 List.mem_cons_self
      rcases List.mem_cons.1 q1 with e | q1
      · exact e
      · rcases List.mem_cons.1 q2 with e | q2
        · exact e.symm
        · exact (ha _ _ (b1 _ q1) (a1 _ q2)).elim
    subst e
    rw [perm_one R ha l m (List.perm_cons x |>.1 h) a2 b2]
theorem RS_asymm (ds : List Bool) (x y : PN) (h : RS ds x y) (h2 : RS ds y x) : False := by
  have := cb_anti (kf ds x).1 (kf ds y).1
  unfold RS at *
  omega
def pairC (ds : List Bool) (p q : Pr) : Int := rowsC [p.1, p.2] [q.1, q.2] ds
/-- rows that rise stay as they are -/
theorem ordS_rise {ds : List Bool} {qs : List Pr} (hg : GoodQ qs) (hd : ds.length = 2) (h : qs.Pairwise fun p q => pairC ds p q < 0) : ordS ds qs = qs.zipIdx := by
  refine perm_one (RS ds) (RS_asymm ds) _ _ (ordS_perm ds qs) (ordS_in ds qs) ?_
  refine List.pairwise_iff_getElem.2 fun i j hi hj hij => .inl ?_
  rw [List.length_zipIdx] at hi hj
  have h1 := List.pairwise_iff_getElem.1 h i j hi hj hij
  have g1 := hg.2 _ (List.getElem_mem hi)
  have g2 := hg.2 _ (List.getElem_mem hj)
  simp only [List.getElem_zipIdx]
  unfold pairC at h1
  rw [← keys_order _ _ ds g1 g2 rfl hd] at h1
  exact h1
theorem rowsC_not : ∀ (a b : List Trip) (ds : List Bool), a.length = ds.length → b.length = ds.length → rowsC a b (ds.map not) = - rowsC a b ds
  | [], [], [], _, _ => by simp [rowsC]
  | x :: a, y :: b, d :: ds, h1, h2 => by
    have ih := rowsC_not a b ds (by simpa using h1) (by simpa using h2)
    obtain ⟨k, n, s⟩ := x
    obtain ⟨k', n', s'⟩ := y
    simp only [List.map_cons, rowsC]
    split
    · exact ih
    · cases d <;> simp
  | [], _ :: _, [], _, h => by simp at h
  | [], _ :: _, _ :: _, h, _ => by simp at h
  | [], [], _ :: _, h, _ => by simp at h
  | _ :: _, [], [], h, _ => by simp at h
  | _ :: _, _ :: _, [], h, _ => by simp at h
  | _ :: _, [], _ :: _, _, h => by simp at h
/-- .. with all flags the other way round they come from the end on -/
theorem ordS_fall {ds : List Bool} {qs : List Pr} (hg : GoodQ qs) (hd : ds.length = 2) (h : qs.Pairwise fun p q => pairC ds p q < 0) : ordS (ds.map not) qs = qs.zipIdx.reverse := by
  refine perm_one (RS (ds.map not)) (RS_asymm _) _ _ ((ordS_perm _ qs).trans (List.reverse_perm _).symm) (ordS_in _ qs) ?_
  rw [List.pairwise_reverse]
  refine List.pairwise_iff_getElem.2 fun i j hi hj hij => .inl ?_
  rw [List.length_zipIdx] at hi hj
  have h1 := List.pairwise_iff_getElem.1 h i j hi hj hij
  have g1 := hg.2 _ (List.getElem_mem hi)
  have g2 := hg.2 _ (List.getElem_mem hj)
  simp only [List.getElem_zipIdx]
  unfold pairC at h1
  rw [← keys_order _ _ ds g1 g2 rfl hd, cb_anti] at h1
  have h2 : Lib.compareBytes (keyL [(qs[j]).1, (qs[j]).2] (ds.map not)) (keyL [(qs[i]).1, (qs[i]).2] (ds.map not)) = _ := (keys_order _ _ (ds.map not) g2 g1 rfl (by simp [hd]))
  rw [rowsC_not [(qs[j]).1, (qs[j]).2] [(qs[i]).1, (qs[i]).2] ds hd.symm hd.symm, ← keys_order _ _ ds g2 g1 rfl hd] at h2
  show Lib.compareBytes (kf (ds.map not) (qs[j], 0 + j)).1 (kf (ds.map not) (qs[i], 0 + i)).1 < 0
  show Lib.compareBytes (keyL [(qs[j]).1, (qs[j]).2] (ds.map not)) (keyL [(qs[i]).1, (qs[i]).2] (ds.map not)) < 0
  rw [h2]
  omega
/-- the distinct rows rise -/
theorem once_pairs {ds : List Bool} {ps : List Pr} (hg : GoodQ ps) (hd : ds.length = 2) : ((onceL ds ps).map Prod.fst).Pairwise fun p q => pairC ds p q < 0 := by
  refine List.pairwise_map.2 ?_
  refine List.pairwise_iff_getElem.2 fun i j hi hj hij => ?_
  have h1 := List.pairwise_iff_getElem.1 (onceL_rise ds ps) i j hi hj hij
  have g1 := hg.2 _ (List.mem_of_getElem? (onceL_mem (List.getElem_mem hi)))
  have g2 := hg.2 _ (List.mem_of_getElem? (onceL_mem (List.getElem_mem hj)))
  unfold pairC
  rw [← keys_order _ _ ds g1 g2 rfl hd]
  exact h1
theorem once_good {ds : List Bool} {ps : List Pr} (hg : GoodQ ps) : GoodQ ((onceL ds ps).map Prod.fst) := by
  refine ⟨by rw [List.length_map]; exact Nat.le_trans (onceL_length ds ps) hg.1, fun p hp => ?_⟩
  obtain ⟨x, hx, rfl⟩ := List.mem_map.1 hp
  exact hg.2 _ (List.mem_of_getElem? (onceL_mem hx))
end Go.Proofs.Ytbeaiaepbmldbaa
