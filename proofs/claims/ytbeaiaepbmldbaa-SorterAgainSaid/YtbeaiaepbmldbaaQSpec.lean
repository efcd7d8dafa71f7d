/-
  Layer 7, sorter: what comes out in which order (mathematics).
-/
import Derived.Test.YtbeaiaepbmldbaaQSrtd
import Derived.Test.YtbeaiaepbmldbaaROrdC
namespace Go.Proofs.Ytbeaiaepbmldbaa
open Go.ChangeShapes Go.WideShapes Go.ChangeAt Go.RowKit
set_option linter.unusedVariables false

theorem cb_anti : ∀ (a b : List UInt8), Lib.compareBytes b a = -Lib.compareBytes a b
  | [], [] => by simp [Lib.compareBytes]
  | [], _ :: _ => by simp [Lib.compareBytes]
  | _ :: _, [] => by simp [Lib.compareBytes]
  | a :: ax, b :: bs => by
    have ih := cb_anti ax bs
    unfold Lib.compareBytes
    rcases Nat.lt_trichotomy a.toNat b.toNat with h | h | h
    · have h1 : a < b := UInt8.lt_iff_toNat_lt.2 h
      have h2 : ¬ b < a := fun h' => by have := UInt8.lt_iff_toNat_lt.1 h'; omega
      simp [h1, h2]
    · have h1 : ¬ a < b := fun h' => by have := UInt8.lt_iff_toNat_lt.1 h'; omega
      have h2 : ¬ b < a := fun h' => by have := UInt8.lt_iff_toNat_lt.1 h'; omega
      simp [h1, h2, ih]
    · have h1 : b < a := UInt8.lt_iff_toNat_lt.2 h
      have h2 : ¬ a < b := fun h' => by have := UInt8.lt_iff_toNat_lt.1 h'; omega
      simp [h1, h2]
theorem cb_zero : ∀ (a b : List UInt8), Lib.compareBytes a b = 0 ↔ a = b
  | [], [] => by simp [Lib.compareBytes]
  | [], _ :: _ => by simp [Lib.compareBytes]
  | _ :: _, [] => by simp [Lib.compareBytes]
  | a :: ax, b :: bs => by
    have ih := cb_zero ax bs
    unfold Lib.compareBytes
    rcases Nat.lt_trichotomy a.toNat b.toNat with h | h | h
    · have h1 : a < b := UInt8.lt_iff_toNat_lt.2 h
      have h3 : a ≠ b := fun e => by subst e; omega
      simp [h1, h3]
    · have h1 : ¬ a < b := fun h' => by have := UInt8.lt_iff_toNat_lt.1 h'; omega
      have h2 : ¬ b < a := fun h' => by have := UInt8.lt_iff_toNat_lt.1 h'; omega
      have h3 : a = b := UInt8.toNat_inj.1 h
      simp [h3, ih]
    · have h1 : b < a := UInt8.lt_iff_toNat_lt.2 h
      have h2 : ¬ a < b := fun h' => by have := UInt8.lt_iff_toNat_lt.1 h'; omega
      have h3 : a ≠ b := fun e => by subst e; omega
      simp [h1, h2, h3]
theorem cb_trans : ∀ (a b c : List UInt8), Lib.compareBytes a b ≤ 0 → Lib.compareBytes b c ≤ 0 → Lib.compareBytes a c ≤ 0 ∧ (Lib.compareBytes a b < 0 → Lib.compareBytes a c < 0)
  | [], [], c => by intro _ h; exact ⟨h, fun h' => by simp [Lib.compareBytes] at h'⟩
  | [], _ :: _, [] => by intro _ h; simp [Lib.compareBytes] at h
  | [], _ :: _, _ :: _ => by simp [Lib.compareBytes]
  | _ :: _, [], _ => by intro h; simp [Lib.compareBytes] at h
  | a :: ax, b :: bs, [] => by intro _ h; simp [Lib.compareBytes] at h
  | a :: ax, b :: bs, c :: cs => by
    have ih := cb_trans ax bs cs
    unfold Lib.compareBytes
    intro h1 h2
    rcases Nat.lt_trichotomy a.toNat b.toNat with h | h | h
    · have e1 : a < b := UInt8.lt_iff_toNat_lt.2 h
      have : a < c := by
        refine UInt8.lt_iff_toNat_lt.2 ?_
        rcases Nat.lt_trichotomy b.toNat c.toNat with h' | h' | h'
        · omega
        · omega
        · have e2 : c < b := UInt8.lt_iff_toNat_lt.2 h'
          have e3 : ¬ b < c := fun h'' => by have := UInt8.lt_iff_toNat_lt.1 h''; omega
          simp [e2, e3] at h2
      simp [this]
    · have e1 : ¬ a < b := fun h' => by have := UInt8.lt_iff_toNat_lt.1 h'; omega
      have e2 : ¬ b < a := fun h' => by have := UInt8.lt_iff_toNat_lt.1 h'; omega
      obtain rfl : a = b := UInt8.toNat_inj.1 h
      simp only [e1, if_false] at h1 ⊢
      rcases Nat.lt_trichotomy a.toNat c.toNat with h' | h' | h'
      · have e3 : a < c := UInt8.lt_iff_toNat_lt.2 h'
        simp [e3]
      · obtain rfl : a = c := UInt8.toNat_inj.1 h'
        simp only [e1, if_false] at h2 ⊢
        exact ih h1 h2
      · have e3 : c < a := UInt8.lt_iff_toNat_lt.2 h'
        have e4 : ¬ a < c := fun h'' => by have := UInt8.lt_iff_toNat_lt.1 h''; omega
        simp [e3, e4] at h2
    · have e1 : b < a := UInt8.lt_iff_toNat_lt.2 h
      have e2 : ¬ a < b := fun h' => by have := UInt8.lt_iff_toNat_lt.1 h'; omega
      simp [e1, e2] at h1

/-- a pair and its place -/
abbrev PN := Pr × Nat
def kf (ds : List Bool) (x : PN) : KR := (keyL [x.1.1, x.1.2] ds, putL (row3 x.1 x.2))
theorem krs_zip (ds : List Bool) : ∀ (ps : List Pr) (i : Nat), krs ds ps i = (ps.zipIdx i).map (kf ds)
  | [], i => rfl
  | p :: r, i => by rw [krs, krs_zip ds r (i + 1), List.zipIdx_cons, List.map_cons]; rfl
def ltP (ds : List Bool) (x y : PN) : Bool := ltK (kf ds x) (kf ds y)
def ordS (ds : List Bool) (ps : List Pr) : List PN := srt (ltP ds) ps.zipIdx
theorem left_ordS (ds : List Bool) (ps : List Pr) : (left false (krs ds ps 0)).map Prod.snd = ((ordS ds ps).map fun x => row3 x.1 x.2).map putL := by
  rw [left, if_neg (by decide), krs_zip, srt_map (kf ds) ltK _ _ (Nat.le_refl _), List.map_map, List.map_map]
  rfl
theorem ordS_perm (ds : List Bool) (ps : List Pr) : (ordS ds ps).Perm ps.zipIdx := srt_perm _ _ _ (Nat.le_refl _)
theorem ordS_length (ds : List Bool) (ps : List Pr) : (ordS ds ps).length = ps.length := by rw [ordS, srt_length, List.length_zipIdx]
theorem ordS_mem {ds : List Bool} {ps : List Pr} {x : PN} (h : x ∈ ordS ds ps) : ps[x.2]? = some x.1 := by
  have h2 := (ordS_perm ds ps).mem_iff.1 h
  obtain ⟨p, n⟩ := x
  simpa [List.mem_zipIdx_iff_getElem?] using h2
def RS (ds : List Bool) (x y : PN) : Prop := Lib.compareBytes (kf ds x).1 (kf ds y).1 < 0 ∨ (Lib.compareBytes (kf ds x).1 (kf ds y).1 = 0 ∧ x.2 < y.2)
theorem RS.trans (ds : List Bool) (x y z : PN) (h : RS ds x y) (h2 : RS ds y z) : RS ds x z := by
  unfold RS at *
  have t1 := cb_trans (kf ds x).1 (kf ds y).1 (kf ds z).1
  rcases h with h | ⟨h, hn⟩
  · rcases h2 with h2 | ⟨h2, _⟩
    · exact .inl ((t1 (by omega) (by omega)).2 h)
    · exact .inl ((t1 (by omega) (by omega)).2 h)
  · rw [(cb_zero _ _).1 h]
    rcases h2 with h2 | ⟨h2, h3⟩
    · exact .inl h2
    · exact .inr ⟨h2, by omega⟩
theorem zip_pairwise : ∀ (ps : List Pr) (i : Nat), (ps.zipIdx i).Pairwise fun x y => x.2 < y.2
  | [], i => List.Pairwise.nil
  | p :: r, i => by
    rw [List.zipIdx_cons]
    refine List.pairwise_cons.2 ⟨fun y hy => ?_, zip_pairwise r (i + 1)⟩
    have h := List.le_snd_of_mem_zipIdx hy
    show i < y.2
    omega
theorem ordS_nodup (ds : List Bool) (ps : List Pr) : ((ordS ds ps).map Prod.snd).Nodup := by
  rw [((ordS_perm ds ps).map Prod.snd).nodup_iff]
  exact List.pairwise_map.2 ((zip_pairwise ps 0).imp fun h => Nat.ne_of_lt h)
theorem ordS_in (ds : List Bool) (ps : List Pr) : (ordS ds ps).Pairwise (RS ds) := by
  refine srt_in (ltP ds) (RS ds) (RS.trans ds) (fun x y h => .inl (by simpa [ltP, ltK] using h)) _ _ (Nat.le_refl _) ?_
  refine (zip_pairwise ps 0).imp fun {x y} hxy h => ?_
  have h3 : ¬ Lib.compareBytes (kf ds y).1 (kf ds x).1 < 0 := by simpa [ltP, ltK] using h
  have h4 := cb_anti (kf ds y).1 (kf ds x).1
  unfold RS
  omega
/-- two that lie side by side -/
theorem ordS_next {ds : List Bool} {ps : List Pr} (hg : GoodQ ps) (hd : ds.length = 2) {i : Nat} {x y : PN} (hx : (ordS ds ps)[i]? = some x) (hy : (ordS ds ps)[i + 1]? = some y) :
    rowsC [x.1.1, x.1.2] [y.1.1, y.1.2] ds < 0 ∨ (rowsC [x.1.1, x.1.2] [y.1.1, y.1.2] ds = 0 ∧ x.2 < y.2) := by
  obtain ⟨h1, rfl⟩ := List.getElem?_eq_some_iff.1 hx
  obtain ⟨h2, rfl⟩ := List.getElem?_eq_some_iff.1 hy
  have h := List.pairwise_iff_getElem.1 (ordS_in ds ps) i (i + 1) h1 h2 (by omega)
  have g1 := hg.2 _ (List.mem_of_getElem? (ordS_mem (List.getElem_mem h1)))
  have g2 := hg.2 _ (List.mem_of_getElem? (ordS_mem (List.getElem_mem h2)))
  rw [← keys_order _ _ ds g1 g2 rfl hd]
  exact h
end Go.Proofs.Ytbeaiaepbmldbaa
