/-
  Layer 7 (mathematics): a list put in order, one by one, is the list in order; likewise where of those of one key the first alone stays.
  Layer 7: the document's sorter: Sort. Conditions: as stated.
  SorterPlays' third argument: a script, opened: each call's number, key and row. No conditions.
  SorterPlays: what stays between the calls: the sorter and the document's, of the same entries. Conditions: as stated.
-/
import Derived.Test.YtdhdfeiobjmdaaaQBase
import Derived.Test.YtdhdfeiobjmdaaaQRfC
import Derived.Test.YtdhdfeiobjmdaaaQRefu
import Derived.Test.YtdhdfeiobjmdaaaRShortW
namespace Go.Proofs.Ytdhdfeiobjmdaaa
set_option linter.unusedVariables false

theorem cbG_anti : ∀ (a b : List UInt8), Lib.compareBytes b a = -Lib.compareBytes a b
  | [], [] => by simp [Lib.compareBytes]
  | [], _ :: _ => by simp [Lib.compareBytes]
  | _ :: _, [] => by simp [Lib.compareBytes]
  | a :: ax, b :: bs => by
    have ih := cbG_anti ax bs
    unfold Lib.compareBytes
    rcases Nat.lt_trichotomy a.toNat b.toNat with h | h | h
    · have h1 : a < b := UInt8.lt_iff_toNat_lt.2 h
      have h2 : ¬ b < a := fun h' => by have := UInt8.lt_iff_toNat_lt.1 h'; omega
      simp [h1, h2]
    · have h1 : ¬ a < b := fun h' => by have := UInt8.lt_iff_toNat_lt.1 h'; omega
      have h2 : ¬ b < a := fun h' => by have := UInt8.lt_iff_toNat_lt.1 h'; omega
      simp [h1, h2, ih]
    · have h1 : b < a := UInt8.lt_iff_toNat_lt.2 h
      have h2 : ¬ a < b := fun h' => by have := UInt8.lt_iff_toNat_lt.1 h'; omega
      simp [h1, h2]
theorem cbG_zero : ∀ (a b : List UInt8), Lib.compareBytes a b = 0 ↔ a = b
  | [], [] => by simp [Lib.compareBytes]
  | [], _ :: _ => by simp [Lib.compareBytes]
  | _ :: _, [] => by simp [Lib.compareBytes]
  | a :: ax, b :: bs => by
    have ih := cbG_zero ax bs
    unfold Lib.compareBytes
    rcases Nat.lt_trichotomy a.toNat b.toNat with h | h | h
    · have h1 : a < b := UInt8.lt_iff_toNat_lt.2 h
      have h3 : a ≠ b := fun e => by subst e; omega
      simp [h1, h3]
    · have h1 : ¬ a < b := fun h' => by have := UInt8.lt_iff_toNat_lt.1 h'; omega
      have h2 : ¬ b < a := fun h' => by have := UInt8.lt_iff_toNat_lt.1 h'; omega
      have h3 : a = b := UInt8.toNat_inj.1 h
      simp [h3, ih]
    · have h1 : b < a := UInt8.lt_iff_toNat_lt.2 h
      have h2 : ¬ a < b := fun h' => by have := UInt8.lt_iff_toNat_lt.1 h'; omega
      have h3 : a ≠ b := fun e => by subst e; omega
      simp [h1, h2, h3]
theorem cbG_trans : ∀ (a b c : List UInt8), Lib.compareBytes a b ≤ 0 → Lib.compareBytes b c ≤ 0 → Lib.compareBytes a c ≤ 0 ∧ (Lib.compareBytes a b < 0 → Lib.compareBytes a c < 0)
  | [], [], c => by intro _ h; exact ⟨h, fun h' => by simp [Lib.compareBytes] at h'⟩
  | [], _ :: _, [] => by intro _ h; simp [Lib.compareBytes] at h
  | [], _ :: _, _ :: _ => by simp [Lib.compareBytes]
  | _ :: _, [], _ => by intro h; simp [Lib.compareBytes] at h
  | a :: ax, b :: bs, [] => by intro _ h; simp [Lib.compareBytes] at h
  | a :: ax, b :: bs, c :: cs => by
    have ih := cbG_trans ax bs cs
    unfold Lib.compareBytes
    intro h1 h2
    rcases Nat.lt_trichotomy a.toNat b.toNat with h | h | h
    · have e1 : a < b := UInt8.lt_iff_toNat_lt.2 h
      have : a < c := by
        refine UInt8.lt_iff_toNat_lt.2 ?_
        rcases Nat.lt_trichotomy b.toNat c.toNat with h' | h' | h'
        · omega
        · omega
        · have e2 : c < b := UInt8.lt_iff_toNat_lt.2 h'
          have e3 : ¬ b < c := fun h'' => by have := UInt8.lt_iff_toNat_lt.1 h''; omega
          simp [e2, e3] at h2
      simp [this]
    · have e1 : ¬ a < b := fun h' => by have := UInt8.lt_iff_toNat_lt.1 h'; omega
      have e2 : ¬ b < a := fun h' => by have := UInt8.lt_iff_toNat_lt.1 h'; omega
      obtain rfl : a = b := UInt8.toNat_inj.1 h
      simp only [e1, if_false] at h1 ⊢
      rcases Nat.lt_trichotomy a.toNat c.toNat with h' | h' | h'
      · have e3 : a < c := UInt8.lt_iff_toNat_lt.2 h'
        simp [e3]
      · obtain rfl : a = c := UInt8.toNat_inj.1 h'
        simp only [e1, if_false] at h2 ⊢
        exact ih h1 h2
      · have e3 : c < a := UInt8.lt_iff_toNat_lt.2 h'
        have e4 : ¬ a < c := fun h'' => by have := UInt8.lt_iff_toNat_lt.1 h''; omega
        simp [e3, e4] at h2
    · have e1 : b < a := UInt8.lt_iff_toNat_lt.2 h
      have e2 : ¬ a < b := fun h' => by have := UInt8.lt_iff_toNat_lt.1 h'; omega
      simp [e1, e2] at h1

section
variable {α : Type} (key : α → List UInt8)
abbrev cmpG (a b : α) : Int := Lib.compareBytes (key a) (key b)
def ltG (x y : α) : Bool := decide (Lib.compareBytes (key x) (key y) < 0)
def sameG (x y : α) : Bool := key x == key y
def leftG (dist : Bool) (l : List α) : List α := if dist then cmpct (sameG key) (srt (ltG key) l) else srt (ltG key) l
/-- x's place: behind all that are not greater -/
def PlaceG (ol : List α) (x : α) (k : Nat) : Prop := k ≤ ol.length ∧ (∀ j y, ol[j]? = some y → k ≤ j → 0 < Lib.compareBytes (key y) (key x)) ∧ (∀ y, 0 < k → ol[k - 1]? = some y → Lib.compareBytes (key y) (key x) ≤ 0)

theorem split_at (x : α) : ∀ (S : List α), (S.Pairwise fun a b => Lib.compareBytes (key a) (key b) ≤ 0) → ∃ P Q, S = P ++ Q ∧ (∀ a ∈ P, Lib.compareBytes (key a) (key x) ≤ 0) ∧ ∀ b ∈ Q, 0 < Lib.compareBytes (key b) (key x)
  | [], _ => ⟨[], [], rfl, fun _ h => (by cases h), fun _ h => (by cases h)⟩
  | a :: r, h => by
    obtain ⟨h1, h2⟩ := List.pairwise_cons.1 h
    by_cases hx : Lib.compareBytes (key a) (key x) ≤ 0
    · obtain ⟨P, Q, e, hP, hQ⟩ := split_at x r h2
      refine ⟨a :: P, Q, by rw [e]; rfl, fun b hb => ?_, hQ⟩
      rcases List.mem_cons.1 hb with rfl | hb
      · exact hx
      · exact hP b hb
    · refine ⟨[], a :: r, rfl, fun _ h => (by cases h), fun b hb => ?_⟩
      rcases List.mem_cons.1 hb with rfl | hb
      · omega
      · by_cases hbx : Lib.compareBytes (key b) (key x) ≤ 0
        · exact absurd (cbG_trans (key a) (key b) (key x) (h1 b hb) hbx).1 hx
        · omega
theorem place_unique {P Q : List α} {x : α} {k : Nat} (hP : ∀ a ∈ P, Lib.compareBytes (key a) (key x) ≤ 0) (hQ : ∀ b ∈ Q, 0 < Lib.compareBytes (key b) (key x)) (h : PlaceG key (P ++ Q) x k) : k = P.length := by
  obtain ⟨h1, h2, h3⟩ := h
  rcases Nat.lt_trichotomy k P.length with hlt | he | hgt
  · have hg : (P ++ Q)[k]? = some (P[k]) := by rw [List.getElem?_append_left hlt]; exact List.getElem?_eq_getElem hlt
    have := h2 k _ hg (Nat.le_refl k)
    have := hP _ (List.getElem_mem hlt)
    omega
  · exact he
  · rw [List.length_append] at h1
    have hlt : k - 1 - P.length < Q.length := by omega
    have hg : (P ++ Q)[k - 1]? = some (Q[k - 1 - P.length]) := by rw [List.getElem?_append_right (by omega)]; exact List.getElem?_eq_getElem hlt
    have := h3 _ (by omega) hg
    have := hQ _ (List.getElem_mem hlt)
    omega
theorem srt_le (l : List α) : (srt (ltG key) l).Pairwise fun a b => Lib.compareBytes (key a) (key b) ≤ 0 := by
  refine srt_in (ltG key) (fun a b => Lib.compareBytes (key a) (key b) ≤ 0) (fun a b c h1 h2 => (cbG_trans _ _ _ h1 h2).1) (fun x y h => ?_) _ _ (Nat.le_refl _) ?_
  · have : Lib.compareBytes (key y) (key x) < 0 := by simpa [ltG] using h
    omega
  · refine List.pairwise_of_forall fun x y h => ?_
    have h3 : ¬ Lib.compareBytes (key y) (key x) < 0 := by simpa [ltG] using h
    have h4 := cbG_anti (key y) (key x)
    omega
def RZ (a b : α × Nat) : Prop := Lib.compareBytes (key a.1) (key b.1) < 0 ∨ (Lib.compareBytes (key a.1) (key b.1) = 0 ∧ a.2 < b.2)
theorem RZ.trans (x y z : α × Nat) (h : RZ key x y) (h2 : RZ key y z) : RZ key x z := by
  unfold RZ at *
  have t1 := cbG_trans (key x.1) (key y.1) (key z.1)
  rcases h with h | ⟨h, hn⟩
  · rcases h2 with h2 | ⟨h2, _⟩
    · exact .inl ((t1 (by omega) (by omega)).2 h)
    · exact .inl ((t1 (by omega) (by omega)).2 h)
  · rw [(cbG_zero _ _).1 h]
    rcases h2 with h2 | ⟨h2, h3⟩
    · exact .inl h2
    · exact .inr ⟨h2, by omega⟩
theorem zipG_pairwise : ∀ (ps : List α) (i : Nat), (ps.zipIdx i).Pairwise fun x y => x.2 < y.2
  | [], i => List.Pairwise.nil
  | p :: r, i => by
    rw [List.zipIdx_cons]
    refine List.pairwise_cons.2 ⟨fun y hy => ?_, zipG_pairwise r (i + 1)⟩
    have h := List.le_snd_of_mem_zipIdx hy
    show i < y.2
    omega
theorem srtZ_in (l : List α) : (srt (ltG fun p : α × Nat => key p.1) l.zipIdx).Pairwise (RZ key) := by
  refine srt_in (ltG fun p : α × Nat => key p.1) (RZ key) (RZ.trans key) (fun x y h => .inl (by simpa [ltG] using h)) _ _ (Nat.le_refl _) ?_
  refine (zipG_pairwise l 0).imp fun {x y} hxy h => ?_
  have h3 : ¬ Lib.compareBytes (key y.1) (key x.1) < 0 := by simpa [ltG] using h
  have h4 := cbG_anti (key y.1) (key x.1)
  unfold RZ
  omega
theorem srt_zip (l : List α) : (srt (ltG fun p : α × Nat => key p.1) l.zipIdx).map Prod.fst = srt (ltG key) l := by
  have h := srt_map (Prod.fst : α × Nat → α) (ltG key) _ l.zipIdx (Nat.le_refl _)
  rw [List.zipIdx_map_fst] at h
  exact h.symm
/-- one more, put in order -/
theorem srt_snoc (l : List α) (x : α) {P Q : List α} (e : srt (ltG key) l = P ++ Q) (hP : ∀ a ∈ P, Lib.compareBytes (key a) (key x) ≤ 0) (hQ : ∀ b ∈ Q, 0 < Lib.compareBytes (key b) (key x)) : srt (ltG key) (l ++ [x]) = P ++ x :: Q := by
  have hz := srt_zip key l
  rw [e] at hz
  obtain ⟨P', Q', e', rfl, rfl⟩ := List.map_eq_append_iff.1 hz
  have hS := srtZ_in key l
  have hperm := srt_perm (ltG fun p : α × Nat => key p.1) _ l.zipIdx (Nat.le_refl _)
  rw [e'] at hS hperm
  obtain ⟨p1, p2, p3⟩ := List.pairwise_append.1 hS
  have hzip : (l ++ [x]).zipIdx = l.zipIdx ++ [(x, l.length)] := by rw [List.zipIdx_append]; simp
  have hC : (P' ++ (x, l.length) :: Q').Pairwise (RZ key) := by
    refine List.pairwise_append.2 ⟨p1, List.pairwise_cons.2 ⟨fun b hb => ?_, p2⟩, fun a ha b hb => ?_⟩
    · have := hQ b.1 (List.mem_map_of_mem hb)
      have h4 := cbG_anti (key b.1) (key x)
      exact .inl (by show Lib.compareBytes (key x) (key b.1) < 0; omega)
    · rcases List.mem_cons.1 hb with rfl | hb
      · have h1 := hP a.1 (List.mem_map_of_mem ha)
        have hm : a ∈ l.zipIdx := hperm.mem_iff.1 (List.mem_append_left _ ha)
        have hlt : a.2 < l.length := by
          have := List.snd_lt_of_mem_zipIdx hm
          simpa using this
        unfold RZ
        show Lib.compareBytes (key a.1) (key x) < 0 ∨ (Lib.compareBytes (key a.1) (key x) = 0 ∧ a.2 < l.length)
        omega
      · exact p3 a ha b hb
  have hT := srtZ_in key (l ++ [x])
  have hTp := srt_perm (ltG fun p : α × Nat => key p.1) _ (l ++ [x]).zipIdx (Nat.le_refl _)
  have hCp : (P' ++ (x, l.length) :: Q').Perm (l ++ [x]).zipIdx := by
    rw [hzip]
    refine List.perm_middle.trans ?_
    refine (hperm.cons _).trans ?_
    exact (List.perm_append_singleton _ _).symm
  have heq := List.Perm.eq_of_pairwise (le := RZ key) (fun a b _ _ h1 h2 => by
    have h4 := cbG_anti (key a.1) (key b.1)
    exfalso
    rcases h1 with h1 | ⟨h1, h1'⟩ <;> rcases h2 with h2 | ⟨h2, h2'⟩ <;> omega) hT hC (hTp.trans hCp.symm)
  have := congrArg (List.map Prod.fst) heq
  rw [srt_zip key (l ++ [x])] at this
  rw [this]
  simp

/-- the last of them -/
def lst (p : α) : List α → α
  | [] => p
  | y :: r => lst y r
theorem cmpA_key (p q : α) (h : key p = key q) : ∀ R : List α, cmpA (sameG key) p R = cmpA (sameG key) q R
  | [] => rfl
  | y :: r => by
    rw [cmpA, cmpA]
    have e : sameG key y p = sameG key y q := by unfold sameG; rw [h]
    rw [e]
theorem cmpA_append (R : List α) : ∀ (P : List α) (p : α), cmpA (sameG key) p (P ++ R) = cmpA (sameG key) p P ++ cmpA (sameG key) (lst p P) R
  | [], p => rfl
  | y :: r, p => by
    rw [List.cons_append, cmpA, cmpA]
    by_cases h : sameG key y p = true
    · rw [if_pos h, if_pos h, cmpA_append R r y]
      rfl
    · rw [if_neg h, if_neg h, cmpA_append R r y]
      rfl
theorem cmpA_far (p : α) (Q : List α) (h : ∀ b ∈ Q, key b ≠ key p) : cmpA (sameG key) p Q = cmpct (sameG key) Q := by
  cases Q with
  | nil => rfl
  | cons b r =>
    have hb : sameG key b p = false := by
      unfold sameG
      exact beq_eq_false_iff_ne.2 (h b (List.mem_cons_self ..))
    rw [cmpA, hb, cmpct]
    rfl
theorem cmpA_last : ∀ (P : List α) (p z : α), (p :: cmpA (sameG key) p P).getLast? = some z → key z = key (lst p P)
  | [], p, z, h => by
    obtain rfl : p = z := by simpa [cmpA] using h
    rfl
  | y :: r, p, z, h => by
    rw [cmpA] at h
    by_cases hq : sameG key y p = true
    · rw [if_pos hq] at h
      have hyp : key y = key p := by unfold sameG at hq; exact beq_iff_eq.1 hq
      have h2 : ∃ z', (y :: cmpA (sameG key) y r).getLast? = some z' ∧ key z' = key z := by
        cases hc : cmpA (sameG key) y r with
        | nil =>
          rw [hc] at h
          obtain rfl : p = z := by simpa using h
          exact ⟨y, rfl, hyp⟩
        | cons w t =>
          rw [hc, List.getLast?_cons_cons] at h
          exact ⟨z, by rw [List.getLast?_cons_cons]; exact h, rfl⟩
      obtain ⟨z', h3, h4⟩ := h2
      rw [← h4]
      exact cmpA_last r y z' h3
    · rw [if_neg hq, List.getLast?_cons_cons] at h
      exact cmpA_last r y z h
theorem lst_mem : ∀ (P : List α) (p : α), lst p P ∈ p :: P
  | [], p => List.mem_cons_self ..
  | y :: r, p => List.mem_cons_of_mem _ (lst_mem r y)

/-- what the document's sorter does to one more -/
theorem left_step (dist : Bool) (l : List α) (x : α) (k : Nat) (h : PlaceG key (leftG key dist l) x k) :
    (dist = true → ∀ y, 0 < k → (leftG key dist l)[k - 1]? = some y → Lib.compareBytes (key y) (key x) = 0 → leftG key dist (l ++ [x]) = leftG key dist l) ∧
    ((dist = true → ∀ y, 0 < k → (leftG key dist l)[k - 1]? = some y → Lib.compareBytes (key y) (key x) ≠ 0) → leftG key dist (l ++ [x]) = (leftG key dist l).take k ++ x :: (leftG key dist l).drop k) := by
  obtain ⟨P, Q, e, hP, hQ⟩ := split_at key x _ (srt_le key l)
  have hsn := srt_snoc key l x e hP hQ
  cases dist with
  | false =>
    unfold leftG at *
    rw [if_neg (by decide), e] at h
    obtain rfl := place_unique key hP hQ h
    refine ⟨fun h => (by cases h), fun _ => ?_⟩
    rw [if_neg (by decide), if_neg (by decide), hsn, e, List.take_left, List.drop_left]
  | true =>
    have hxQ : ∀ p : α, Lib.compareBytes (key p) (key x) ≤ 0 → ∀ b ∈ Q, key b ≠ key p := fun p hp b hb hbp => by
      have := hQ b hb
      rw [hbp] at this
      omega
    have hxQ' : ∀ b ∈ Q, key b ≠ key x := hxQ x (by rw [(cbG_zero _ _).2 rfl]; exact Int.le_refl _)
    unfold leftG at *
    rw [if_pos rfl, e] at h
    rw [if_pos rfl, if_pos rfl, hsn, e]
    cases P with
    | nil =>
      have hD : cmpct (sameG key) ([] ++ Q) = [] ++ cmpct (sameG key) Q := rfl
      rw [hD] at h ⊢
      obtain rfl := place_unique key (P := []) (fun a ha => by cases ha) (fun b hb => hQ b (cmpct_mem _ _ _ hb)) h
      refine ⟨fun _ y hk => absurd hk (by simp), fun _ => ?_⟩
      rw [List.nil_append, cmpct, cmpA_far key x Q hxQ']
      rfl
    | cons a P =>
      have hl : Lib.compareBytes (key (lst a P)) (key x) ≤ 0 := hP _ (lst_mem P a)
      have hD : cmpct (sameG key) (a :: P ++ Q) = cmpct (sameG key) (a :: P) ++ cmpct (sameG key) Q := by
        rw [List.cons_append, cmpct, cmpA_append, cmpct, cmpA_far key _ Q (hxQ _ hl)]
        rfl
      have hE : cmpct (sameG key) (a :: P ++ x :: Q) = cmpct (sameG key) (a :: P) ++ cmpA (sameG key) (lst a P) (x :: Q) := by
        rw [List.cons_append, cmpct, cmpA_append, cmpct]
        rfl
      rw [hD] at h ⊢
      rw [hE]
      obtain rfl := place_unique key (fun a ha => hP _ (cmpct_mem _ _ _ ha)) (fun b hb => hQ b (cmpct_mem _ _ _ hb)) h
      have hlast : ∀ y, (cmpct (sameG key) (a :: P) ++ cmpct (sameG key) Q)[(cmpct (sameG key) (a :: P)).length - 1]? = some y → key y = key (lst a P) := fun y hy => by
        have hp : 0 < (cmpct (sameG key) (a :: P)).length := by simp [cmpct]
        rw [List.getElem?_append_left (by omega)] at hy
        refine cmpA_last key P a y ?_
        rw [List.getLast?_eq_getElem?]
        exact hy
      obtain ⟨y0, hy0⟩ : ∃ y, (cmpct (sameG key) (a :: P) ++ cmpct (sameG key) Q)[(cmpct (sameG key) (a :: P)).length - 1]? = some y := by
        have hp : 0 < (cmpct (sameG key) (a :: P)).length := by simp [cmpct]
        exact ⟨_, List.getElem?_eq_getElem (by rw [List.length_append]; omega)⟩
      have hp : 0 < (cmpct (sameG key) (a :: P)).length := by simp [cmpct]
      refine ⟨fun _ y _ hy hc => ?_, fun hn => ?_⟩
      · have hk : key x = key (lst a P) := by rw [← hlast y hy]; exact ((cbG_zero _ _).1 hc).symm
        rw [cmpA, if_pos (by unfold sameG; exact beq_iff_eq.2 hk), cmpA_far key x Q hxQ']
      · have hne : key x ≠ key (lst a P) := fun hk => hn rfl y0 hp hy0 (by rw [hlast y0 hy0, hk]; exact (cbG_zero _ _).2 rfl)
        rw [cmpA, if_neg (by unfold sameG; intro h; exact hne (beq_iff_eq.1 h)), cmpA_far key x Q hxQ', List.take_left, List.drop_left]
end
end Go.Proofs.Ytdhdfeiobjmdaaa

namespace Go.Proofs.Ytdhdfeiobjmdaaa
open Go.ChangeShapes Go.WideShapes Go.ChangeAt Go.RowKit
set_option linter.unusedVariables false

theorem leftG_mem {dist : Bool} {l : List On} {x : On} (h : x ∈ leftG On.kb dist l) : x ∈ l := by
  unfold leftG at h
  split at h
  · exact (srt_perm _ _ l (Nat.le_refl _)).mem_iff.1 (cmpct_mem _ _ _ h)
  · exact (srt_perm _ _ l (Nat.le_refl _)).mem_iff.1 h
theorem but_seven (W : World) (p q : Nat) (v v2 a b c d e : Value) : But (fun i => i = p ∨ i = q) W (set5 ((W.setCell ⟨p, 2, none⟩ v).setCell ⟨p, 3, none⟩ v2) q a b c d e) :=
  (((((((But.refl (fun i => i = p ∨ i = q) W).set ⟨p, 2, none⟩ (.inl rfl) v).set ⟨p, 3, none⟩ (.inl rfl) v2).set ⟨q, 0, none⟩ (.inr rfl) a).set ⟨q, 1, none⟩ (.inr rfl) b).set ⟨q, 2, none⟩ (.inr rfl) c).set ⟨q, 3, none⟩ (.inr rfl) d).set ⟨q, 4, none⟩ (.inr rfl) e
theorem meas_step {i n : Nat} (h : i < n) : n - (intOf (.int .i64 ((i : Int) + 1))).toNat < n - (intOf (.int .i64 (i : Int))).toNat := by
  show n - ((i : Int) + 1).toNat < n - ((i : Int)).toNat
  omega
theorem rdO_none {w : World} {B B2 : Nat} {w2 : World} {ol : List On} (h : RdO w B none ol) (kk : Nat) : RdO w2 B2 none (ol.drop kk) := by
  have he : ol = [] := by
    rcases ol with _ | ⟨u, r⟩
    · rfl
    · obtain ⟨ad, e, _⟩ := h (by simp)
      cases e
  rw [he, List.drop_nil]
  exact fun h => absurd h (by simp)
theorem leftG_nil (dist : Bool) : leftG On.kb dist [] = [] := by
  unfold leftG
  rw [srt_short _ _ (by simp)]
  cases dist <;> rfl
theorem leftG_length (dist : Bool) (l : List On) : (leftG On.kb dist l).length ≤ l.length := by
  unfold leftG
  split
  · exact Nat.le_trans (cmpct_length _ _) (by rw [srt_length]; exact Nat.le_refl _)
  · rw [srt_length]; exact Nat.le_refl _
/-- at the head of the loop -/
def RsRel (w w2 : World) (dist : Bool) (l : List On) (v4 v5 : Value) (wr : World) : Prop :=
  ∃ (i : Nat) (O : Option Addr) (oc : Nat) (ol : List On), i ≤ l.length ∧ v4 = .slice O ol.length oc ∧ ol.length ≤ oc ∧ oc ≤ 9223372036854775807 ∧ v5 = .int .i64 (i : Int) ∧ ol = leftG On.kb dist (l.take i) ∧ OkO wr O ol ∧ Below w2.heap.size w2 wr
def InRel (w4 : World) (ol : List On) (x : On) (v : Value) (wr : World) : Prop :=
  ∃ k : Nat, k ≤ ol.length ∧ v = .int .i64 (k : Int) ∧ (∀ j y, ol[j]? = some y → k ≤ j → 0 < Lib.compareBytes y.kb x.kb) ∧ Below w4.heap.size w4 wr
set_option maxRecDepth 100000 in
set_option maxHeartbeats 4000000 in
theorem refSort_ok (D : Option Addr) (dn dc : Nat) (dist : Bool) (A : Option Addr) (l : List On) (c k : Nat) (w : World) (hO : OkO w A l) (hB : ∀ e ∈ l, OnB w e ∧ e.kb.length ≤ 1000000000) (hl : l.length ≤ 1000) :
    Calls Try.prog 20 #[refV D dn dc dist A l.length c false k] w fun e w' => ∃ A' c', e = .returned (.tuple #[refV D dn dc dist A' (leftG On.kb dist l).length c' true k, .int .i64 0]) ∧ (leftG On.kb dist l).length ≤ c' ∧ OkO w' A' (leftG On.kb dist l) ∧ Below w.heap.size w w' := by
  have HO := Lib.hid hO
  have HB := Lib.hid hB
  have HL := Lib.hid hl
  clear hO hB hl
  unfold refV
  go_enter Try.func20, Try.ntmps20
  go_upto_region 5 with (fail)
  obtain ⟨w2, hw2⟩ : ∃ w2, (w.alloc (refO D dn dc dist A l.length c false k)).alloc (refO none 0 0 false none 0 0 false 0) = w2 := ⟨_, rfl⟩
  rw [show (w.alloc (.cells #[.slice D dn dc, .bool dist, .slice A l.length c, .bool false, .int .i64 (k : Int)] 43)).alloc (.cells #[.slice none 0 0, .bool false, .slice none 0 0, .bool false, .int .i64 0] 43) = w2 from hw2]
  obtain ⟨hp, hq, hw, hz⟩ := two_boxes (w := w) (w2 := w2) (D := D) (dn := dn) (dc := dc) (dist := dist) (A := A) (n := l.length) (c := c) (srt := false) (k := k) (by rw [hw2]; exact Below.refl _ _)
  have HP := Lib.hid hp
  have HQ := Lib.hid hq
  have HW := Lib.hid hw
  clear hw2 hp hq hw hz
  go_loopw [4, 5] (fun v4 v5 wr => RsRel w w2 dist l v4 v5 wr) (fun _ v5 _ => l.length - (intOf v5).toNat)
  case atStart => exact ⟨0, none, 0, [], Nat.zero_le _, rfl, Nat.le_refl _, by decide, rfl, by rw [List.take_zero, leftG_nil], fun h => absurd h (by simp), Below.refl _ _⟩
  case round =>
    obtain ⟨i, O, oc, ol, hi, rfl, hoc, hoc2, rfl, hol, hOk, hb⟩ := hrel
    have HBW := Lib.hid hb
    have HOL := Lib.hid hol
    have HOK := Lib.hid hOk
    have HOC := Lib.hid (And.intro hoc hoc2)
    have HOM := Lib.hid (show ol.length ≤ 1000 from by rw [hol]; exact Nat.le_trans (leftG_length _ _) (by rw [List.length_take]; have := HL.out; omega))
    obtain ⟨c0, c1, c2, c3, c4⟩ := (HP.out.on hb).cells
    clear hb hol hOk hoc hoc2
    by_cases hlt : i < l.length
    · have hx : l[i]? = some l[i] := List.getElem?_eq_getElem hlt
      obtain ⟨g, cur, fr, rfl, hg, hc⟩ := (HO.out.on HW.out |>.on HBW.out) (by omega)
      have HX := Lib.hid (HB.out _ (List.mem_of_getElem? hx))
      have HTK := Lib.hid (show l.take (i + 1) = l.take i ++ [l[i]] by rw [List.take_add_one, hx]; rfl)
      obtain ⟨e0, e1⟩ := hc i _ hx
      have HLT := Lib.hid hlt
      generalize l[i] = x at *
      have q1 : (i : Int) < l.length := by omega
      have hone : x.kv.oneCell' = true ∧ x.rv.oneCell' = true := ⟨rfl, rfl⟩
      unfold On.kv at e0
      unfold On.rv at e1
      clear hx hc hg hone
      go_upto_region 9 with (fail)
      obtain ⟨w4, hw4⟩ : ∃ w4, wr.alloc (.cells #[.slice x.kA x.kb.length x.kc, .slice x.rA x.rs.length x.rc] 91) = w4 := ⟨_, rfl⟩
      have hal : Below wr.heap.size wr w4 := by rw [← hw4]; exact (Below.refl _ _).alloc (Nat.le_refl _) _
      have hxb : w4.heap[wr.heap.size]? = some (.cells #[x.kv, x.rv] 91 (0, 0)) := by rw [← hw4]; exact heap_alloc_new _ _
      rw [hw4]
      obtain ⟨bx, hbx⟩ : ∃ n, wr.heap.size = n := ⟨_, rfl⟩
      rw [hbx] at hxb
      rw [hbx]
      have HXB := Lib.hid hxb
      have HW4 := Lib.hid (HBW.out.trans (hal.mono HBW.out.size))
      have HOK4 := Lib.hid (HOK.out.on hal)
      have HX4 := Lib.hid (HX.out.1.on (HW.out.trans (HW4.out.mono HW.out.size)))
      have HX5 := Lib.hid HX.out.2
      have HM4 := Lib.hid (show ∀ y ∈ ol, OnB w4 y ∧ y.kb.length ≤ 1000000000 from fun y hy => by
        have hm : y ∈ l := by rw [HOL.out] at hy; exact List.mem_of_mem_take (leftG_mem hy)
        exact ⟨(HB.out y hm).1.on (HW.out.trans (HW4.out.mono HW.out.size)), (HB.out y hm).2⟩)
      clear hw4 hal hxb hbx HX HOK HBW c0 c1 c2 c3 c4 e0 e1 q1
      go_loopw [7] (fun v w5 => InRel w4 ol x v w5) (fun v _ => (intOf v).toNat)
      case atStart => exact ⟨ol.length, Nat.le_refl _, rfl, fun j y hj hlj => (by rw [List.getElem?_eq_none hlj] at hj; cases hj), Below.refl _ _⟩
      case round =>
        rename World => w5
        obtain ⟨kk, hkk, rfl, hgt, hb5⟩ := hrel
        have HGT := Lib.hid hgt
        have HB5 := Lib.hid hb5
        clear hgt hb5
        by_cases hk0 : kk = 0
        · skip
          have HKK := Lib.hid (show kk ≤ ol.length from hkk)
          have HPL := Lib.hid (show PlaceG On.kb ol x kk from ⟨hkk, HGT.out, fun y h _ => absurd h (by omega)⟩)
          have d2 : decide (0 < kk) = false := decide_eq_false (by omega)
          have d3 : ¬ (0 : Int) < (kk : Int) := by omega
          have HK0 := Lib.hid hk0
          clear hk0
          go_upto_region 9 with (fail)
          go_quiet (fail)
          obtain ⟨nw, hnw⟩ : ∃ X, w5.drewN nq = X := ⟨_, rfl⟩
          have HBX := Lib.hid (show Below w4.heap.size w4 nw from by rw [← hnw]; exact bdN HB5.out _)
          rw [hnw]
          clear hnw
          obtain ⟨p0, p1, _⟩ := (HP.out.on (HW4.out.trans (HBX.out.mono HW4.out.size))).cells
          go_upto_region 11 with (fail)
          go_cut [59] from 42 to 59 (fun v wx => v = .bool false ∧ Below w4.heap.size w4 wx)
          case first =>
            cases dist <;> (go_quiet (fail); go_wp2_with fail; go_meet; exact ⟨rfl, bdN HBX.out _⟩)
          case rest =>
            obtain ⟨rfl, hbx⟩ := hcut
            have HBX := Lib.hid hbx
            clear hbx p0 p1 d2 d3
            cases O with
            | none =>
              obtain ⟨w6, hw6⟩ : ∃ X, wc = X := ⟨_, rfl⟩
              have HB6 := Lib.hid (show Below w4.heap.size w4 w6 from by rw [← hw6]; exact HBX.out)
              (try rw [hw6])
              clear hw6 HBX
              have HRD := Lib.hid (HOK4.out.on HB6.out).rd
              have HXC := Lib.hid ((HB6.out.block bx (heap_lt HXB.out)).trans HXB.out)
              have c0 := (cell_of_row w6 bx 0 _ _ _ HXC.out).trans rfl
              have c1 := (cell_of_row w6 bx 1 _ _ _ HXC.out).trans rfl
              have hone : x.kv.oneCell' = true ∧ x.rv.oneCell' = true := ⟨rfl, rfl⟩
              have r1 : kk ≤ oc := by have := HOC.out.1; have := HKK.out; omega
              have r2 : kk ≤ ol.length := HKK.out
              have r3 : (kk : Int) ≤ (oc : Int) := by omega
              have r4 : (kk : Int) ≤ (ol.length : Int) := by omega
              have r5 : ol.length ≤ oc := HOC.out.1
              have r6 : (0 : Int) ≤ (kk : Int) := by omega
              have b1 : i < 1000 := by have := HLT.out; have := HL.out; omega
              obtain ⟨T, hT⟩ : ∃ T, ol.take kk = T := ⟨_, rfl⟩
              have HTT := Lib.hid hT
              have HTL := Lib.hid (show T.length ≤ 1000 by rw [← hT, List.length_take]; have := HOM.out; omega)
              clear hT
              obtain ⟨U, hU⟩ : ∃ U, T ++ [x] = U := ⟨_, rfl⟩
              have HUU := Lib.hid hU
              have HUL := Lib.hid (show U.length ≤ 1001 by rw [← hU, List.length_append]; have := HTL.out; simp; omega)
              clear hU
              go_upto_region 13 with (fail)
              clear c0 c1
              go_upto_region 14 with (at_builtin; refine wpList_appO rfl (.tmp 60) (.tmp 63) rfl w6.heap.size (.slice none 0 0) [] rfl (World.ownsRow_nil _ _ _ _) none oc (ol.take kk) kk (by rw [List.length_take]; have := HKK.out; omega) rfl (HRD.out.pre kk) (by simp; have := HOM.out; omega) (Nat.le_refl _) ?_; intro v7 w7 ho7 hb7; rw [List.nil_append, HTT.out] at ho7; have HO7 := Lib.hid ho7; have HB7 := Lib.hid hb7; obtain ⟨A7, c7, rfl, _, _, _⟩ := ho7.form; clear ho7 hb7)
              have HX7 := Lib.hid ((HB7.out.block bx (heap_lt HXC.out)).trans HXC.out)
              have c0 := (cell_of_row w7 bx 0 _ _ _ HX7.out).trans rfl
              have c1 := (cell_of_row w7 bx 1 _ _ _ HX7.out).trans rfl
              have hkv : x.kv = .slice x.kA x.kb.length x.kc := rfl
              have hrv : x.rv = .slice x.rA x.rs.length x.rc := rfl
              go_upto_region 15 with (at_builtin; refine wpList_app1O rfl (.tmp 65) (.tmp 67) rfl w6.heap.size (.slice A7 T.length c7) T rfl HO7.out _ _ x rfl rfl rfl (by have := HTL.out; omega) HB7.out.size ?_; intro v8 w8 ho8 hb8 hv8; rw [HUU.out] at ho8; obtain ⟨A8, c8, rfl, h81, h82, _⟩ := ho8.form; have HO8 := Lib.hid ho8; have HB8 := Lib.hid (hb8.below HB7.out.size HO7.out.heap.2); clear ho8 hb8 hv8 h81 h82)
              clear c0 c1 hkv hrv
              have HL8 := Lib.hid (HB7.out.trans HB8.out)
              have HRD8 := Lib.hid ((HRD.out.below HL8.out).more HL8.out.size)
              go_wp2_with (at_builtin; refine wpList_appO rfl (.tmp 69) (.tmp 72) rfl w6.heap.size (.slice A8 U.length c8) U rfl HO8.out _ _ (ol.drop kk) _ ?hn rfl (rdO_none HRD.out kk) (by rw [List.length_drop]; have := HOM.out; have := HUL.out; omega) HL8.out.size ?_; (case hn => (rw [List.length_drop])); intro v9 w9 ho9 hb9; have hfin : U ++ ol.drop kk = leftG On.kb dist (l.take (i + 1)) := (by rw [← HUU.out, ← HTT.out, HTK.out, (left_step On.kb dist (l.take i) x kk (by rw [← HOL.out]; exact HPL.out)).2 (by rw [← HOL.out]; exact (fun hd y hk0' hy => absurd hk0' (by have := HK0.out; omega))), ← HOL.out, List.append_assoc]; rfl); rw [hfin] at ho9; clear hfin; have HO9 := Lib.hid ho9; have HB9 := Lib.hid (HL8.out.trans hb9); obtain ⟨A9, c9, rfl, h91, h92, _⟩ := ho9.form; have HC9 := Lib.hid (And.intro h91 h92); clear ho9 hb9 h91 h92)
              refine ⟨⟨i + 1, A9, c9, _, HLT.out, rfl, HC9.out.1, by have := HC9.out.2; unfold maxLen at this; exact Nat.le_trans this (by decide), by go_num, rfl, OkO.of_own HO9.out, HW4.out.trans ((HB6.out.trans (HB9.out.mono HB6.out.size)).mono HW4.out.size)⟩, meas_step HLT.out⟩
            | some ad =>
              obtain ⟨w6, hw6⟩ : ∃ X, wc = X := ⟨_, rfl⟩
              have HB6 := Lib.hid (show Below w4.heap.size w4 w6 from by rw [← hw6]; exact HBX.out)
              (try rw [hw6])
              clear hw6 HBX
              have HRD := Lib.hid (HOK4.out.on HB6.out).rd
              have HXC := Lib.hid ((HB6.out.block bx (heap_lt HXB.out)).trans HXB.out)
              have c0 := (cell_of_row w6 bx 0 _ _ _ HXC.out).trans rfl
              have c1 := (cell_of_row w6 bx 1 _ _ _ HXC.out).trans rfl
              have hone : x.kv.oneCell' = true ∧ x.rv.oneCell' = true := ⟨rfl, rfl⟩
              have r1 : kk ≤ oc := by have := HOC.out.1; have := HKK.out; omega
              have r2 : kk ≤ ol.length := HKK.out
              have r3 : (kk : Int) ≤ (oc : Int) := by omega
              have r4 : (kk : Int) ≤ (ol.length : Int) := by omega
              have r5 : ol.length ≤ oc := HOC.out.1
              have r6 : (0 : Int) ≤ (kk : Int) := by omega
              have b1 : i < 1000 := by have := HLT.out; have := HL.out; omega
              obtain ⟨T, hT⟩ : ∃ T, ol.take kk = T := ⟨_, rfl⟩
              have HTT := Lib.hid hT
              have HTL := Lib.hid (show T.length ≤ 1000 by rw [← hT, List.length_take]; have := HOM.out; omega)
              clear hT
              obtain ⟨U, hU⟩ : ∃ U, T ++ [x] = U := ⟨_, rfl⟩
              have HUU := Lib.hid hU
              have HUL := Lib.hid (show U.length ≤ 1001 by rw [← hU, List.length_append]; have := HTL.out; simp; omega)
              clear hU
              go_upto_region 13 with (fail)
              clear c0 c1
              go_upto_region 14 with (at_builtin; refine wpList_appO rfl (.tmp 60) (.tmp 63) rfl w6.heap.size (.slice none 0 0) [] rfl (World.ownsRow_nil _ _ _ _) (some ad) oc (ol.take kk) kk (by rw [List.length_take]; have := HKK.out; omega) rfl (HRD.out.pre kk) (by simp; have := HOM.out; omega) (Nat.le_refl _) ?_; intro v7 w7 ho7 hb7; rw [List.nil_append, HTT.out] at ho7; have HO7 := Lib.hid ho7; have HB7 := Lib.hid hb7; obtain ⟨A7, c7, rfl, _, _, _⟩ := ho7.form; clear ho7 hb7)
              have HX7 := Lib.hid ((HB7.out.block bx (heap_lt HXC.out)).trans HXC.out)
              have c0 := (cell_of_row w7 bx 0 _ _ _ HX7.out).trans rfl
              have c1 := (cell_of_row w7 bx 1 _ _ _ HX7.out).trans rfl
              have hkv : x.kv = .slice x.kA x.kb.length x.kc := rfl
              have hrv : x.rv = .slice x.rA x.rs.length x.rc := rfl
              go_upto_region 15 with (at_builtin; refine wpList_app1O rfl (.tmp 65) (.tmp 67) rfl w6.heap.size (.slice A7 T.length c7) T rfl HO7.out _ _ x rfl rfl rfl (by have := HTL.out; omega) HB7.out.size ?_; intro v8 w8 ho8 hb8 hv8; rw [HUU.out] at ho8; obtain ⟨A8, c8, rfl, h81, h82, _⟩ := ho8.form; have HO8 := Lib.hid ho8; have HB8 := Lib.hid (hb8.below HB7.out.size HO7.out.heap.2); clear ho8 hb8 hv8 h81 h82)
              clear c0 c1 hkv hrv
              have HL8 := Lib.hid (HB7.out.trans HB8.out)
              have HRD8 := Lib.hid ((HRD.out.below HL8.out).more HL8.out.size)
              go_wp2_with (at_builtin; refine wpList_appO rfl (.tmp 69) (.tmp 72) rfl w6.heap.size (.slice A8 U.length c8) U rfl HO8.out _ _ (ol.drop kk) _ ?hn rfl (HRD8.out.post2 kk oc r5) (by rw [List.length_drop]; have := HOM.out; have := HUL.out; omega) HL8.out.size ?_; (case hn => (rw [List.length_drop])); intro v9 w9 ho9 hb9; have hfin : U ++ ol.drop kk = leftG On.kb dist (l.take (i + 1)) := (by rw [← HUU.out, ← HTT.out, HTK.out, (left_step On.kb dist (l.take i) x kk (by rw [← HOL.out]; exact HPL.out)).2 (by rw [← HOL.out]; exact (fun hd y hk0' hy => absurd hk0' (by have := HK0.out; omega))), ← HOL.out, List.append_assoc]; rfl); rw [hfin] at ho9; clear hfin; have HO9 := Lib.hid ho9; have HB9 := Lib.hid (HL8.out.trans hb9); obtain ⟨A9, c9, rfl, h91, h92, _⟩ := ho9.form; have HC9 := Lib.hid (And.intro h91 h92); clear ho9 hb9 h91 h92)
              refine ⟨⟨i + 1, A9, c9, _, HLT.out, rfl, HC9.out.1, by have := HC9.out.2; unfold maxLen at this; exact Nat.le_trans this (by decide), by go_num, rfl, OkO.of_own HO9.out, HW4.out.trans ((HB6.out.trans (HB9.out.mono HB6.out.size)).mono HW4.out.size)⟩, meas_step HLT.out⟩
        · obtain ⟨k1, hk1⟩ : ∃ k1, kk = k1 + 1 := ⟨kk - 1, by omega⟩
          have HK1 := Lib.hid hk1
          have hy : ol[k1]? = some ol[k1] := List.getElem?_eq_getElem (by omega)
          have HY := Lib.hid (HM4.out _ (List.mem_of_getElem? hy))
          obtain ⟨go, cur2, fr2, rfl, hgo, hco⟩ := (HOK4.out.on HB5.out) (by omega)
          obtain ⟨y0, _⟩ := hco k1 _ hy
          have HFX := Lib.hid (show ∀ X : World, Below w5.heap.size w5 X → X.cell? ⟨go, k1 * 2, none⟩ = some (.slice ol[k1].kA ol[k1].kb.length ol[k1].kc) ∧ X.cell? ⟨bx, 0, none⟩ = some (.slice x.kA x.kb.length x.kc) from fun X hX =>
            ⟨(hX.cell (p := ⟨go, k1 * 2, none⟩) (heap_lt hgo)).trans y0, (cell_of_row X bx 0 _ _ _ ((hX.block bx (Nat.lt_of_lt_of_le (heap_lt HXB.out) HB5.out.size)).trans ((HB5.out.block bx (heap_lt HXB.out)).trans HXB.out))).trans rfl⟩)
          have HCM := Lib.hid (fun n : Nat => refCompare_q ol[k1].kA ol[k1].kc ol[k1].kb x.kA x.kc x.kb (w5.drewN n) ((HY.out.1.on (HB5.out.trans (bdN (Below.refl w5.heap.size w5) n |>.mono HB5.out.size))).1.rd) ((HX4.out.on (HB5.out.trans (bdN (Below.refl w5.heap.size w5) n |>.mono HB5.out.size))).1.rd) HY.out.2 HX5.out)
          have HYY := Lib.hid hy
          generalize ol[k1] = y at *
          have d1 : decide ((0 : Int) < (kk : Int)) = true := decide_eq_true (by omega)
          have d1' : decide (0 < kk) = true := decide_eq_true (by omega)
          have q2 : IntKind.i64.wrap ((kk : Int) - 1) = (k1 : Int) := by rw [hk1, show ((k1 + 1 : Nat) : Int) - 1 = (k1 : Int) by omega]; exact IntWalk.i64_in _ (by have := HOM.out; omega)
          have q3 : (k1 : Int) < ol.length := by omega
          have q4 : (0 : Int) ≤ (k1 : Int) := by omega
          clear hk1
          generalize hcc : Lib.compareBytes y.kb x.kb = cc at *
          have HCC := Lib.hid hcc
          clear hco y0 hgo hy hcc
          by_cases hc0 : 0 < cc
          · have d2 : decide ((0 : Int) < cc) = true := decide_eq_true hc0
            go_upto_region 9 with (fail)
            obtain ⟨u0, u1⟩ := HFX.out _ (Below.refl _ _)
            go_quiet ((go_at_call 47; exact Calls.quiet_of (HCM.out _)))
            clear d1 d1' d2 q2 q3 q4 u0 u1
            have b1 : 1 ≤ kk := by have := HK1.out; omega
            have b2 : kk ≤ 1000 := by have := HOM.out; omega
            go_wp2_with fail
            refine ⟨⟨k1, by have := HK1.out; omega, ?_, fun j z hz hj => ?_, HB5.out.trans (bdN (Below.refl w5.heap.size w5) _ |>.mono HB5.out.size)⟩, by have := HK1.out; simp [intOf]; omega⟩
            · have := HK1.out; go_num
            · by_cases hjk : j = k1
              · subst hjk
                rw [HYY.out] at hz
                obtain rfl := Option.some.inj hz
                rw [HCC.out]; exact hc0
              · exact HGT.out j z hz (by have := HK1.out; omega)
          · have d2 : decide ((0 : Int) < cc) = false := decide_eq_false hc0
            have HKK := Lib.hid hkk
            have HPL := Lib.hid (show PlaceG On.kb ol x kk from ⟨hkk, HGT.out, fun z _ hz => by
              rw [show kk - 1 = k1 by have := HK1.out; omega, HYY.out] at hz
              obtain rfl := Option.some.inj hz
              rw [HCC.out]; omega⟩)
            obtain ⟨u0, u1⟩ := HFX.out _ (Below.refl _ _)
            clear hk0
            go_upto_region 9 with (fail)
            go_quiet ((go_at_call 47; exact Calls.quiet_of (HCM.out _)))
            obtain ⟨nw, hnw⟩ : ∃ X, w5.drewN nq = X := ⟨_, rfl⟩
            have HBX := Lib.hid (show Below w4.heap.size w4 nw from by rw [← hnw]; exact HB5.out.trans (bdN (Below.refl w5.heap.size w5) _ |>.mono HB5.out.size))
            clear u0 u1
            obtain ⟨u0, u1⟩ := HFX.out nw (by rw [← hnw]; exact bdN (Below.refl _ _) _)
            have HCN := Lib.hid (fun n : Nat => refCompare_q y.kA y.kc y.kb x.kA x.kc x.kb (nw.drewN n) ((HY.out.1.on (HBX.out.trans (bdN (Below.refl nw.heap.size nw) n |>.mono HBX.out.size))).1.rd) ((HX4.out.on (HBX.out.trans (bdN (Below.refl nw.heap.size nw) n |>.mono HBX.out.size))).1.rd) HY.out.2 HX5.out)
            rw [HCC.out] at HCN
            rw [hnw]
            clear hnw d2
            obtain ⟨p0, p1, _⟩ := (HP.out.on (HW4.out.trans (HBX.out.mono HW4.out.size))).cells
            by_cases hdc : dist = true ∧ cc = 0
            · have hst := (left_step On.kb dist (l.take i) x kk (by rw [← HOL.out]; exact HPL.out)).1 hdc.1 y (by have := HK1.out; omega) (by rw [← HOL.out, show kk - 1 = k1 by have := HK1.out; omega]; exact HYY.out) (HCC.out.trans hdc.2)
              have HST := Lib.hid (show ol = leftG On.kb dist (l.take (i + 1)) by rw [HTK.out, hst, ← HOL.out])
              obtain ⟨hd1, hd2⟩ := hdc
              have d3 : (cc == 0) = true := by rw [hd2]; rfl
              rw [hd1] at p1
              have HD1 := Lib.hid hd1
              have b1 : i < 1000 := by have := HLT.out; have := HL.out; omega
              clear hd1 hd2 hst hc0
              go_upto_region 11 with (fail)
              go_quiet ((go_at_call 47; exact Calls.quiet_of (HCN.out _)))
              have HBZ := Lib.hid (show Below w4.heap.size w4 (nw.drewN nq) from HBX.out.trans (bdN (Below.refl nw.heap.size nw) _ |>.mono HBX.out.size))
              go_wp2_with fail
              exact ⟨⟨i + 1, some ⟨go, 0, none⟩, oc, ol, HLT.out, rfl, HOC.out.1, HOC.out.2, by go_num, HST.out, HOK4.out.on HBZ.out, HW4.out.trans (HBZ.out.mono HW4.out.size)⟩, meas_step HLT.out⟩
            · have HDC := Lib.hid (show dist = true → ∀ z, 0 < kk → ol[kk - 1]? = some z → Lib.compareBytes z.kb x.kb ≠ 0 from fun hd z _ hz hcz => by
                rw [show kk - 1 = k1 by have := HK1.out; omega, HYY.out] at hz
                obtain rfl := Option.some.inj hz
                exact hdc ⟨hd, HCC.out.symm.trans hcz⟩)
              go_upto_region 11 with (fail)
              go_cut [59] from 42 to 59 (fun v wx => v = .bool false ∧ Below w4.heap.size w4 wx)
              case first =>
                by_cases hd : dist = true
                · have d3 : (cc == 0) = false := beq_eq_false_iff_ne.2 fun h => hdc ⟨hd, h⟩
                  rw [hd] at p1
                  clear hd hdc hc0
                  go_quiet ((go_at_call 47; exact Calls.quiet_of (HCN.out _)))
                  go_wp2_with fail
                  go_meet
                  exact ⟨rfl, HBX.out.trans (bdN (Below.refl nw.heap.size nw) _ |>.mono HBX.out.size)⟩
                · have hd2 : dist = false := by simpa using hd
                  rw [hd2] at p1
                  clear hd hd2 hdc hc0
                  go_quiet (fail)
                  go_wp2_with fail
                  go_meet
                  exact ⟨rfl, HBX.out.trans (bdN (Below.refl nw.heap.size nw) _ |>.mono HBX.out.size)⟩
              case rest =>
                obtain ⟨rfl, hbx⟩ := hcut
                have HBX := Lib.hid hbx
                clear hbx p0 p1 d1 d1' q2 q3 q4 u0 u1 hdc hc0
                obtain ⟨ad, had⟩ : ∃ ad : Addr, (⟨go, 0, none⟩ : Addr) = ad := ⟨_, rfl⟩
                rw [had] at HOK4
                rw [had]
                clear had HFX
                obtain ⟨w6, hw6⟩ : ∃ X, wc = X := ⟨_, rfl⟩
                have HB6 := Lib.hid (show Below w4.heap.size w4 w6 from by rw [← hw6]; exact HBX.out)
                (try rw [hw6])
                clear hw6 HBX
                have HRD := Lib.hid (HOK4.out.on HB6.out).rd
                have HXC := Lib.hid ((HB6.out.block bx (heap_lt HXB.out)).trans HXB.out)
                have c0 := (cell_of_row w6 bx 0 _ _ _ HXC.out).trans rfl
                have c1 := (cell_of_row w6 bx 1 _ _ _ HXC.out).trans rfl
                have hone : x.kv.oneCell' = true ∧ x.rv.oneCell' = true := ⟨rfl, rfl⟩
                have r1 : kk ≤ oc := by have := HOC.out.1; have := HKK.out; omega
                have r2 : kk ≤ ol.length := HKK.out
                have r3 : (kk : Int) ≤ (oc : Int) := by omega
                have r4 : (kk : Int) ≤ (ol.length : Int) := by omega
                have r5 : ol.length ≤ oc := HOC.out.1
                have r6 : (0 : Int) ≤ (kk : Int) := by omega
                have b1 : i < 1000 := by have := HLT.out; have := HL.out; omega
                obtain ⟨T, hT⟩ : ∃ T, ol.take kk = T := ⟨_, rfl⟩
                have HTT := Lib.hid hT
                have HTL := Lib.hid (show T.length ≤ 1000 by rw [← hT, List.length_take]; have := HOM.out; omega)
                clear hT
                obtain ⟨U, hU⟩ : ∃ U, T ++ [x] = U := ⟨_, rfl⟩
                have HUU := Lib.hid hU
                have HUL := Lib.hid (show U.length ≤ 1001 by rw [← hU, List.length_append]; have := HTL.out; simp; omega)
                clear hU
                go_upto_region 13 with (fail)
                clear c0 c1
                go_upto_region 14 with (at_builtin; refine wpList_appO rfl (.tmp 60) (.tmp 63) rfl w6.heap.size (.slice none 0 0) [] rfl (World.ownsRow_nil _ _ _ _) (some ad) oc (ol.take kk) kk (by rw [List.length_take]; have := HKK.out; omega) rfl (HRD.out.pre kk) (by simp; have := HOM.out; omega) (Nat.le_refl _) ?_; intro v7 w7 ho7 hb7; rw [List.nil_append, HTT.out] at ho7; have HO7 := Lib.hid ho7; have HB7 := Lib.hid hb7; obtain ⟨A7, c7, rfl, _, _, _⟩ := ho7.form; clear ho7 hb7)
                have HX7 := Lib.hid ((HB7.out.block bx (heap_lt HXC.out)).trans HXC.out)
                have c0 := (cell_of_row w7 bx 0 _ _ _ HX7.out).trans rfl
                have c1 := (cell_of_row w7 bx 1 _ _ _ HX7.out).trans rfl
                have hkv : x.kv = .slice x.kA x.kb.length x.kc := rfl
                have hrv : x.rv = .slice x.rA x.rs.length x.rc := rfl
                go_upto_region 15 with (at_builtin; refine wpList_app1O rfl (.tmp 65) (.tmp 67) rfl w6.heap.size (.slice A7 T.length c7) T rfl HO7.out _ _ x rfl rfl rfl (by have := HTL.out; omega) HB7.out.size ?_; intro v8 w8 ho8 hb8 hv8; rw [HUU.out] at ho8; obtain ⟨A8, c8, rfl, h81, h82, _⟩ := ho8.form; have HO8 := Lib.hid ho8; have HB8 := Lib.hid (hb8.below HB7.out.size HO7.out.heap.2); clear ho8 hb8 hv8 h81 h82)
                clear c0 c1 hkv hrv
                have HL8 := Lib.hid (HB7.out.trans HB8.out)
                have HRD8 := Lib.hid ((HRD.out.below HL8.out).more HL8.out.size)
                go_wp2_with (at_builtin; refine wpList_appO rfl (.tmp 69) (.tmp 72) rfl w6.heap.size (.slice A8 U.length c8) U rfl HO8.out _ _ (ol.drop kk) _ ?hn rfl (HRD8.out.post2 kk oc r5) (by rw [List.length_drop]; have := HOM.out; have := HUL.out; omega) HL8.out.size ?_; (case hn => (rw [List.length_drop])); intro v9 w9 ho9 hb9; have hfin : U ++ ol.drop kk = leftG On.kb dist (l.take (i + 1)) := (by rw [← HUU.out, ← HTT.out, HTK.out, (left_step On.kb dist (l.take i) x kk (by rw [← HOL.out]; exact HPL.out)).2 (by rw [← HOL.out]; exact HDC.out), ← HOL.out, List.append_assoc]; rfl); rw [hfin] at ho9; clear hfin; have HO9 := Lib.hid ho9; have HB9 := Lib.hid (HL8.out.trans hb9); obtain ⟨A9, c9, rfl, h91, h92, _⟩ := ho9.form; have HC9 := Lib.hid (And.intro h91 h92); clear ho9 hb9 h91 h92)
                refine ⟨⟨i + 1, A9, c9, _, HLT.out, rfl, HC9.out.1, by have := HC9.out.2; unfold maxLen at this; exact Nat.le_trans this (by decide), by go_num, rfl, OkO.of_own HO9.out, HW4.out.trans ((HB6.out.trans (HB9.out.mono HB6.out.size)).mono HW4.out.size)⟩, meas_step HLT.out⟩
    · obtain rfl : i = l.length := by omega
      have q1 : ¬ (l.length : Int) < (l.length : Int) := by omega
      have hle : ol = leftG On.kb dist l := by rw [HOL.out, List.take_length]
      subst hle
      obtain ⟨z0, z1, z2, z3, z4⟩ := (HQ.out.on HBW.out).cells
      have f0 := (HQ.out.on HBW.out).frz 0
      have f1 := (HQ.out.on HBW.out).frz 1
      have f2 := (HQ.out.on HBW.out).frz 2
      have f3 := (HQ.out.on HBW.out).frz 3
      have f4 := (HQ.out.on HBW.out).frz 4
      have g2 := (HP.out.on HBW.out).frz 2
      have g3 := (HP.out.on HBW.out).frz 3
      have hFT : FarT 43 wr (fun j => j = w.heap.size ∨ j = w.heap.size + 1) := fun j hj => by
        rcases hj with rfl | rfl
        · exact ⟨_, _, HP.out.on HBW.out⟩
        · exact ⟨_, _, HQ.out.on HBW.out⟩
      have HWR := Lib.hid (HW.out.trans (HBW.out.mono HW.out.size))
      clear HOL HOM HB HO HW
      generalize hZ : leftG On.kb dist l = Z at *
      have HZ := Lib.hid hZ
      have HBT := Lib.hid (but_seven wr w.heap.size (w.heap.size + 1) (.slice O Z.length oc) (.bool true) (.slice D dn dc) (.bool dist) (.slice O Z.length oc) (.bool true) (.int .i64 (k : Int)))
      have HKO := Lib.hid ((HOK.out).butT HBT.out hFT (by decide))
      have HBB := Lib.hid (HWR.out.trans (HBT.out.below HWR.out.size fun j hj => by rcases hj with rfl | rfl <;> omega))
      clear hFT hZ HOK HBT
      go_wp2_with fail
      refine bodyPost_ret (v := .tuple #[refV D dn dc dist O Z.length oc true k, .int .i64 0]) (by simp [refV, results, Try.results20, go_sem, z0, z1, z2, z3, z4]) rfl ⟨O, oc, by rw [HZ.out]; rfl, by rw [HZ.out]; exact HOC.out.1, by rw [HZ.out]; exact HKO.out, HBB.out⟩
end Go.Proofs.Ytdhdfeiobjmdaaa

namespace Go.Proofs.Ytdhdfeiobjmdaaa
open Go.ChangeShapes Go.WideShapes Go.ChangeAt Go.RowKit Go.Deep
set_option linter.unusedVariables false

structure Opr where
  k : Int
  kA : Option Addr
  kc : Nat
  ks : List Trip
  rA : Option Addr
  rc : Nat
  rs : List Trip
def OpAt (w : World) (a : Addr) (o : Opr) : Prop := w.cell? a = some (.int .i64 o.k) ∧ w.cell? ⟨a.block, a.off + 1, none⟩ = some (.slice o.kA o.ks.length o.kc) ∧ w.cell? ⟨a.block, a.off + 2, none⟩ = some (.slice o.rA o.rs.length o.rc)
def RowIn (W : World) (A : Option Addr) (c : Nat) (l : List Trip) : Prop := l.length ≤ c ∧ c ≤ maxLen ∧ (A = none → l = [] ∧ c = 0) ∧ RdR W W.heap.size A l ∧ ∀ t ∈ l, In64 t.2.1 ∧ t.2.2.size ≤ maxLen
section
variable {H : Type} {enc : TypeId × Value → H} {W : World} {base fuel : Nat} {held : Bool} {x : DataW H × List MemPlace}
theorem slice_of {q : Value} {m : Nat} {y : DataW H × List MemPlace} (g : DataW.trod enc Try.prog W base (fun _ => true) held m 31 [q] = some y) : ∃ A l c, q = .slice A l.length c ∧ RowIn W A c l := by
  have hs : ∃ A n c, q = .slice A n c := by
    rcases open_slice Try.underlying31 g with ⟨h0, _⟩ | ⟨a, len, cap, _, _, _, _, h0, _⟩
    · injection h0 with h0 _
      exact ⟨_, _, _, h0⟩
    · injection h0 with h0 _
      exact ⟨_, _, _, h0⟩
  obtain ⟨A, n, c, rfl⟩ := hs
  obtain ⟨l, rfl, h1, h2, h3, h4, h5⟩ := openRow g
  exact ⟨A, l, c, rfl, h1, h2, h3, h4, h5⟩
set_option maxRecDepth 100000 in
theorem open_opr {m : Nat} {cs : List Value} {y : DataW H × List MemPlace} {a : Addr} (ht : DataW.trod enc Try.prog W base (fun _ => true) held m 47 cs = some y) (hcl : cs.length = 3) (hat : ∀ i, i < 3 → W.cell? (a.add i) = cs[i]?) :
    ∃ o : Opr, OpAt W a o ∧ RowIn W o.kA o.kc o.ks ∧ RowIn W o.rA o.rc o.rs := by
  obtain ⟨y0, y1, y2, n', _, _, g0, g1, g2⟩ := Go.Deep.trod_struct3 Try.underlying47 ht
  match cs, hcl with
  | [q0, q1, q2], _ =>
    obtain ⟨k, e0, _, w0⟩ := DataW.trod_int Try.underlying3 g0
    have b0 : q0 = .int .i64 k := by
      have : [q0] = [.int .i64 k] := e0
      injection this
    have g1' : DataW.trod enc Try.prog W base (fun _ => true) held n' 31 [q1] = some y1 := g1
    have g2' : DataW.trod enc Try.prog W base (fun _ => true) held n' 31 [q2] = some y2 := g2
    obtain ⟨A1, l1, c1, rfl, h1⟩ := slice_of g1'
    obtain ⟨A2, l2, c2, rfl, h2⟩ := slice_of g2'
    subst b0
    refine ⟨⟨k, A1, c1, l1, A2, c2, l2⟩, ⟨?_, ?_, ?_⟩, h1, h2⟩
    · have := hat 0 (by omega)
      simpa [Addr.add] using this
    · have := hat 1 (by omega)
      simpa [Addr.add] using this
    · have := hat 2 (by omega)
      simpa [Addr.add] using this
def RdOps (w : World) (A : Option Addr) (l : List Opr) : Prop := 0 < l.length → ∃ ad, A = some ad ∧ ad.block < w.heap.size ∧ ∀ j o, l[j]? = some o → OpAt w (ad.add (j * 3)) o
theorem openOps {a0 : Option Addr} {n0 c0 : Nat} (h : DataW.trod enc Try.prog W base (fun _ => true) held fuel 40 [.slice a0 n0 c0] = some x) :
    ∃ l : List Opr, n0 = l.length ∧ l.length ≤ c0 ∧ c0 ≤ maxLen ∧ RdOps W a0 l ∧ ∀ o ∈ l, RowIn W o.kA o.kc o.ks ∧ RowIn W o.rA o.rc o.rs := by
  rcases open_slice Try.underlying40 h with ⟨h0, _⟩ | ⟨a, len, cap, m, n, D, Pl, h0, hb, hl, hm, hmm, _, hx⟩
  · obtain ⟨rfl, rfl, rfl⟩ : a0 = none ∧ n0 = 0 ∧ c0 = 0 := by simpa using h0
    exact ⟨[], rfl, Nat.le_refl _, Nat.zero_le _, fun hp => absurd hp (by simp), fun t ht => by cases ht⟩
  · obtain ⟨rfl, rfl, rfl⟩ : a0 = some a ∧ n0 = len ∧ c0 = cap := by simpa using h0
    simp only [if_true] at hmm
    subst hmm
    have hC : Try.prog.cellsOf 47 = 3 := by kernel_rfl
    obtain ⟨l, hlen, hq⟩ := list_choice (Q := fun i (o : Opr) => OpAt W (a.add (i * 3)) o ∧ RowIn W o.kA o.kc o.ks ∧ RowIn W o.rA o.rc o.rs) n0 (fun i hi => by
      obtain ⟨cs', hc, ht⟩ := hx i (by omega)
      rw [hC] at hc
      obtain ⟨_, hcl, hat⟩ := World.cells?_some hc
      exact open_opr (a := a.add (i * 3)) ht hcl hat)
    refine ⟨l, hlen.symm, by omega, hm, fun hp => ?_, fun o ho => ?_⟩
    · have h1 := (hq 0 _ (List.getElem?_eq_getElem (by omega))).1.1
      have h2 := World.block_lt_of_cell? W _ h1
      rw [blockAdd] at h2
      exact ⟨a, rfl, h2, fun j o hj => (hq j o hj).1⟩
    · obtain ⟨j, hj⟩ := List.mem_iff_getElem?.1 ho
      exact (hq j o hj).2
end
end Go.Proofs.Ytdhdfeiobjmdaaa

namespace Go.Proofs.Ytdhdfeiobjmdaaa
open Go.ChangeShapes Go.WideShapes Go.ChangeAt Go.RowKit
set_option linter.unusedVariables false

/-- blocks of the document's sorters -/
abbrev FarS (w : World) (P : Nat → Prop) : Prop := FarT 43 w P
theorem RwB.butS {P : Nat → Prop} {w w' : World} {r : Rw} (h : RwB w r) (hb : But P w w') (hf : FarS w P) : RwB w' r := ⟨h.1.butT hb hf (by decide), h.2⟩
theorem EnB.butS {P : Nat → Prop} {w w' : World} {e : En} (h : EnB w e) (hb : But P w w') (hf : FarS w P) : EnB w' e := ⟨h.1.butT hb hf (by decide), h.2.1, h.2.2.1, h.2.2.2.1.butT hb hf (by decide), h.2.2.2.2⟩
theorem OkF.butS {P : Nat → Prop} {w w' : World} {A : Option Addr} {l : List Bool} (h : OkF w A l) (hb : But P w w') (hf : FarS w P) : OkF w' A l := by
  intro hp
  obtain ⟨g, cur, fr, e, hg, hc⟩ := h hp
  have hn := hf.not hg (by decide)
  exact ⟨g, cur, fr, e, (hb.block g (heap_lt hg) hn).trans hg, fun j u hj => (hb.cell hn (heap_lt hg)).trans (hc j u hj)⟩
theorem RowsB.butS {P : Nat → Prop} {w w' : World} {v : Value} {R : List Rw} (h : RowsB w v R) (hb : But P w w') (hf : FarS w P) : RowsB w' v R := by
  obtain ⟨A, c, e, hc, h⟩ := h
  refine ⟨A, c, e, hc, fun hp => ?_⟩
  obtain ⟨g, cur, fr, e, hg, hc⟩ := h hp
  have hn := hf.not hg (by decide)
  exact ⟨g, cur, fr, e, (hb.block g (heap_lt hg) hn).trans hg, fun j u hj => (hb.cell hn (heap_lt hg)).trans (hc j u hj)⟩
theorem FarS.ft {P : Nat → Prop} {w : World} {lo s : Nat} {va vr : Value} {o : So} (h : Sor w lo s va vr o) (hf : FarS w P) : ∀ k, Ft s va k → ¬ P k := by
  intro k hk
  obtain ⟨cur, t, fr, hg, ht⟩ := h.far k hk
  refine hf.not hg ?_
  rcases ht with rfl | rfl | rfl <;> decide
theorem Sor.butS {P : Nat → Prop} {w w' : World} {lo s : Nat} {va vr : Value} {o : So} (h : Sor w lo s va vr o) (hb : But P w w') (hf : FarS w P) : Sor w' lo s va vr o := by
  have hn := FarS.ft h hf
  obtain ⟨D, dc, hs, hl, hd, ho, he, hr, hrb⟩ := h
  exact ⟨D, dc, (hb.block s (heap_lt hs) (hn s (.inl rfl))).trans hs, hl, hd.butS hb hf, ownsRow_but ho hb (fun k hk => hn k (.inr hk)), fun e hm => (he e hm).butS hb hf, hr.butS hb hf, fun r hm => (hrb r hm).butS hb hf⟩
theorem SorU.butS {P : Nat → Prop} {w w' : World} {lo s : Nat} {va : Value} {ds : List Bool} {dist : Bool} {L : List KR} (h : SorU w lo s va ds dist L) (hb : But P w w') (hf : FarS w P) : SorU w' lo s va ds dist L := by
  obtain ⟨o, h, r⟩ := h; exact ⟨o, h.butS hb hf, r⟩
theorem SorS.butS {P : Nat → Prop} {w w' : World} {lo s : Nat} {B : List (List UInt8)} {k : Nat} (h : SorS w lo s B k) (hb : But P w w') (hf : FarS w P) : SorS w' lo s B k := by
  obtain ⟨vr, o, h, r⟩ := h
  exact ⟨vr, o, h.butS hb hf, r⟩

def krO (e : On) : KR := (e.kb, putL e.rs)
theorem left_krO (dist : Bool) (l : List On) : left dist (l.map krO) = (leftG On.kb dist l).map krO := by
  unfold left leftG
  have h1 := srt_map krO ltK _ l (Nat.le_refl _)
  split
  · rw [h1, cmpct_map]
    rfl
  · exact h1
/-- an entry that is whole -/
def OnG (X : World) (e : On) : Prop := OnB X e ∧ e.kb.length ≤ 1000000000 ∧ GoodR e.rs ∧ e.rs.length ≤ 10
theorem OnG.on {X Y : World} {e : On} (h : OnG X e) (hb : Below X.heap.size X Y) : OnG Y e := ⟨h.1.on hb, h.2⟩
theorem OnG.but {P : Nat → Prop} {X Y : World} {e : On} (h : OnG X e) (hb : But P X Y) (hf : Far X P) : OnG Y e := ⟨h.1.but hb hf, h.2⟩
theorem OnG.butS {P : Nat → Prop} {X Y : World} {e : On} (h : OnG X e) (hb : But P X Y) (hf : FarS X P) : OnG Y e := ⟨h.1.butT hb hf (by decide) (by decide), h.2⟩

/-- the document's side: its box, its entries -/
def RfB (X : World) (b : Nat) (D : Option Addr) (dn dc : Nat) (dist srt : Bool) (k : Nat) (l : List On) : Prop := ∃ A c, BoxO X b D dn dc dist A l.length c srt k ∧ OkO X A l ∧ ∀ e ∈ l, OnG X e
theorem RfB.on {X Y : World} {b : Nat} {D : Option Addr} {dn dc : Nat} {dist srt : Bool} {k : Nat} {l : List On} (h : RfB X b D dn dc dist srt k l) (hb : Below X.heap.size X Y) : RfB Y b D dn dc dist srt k l := by
  obtain ⟨A, c, h1, h2, h3⟩ := h
  exact ⟨A, c, h1.on hb, h2.on hb, fun e he => (h3 e he).on hb⟩
theorem RfB.but {P : Nat → Prop} {X Y : World} {b : Nat} {D : Option Addr} {dn dc : Nat} {dist srt : Bool} {k : Nat} {l : List On} (h : RfB X b D dn dc dist srt k l) (hb : But P X Y) (hf : Far X P) : RfB Y b D dn dc dist srt k l := by
  obtain ⟨A, c, h1, h2, h3⟩ := h
  exact ⟨A, c, h1.but hb hf, h2.but hb hf, fun e he => (h3 e he).but hb hf⟩
def okAdd (ds : List Bool) (ks rs : List Trip) : Bool := !ks.any pBad && decide (ds.length = ks.length) && !rs.any pBad
def eAdd (ds : List Bool) (ks rs : List Trip) : Int := if okAdd ds ks rs then 0 else 2
def SmallR (l : List Trip) : Prop := l.length ≤ 10 ∧ ∀ t ∈ l, t.2.2.size ≤ 100 ∧ In64 t.2.1
theorem SmallR.good {l : List Trip} (h : SmallR l) (hb : l.any pBad = false) : GoodR l := fun t ht => by
  have h1 := h.2 t ht
  have h2 : pBad t = false := by
    rw [List.any_eq_false] at hb
    simpa using hb t ht
  exact ⟨by simpa [pBad] using h2, h1.1, h1.2⟩
theorem sAdd {w : World} {lo s : Nat} {va : Value} {ds : List Bool} {dist : Bool} {L : List KR} (h : SorU w lo s va ds dist L) (hlo : lo ≤ w.heap.size) (hds : ds.length ≤ 200) (A : Option Addr) (ca : Nat) (ks : List Trip) (B : Option Addr) (cb : Nat) (rs : List Trip) (hK : RdR w w.heap.size A ks) (hR : RdR w w.heap.size B rs) (hk : SmallR ks) (hr : SmallR rs) (hE : L.length < 65536) :
    Calls Try.prog 7 #[.pointer (some ⟨s, 0, none⟩), .slice A ks.length ca, .slice B rs.length cb] w fun e w' => e = .returned (.int .i64 (eAdd ds ks rs)) ∧ ∃ va', SorU w' lo s va' ds dist (if okAdd ds ks rs then L ++ [(keyL ks ds, putL rs)] else L) ∧ But (Ft s va) w w' := by
  have hks : ∀ t ∈ ks, t.2.2.size ≤ 300 := fun t ht => by have := (hk.2 t ht).1; omega
  have hrs : ∀ t ∈ rs, t.2.2.size ≤ 300 := fun t ht => by have := (hr.2 t ht).1; omega
  unfold eAdd
  cases hb1 : ks.any pBad with
  | true =>
    have hn : okAdd ds ks rs = false := by simp [okAdd, hb1]
    rw [hn]
    refine (Add_key h A ks.length ca B rs.length cb 2 rfl rfl (fun X F fc hb hF => Key_bad A ca ks F ds.length fc X (hK.on hb) (by have := hk.1; omega) hks hb1)).mono ?_
    rintro e w' ⟨rfl, hb⟩
    exact ⟨rfl, va, h.on hb, But.of_below hb⟩
  | false =>
    by_cases hd : ds.length = ks.length
    · cases hb2 : rs.any pBad with
      | true =>
        have hn : okAdd ds ks rs = false := by simp [okAdd, hb2]
        rw [hn]
        refine (Add_put h A ca ks B rs.length cb 2 rfl rfl hK (keyOk_good ks (by have := hk.1; omega) (hk.good hb1)) hd ks.length rfl (fun X hb => Put_bad B cb rs X (hR.on hb) (by have := hr.1; omega) hrs hb2)).mono ?_
        rintro e w' ⟨rfl, hb⟩
        exact ⟨rfl, va, h.on hb, But.of_below hb⟩
      | false =>
        have hn : okAdd ds ks rs = true := by simp [okAdd, hb1, hb2, hd]
        rw [hn]
        refine (Add_u h hlo A ca ks B cb rs hK hR (keyOk_good ks (by have := hk.1; omega) (hk.good hb1)) (rowOk_good rs (by have := hr.1; omega) (hr.good hb2)) hd hE ks.length rs.length rfl rfl).mono ?_
        rintro e w' ⟨rfl, va', hs, _, hb⟩
        exact ⟨rfl, va', hs, hb⟩
    · have hn : okAdd ds ks rs = false := by simp [okAdd, hd]
      rw [hn]
      refine (Add_key h A ks.length ca B rs.length cb 2 rfl rfl (fun X F fc hb hF => Key_uneven A ca ks F ds.length fc X (hK.on hb) (by have := hk.1; omega) (by omega) hd hks hb1)).mono ?_
      rintro e w' ⟨rfl, hb⟩
      exact ⟨rfl, va, h.on hb, But.of_below hb⟩
theorem rAdd {w : World} (D : Option Addr) (ds : List Bool) (dc : Nat) (dist : Bool) (A : Option Addr) (l : List On) (c k : Nat) (K : Option Addr) (ks : List Trip) (kc : Nat) (R : Option Addr) (rs : List Trip) (rc : Nat) (hF : RdF w w.heap.size D ds) (hO : OkO w A l) (hG : ∀ e ∈ l, OnG w e) (hln : l.length < 1000) (hK : RdR w w.heap.size K ks) (hR : RdR w w.heap.size R rs) (hk : SmallR ks) (hr : SmallR rs) :
    Calls Try.prog 18 #[refV D ds.length dc dist A l.length c false k, .slice K ks.length kc, .slice R rs.length rc] w fun e w' => ∃ A' c' l', e = .returned (.tuple #[refV D ds.length dc dist A' l'.length c' false k, .int .i64 (eAdd ds ks rs)]) ∧ OkO w' A' l' ∧ (∀ e ∈ l', OnG w' e) ∧ l'.map krO = (if okAdd ds ks rs then l.map krO ++ [(keyL ks ds, putL rs)] else l.map krO) ∧ l'.length ≤ l.length + 1 ∧ Below w.heap.size w w' := by
  have hks : ∀ t ∈ ks, t.2.2.size ≤ 300 := fun t ht => by have := (hk.2 t ht).1; omega
  have hrs : ∀ t ∈ rs, t.2.2.size ≤ 300 := fun t ht => by have := (hr.2 t ht).1; omega
  unfold eAdd
  cases hb1 : ks.any pBad with
  | true =>
    have hn : okAdd ds ks rs = false := by simp [okAdd, hb1]
    rw [hn]
    refine (refAdd_key D ds.length dc dist A l.length c k K ks.length kc R rs.length rc w 2 rfl rfl (fun X hb => refKey_bad K kc ks D ds.length dc X (hK.on hb) (by have := hk.1; omega) hks hb1)).mono ?_
    rintro e w' ⟨rfl, hb⟩
    exact ⟨A, c, l, rfl, hO.on hb, fun e he => (hG e he).on hb, rfl, by omega, hb⟩
  | false =>
    by_cases hd : ds.length = ks.length
    · cases hb2 : rs.any pBad with
      | true =>
        have hn : okAdd ds ks rs = false := by simp [okAdd, hb2]
        rw [hn]
        refine (refAdd_put D ds dc dist A l.length c k K ks kc R rs.length rc w 2 rfl rfl hF hK hd (hk.good hb1) hk.1 (fun X hb => refPut_bad R rc rs X (hR.on hb) (by have := hr.1; omega) hrs hb2)).mono ?_
        rintro e w' ⟨rfl, hb⟩
        exact ⟨A, c, l, rfl, hO.on hb, fun e he => (hG e he).on hb, rfl, by omega, hb⟩
      | false =>
        have hn : okAdd ds ks rs = true := by simp [okAdd, hb1, hb2, hd]
        rw [hn]
        refine (refAdd_ok D ds dc dist A l c k K ks kc R rs rc w hF hO hln hK hR hd (hk.good hb1) hk.1 (hr.good hb2) hr.1).mono ?_
        rintro e w' ⟨A', c', en, rfl, _, ho, hen, h1, h2, hb⟩
        refine ⟨A', c', l ++ [en], by rw [List.length_append]; rfl, ho, fun e he => ?_, ?_, by rw [List.length_append]; exact Nat.le_refl _, hb⟩
        · rcases List.mem_append.1 he with he | he
          · exact (hG e he).on hb
          · obtain rfl := List.mem_singleton.1 he
            refine ⟨hen, ?_, by rw [h2]; exact hr.good hb2, by rw [h2]; exact hr.1⟩
            rw [h1]
            have := key_small (hk.good hb1) hd hk.1
            omega
        · rw [List.map_append, List.map_cons, List.map_nil, krO, h1, h2]
          rfl
    · have hn : okAdd ds ks rs = false := by simp [okAdd, hd]
      rw [hn]
      refine (refAdd_key D ds.length dc dist A l.length c k K ks.length kc R rs.length rc w 2 rfl rfl (fun X hb => refKey_uneven K kc ks D ds.length dc X (hK.on hb) (by have := hk.1; omega) hd hks hb1)).mono ?_
      rintro e w' ⟨rfl, hb⟩
      exact ⟨A, c, l, rfl, hO.on hb, fun e he => (hG e he).on hb, rfl, by omega, hb⟩
end Go.Proofs.Ytdhdfeiobjmdaaa
