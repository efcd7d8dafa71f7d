/-
  Like answers as the document says: % stands for any bytes, _ for one, any other sign for itself in letters of either kind. The mathematics of the one pass with one place to go back to. No conditions.
-/
import Derived.Test.YteijijoiifbjlaaGreatDoorVLike
import Derived.Lib.MapU
namespace Go.Proofs.YteijijoiifbjlaaGreatDoor
open Go.ChangeShapes Go.WideShapes Go.ChangeAt Go.RowKit
set_option linter.unusedVariables false

/-- the pattern is like the text, as the document says it: % stands for any bytes, any other sign for one -/
def LikeP : List UInt8 → List UInt8 → Prop
  | [], s => s = []
  | q :: p, s => if q.toNat = 37 then ∃ k, LikeP p (s.drop k) else ∃ c r, s = c :: r ∧ stands q.toNat c.toNat = true ∧ LikeP p r
theorem like_nil (s : List UInt8) : LikeP [] s ↔ s = [] := by rw [LikeP]
theorem like_pct {q : UInt8} (h : q.toNat = 37) (p s : List UInt8) : LikeP (q :: p) s ↔ ∃ k, LikeP p (s.drop k) := by rw [LikeP, if_pos h]
theorem like_one {q : UInt8} (h : ¬ q.toNat = 37) (p s : List UInt8) : LikeP (q :: p) s ↔ ∃ c r, s = c :: r ∧ stands q.toNat c.toNat = true ∧ LikeP p r := by rw [LikeP, if_neg h]
theorem like_app : ∀ (p q s : List UInt8), LikeP (p ++ q) s ↔ ∃ k, LikeP p (s.take k) ∧ LikeP q (s.drop k)
  | [], q, s => by
    rw [List.nil_append]
    constructor
    · intro h
      exact ⟨0, by rw [like_nil, List.take_zero], by rw [List.drop_zero]; exact h⟩
    · rintro ⟨k, h1, h2⟩
      rw [like_nil] at h1
      rcases List.take_eq_nil_iff.1 h1 with h0 | h0
      · subst h0; rw [List.drop_zero] at h2; exact h2
      · subst h0; rw [List.drop_nil] at h2; exact h2
  | a :: p, q, s => by
    rw [List.cons_append]
    by_cases h : a.toNat = 37
    · rw [like_pct h]
      constructor
      · rintro ⟨k, hk⟩
        obtain ⟨m, h1, h2⟩ := (like_app p q (s.drop k)).1 hk
        refine ⟨k + m, (like_pct h _ _).2 ⟨k, ?_⟩, ?_⟩
        · rw [List.drop_take, Nat.add_sub_cancel_left]; exact h1
        · rw [List.drop_drop] at h2; exact h2
      · rintro ⟨m, h1, h2⟩
        obtain ⟨k, hk⟩ := (like_pct h _ _).1 h1
        rw [List.drop_take] at hk
        rcases Nat.le_total k m with hle | hle
        · refine ⟨k, (like_app p q _).2 ⟨m - k, hk, ?_⟩⟩
          rw [List.drop_drop, Nat.add_sub_cancel' hle]; exact h2
        · refine ⟨m, (like_app p q _).2 ⟨0, ?_, by rw [List.drop_zero]; exact h2⟩⟩
          rw [Nat.sub_eq_zero_of_le hle, List.take_zero] at hk
          rw [List.take_zero]; exact hk
    · rw [like_one h]
      constructor
      · rintro ⟨c, r, rfl, h1, h2⟩
        obtain ⟨m, h3, h4⟩ := (like_app p q r).1 h2
        exact ⟨m + 1, (like_one h _ _).2 ⟨c, r.take m, rfl, h1, h3⟩, h4⟩
      · rintro ⟨m, h1, h2⟩
        obtain ⟨c, r, hs, h3, h4⟩ := (like_one h _ _).1 h1
        cases s with
        | nil => rw [List.take_nil] at hs; cases hs
        | cons d s =>
          cases m with
          | zero => rw [List.take_zero] at hs; cases hs
          | succ m =>
            rw [List.take_succ_cons] at hs
            injection hs with e1 e2
            subst e1 e2
            exact ⟨d, s, rfl, h3, (like_app p q s).2 ⟨m, h4, h2⟩⟩
/-- no sign is % -/
def Plain (q : List UInt8) : Prop := ∀ c ∈ q, ¬ c.toNat = 37
theorem win_len : ∀ (q x : List UInt8), Plain q → LikeP q x → x.length = q.length
  | [], x, _, h => by rw [like_nil] at h; subst h; rfl
  | a :: q, x, hp, h => by
    obtain ⟨c, r, rfl, _, h2⟩ := (like_one (hp a List.mem_cons_self) _ _).1 h
    have := win_len q r (fun c hc => hp c (List.mem_cons_of_mem _ hc)) h2
    simp [this]
/-- a window of the text that the signs stand for: the next signs stand for what is behind it -/
theorem win_app {q x p s : List UInt8} (hp : Plain q) (hx : LikeP q x) : LikeP (q ++ p) (x ++ s) ↔ LikeP p s := by
  rw [like_app]
  constructor
  · rintro ⟨m, h1, h2⟩
    have e := win_len _ _ hp h1
    have e2 := win_len _ _ hp hx
    rw [List.length_take, List.length_append] at e
    have hd : (x ++ s).drop m = s := by
      rcases Nat.lt_or_ge x.length m with h | h
      · have hs : s = [] := List.eq_nil_of_length_eq_zero (by omega)
        subst hs
        rw [List.drop_eq_nil_of_le (by simp; omega)]
      · have : m = x.length := by omega
        subst this
        rw [List.drop_left]
    rw [hd] at h2
    exact h2
  · intro h
    exact ⟨x.length, by rw [List.take_left]; exact hx, by rw [List.drop_left]; exact h⟩
theorem like_empty : ∀ p : List UInt8, LikeP p [] ↔ p.all (fun c => c.toNat == 37) = true
  | [] => by simp [like_nil]
  | a :: p => by
    by_cases h : a.toNat = 37
    · rw [like_pct h, List.all_cons, h]
      simp only [List.drop_nil, exists_const, beq_self_eq_true, Bool.true_and]
      exact like_empty p
    · rw [like_one h, List.all_cons]
      constructor
      · rintro ⟨c, r, h0, _⟩; cases h0
      · intro h0; simp [h] at h0
theorem pct_drop {q : UInt8} (h : q.toNat = 37) {p s : List UInt8} (k : Nat) (hk : LikeP (q :: p) (s.drop k)) : LikeP (q :: p) s := by
  obtain ⟨m, hm⟩ := (like_pct h _ _).1 hk
  rw [List.drop_drop] at hm
  exact (like_pct h _ _).2 ⟨_, hm⟩
/-- a new %: only what is behind it counts -/
theorem like_again {q a : UInt8} (h : q.toNat = 37) (ha : a.toNat = 37) {Q X P S : List UInt8} (hp : Plain Q) (hx : LikeP Q X) : LikeP (q :: (Q ++ a :: P)) (X ++ S) ↔ LikeP (a :: P) S := by
  constructor
  · intro h1
    obtain ⟨k, hk⟩ := (like_pct h _ _).1 h1
    obtain ⟨m, h2, h3⟩ := (like_app _ _ _).1 hk
    have e := win_len _ _ hp h2
    have e2 := win_len _ _ hp hx
    rw [List.length_take, List.length_drop, List.length_append] at e
    rw [List.drop_drop] at h3
    rcases Nat.eq_zero_or_pos X.length with h0 | h0
    · have hX : X = [] := List.eq_nil_of_length_eq_zero h0
      subst hX
      rw [List.nil_append] at h3
      exact pct_drop ha _ h3
    · rcases Nat.lt_or_ge (X.length + S.length) (k + m) with hlt | hge
      · rw [List.drop_eq_nil_of_le (by simp; omega)] at h3
        refine pct_drop ha S.length ?_
        rw [List.drop_length]; exact h3
      · have e3 : (X ++ S).drop (k + m) = S.drop (k + m - X.length) := by
          rw [List.drop_append, List.drop_eq_nil_of_le (by omega), List.nil_append]
        rw [e3] at h3
        exact pct_drop ha _ h3
  · intro h1
    exact (like_pct h _ _).2 ⟨0, by rw [List.drop_zero]; exact (win_app hp hx).2 h1⟩
/-- what stands there does not go on: the % takes one more -/
theorem like_retry {q : UInt8} (h : q.toNat = 37) {Q X P S : List UInt8} (hp : Plain Q) (hx : LikeP Q X) (hn : ¬ LikeP P S) : LikeP (q :: (Q ++ P)) (X ++ S) ↔ LikeP (q :: (Q ++ P)) ((X ++ S).drop 1) := by
  constructor
  · intro h1
    obtain ⟨k, hk⟩ := (like_pct h _ _).1 h1
    cases k with
    | zero =>
      rw [List.drop_zero] at hk
      exact absurd ((win_app hp hx).1 hk) hn
    | succ k => exact (like_pct h _ _).2 ⟨k, by rw [List.drop_drop, Nat.add_comm 1 k]; exact hk⟩
  · exact pct_drop h 1
theorem like_end {q : UInt8} (h : q.toNat = 37) {Q X P : List UInt8} (hp : Plain Q) (hx : LikeP Q X) : LikeP (q :: (Q ++ P)) X ↔ LikeP P [] := by
  constructor
  · intro h1
    obtain ⟨k, hk⟩ := (like_pct h _ _).1 h1
    obtain ⟨m, h2, h3⟩ := (like_app _ _ _).1 hk
    have e := win_len _ _ hp h2
    have e2 := win_len _ _ hp hx
    rw [List.length_take, List.length_drop] at e
    rw [List.drop_drop, List.drop_eq_nil_of_le (by omega)] at h3
    exact h3
  · intro h1
    refine (like_pct h _ _).2 ⟨0, ?_⟩
    rw [List.drop_zero]
    have := (win_app (p := P) (s := []) hp hx).2 h1
    rwa [List.append_nil] at this
theorem win_more {Q X : List UInt8} {q c : UInt8} (hp : Plain Q) (hx : LikeP Q X) (hq : ¬ q.toNat = 37) (hs : stands q.toNat c.toNat = true) : Plain (Q ++ [q]) ∧ LikeP (Q ++ [q]) (X ++ [c]) := by
  refine ⟨?_, (win_app hp hx).2 ((like_one hq _ _).2 ⟨c, [], rfl, hs, (like_nil _).2 rfl⟩)⟩
  intro d hd
  rcases List.mem_append.1 hd with hd | hd
  · exact hp d hd
  · obtain rfl := List.mem_singleton.1 hd; exact hq

/-- what Like's steps keep -/
def LikeInv (T : Prop) (P S : List UInt8) (a i g b : Nat) : Prop :=
  (b = 0 ∧ g = 0 ∧ (T ↔ LikeP (P.drop i) (S.drop a))) ∨ (0 < b ∧ ∃ q Q X, q.toNat = 37 ∧ Plain Q ∧ LikeP Q X ∧ P.drop b = Q ++ P.drop i ∧ S.drop g = X ++ S.drop a ∧ (T ↔ LikeP (q :: P.drop b) (S.drop g)))
theorem like_steps (s p : ByteArray) (T : Prop) : ∀ (N a i g b : Nat), (s.size - g) * (s.size + p.size + 1) + (s.size - a) + (p.size - i) < N → a ≤ s.size → i ≤ p.size → g ≤ a → b ≤ i → LikeInv T p.data.toList s.data.toList a i g b → ∃ n R, likeL s p n a i g b = some R ∧ (R = true ↔ T)
  | 0, a, i, g, b, h, _, _, _, _, _ => by omega
  | N + 1, a, i, g, b, hN, ha, hi, hg, hb, hI => by
    have es : s.data.toList.length = s.size := by rw [Array.length_toList]; rfl
    have ep : p.data.toList.length = p.size := by rw [Array.length_toList]; rfl
    by_cases hlt : a < s.size
    · have hS : s.data.toList.drop a = s[a] :: s.data.toList.drop (a + 1) := by
        rw [List.drop_eq_getElem_cons (by omega)]; rfl
      -- the retry, or the end, when what stands there does not go on
      have miss : ¬ LikeP (p.data.toList.drop i) (s.data.toList.drop a) → (∀ f, likeL s p (f + 1) a i g b = if 0 < b then likeL s p f (g + 1) b (g + 1) b else some false) → ∃ n R, likeL s p n a i g b = some R ∧ (R = true ↔ T) := by
        intro hn hf
        by_cases hb0 : 0 < b
        · rcases hI with ⟨h0, _⟩ | ⟨_, q, Q, X, hq, hp, hx, e1, e2, hT⟩
          · omega
          · have hmul : (s.size - g) * (s.size + p.size + 1) = (s.size - (g + 1)) * (s.size + p.size + 1) + (s.size + p.size + 1) := by
              have : s.size - g = (s.size - (g + 1)) + 1 := by omega
              rw [this, Nat.succ_mul]
            have ih := like_steps s p T N (g + 1) b (g + 1) b (by omega) (by omega) (by omega) (by omega) (by omega) (.inr ⟨hb0, q, [], [], hq, (by intro c hc; cases hc), (like_nil _).2 rfl, rfl, rfl, by
              rw [hT, e1, e2, like_retry hq hp hx hn, ← e1, ← e2, List.drop_drop]⟩)
            obtain ⟨n, R, h1, h2⟩ := ih
            exact ⟨n + 1, R, by rw [hf, if_pos hb0]; exact h1, h2⟩
        · rcases hI with ⟨_, _, hT⟩ | ⟨h0, _⟩
          · exact ⟨1, false, by rw [hf, if_neg hb0], by simp; exact fun h => hn (hT.1 h)⟩
          · omega
      by_cases hip : i < p.size
      · have hP : p.data.toList.drop i = p[i] :: p.data.toList.drop (i + 1) := by
          rw [List.drop_eq_getElem_cons (by omega)]; rfl
        by_cases h37 : p[i].toNat = 37
        · have hI2 : LikeInv T p.data.toList s.data.toList a (i + 1) a (i + 1) := by
            refine .inr ⟨by omega, p[i], [], [], h37, (by intro c hc; cases hc), (like_nil _).2 rfl, rfl, rfl, ?_⟩
            rcases hI with ⟨_, _, hT⟩ | ⟨_, q, Q, X, hq, hp, hx, e1, e2, hT⟩
            · rw [hT, hP]
            · rw [hT, e1, e2, hP, like_again hq h37 hp hx]
          have hmul : (s.size - a) * (s.size + p.size + 1) ≤ (s.size - g) * (s.size + p.size + 1) := Nat.mul_le_mul_right _ (by omega)
          obtain ⟨n, R, h1, h2⟩ := like_steps s p T N a (i + 1) a (i + 1) (by omega) ha (by omega) (Nat.le_refl _) (Nat.le_refl _) hI2
          exact ⟨n + 1, R, by rw [likeL, dif_pos hlt, dif_pos hip, if_pos h37]; exact h1, h2⟩
        · by_cases hst : stands p[i].toNat s[a].toNat = true
          · have hI2 : LikeInv T p.data.toList s.data.toList (a + 1) (i + 1) g b := by
              rcases hI with ⟨h0, hg0, hT⟩ | ⟨h0, q, Q, X, hq, hp, hx, e1, e2, hT⟩
              · refine .inl ⟨h0, hg0, ?_⟩
                rw [hT, hP, hS, like_one h37]
                constructor
                · rintro ⟨c, r, e, _, h⟩; injection e with e1 e2; subst e1 e2; exact h
                · intro h; exact ⟨_, _, rfl, hst, h⟩
              · obtain ⟨w1, w2⟩ := win_more hp hx h37 hst
                exact .inr ⟨h0, q, Q ++ [p[i]], X ++ [s[a]], hq, w1, w2, by rw [e1, hP, List.append_assoc]; rfl, by rw [e2, hS, List.append_assoc]; rfl, hT⟩
            obtain ⟨n, R, h1, h2⟩ := like_steps s p T N (a + 1) (i + 1) g b (by omega) (by omega) (by omega) (by omega) (by omega) hI2
            exact ⟨n + 1, R, by rw [likeL, dif_pos hlt, dif_pos hip, if_neg h37, if_pos hst]; exact h1, h2⟩
          · refine miss ?_ (fun f => by rw [likeL, dif_pos hlt, dif_pos hip, if_neg h37, if_neg hst])
            rw [hP, hS, like_one h37]
            rintro ⟨c, r, e, h, _⟩
            injection e with e1 e2
            subst e1
            exact hst h
      · refine miss ?_ (fun f => by rw [likeL, dif_pos hlt, dif_neg hip])
        rw [List.drop_eq_nil_of_le (by omega), like_nil, hS]
        intro h; cases h
    · have hS : s.data.toList.drop a = [] := List.drop_eq_nil_of_le (by omega)
      refine ⟨1, restAll p i, by rw [likeL, dif_neg hlt], ?_⟩
      unfold restAll
      rw [← like_empty]
      rcases hI with ⟨_, _, hT⟩ | ⟨_, q, Q, X, hq, hp, hx, e1, e2, hT⟩
      · rw [hT, hS]
      · rw [hT, e1, e2, hS, List.append_nil, like_end hq hp hx]
/-- Like answers as the document says -/
theorem like_ex (s p : ByteArray) : ∃ n R, likeL s p n 0 0 0 0 = some R ∧ (R = true ↔ LikeP p.data.toList s.data.toList) :=
  like_steps s p _ _ 0 0 0 0 (Nat.lt_succ_self _) (Nat.zero_le _) (Nat.zero_le _) (Nat.zero_le _) (Nat.zero_le _) (.inl ⟨rfl, rfl, by rw [List.drop_zero, List.drop_zero]⟩)
theorem stands_self (c : Nat) : stands c c = true := by simp [stands]
theorem like_map (F G : UInt8 → UInt8) (hF : ∀ c : UInt8, ¬ c.toNat = 37 → ¬ (F c).toNat = 37) (hs : ∀ c : UInt8, stands (F c).toNat (G c).toNat = true) : ∀ l : List UInt8, Plain l → LikeP (l.map F) (l.map G)
  | [], _ => (like_nil _).2 rfl
  | c :: l, h => (like_one (hF c (h c List.mem_cons_self)) _ _).2 ⟨G c, l.map G, rfl, hs c, like_map F G hF hs l (fun d hd => h d (List.mem_cons_of_mem _ hd))⟩
theorem like_self (l : List UInt8) (h : Plain l) : LikeP l l := by
  have := like_map id id (fun _ h => h) (fun c => stands_self _) l h
  simpa using this
theorem like_all (s : List UInt8) : LikeP [37] s := (like_pct (q := 37) rfl _ _).2 ⟨s.length, by rw [List.drop_length]; exact (like_nil _).2 rfl⟩
theorem like_cat {p q s t : List UInt8} (h1 : LikeP p s) (h2 : LikeP q t) : LikeP (p ++ q) (s ++ t) :=
  (like_app _ _ _).2 ⟨s.length, by rw [List.take_left]; exact h1, by rw [List.drop_left]; exact h2⟩
theorem like_within (p s t : List UInt8) (h : Plain p) : LikeP ([37] ++ p ++ [37]) (t ++ p ++ s) := like_cat (like_cat (like_all t) (like_self p h)) (like_all s)
theorem like_unders : ∀ (n : Nat) (s : List UInt8), LikeP (List.replicate n 95) s ↔ s.length = n
  | 0, s => by rw [List.replicate_zero, like_nil, List.length_eq_zero_iff]
  | n + 1, s => by
    rw [List.replicate_succ, like_one (by decide)]
    constructor
    · rintro ⟨c, r, rfl, _, h⟩
      rw [List.length_cons, (like_unders n r).1 h]
    · intro h
      cases s with
      | nil => cases h
      | cons c r => exact ⟨c, r, rfl, rfl, (like_unders n r).2 (by simpa using h)⟩
theorem like_two {q : UInt8} (h : q.toNat = 37) (p s : List UInt8) : LikeP (q :: q :: p) s ↔ LikeP (q :: p) s := by
  constructor
  · intro h1
    obtain ⟨k, hk⟩ := (like_pct h _ _).1 h1
    exact pct_drop h k hk
  · intro h1
    exact (like_pct h _ _).2 ⟨0, by rw [List.drop_zero]; exact h1⟩
/-- each % twice -/
def dblL (p : List UInt8) : List UInt8 := p.flatMap fun c => if c = 37 then [37, 37] else [c]
theorem like_dbl : ∀ (p s : List UInt8), LikeP (dblL p) s ↔ LikeP p s
  | [], s => Iff.rfl
  | c :: p, s => by
    have e : dblL (c :: p) = (if c = 37 then [37, 37] else [c]) ++ dblL p := rfl
    rw [e]
    by_cases h : c = 37
    · subst h
      rw [if_pos rfl]
      show LikeP (37 :: 37 :: dblL p) s ↔ _
      rw [like_two rfl, like_pct rfl, like_pct rfl]
      exact exists_congr fun k => like_dbl p _
    · have h2 : ¬ c.toNat = 37 := fun h3 => h (UInt8.toNat_inj.1 h3)
      rw [if_neg h]
      show LikeP (c :: dblL p) s ↔ _
      rw [like_one h2, like_one h2]
      exact exists_congr fun d => exists_congr fun r => and_congr_right fun _ => and_congr_right fun _ => like_dbl p r
theorem like_last (p s : List UInt8) (x : UInt8) : LikeP (p ++ [95]) (s ++ [x]) ↔ LikeP p s := by
  rw [like_app]
  constructor
  · rintro ⟨k, h1, h2⟩
    have e := (like_unders 1 _).1 h2
    rw [List.length_drop, List.length_append, List.length_singleton] at e
    have : k = s.length := by omega
    subst this
    rw [List.take_left] at h1
    exact h1
  · intro h
    exact ⟨s.length, by rw [List.take_left]; exact h, by rw [List.drop_left]; exact (like_unders 1 _).2 rfl⟩
theorem encode_plain (r : Int) (h : ¬ r = 37) : Plain (Lib.encodeRune r) := by
  intro c hc h37
  unfold Lib.encodeRune at hc
  obtain ⟨x, hx, rfl⟩ := List.mem_map.1 hc
  have hx2 : x = 37 ∨ x < 0 ∨ 256 ≤ x := by
    simp only [Nat.toUInt8, UInt8.toNat_ofNat'] at h37
    omega
  unfold Lib.encodeRuneZ at hx
  split at hx
  · rename_i h0
    obtain rfl := List.mem_singleton.1 hx
    omega
  · split at hx
    · simp only [List.mem_cons, List.mem_nil_iff, or_false] at hx
      omega
    · split at hx
      · simp only [List.mem_cons, List.mem_nil_iff, or_false] at hx
        omega
      · split at hx
        · simp only [List.mem_cons, List.mem_nil_iff, or_false] at hx
          omega
        · simp only [List.mem_cons, List.mem_nil_iff, or_false] at hx
          omega
theorem encode_len (r : Int) : (Lib.encodeRune r).length ≤ 4 := by
  unfold Lib.encodeRune Lib.encodeRuneZ
  rw [List.length_map]
  split
  · simp
  · split
    · simp
    · split
      · simp
      · split <;> simp
theorem mapGo_plain (f : Int → Int) (hf : ∀ x, ¬ f x = 37) : ∀ (n : Nat) (l : List UInt8), Plain (Lib.mapGoD f n l) ∧ (Lib.mapGoD f n l).length ≤ 4 * n
  | 0, l => ⟨(by intro c hc; cases hc), by simp [Lib.mapGoD]⟩
  | n + 1, l => by
    obtain ⟨i1, i2⟩ := mapGo_plain f hf n (l.drop (Lib.decodeL l).2)
    unfold Lib.mapGoD
    split
    · exact ⟨(by intro c hc; cases hc), by simp⟩
    · constructor
      · intro c hc
        rcases List.mem_append.1 hc with hc | hc
        · split at hc
          · exact encode_plain _ (hf _) c hc
          · cases hc
        · exact i1 c hc
      · rw [List.length_append]
        split
        · have := encode_len (f (Lib.decodeL l).1)
          omega
        · simp only [List.length_nil]
          omega
theorem map_plain (f : Int → Int) (hf : ∀ x, ¬ f x = 37) (l : List UInt8) : Plain (Lib.mapD f l) ∧ (Lib.mapD f l).length ≤ 4 * l.length := mapGo_plain f hf _ l
end Go.Proofs.YteijijoiifbjlaaGreatDoor
