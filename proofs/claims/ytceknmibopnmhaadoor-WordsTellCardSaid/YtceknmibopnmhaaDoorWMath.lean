/-
  Layer 9: the mathematics of tokens: what is passed over, what stands first, what it is again with a blank behind it, and with great letters outside of quotes. No conditions.
-/
import Derived.Lib.ParseIntBTie
import Derived.Lib.Bytealg
set_option linter.unusedVariables false
namespace Go.Proofs.YtceknmibopnmhaaDoor.M
/-- a letter from A to Z as that from a to z; any other byte as it is -/
def sm (c : UInt8) : UInt8 := if 65 ≤ c.toNat ∧ c.toNat ≤ 90 then c + 32 else c
def blk (c : UInt8) : Bool := c == 9 || c == 10 || c == 13 || c == 32
def nln (c : UInt8) : Bool := c != 10
def nqt (c : UInt8) : Bool := c != 39
def dg (c : UInt8) : Bool := decide (48 ≤ c.toNat ∧ c.toNat ≤ 57)
def nm (c : UInt8) : Bool := c == 95 || decide (97 ≤ (sm c).toNat ∧ (sm c).toNat ≤ 122)
def nmd (c : UInt8) : Bool := nm c || dg c
/-- the number that a byte is as a hexadecimal digit; below 0: none -/
def hxN (n : Nat) : Int := if 48 ≤ n ∧ n ≤ 57 then n - 48 else if 97 ≤ n ∧ n ≤ 102 then n - 87 else if 65 ≤ n ∧ n ≤ 70 then n - 55 else -1
def hxd (c : UInt8) : Bool := decide (0 ≤ hxN c.toNat)

theorem sm_n (c : UInt8) : (sm c).toNat = if 65 ≤ c.toNat ∧ c.toNat ≤ 90 then c.toNat + 32 else c.toNat := by
  unfold sm
  split
  · next h => rw [UInt8.toNat_add]; have : (32 : UInt8).toNat = 32 := rfl; omega
  · rfl

/-- how many bytes are passed over; the flag: within a remark -/
def pass : List UInt8 → Bool → Nat
  | [], _ => 0
  | c :: r, true => 1 + pass r (nln c)
  | c :: r, false => if blk c then 1 + pass r false else if c == 45 && r.head? == some 45 then 1 + pass r true else 0

theorem pass_le : ∀ (l : List UInt8) (b : Bool), pass l b ≤ l.length
  | [], b => by cases b <;> simp [pass]
  | c :: r, true => by have := pass_le r (nln c); simp only [pass, List.length_cons]; omega
  | c :: r, false => by
    have h1 := pass_le r false
    have h2 := pass_le r true
    simp only [pass, List.length_cons]
    split
    · omega
    · split <;> omega

theorem pass_blanks : ∀ (l : List UInt8), pass l false = (l.takeWhile blk).length + pass (l.drop (l.takeWhile blk).length) false
  | [] => rfl
  | c :: r => by
    by_cases h : blk c = true
    · rw [List.takeWhile_cons_of_pos h, List.length_cons, List.drop_succ_cons]
      have := pass_blanks r
      simp only [pass, h, if_true]
      omega
    · rw [List.takeWhile_cons_of_neg h]
      simp
theorem pass_line : ∀ (l : List UInt8), pass l true = (l.takeWhile nln).length + pass (l.drop (l.takeWhile nln).length) false
  | [] => rfl
  | c :: r => by
    by_cases h : nln c = true
    · rw [List.takeWhile_cons_of_pos h, List.length_cons, List.drop_succ_cons]
      have := pass_line r
      simp only [pass, h]
      omega
    · rw [List.takeWhile_cons_of_neg h]
      have hc : c = 10 := by simpa [nln] using h
      subst hc
      simp [pass, nln, blk]
theorem pass_remark (r : List UInt8) : pass (45 :: 45 :: r) false = ((45 :: 45 :: r).takeWhile nln).length + pass ((45 :: 45 :: r).drop ((45 :: 45 :: r).takeWhile nln).length) false := by
  have h : pass (45 :: 45 :: r) false = pass (45 :: 45 :: r) true := by simp [pass, blk, nln]
  rw [h, pass_line]
theorem pass_none {l : List UInt8} (h1 : ∀ c, l.head? = some c → blk c = false) (h2 : ¬ [45, 45] <+: l) : pass l false = 0 := by
  cases l with
  | nil => rfl
  | cons c r =>
    have := h1 c rfl
    simp only [pass, this]
    rw [if_neg (by simp), if_neg]
    intro h
    simp only [Bool.and_eq_true, beq_iff_eq] at h
    obtain ⟨rfl, h⟩ := h
    cases r with
    | nil => cases h
    | cons d r =>
      obtain rfl : d = 45 := by simpa using h
      exact h2 ⟨r, rfl⟩
theorem drop_blanks (l : List UInt8) (c : UInt8) (h : (l.drop (l.takeWhile blk).length).head? = some c) : blk c = false := by
  have e : l.drop (l.takeWhile blk).length = l.dropWhile blk := by
    conv => lhs; arg 2; rw [← List.takeWhile_append_dropWhile (p := blk) (l := l)]
    exact List.drop_left
  rw [e] at h
  have := List.head?_dropWhile_not blk l
  rw [h] at this
  simpa using this
theorem pass_done : ∀ (l : List UInt8) (b : Bool), pass (l.drop (pass l b)) false = 0
  | [], b => by simp [pass]
  | c :: r, true => by
    have := pass_done r (nln c)
    simp only [pass]
    rwa [Nat.add_comm 1, List.drop_succ_cons]
  | c :: r, false => by
    have h1 := pass_done r false
    have h2 := pass_done r true
    by_cases hb : blk c = true
    · have e : pass (c :: r) false = pass r false + 1 := by simp only [pass, hb, if_true]; omega
      rwa [e, List.drop_succ_cons]
    · by_cases hr : (c == 45 && r.head? == some 45) = true
      · have e : pass (c :: r) false = pass r true + 1 := by simp only [pass, hb, hr, if_true]; simp; omega
        rwa [e, List.drop_succ_cons]
      · have e : pass (c :: r) false = 0 := by simp only [pass, hb, hr]; simp
        rw [e]
        exact e

/-- what a quoted text tells, and how many bytes it takes, its first quote not counted -/
def qt : List UInt8 → Option (List UInt8 × Nat)
  | [] => none
  | [c] => if c = 39 then some ([], 1) else none
  | c :: d :: r => if c = 39 then (if d = 39 then (qt r).map (fun x => (39 :: x.1, x.2 + 2)) else some ([], 1)) else (qt (d :: r)).map (fun x => (c :: x.1, x.2 + 1))

def pairs : List UInt8 → List UInt8
  | a :: b :: r => (16 * hxN a.toNat + hxN b.toNat).toNat.toUInt8 :: pairs r
  | _ => []

def valD (l : List UInt8) : Nat := l.foldl (fun a c => a * 10 + (c.toNat - 48)) 0

def sg2 : List (List UInt8) := [[124, 124], [60, 62], [60, 61], [62, 61]]
def sg1 : List (List UInt8) := [[61], [60], [62], [43], [45], [42], [47], [37], [40], [41], [44], [46], [59], [63]]
abbrev Tk := Nat × List UInt8 × Int × Nat
def no : Tk := (0, [], 0, 0)
def isBl (l : List UInt8) : Bool := match l with | c :: d :: _ => sm c == 120 && d == 39 | _ => false
def blobT (w : List UInt8) : Tk :=
  let n := (w.takeWhile hxd).length
  if n % 2 = 0 ∧ (w.drop n).head? = some 39 then (5, pairs (w.take n), 0, n + 3) else no
def numT (l : List UInt8) : Tk := let d := l.takeWhile dg; if valD d < 9223372036854775808 then (1, [], valD d, d.length) else no
def keysL : List (List UInt8) := []
def nameT (keys : List (List UInt8)) (l : List UInt8) : Tk := let d := (l.takeWhile nmd).map sm; (if d ∈ keys then 3 else 2, d, 0, d.length)
def qtT (r : List UInt8) : Tk := match qt r with | some (s, n) => (4, s, 0, n + 1) | none => no
def in2 (l : List UInt8) : Bool := decide (l ∈ sg2)
def in1 (l : List UInt8) : Bool := decide (l ∈ sg1)
def sgT (l : List UInt8) : Tk := if in2 (l.take 2) = true then (6, l.take 2, 0, 2) else if in1 (l.take 1) = true then (6, l.take 1, 0, 1) else no
def tok (keys : List (List UInt8)) : List UInt8 → Tk
  | [] => (7, [], 0, 0)
  | c :: r => if isBl (c :: r) then blobT (r.drop 1) else if dg c then numT (c :: r) else if nm c then nameT keys (c :: r) else if c = 39 then qtT r else sgT (c :: r)
end Go.Proofs.YtceknmibopnmhaaDoor.M
namespace Go.Proofs.YtceknmibopnmhaaDoor.M
theorem tw_append {p : UInt8 → Bool} : ∀ (l r : List UInt8), (∀ c ∈ l, p c = true) → (∀ c, r.head? = some c → p c = false) → (l ++ r).takeWhile p = l
  | [], r, _, h => by
    cases r with
    | nil => rfl
    | cons c r => rw [List.nil_append, List.takeWhile_cons_of_neg (by simpa using h c rfl)]
  | c :: l, r, h1, h2 => by
    rw [List.cons_append, List.takeWhile_cons_of_pos (h1 c (by simp)), tw_append l r (fun c hc => h1 c (by simp [hc])) h2]
theorem tw_all {p : UInt8 → Bool} (l : List UInt8) : ∀ c ∈ l.takeWhile p, p c = true := fun c hc => by
  induction l with
  | nil => cases hc
  | cons d l ih =>
    by_cases h : p d = true
    · rw [List.takeWhile_cons_of_pos h] at hc
      rcases List.mem_cons.1 hc with rfl | hc
      · exact h
      · exact ih hc
    · rw [List.takeWhile_cons_of_neg h] at hc
      cases hc
theorem tw_le {p : UInt8 → Bool} (l : List UInt8) : (l.takeWhile p).length ≤ l.length := by
  induction l with
  | nil => simp
  | cons d l ih => rw [List.takeWhile_cons]; split <;> simp <;> omega
theorem tw_take {p : UInt8 → Bool} (l : List UInt8) : l.take (l.takeWhile p).length = l.takeWhile p := by
  conv => lhs; arg 2; rw [← List.takeWhile_append_dropWhile (p := p) (l := l)]
  exact List.take_left
theorem tw_drop {p : UInt8 → Bool} (l : List UInt8) : l.drop (l.takeWhile p).length = l.dropWhile p := by
  conv => lhs; arg 2; rw [← List.takeWhile_append_dropWhile (p := p) (l := l)]
  exact List.drop_left

theorem qt_le : ∀ (l s : List UInt8) (n : Nat), qt l = some (s, n) → n ≤ l.length ∧ 0 < n
  | [], s, n, h => by cases h
  | [c], s, n, h => by
    simp only [qt] at h
    split at h
    · cases h; simp
    · cases h
  | c :: d :: r, s, n, h => by
    simp only [qt] at h
    split at h
    · split at h
      · cases hq : qt r with
        | none => rw [hq] at h; cases h
        | some x =>
          rw [hq] at h
          have := qt_le r x.1 x.2 hq
          simp only [Option.map_some, Option.some.injEq, Prod.mk.injEq] at h
          simp only [List.length_cons]
          omega
      · cases h; simp
    · cases hq : qt (d :: r) with
      | none => rw [hq] at h; cases h
      | some x =>
        rw [hq] at h
        have := qt_le (d :: r) x.1 x.2 hq
        simp only [Option.map_some, Option.some.injEq, Prod.mk.injEq] at h
        simp only [List.length_cons] at this ⊢
        omega

/-- a text, with a blank and whatever behind it -/
theorem qt_again : ∀ (l s : List UInt8) (n : Nat) (t : List UInt8), qt l = some (s, n) → qt (l.take n ++ 32 :: t) = some (s, n)
  | [], s, n, t, h => by cases h
  | [c], s, n, t, h => by
    simp only [qt] at h
    split at h
    · next hc => cases h; subst hc; simp [qt]
    · cases h
  | c :: d :: r, s, n, t, h => by
    simp only [qt] at h
    split at h
    · next hc =>
      subst hc
      split at h
      · next hd =>
        subst hd
        cases hq : qt r with
        | none => rw [hq] at h; cases h
        | some x =>
          rw [hq] at h
          have := qt_again r x.1 x.2 t hq
          simp only [Option.map_some, Option.some.injEq, Prod.mk.injEq] at h
          obtain ⟨rfl, rfl⟩ := h
          rw [List.take_succ_cons, List.take_succ_cons, List.cons_append, List.cons_append]
          simp [qt, this]
      · cases h
        simp [qt]
    · next hc =>
      cases hq : qt (d :: r) with
      | none => rw [hq] at h; cases h
      | some x =>
        rw [hq] at h
        have hle := qt_le (d :: r) x.1 x.2 hq
        have := qt_again (d :: r) x.1 x.2 t hq
        simp only [Option.map_some, Option.some.injEq, Prod.mk.injEq] at h
        obtain ⟨rfl, rfl⟩ := h
        obtain ⟨m, hm⟩ : ∃ m, x.2 = m + 1 := ⟨x.2 - 1, by omega⟩
        rw [hm] at this ⊢
        rw [List.take_succ_cons, List.cons_append]
        rw [List.take_succ_cons, List.cons_append] at this ⊢
        simp only [qt, if_neg hc]
        rw [this]
        rfl

theorem dg_32 : dg 32 = false := by decide
theorem nmd_32 : nmd 32 = false := by decide
theorem hxd_39 : hxd 39 = false := by decide
theorem dg_39 : dg 39 = false := by decide

/-- a token that is told, and where it ends: told again with a blank and whatever behind it -/
theorem tok_again (keys : List (List UInt8)) (l : List UInt8) (k : Nat) (S : List UInt8) (N : Int) (n : Nat) (t : List UInt8) (h : tok keys l = (k, S, N, n)) (h0 : k ≠ 0) (h7 : k ≠ 7) :
    0 < n ∧ n ≤ l.length ∧ tok keys (l.take n ++ 32 :: t) = (k, S, N, n) := by
  cases l with
  | nil => simp only [tok] at h; cases h; exact absurd rfl h7
  | cons c r =>
    simp only [tok] at h
    split at h
    · next hb =>
      cases r with
      | nil => simp [isBl] at hb
      | cons d w =>
        simp only [List.drop_succ_cons, List.drop_zero, blobT] at h
        split at h
        · next hw =>
          obtain ⟨h2, h3⟩ := hw
          injection h with h h'
          injection h' with h' h''
          injection h'' with h'' h'''
          subst h h' h'' h'''
          have hwl := tw_le (p := hxd) w
          have hln : (w.takeWhile hxd).length < w.length := by
            rcases Nat.lt_or_ge (w.takeWhile hxd).length w.length with hlt | hge
            · exact hlt
            · rw [List.drop_of_length_le hge] at h3; cases h3
          have hx : w.take ((w.takeWhile hxd).length + 1) = w.takeWhile hxd ++ [39] := by
            rw [List.take_add_one, tw_take, ← List.head?_drop, h3]
            rfl
          refine ⟨by omega, by simp; omega, ?_⟩
          rw [show (w.takeWhile hxd).length + 3 = ((w.takeWhile hxd).length + 1) + 1 + 1 from rfl, List.take_succ_cons, List.take_succ_cons, hx]
          have hb' : isBl (c :: d :: (w.takeWhile hxd ++ [39] ++ 32 :: t)) = true := by simpa [isBl] using hb
          simp only [List.cons_append, tok, hb', if_true, List.drop_succ_cons, List.drop_zero, blobT]
          have e : (w.takeWhile hxd ++ [39] ++ 32 :: t).takeWhile hxd = w.takeWhile hxd := by
            rw [List.append_assoc]
            exact tw_append _ _ (tw_all w) (by intro c hc; simp at hc; subst hc; exact hxd_39)
          rw [e, if_pos ⟨h2, by rw [List.append_assoc, List.drop_left]; rfl⟩]
          rw [List.append_assoc, List.take_left, tw_take]
        · cases h; exact absurd rfl h0
    · next hb =>
      split at h
      · next hd =>
        simp only [numT] at h
        split at h
        · next hv =>
          injection h with h h'
          injection h' with h' h''
          injection h'' with h'' h'''
          subst h h' h'' h'''
          have hpos : ((c :: r).takeWhile dg) = c :: r.takeWhile dg := List.takeWhile_cons_of_pos hd
          refine ⟨by rw [hpos]; simp, tw_le _, ?_⟩
          rw [tw_take, hpos, List.cons_append]
          have hb' : isBl (c :: (r.takeWhile dg ++ 32 :: t)) = false := by
            simp only [isBl]
            split
            · next heq =>
              injection heq with h1 h2
              subst h1
              have hc : sm c ≠ 120 := by
                have hd' := hd
                simp only [dg, decide_eq_true_eq] at hd'
                intro e
                have e' := congrArg UInt8.toNat e
                rw [sm_n, if_neg (by omega)] at e'
                have : (120 : UInt8).toNat = 120 := rfl
                omega
              simp [hc]
            · rfl
          have e : ((c :: (r.takeWhile dg ++ 32 :: t)).takeWhile dg) = c :: r.takeWhile dg := by
            rw [List.takeWhile_cons_of_pos hd, tw_append _ _ (tw_all r) (by intro c hc; simp at hc; subst hc; exact dg_32)]
          simp only [tok, hb', hd, if_true, numT, e]
          rw [hpos] at hv
          simp [hv]
        · cases h; exact absurd rfl h0
      · next hd =>
        split at h
        · next hn =>
          simp only [nameT] at h
          injection h with h h'
          injection h' with h' h''
          injection h'' with h'' h'''
          subst h h' h'' h'''
          have hnd : nmd c = true := by simp [nmd, hn]
          have hpos : ((c :: r).takeWhile nmd) = c :: r.takeWhile nmd := List.takeWhile_cons_of_pos hnd
          refine ⟨by rw [hpos]; simp, by rw [List.length_map]; exact tw_le _, ?_⟩
          rw [List.length_map, tw_take, hpos, List.cons_append]
          have hb' : isBl (c :: (r.takeWhile nmd ++ 32 :: t)) = false := by
            cases hr : r.takeWhile nmd with
            | nil => simp [isBl]
            | cons d r' =>
              have : nmd d = true := tw_all r d (by rw [hr]; simp)
              simp only [List.cons_append, isBl]
              have : d ≠ 39 := by intro e; subst e; revert this; decide
              simp [this]
          have e : ((c :: (r.takeWhile nmd ++ 32 :: t)).takeWhile nmd) = c :: r.takeWhile nmd := by
            rw [List.takeWhile_cons_of_pos hnd, tw_append _ _ (tw_all r) (by intro c hc; simp at hc; subst hc; exact nmd_32)]
          simp only [tok, hb', hd, hn, if_true, nameT, e]
          simp
        · next hn =>
          split at h
          · next hq =>
            subst hq
            simp only [qtT] at h
            cases hqq : qt r with
            | none => rw [hqq] at h; cases h; exact absurd rfl h0
            | some x =>
              rw [hqq] at h
              injection h with h h'
              injection h' with h' h''
              injection h'' with h'' h'''
              subst h h' h'' h'''
              have hle := qt_le r _ _ hqq
              refine ⟨by omega, by simp; omega, ?_⟩
              rw [List.take_succ_cons, List.cons_append]
              have hb' : isBl (39 :: (r.take x.2 ++ 32 :: t)) = false := by
                simp only [isBl]
                split
                · next heq => injection heq with h1 h2; subst h1; simp; intro h; exact absurd h (by decide)
                · rfl
              have hn' : nm 39 = false := by decide
              simp only [tok, hb', dg_39, hn', qtT]
              rw [qt_again r _ _ t hqq]
              simp
          · next hq =>
            simp only [sgT] at h
            split at h
            · next h2 =>
              injection h with h h'
              injection h' with h' h''
              injection h'' with h'' h'''
              subst h h' h'' h'''
              cases r with
              | nil => simp [in2, sg2] at h2
              | cons d w =>
                have hb' : isBl (c :: d :: 32 :: t) = false := by simpa [isBl] using hb
                refine ⟨by omega, by simp, ?_⟩
                simp only [List.take_succ_cons, List.take_zero, List.cons_append, List.nil_append, tok, hb', hd, hn, hq, sgT]
                simp only [List.take_succ_cons, List.take_zero] at h2
                simp [h2]
            · split at h
              · next h2 h1 =>
                injection h with h h'
                injection h' with h' h''
                injection h'' with h'' h'''
                subst h h' h'' h'''
                have hb' : isBl (c :: 32 :: t) = false := by simp [isBl]
                refine ⟨by omega, by simp, ?_⟩
                simp only [List.take_succ_cons, List.take_zero, List.cons_append, List.nil_append, tok, hb', hd, hn, hq, sgT]
                simp only [List.take_succ_cons, List.take_zero] at h1
                have hno : in2 [c, 32] = false := by simp [in2, sg2]
                simp [h1, hno]
              · cases h; exact absurd rfl h0
end Go.Proofs.YtceknmibopnmhaaDoor.M
namespace Go.Proofs.YtceknmibopnmhaaDoor.M
theorem pass_again {l : List UInt8} {n : Nat} (t : List UInt8) (h : pass l false = 0) (hn : 0 < n) (hl : n ≤ l.length) : pass (l.take n ++ 32 :: t) false = 0 := by
  cases l with
  | nil => simp at hl; omega
  | cons c r =>
    obtain ⟨m, rfl⟩ : ∃ m, n = m + 1 := ⟨n - 1, by omega⟩
    rw [List.take_succ_cons, List.cons_append]
    simp only [pass] at h ⊢
    by_cases hb : blk c = true
    · rw [if_pos hb] at h; omega
    · rw [if_neg hb] at h ⊢
      split at h
      · omega
      · next hr =>
        rw [if_neg]
        intro h'
        apply hr
        simp only [Bool.and_eq_true, beq_iff_eq] at h' ⊢
        refine ⟨h'.1, ?_⟩
        have h2 := h'.2
        cases m with
        | zero => simp at h2
        | succ m =>
          cases r with
          | nil => simp at hl
          | cons d r => simpa using h2
/-- what stands between two tokens -/
def sepL : List UInt8 := [32, 45, 45, 32, 120, 32, 39, 10, 9]
theorem pass_sep (r : List UInt8) : pass (sepL ++ r) false = 9 + pass r false := by
  simp [sepL, pass, blk, nln]
  omega

/-- a quote is doubled -/
def dblQ (l : List UInt8) : List UInt8 := l.flatMap fun c => if c = 39 then [39, 39] else [c]
theorem dblQ_cons (c : UInt8) (l : List UInt8) : dblQ (c :: l) = (if c = 39 then [39, 39] else [c]) ++ dblQ l := rfl
theorem dblQ_le (l : List UInt8) : (dblQ l).length ≤ 2 * l.length := by
  induction l with
  | nil => simp [dblQ]
  | cons c l ih => rw [dblQ_cons, List.length_append, List.length_cons]; split <;> simp <;> omega
theorem qt_dbl (s t : List UInt8) (ht : t.head? ≠ some 39) : qt (dblQ s ++ 39 :: t) = some (s, (dblQ s).length + 1) := by
  induction s with
  | nil =>
    cases t with
    | nil => rfl
    | cons d t =>
      have : d ≠ 39 := fun e => ht (by rw [e]; rfl)
      simp [dblQ, qt, this]
  | cons c s ih =>
    rw [dblQ_cons]
    by_cases hc : c = 39
    · subst hc
      simp only [if_true, List.cons_append, List.nil_append, qt, ih]
      simp
    · rw [if_neg hc]
      simp only [List.cons_append, List.nil_append]
      cases hd : dblQ s ++ 39 :: t with
      | nil => simp at hd
      | cons d r =>
        rw [hd] at ih
        simp only [qt, if_neg hc, ih]
        simp

def hd16 (n : Nat) : UInt8 := if n < 10 then (48 + n).toUInt8 else (87 + n).toUInt8
def hexL (l : List UInt8) : List UInt8 := l.flatMap fun c => [hd16 (c.toNat / 16), hd16 (c.toNat % 16)]
theorem hexL_cons (c : UInt8) (l : List UInt8) : hexL (c :: l) = hd16 (c.toNat / 16) :: hd16 (c.toNat % 16) :: hexL l := rfl
theorem hexL_length (l : List UInt8) : (hexL l).length = 2 * l.length := by
  induction l with
  | nil => rfl
  | cons c l ih => rw [hexL_cons]; simp [ih]; omega
theorem hd16_hx (n : Nat) (h : n < 16) : hxN (hd16 n).toNat = n := by
  have : ∀ m : Fin 16, hxN (hd16 m.val).toNat = (m.val : Int) := by decide
  exact this ⟨n, h⟩
theorem hexL_all (l : List UInt8) : ∀ c ∈ hexL l, hxd c = true := by
  intro c hc
  obtain ⟨d, _, hd⟩ := List.mem_flatMap.1 hc
  have := d.toNat_lt
  have h1 := hd16_hx (d.toNat / 16) (by omega)
  have h2 := hd16_hx (d.toNat % 16) (by omega)
  simp only [List.mem_cons, List.not_mem_nil, or_false] at hd
  rcases hd with rfl | rfl
  · unfold hxd; rw [h1]; exact decide_eq_true (by omega)
  · unfold hxd; rw [h2]; exact decide_eq_true (by omega)
theorem pairs_hexL (l : List UInt8) : pairs (hexL l) = l := by
  induction l with
  | nil => rfl
  | cons c l ih =>
    rw [hexL_cons, pairs, ih]
    have := c.toNat_lt
    rw [hd16_hx _ (by omega), hd16_hx _ (by omega)]
    congr 1
    apply UInt8.toNat_inj.1
    simp only [Nat.toUInt8, UInt8.toNat_ofNat']
    omega
theorem blobT_hex (s t : List UInt8) : blobT (hexL s ++ 39 :: t) = (5, s, 0, 2 * s.length + 3) := by
  have e : (hexL s ++ 39 :: t).takeWhile hxd = hexL s := tw_append _ _ (hexL_all s) (by intro c hc; simp at hc; subst hc; exact hxd_39)
  simp only [blobT, e, hexL_length]
  rw [if_pos]
  · rw [← hexL_length, List.take_left, pairs_hexL]
  · rw [← hexL_length, List.drop_left, hexL_length]
    exact ⟨by omega, rfl⟩
def quoteL (s : List UInt8) : List UInt8 := 39 :: dblQ s ++ [39]
def hexT (s : List UInt8) : List UInt8 := 120 :: 39 :: hexL s ++ [39]
theorem tok_quote (keys : List (List UInt8)) (s : List UInt8) : tok keys (quoteL s) = (4, s, 0, (quoteL s).length) := by
  have hb : isBl (quoteL s) = false := by
    simp only [quoteL, List.cons_append, isBl]
    split
    · next heq => injection heq with h1 h2; subst h1; simp; intro h; exact absurd h (by decide)
    · rfl
  have hb2 : isBl (39 :: (dblQ s ++ [39])) = false := hb
  have hn : nm 39 = false := by decide
  simp only [quoteL, List.cons_append, tok, hb2, dg_39, hn, qtT]
  rw [qt_dbl s [] (by simp)]
  simp
theorem tok_hex (keys : List (List UInt8)) (s : List UInt8) : tok keys (hexT s) = (5, s, 0, (hexT s).length) := by
  have hb : isBl (120 :: 39 :: (hexL s ++ [39])) = true := by simp only [isBl]; decide
  simp only [hexT, List.cons_append, tok, hb, if_true, List.drop_succ_cons, List.drop_zero]
  rw [blobT_hex s []]
  simp [hexL_length]
theorem pass_quote (s : List UInt8) : pass (quoteL s) false = 0 := by simp [quoteL, pass, blk]
theorem pass_hex (s : List UInt8) : pass (hexT s) false = 0 := by simp [hexT, pass, blk]
end Go.Proofs.YtceknmibopnmhaaDoor.M
namespace Go.Proofs.YtceknmibopnmhaaDoor.M
/-- one byte, and what it is turned into outside of quotes -/
def Rel (c d : UInt8) : Prop := c = d ∨ (97 ≤ c.toNat ∧ c.toNat ≤ 122 ∧ d.toNat = c.toNat - 32)
/-- two texts that are one but for letters outside of quotes; the flag: within quotes -/
inductive Sim : Bool → List UInt8 → List UInt8 → Prop
  | nil (q : Bool) : Sim q [] []
  | quote (q : Bool) (l m : List UInt8) : Sim (!q) l m → Sim q (39 :: l) (39 :: m)
  | within (c : UInt8) (l m : List UInt8) : c ≠ 39 → Sim true l m → Sim true (c :: l) (c :: m)
  | out (c d : UInt8) (l m : List UInt8) : c ≠ 39 → Rel c d → Sim false l m → Sim false (c :: l) (d :: m)

theorem Rel.sm {c d : UInt8} (h : Rel c d) : sm c = sm d := by
  rcases h with rfl | ⟨h1, h2, h3⟩
  · rfl
  · apply UInt8.toNat_inj.1
    rw [sm_n, sm_n, if_neg (by omega), if_pos (by omega)]
    omega
theorem Rel.dg {c d : UInt8} (h : Rel c d) : dg c = dg d := by
  rcases h with rfl | ⟨h1, h2, h3⟩
  · rfl
  · simp only [M.dg]; rw [decide_eq_false (by omega), decide_eq_false (by omega)]
theorem Rel.dgeq {c d : UInt8} (h : Rel c d) (hc : M.dg c = true) : c = d := by
  rcases h with rfl | ⟨h1, h2, h3⟩
  · rfl
  · simp only [M.dg, decide_eq_true_eq] at hc; omega
theorem ne_of_n {c : UInt8} {k : UInt8} {n : Nat} (hk : k.toNat = n) (h : c.toNat ≠ n) : c ≠ k := fun e => h (by rw [e, hk])
theorem Rel.of_ne {c d : UInt8} (h : Rel c d) (hc : ¬ (97 ≤ c.toNat ∧ c.toNat ≤ 122)) : c = d := by
  rcases h with rfl | ⟨h1, h2, h3⟩
  · rfl
  · exact absurd ⟨h1, h2⟩ hc
theorem Rel.of_ne' {c d : UInt8} (h : Rel c d) (hc : ¬ (65 ≤ d.toNat ∧ d.toNat ≤ 90)) : c = d := by
  rcases h with rfl | ⟨h1, h2, h3⟩
  · rfl
  · exact absurd ⟨by omega, by omega⟩ hc
theorem Rel.blk {c d : UInt8} (h : Rel c d) : blk c = blk d := by
  rcases h with rfl | ⟨h1, h2, h3⟩
  · rfl
  · have e1 : M.blk c = false := by
      simp only [M.blk, Bool.or_eq_false_iff, beq_eq_false_iff_ne]
      exact ⟨⟨⟨ne_of_n (n := 9) rfl (by omega), ne_of_n (n := 10) rfl (by omega)⟩, ne_of_n (n := 13) rfl (by omega)⟩, ne_of_n (n := 32) rfl (by omega)⟩
    have e2 : M.blk d = false := by
      simp only [M.blk, Bool.or_eq_false_iff, beq_eq_false_iff_ne]
      exact ⟨⟨⟨ne_of_n (n := 9) rfl (by omega), ne_of_n (n := 10) rfl (by omega)⟩, ne_of_n (n := 13) rfl (by omega)⟩, ne_of_n (n := 32) rfl (by omega)⟩
    rw [e1, e2]
theorem Rel.nm {c d : UInt8} (h : Rel c d) : nm c = nm d := by
  rcases h with rfl | ⟨h1, h2, h3⟩
  · rfl
  · have hs := Rel.sm (c := c) (d := d) (.inr ⟨h1, h2, h3⟩)
    have e1 : (c == 95) = false := beq_eq_false_iff_ne.2 (ne_of_n (n := 95) rfl (by omega))
    have e2 : (d == 95) = false := beq_eq_false_iff_ne.2 (ne_of_n (n := 95) rfl (by omega))
    simp only [M.nm, hs, e1, e2]
theorem Rel.nmd {c d : UInt8} (h : Rel c d) : nmd c = nmd d := by simp only [M.nmd, h.nm, h.dg]
theorem Rel.q {c d : UInt8} (h : Rel c d) : c = 39 ↔ d = 39 := by
  rcases h with rfl | ⟨h1, h2, h3⟩
  · rfl
  · exact ⟨fun e => absurd e (ne_of_n (n := 39) rfl (by omega)), fun e => absurd e (ne_of_n (n := 39) rfl (by omega))⟩

theorem Sim.len {q : Bool} {l m : List UInt8} (h : Sim q l m) : l.length = m.length := by
  induction h with
  | nil => rfl
  | quote q l m _ ih => simp [ih]
  | within c l m _ _ ih => simp [ih]
  | out c d l m _ _ _ ih => simp [ih]

/-- a run of bytes that are no quotes, outside -/
theorem Sim.run {p : UInt8 → Bool} (hq : p 39 = false) (hp : ∀ c d, Rel c d → p c = p d) {l m : List UInt8} (h : Sim false l m) :
    (l.takeWhile p).length = (m.takeWhile p).length ∧ Sim false (l.drop (l.takeWhile p).length) (m.drop (m.takeWhile p).length) ∧ (l.takeWhile p).map M.sm = (m.takeWhile p).map M.sm := by
  generalize hb : false = b at h
  induction h with
  | nil => exact ⟨rfl, hb ▸ .nil _, rfl⟩
  | quote q l m h _ =>
    subst hb
    rw [List.takeWhile_cons_of_neg (by simp [hq]), List.takeWhile_cons_of_neg (by simp [hq])]
    exact ⟨rfl, .quote false l m h, rfl⟩
  | within => cases hb
  | out c d l m hc hr h ih =>
    obtain ⟨i1, i2, i3⟩ := ih rfl
    by_cases hpc : p c = true
    · have hpd : p d = true := by rw [← hp c d hr]; exact hpc
      rw [List.takeWhile_cons_of_pos hpc, List.takeWhile_cons_of_pos hpd]
      refine ⟨by simp [i1], ?_, by simp [i3, hr.sm]⟩
      simpa using i2
    · have hpd : ¬ p d = true := by rw [← hp c d hr]; exact hpc
      rw [List.takeWhile_cons_of_neg hpc, List.takeWhile_cons_of_neg hpd]
      exact ⟨rfl, .out c d l m hc hr h, rfl⟩
theorem Sim.digits {l m : List UInt8} (h : Sim false l m) : l.takeWhile M.dg = m.takeWhile M.dg := by
  generalize hb : false = b at h
  induction h with
  | nil => rfl
  | quote q l m h _ => rw [List.takeWhile_cons_of_neg (by decide), List.takeWhile_cons_of_neg (by decide)]
  | within => cases hb
  | out c d l m hc hr h ih =>
    by_cases hpc : M.dg c = true
    · have e := hr.dgeq hpc
      subst e
      rw [List.takeWhile_cons_of_pos hpc, List.takeWhile_cons_of_pos hpc, ih rfl]
    · have hpd : ¬ M.dg d = true := by rw [← hr.dg]; exact hpc
      rw [List.takeWhile_cons_of_neg hpc, List.takeWhile_cons_of_neg hpd]
theorem Sim.qt : ∀ {l m : List UInt8}, Sim true l m → qt l = qt m ∧ ∀ s n, qt l = some (s, n) → Sim false (l.drop n) (m.drop n)
  | [], m, h => by
    cases h
    exact ⟨rfl, fun s n h => by cases h⟩
  | [c], m, h => by
    cases h with
    | quote _ _ m h =>
      cases h
      exact ⟨rfl, fun s n h => by simp [M.qt] at h; obtain ⟨rfl, rfl⟩ := h; exact .nil _⟩
    | within _ _ m hc h =>
      cases h
      exact ⟨rfl, fun s n h => by simp [M.qt, hc] at h⟩
  | c :: d :: r, m, h => by
    cases h with
    | quote _ _ m h =>
      cases h with
      | quote _ _ m h =>
        obtain ⟨i1, i2⟩ := Sim.qt (l := r) (m := m) h
        refine ⟨by simp [M.qt, i1], fun s n hs => ?_⟩
        simp only [M.qt, if_true] at hs
        cases hq : M.qt r with
        | none => rw [hq] at hs; cases hs
        | some x =>
          rw [hq] at hs
          simp only [Option.map_some, Option.some.injEq, Prod.mk.injEq] at hs
          obtain ⟨rfl, rfl⟩ := hs
          simpa using i2 x.1 x.2 hq
      | out _ e _ m hc hr h =>
        have he : e ≠ 39 := fun x => hc (hr.q.2 x)
        refine ⟨by simp [M.qt, hc, he], fun s n hs => ?_⟩
        simp only [M.qt, if_true, if_neg hc] at hs
        cases hs
        exact .out _ _ _ _ hc hr h
    | within _ _ m hc h =>
      obtain ⟨i1, i2⟩ := Sim.qt (l := d :: r) (m := m) h
      have hm : m ≠ [] := by
        have := h.len
        intro e; subst e; simp at this
      obtain ⟨f, m', rfl⟩ : ∃ f m', m = f :: m' := by
        cases m with
        | nil => exact absurd rfl hm
        | cons f m' => exact ⟨f, m', rfl⟩
      refine ⟨by simp only [M.qt, if_neg hc, i1], fun s n hs => ?_⟩
      simp only [M.qt, if_neg hc] at hs
      cases hq : M.qt (d :: r) with
      | none => rw [hq] at hs; cases hs
      | some x =>
        rw [hq] at hs
        simp only [Option.map_some, Option.some.injEq, Prod.mk.injEq] at hs
        obtain ⟨rfl, rfl⟩ := hs
        simpa using i2 x.1 x.2 hq
/-- within quotes: alike up to the next quote -/
theorem Sim.upto {l m : List UInt8} (h : Sim true l m) : (l = m ∧ 39 ∉ l) ∨ ∃ u a b, l = u ++ 39 :: a ∧ m = u ++ 39 :: b ∧ 39 ∉ u ∧ Sim false a b := by
  generalize hb : true = q at h
  induction h with
  | nil => exact .inl ⟨rfl, by simp⟩
  | quote q l m h _ => subst hb; exact .inr ⟨[], l, m, rfl, rfl, by simp, h⟩
  | within c l m hc h ih =>
    rcases ih rfl with ⟨rfl, h2⟩ | ⟨u, a, b, rfl, rfl, h3, h4⟩
    · exact .inl ⟨rfl, by simp; exact ⟨fun e => hc e.symm, h2⟩⟩
    · exact .inr ⟨c :: u, a, b, rfl, rfl, by simp; exact ⟨fun e => hc e.symm, h3⟩, h4⟩
  | out => cases hb
theorem tw_stop {p : UInt8 → Bool} : ∀ (u a : List UInt8), p 39 = false → (u ++ 39 :: a).takeWhile p = u.takeWhile p
  | [], a, h => by simp [h]
  | c :: u, a, h => by
    rw [List.cons_append]
    by_cases hc : p c = true
    · rw [List.takeWhile_cons_of_pos hc, List.takeWhile_cons_of_pos hc, tw_stop u a h]
    · rw [List.takeWhile_cons_of_neg hc, List.takeWhile_cons_of_neg hc]
theorem Sim.blob {l m : List UInt8} (h : Sim true l m) : blobT l = blobT m ∧ ∀ S N n, blobT l = (5, S, N, n) → 2 ≤ n ∧ Sim false (l.drop (n - 2)) (m.drop (n - 2)) := by
  rcases h.upto with ⟨rfl, h2⟩ | ⟨u, a, b, rfl, rfl, h3, h4⟩
  · refine ⟨rfl, fun S N n hs => ?_⟩
    simp only [blobT] at hs
    split at hs
    · next hx =>
      have := List.mem_of_mem_head? (Option.mem_def.2 hx.2)
      exact absurd (List.mem_of_mem_drop this) h2
    · cases hs
  · have e1 := tw_stop (p := hxd) u a hxd_39
    have e2 := tw_stop (p := hxd) u b hxd_39
    have hle := tw_le (p := hxd) u
    have h5 : (u ++ 39 :: a).take (u.takeWhile hxd).length = (u ++ 39 :: b).take (u.takeWhile hxd).length := by
      rw [List.take_append_of_le_length hle, List.take_append_of_le_length hle]
    have h6 : ((u ++ 39 :: a).drop (u.takeWhile hxd).length).head? = ((u ++ 39 :: b).drop (u.takeWhile hxd).length).head? := by
      rw [List.drop_append_of_le_length hle, List.drop_append_of_le_length hle]
      cases hd : u.drop (u.takeWhile hxd).length <;> rfl
    refine ⟨by simp only [blobT, e1, e2, h5, h6], fun S N n hs => ?_⟩
    simp only [blobT, e1] at hs
    split at hs
    · next hx =>
      injection hs with _ hs
      injection hs with _ hs
      injection hs with _ hs
      subst hs
      have hu : u.drop (u.takeWhile hxd).length = [] := by
        have h7 := hx.2
        rw [List.drop_append_of_le_length hle] at h7
        cases hd : u.drop (u.takeWhile hxd).length with
        | nil => rfl
        | cons c r =>
          rw [hd] at h7
          obtain rfl : c = 39 := by simpa using h7
          exact absurd (List.mem_of_mem_drop (by rw [hd]; simp)) h3
      have hul : (u.takeWhile hxd).length = u.length := by
        have := congrArg List.length hu
        simp at this
        omega
      refine ⟨by omega, ?_⟩
      rw [show (u.takeWhile hxd).length + 3 - 2 = u.length + 1 from by omega]
      have d1 : (u ++ 39 :: a).drop (u.length + 1) = a := by rw [← List.drop_drop, List.drop_left]; rfl
      have d2 : (u ++ 39 :: b).drop (u.length + 1) = b := by rw [← List.drop_drop, List.drop_left]; rfl
      rw [d1, d2]
      exact h4
    · cases hs

/-- no two dashes side by side -/
def noRem (l : List UInt8) : Prop := ∀ i : Nat, ¬ (l[i]? = some 45 ∧ l[i + 1]? = some 45)
theorem noRem.drop {l : List UInt8} (h : noRem l) (n : Nat) : noRem (l.drop n) := by
  intro i hi
  rw [List.getElem?_drop, List.getElem?_drop] at hi
  exact h (n + i) ⟨hi.1, by rw [show n + i + 1 = n + (i + 1) from by omega]; exact hi.2⟩
theorem Sim.pass {l m : List UInt8} (h : Sim false l m) (hr : noRem l) : pass l false = pass m false ∧ Sim false (l.drop (pass l false)) (m.drop (pass m false)) := by
  generalize hb : false = q at h
  induction h with
  | nil => subst hb; exact ⟨rfl, .nil _⟩
  | quote q l m h _ =>
    subst hb
    have e : ∀ r, M.pass (39 :: r) false = 0 := fun r => by simp [M.pass, M.blk]
    rw [e, e]
    exact ⟨rfl, .quote _ _ _ h⟩
  | within => cases hb
  | out c d l m hc hcd h ih =>
    obtain ⟨i1, i2⟩ := ih (hr.drop 1) rfl
    clear hb
    have hd : ∀ (e : UInt8) (s : List UInt8), M.pass (e :: s) false = if M.blk e then 1 + M.pass s false else if e == 45 && s.head? == some 45 then 1 + M.pass s true else 0 := fun _ _ => rfl
    by_cases hbl : M.blk c = true
    · have hbd : M.blk d = true := by rw [← hcd.blk]; exact hbl
      rw [hd, hd, if_pos hbl, if_pos hbd]
      refine ⟨by rw [i1], ?_⟩
      rw [Nat.add_comm 1, Nat.add_comm 1, List.drop_succ_cons, List.drop_succ_cons]
      exact i2
    · have hbd : ¬ M.blk d = true := by rw [← hcd.blk]; exact hbl
      have n1 : ¬ (c == 45 && l.head? == some 45) = true := by
        intro h'
        simp only [Bool.and_eq_true, beq_iff_eq] at h'
        exact hr 0 ⟨by simp [h'.1], by cases l with | nil => simp at h' | cons e l => simpa using h'.2⟩
      have n2 : ¬ (d == 45 && m.head? == some 45) = true := by
        intro h'
        simp only [Bool.and_eq_true, beq_iff_eq] at h'
        apply n1
        have hcd45 : c = 45 := by
          have h45 : d.toNat = 45 := by rw [h'.1]; rfl
          rw [hcd.of_ne' (by omega)]; exact h'.1
        simp only [Bool.and_eq_true, beq_iff_eq]
        refine ⟨hcd45, ?_⟩
        cases h with
        | nil => simp at h'
        | quote _ l m _ => simp at h'
        | out e f l m he hef _ =>
          obtain rfl : f = 45 := by simpa using h'.2
          rw [hef.of_ne' (by decide)]
          rfl
      rw [hd, hd, if_neg hbl, if_neg hbd, if_neg n1, if_neg n2]
      exact ⟨rfl, .out c d l m hc hcd h⟩

theorem sgT_cons (c e : UInt8) (l : List UInt8) : sgT (c :: e :: l) = if in2 [c, e] = true then (6, [c, e], 0, 2) else if in1 [c] = true then (6, [c], 0, 1) else no := rfl
theorem Sim.tok (keys : List (List UInt8)) {l m : List UInt8} (h : Sim false l m) : tok keys l = tok keys m ∧ ∀ k S N n, tok keys l = (k, S, N, n) → k ≠ 0 → k ≠ 7 → Sim false (l.drop n) (m.drop n) := by
  cases h with
  | nil => exact ⟨rfl, fun k S N n h h0 h7 => by cases h; exact absurd rfl h7⟩
  | quote _ l m h =>
    have hb : ∀ r, isBl (39 :: r) = false := fun r => by
      simp only [isBl]
      split
      · next heq => injection heq with h1 h2; subst h1; simp; intro h; exact absurd h (by decide)
      · rfl
    have hn : M.nm 39 = false := by decide
    obtain ⟨i1, i2⟩ := h.qt
    have e : ∀ r, M.tok keys (39 :: r) = qtT r := fun r => by simp [M.tok, hb, dg_39, hn]
    rw [e, e]
    refine ⟨by simp only [qtT, i1], fun k S N n hs h0 h7 => ?_⟩
    simp only [qtT] at hs
    cases hq : M.qt l with
    | none => rw [hq] at hs; cases hs; exact absurd rfl h0
    | some x =>
      rw [hq] at hs
      injection hs with _ hs
      injection hs with _ hs
      injection hs with _ hs
      subst hs
      exact i2 x.1 x.2 hq
  | out c d l m hc hcd h =>
    have hd : d ≠ 39 := fun e => hc (hcd.q.2 e)
    have hblob : isBl (c :: l) = isBl (d :: m) := by
      cases h with
      | nil => rfl
      | quote _ l m h => simp only [isBl, hcd.sm]
      | out e f l m he hef _ =>
        have h39 : f ≠ 39 := fun x => he (hef.q.2 x)
        have e1 : (e == 39) = false := beq_eq_false_iff_ne.2 he
        have e2 : (f == 39) = false := beq_eq_false_iff_ne.2 h39
        simp only [isBl, e1, e2, Bool.and_false]
    have hsim : Sim false (c :: l) (d :: m) := .out c d l m hc hcd h
    simp only [M.tok, ← hblob, ← hcd.dg, ← hcd.nm, if_neg hc, if_neg hd]
    by_cases hbl : isBl (c :: l) = true
    · rw [if_pos hbl, if_pos hbl]
      cases h with
      | nil => simp [isBl] at hbl
      | out e f l m he hef _ => simp [isBl, he] at hbl
      | quote _ l m h =>
        obtain ⟨i1, i2⟩ := h.blob
        refine ⟨i1, fun k S N n hs h0 h7 => ?_⟩
        have hk : k = 5 := by
          simp only [List.drop_succ_cons, List.drop_zero, blobT] at hs
          split at hs
          · cases hs; rfl
          · cases hs; exact absurd rfl h0
        subst hk
        obtain ⟨j1, j2⟩ := i2 S N n hs
        obtain ⟨j, rfl⟩ : ∃ j, n = j + 2 := ⟨n - 2, by omega⟩
        simpa using j2
    · rw [if_neg hbl, if_neg hbl]
      by_cases hdg : M.dg c = true
      · rw [if_pos hdg, if_pos hdg]
        have e := hsim.digits
        refine ⟨by simp only [numT, e], fun k S N n hs h0 h7 => ?_⟩
        simp only [numT] at hs
        split at hs
        · injection hs with _ hs
          injection hs with _ hs
          injection hs with _ hs
          subst hs
          have := (hsim.run (p := M.dg) dg_39 (fun _ _ h => h.dg)).2.1
          rwa [← e] at this
        · cases hs; exact absurd rfl h0
      · rw [if_neg hdg, if_neg hdg]
        by_cases hnm : M.nm c = true
        · rw [if_pos hnm, if_pos hnm]
          obtain ⟨r1, r2, r3⟩ := hsim.run (p := M.nmd) (by decide) (fun _ _ h => h.nmd)
          refine ⟨by simp only [nameT, r3], fun k S N n hs h0 h7 => ?_⟩
          simp only [nameT] at hs
          injection hs with _ hs
          injection hs with _ hs
          injection hs with _ hs
          subst hs
          rw [List.length_map]
          rwa [← r1] at r2
        · rw [if_neg hnm, if_neg hnm]
          have hcl : ¬ (97 ≤ c.toNat ∧ c.toNat ≤ 122) := by
            intro h'
            apply hnm
            simp only [M.nm, Bool.or_eq_true, decide_eq_true_eq]
            right
            rw [sm_n, if_neg (by omega)]
            exact h'
          obtain rfl := hcd.of_ne hcl
          have h2 : ∀ (a b : UInt8), Rel a b → (in2 [c, a] = true ∨ in2 [c, b] = true) → a = b := by
            intro a b hab h'
            rcases h' with h' | h'
            · refine hab.of_ne ?_
              simp only [in2, decide_eq_true_eq, sg2, List.mem_cons, List.cons.injEq, List.not_mem_nil, or_false, and_true] at h'
              rcases h' with h' | h' | h' | h' <;> (rw [h'.2]; decide)
            · refine hab.of_ne' ?_
              simp only [in2, decide_eq_true_eq, sg2, List.mem_cons, List.cons.injEq, List.not_mem_nil, or_false, and_true] at h'
              rcases h' with h' | h' | h' | h' <;> (rw [h'.2]; decide)
          cases h with
          | nil =>
            refine ⟨rfl, fun k S N n hs h0 h7 => ?_⟩
            have : ∀ n, [c].drop n = [] ∨ [c].drop n = [c] := fun n => by cases n <;> simp
            rcases this n with e | e <;> rw [e]
            · exact .nil _
            · exact hsim
          | quote _ l m h =>
            refine ⟨rfl, fun k S N n hs h0 h7 => ?_⟩
            have hno : in2 [c, 39] = false := by simp [in2, sg2]
            rw [sgT_cons, if_neg (by simp [hno])] at hs
            split at hs
            · injection hs with _ hs
              injection hs with _ hs
              injection hs with _ hs
              subst hs
              exact .quote _ _ _ h
            · cases hs; exact absurd rfl h0
          | out e f l m he hef h =>
            rw [sgT_cons, sgT_cons]
            by_cases hs2 : in2 [c, e] = true
            · obtain rfl := h2 e f hef (.inl hs2)
              rw [if_pos hs2]
              refine ⟨rfl, fun k S N n hs h0 h7 => ?_⟩
              injection hs with _ hs
              injection hs with _ hs
              injection hs with _ hs
              subst hs
              exact h
            · have hs2' : ¬ in2 [c, f] = true := fun h' => hs2 (by rw [h2 e f hef (.inr h')]; exact h')
              rw [if_neg hs2, if_neg hs2']
              refine ⟨rfl, fun k S N n hs h0 h7 => ?_⟩
              split at hs
              · injection hs with _ hs
                injection hs with _ hs
                injection hs with _ hs
                subst hs
                exact .out e f l m he hef h
              · cases hs; exact absurd rfl h0
end Go.Proofs.YtceknmibopnmhaaDoor.M
namespace Go.Proofs.YtceknmibopnmhaaDoor.M
open Go
def valF (a : Nat) (l : List UInt8) : Nat := l.foldl (fun a c => a * 10 + (c.toNat - 48)) a
theorem valF_ge : ∀ (l : List UInt8) (a : Nat), a ≤ valF a l
  | [], a => Nat.le_refl _
  | c :: l, a => by
    have := valF_ge l (a * 10 + (c.toNat - 48))
    simp only [valF, List.foldl_cons] at this ⊢
    omega
theorem parseM_digits (m : Nat) (hm : m < 18446744073709551616) : ∀ (l : List UInt8) (a : Nat), a ≤ m → (∀ c ∈ l, dg c = true) → Lib.parseUintM m a l = if valF a l ≤ m then .ok (valF a l) else .range
  | [], a, h, _ => by simp [Lib.parseUintM, valF, h]
  | c :: l, a, h, hd => by
    have hc : 48 ≤ c.toNat ∧ c.toNat ≤ 57 := by simpa [dg] using hd c (by simp)
    have hge := valF_ge l (a * 10 + (c.toNat - 48))
    have e : valF a (c :: l) = valF (a * 10 + (c.toNat - 48)) l := rfl
    rw [e]
    simp only [Lib.parseUintM, if_pos hc]
    by_cases h1 : 1844674407370955162 ≤ a
    · rw [if_pos h1, if_neg (by omega)]
    · rw [if_neg h1]
      by_cases h2 : m < a * 10 + (c.toNat - 48)
      · rw [if_pos h2, if_neg (by omega)]
      · rw [if_neg h2]
        exact parseM_digits m hm l _ (by omega) (fun c hc => hd c (by simp [hc]))
theorem parse_digits (l : List UInt8) (hne : l ≠ []) (hd : ∀ c ∈ l, dg c = true) :
    (valD l < 9223372036854775808 → Lib.parseIntB 64 l = .ok (valD l : Int)) ∧ (¬ valD l < 9223372036854775808 → Lib.parseIntB 64 l = .range) := by
  cases l with
  | nil => exact absurd rfl hne
  | cons c r =>
    have hc : 48 ≤ c.toNat ∧ c.toNat ≤ 57 := by simpa [dg] using hd c (by simp)
    have e64 : (2 : Nat) ^ 64 - 1 = 18446744073709551615 := by decide
    have e63 : (2 : Nat) ^ (64 - 1) = 9223372036854775808 := by decide
    rw [Lib.parseIntB_plain 64 c r (by omega) (by omega), e63]
    unfold Lib.parseUintB
    rw [if_neg (by simp), e64, parseM_digits _ (by decide) _ _ (by decide) hd]
    have ev : valF 0 (c :: r) = valD (c :: r) := rfl
    rw [ev]
    refine ⟨fun h => ?_, fun h => ?_⟩
    · rw [if_pos (by omega)]
      simp only [Lib.signlessC]
      rw [if_neg (by omega)]
    · by_cases h2 : valD (c :: r) ≤ 18446744073709551615
      · rw [if_pos h2]
        simp only [Lib.signlessC]
        rw [if_pos (by omega)]
      · rw [if_neg h2]
        rfl

/-- the program's table of hexadecimal digits -/
def hexTab : List UInt8 := [48, 49, 50, 51, 52, 53, 54, 55, 56, 57, 97, 98, 99, 100, 101, 102]
theorem hex_index (c : UInt8) : Lib.indexByte hexTab (sm c) = hxN c.toNat := by
  have h : ∀ n : Fin 256, Lib.indexByte hexTab (sm (UInt8.ofNat n.val)) = hxN n.val := by decide +kernel
  have := h ⟨c.toNat, c.toNat_lt⟩
  simpa using this
theorem blk_index (c : UInt8) : decide (0 ≤ Lib.indexByte [9, 10, 13, 32] c) = blk c := by
  have h : ∀ n : Fin 256, decide (0 ≤ Lib.indexByte [9, 10, 13, 32] (UInt8.ofNat n.val)) = blk (UInt8.ofNat n.val) := by decide +kernel
  have := h ⟨c.toNat, c.toNat_lt⟩
  simpa using this
theorem one_index (k c : UInt8) : decide (Lib.indexByte [k] c < 0) = (c != k) := by
  simp only [Lib.indexByte]
  by_cases h : k = c
  · subst h; simp
  · have : (k == c) = false := by simpa using h
    simp [this, Ne.symm h]
end Go.Proofs.YtceknmibopnmhaaDoor.M
