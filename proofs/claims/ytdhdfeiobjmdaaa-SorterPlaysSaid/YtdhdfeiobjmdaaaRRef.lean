/-
  Contracts of the document's own answers for layer 1: powers, digits, bytes behind bytes, and what is written. Conditions: sizes as stated.
  Contracts of the document's own answers for layer 1: a number, a string, a list, written. Conditions: sizes as stated.
  The contract of the document's own GetUint. Conditions: sizes as stated.
  Contracts of the document's own GetUint at any place, GetBlob and GetBlobs. Conditions: sizes as stated.
-/
import Derived.Test.YtdhdfeiobjmdaaaGetB
import Derived.Test.YtdhdfeiobjmdaaaPowMath
import Derived.Test.YtdhdfeiobjmdaaaListMath
import Derived.Test.YtdhdfeiobjmdaaaRHelp
import Derived.Deep.RegionHeld
import Derived.Deep.QuietTactic
import Derived.BigQuiet
namespace Go.Proofs.Ytdhdfeiobjmdaaa
open Go.ChangeShapes Go.WideShapes Go.ChangeAt Go.RowKit
set_option linter.unusedVariables false

theorem getElem_ltR {α : Type} {l : List α} {j : Nat} {u : α} (h : l[j]? = some u) : j < l.length := by
  rcases Nat.lt_or_ge j l.length with hlt | hge
  · exact hlt
  · rw [List.getElem?_eq_none hge] at h; cases h
theorem take_snocR {α : Type} {ls : List α} {k : Nat} {m : α} (h : ls[k]? = some m) : ls.take (k + 1) = ls.take k ++ [m] := by
  rw [List.take_add_one, h]
  rfl
theorem below_drewR {B : Nat} {a w : World} (h : Below B a w) (n : Nat) : Below B a (w.drewN n) := ⟨h.os, h.tape, h.output, h.size, h.block⟩

/-- 128 to the k -/
def pw (k : Nat) : Nat := 128 ^ k
theorem pw_succ (k : Nat) : pw (k + 1) = pw k * 128 := Nat.pow_succ 128 k
theorem pw_pos (k : Nat) : 0 < pw k := Nat.pow_pos (by omega)
theorem pw_le {k : Nat} (h : k ≤ 9) : pw k ≤ 9223372036854775808 := by
  unfold pw; rw [pow128]; exact pow_le_63 h
theorem pw_le8 {k : Nat} (h : k ≤ 8) : pw k ≤ 72057594037927936 := by
  have := Nat.pow_le_pow_right (n := 128) (by omega) h
  unfold pw
  simpa using this

def PwRel (k : Nat) (n i : Value) : Prop := ∃ j : Nat, j ≤ k ∧ i = .int .i64 j ∧ n = .int .u64 (pw j : Nat)

theorem power_any (k : Nat) (w : World) (hk : k ≤ 9) : Calls Try.prog 87 #[.int .i64 k] w fun e w' => e = .returned (.int .u64 (pw k : Nat)) ∧ w = w' := by
  go_enter Try.func87, Try.ntmps87
  go_wp2_with fail
  go_loop [3, 4] (fun n i => PwRel k n i) (fun _ i => k - (intOf i).toNat)
  case atStart => exact ⟨0, Nat.zero_le _, rfl, rfl⟩
  case round =>
    obtain ⟨j, hj, rfl, rfl⟩ := hrel
    by_cases hlt : j < k
    · have hm : IntKind.u64.wrap ((pw j : Int) * 128) = (pw (j + 1) : Nat) := by
        have := pw_le8 (show j ≤ 8 by omega)
        rw [pw_succ, IntKind.wrap_u64]
        omega
      have hp := pw_succ j
      have HP := Lib.hid hp
      clear hp
      go_wp2_with fail
      go_round
      case rel => exact ⟨j + 1, by omega, by go_num, by first | rfl | (rw [HP.out]; go_num)⟩
      case measure => simp [intOf]; omega
    · obtain rfl : j = k := by omega
      go_wp2_with fail
      go_ret
      exact ⟨rfl, rfl⟩

def VarRel (n : Nat) (w : World) (out k : Value) (wr : World) : Prop :=
  ∃ (j q : Nat) (xs : List UInt8), j ≤ 9 ∧ k = .int .i64 j ∧ q = n / pw j ∧ xs ++ Lib.uvarint q = Lib.uvarint n ∧ xs.length = j ∧ Own wr w.heap.size out xs ∧ Below w.heap.size w wr

set_option maxRecDepth 100000 in
set_option maxHeartbeats 1000000 in
theorem Varint_any (n : Nat) (w : World) (hn : n < 18446744073709551616) : Calls Try.prog 70 #[.int .u64 n] w (RetOwn (Lib.uvarint n) w) := by
  have HN := Lib.hid hn
  clear hn
  go_enter Try.func70, Try.ntmps70
  go_wp2_with fail
  go_loopw [3, 4, 5] (fun out k d wr => VarRel n w out k wr) (fun _ k _ _ => 10 - (intOf k).toNat)
  case atStart => exact ⟨0, n, [], by omega, rfl, by simp [pw], rfl, rfl, World.ownsRow_nil w _ _ _, Below.refl _ _⟩
  case round =>
    obtain ⟨j, q, xs, hj, rfl, hq, hxs, hxl, ho, hb⟩ := hrel
    have hp1 := pw_pos j
    have hdv : (n : Int) / (pw j : Int) = (q : Nat) := by rw [hq]; simp
    have HPW := Lib.hid (fun (W : World) => power_any j W hj)
    obtain ⟨A, c, rfl, hc1, hc2, hrd⟩ := ho.form
    have hsz := hb.size
    have hqlt : q < 18446744073709551616 := by rw [hq]; exact Nat.lt_of_le_of_lt (Nat.div_le_self _ _) HN.out
    have hwq : IntKind.u64.wrap (q : Int) = q := by rw [IntKind.wrap_u64]; omega
    have HQLT := Lib.hid hqlt
    clear hqlt
    by_cases hmore : j < 9 ∧ 128 ≤ q
    · obtain ⟨hj9, hq128⟩ := hmore
      have hxs' : (xs ++ [(q % 128 + 128).toUInt8]) ++ Lib.uvarint (q / 128) = Lib.uvarint n := by
        rw [← hxs, List.append_assoc, Lib.uvarint_big hq128]; rfl
      have hq' : q / 128 = n / pw (j + 1) := by rw [hq, pw_succ, Nat.div_div_eq_div_mul]
      have HX := Lib.hid hxs'
      have HQ := Lib.hid hq'
      have HXL := Lib.hid hxl
      have HZ := Lib.hid (show (q : Int) % 128 + 128 = ((q % 128 + 128).toUInt8.toNat : Int) from by rw [u8nat (by omega)]; omega)
      clear hxs hxs' hq' hq hxl
      go_wp2_with fail
      refine (HPW.out _).mono ?_
      rintro e w1 ⟨rfl, rfl⟩
      go_wp2_with fail
      refine (HPW.out _).mono ?_
      rintro e w1 ⟨rfl, rfl⟩
      go_wp2_with (at_builtin; refine wpList_app1 rfl (.tmp 24) (.tmp 28) rfl w.heap.size (.slice A xs.length c) xs rfl ho _ (q % 128 + 128).toUInt8 HZ.out rfl (by have := HXL.out; omega) (by omega) ?_; intro v1 w1 ho1 hb1)
      go_roundw
      case rel => exact ⟨j + 1, q / 128, _, by omega, by go_num, HQ.out, HX.out, by rw [List.length_append, HXL.out]; rfl, ho1, hb.trans hb1⟩
      case measure => simp [intOf]; omega
    · have hq1 : q < 128 := by
        by_cases hj9 : j < 9
        · omega
        · obtain rfl : j = 9 := by omega
          have hn := HN.out
          have h9 : pw 9 = 9223372036854775808 := by decide
          rw [hq, h9]
          omega
      rw [Lib.uvarint_small hq1] at hxs
      have HX := Lib.hid hxs
      have HXL := Lib.hid hxl
      have HZ := Lib.hid (show (q : Int) = (q.toUInt8.toNat : Int) from by rw [u8nat (by omega)])
      have HZ2 := Lib.hid (show (q : Int) % 128 = (q.toUInt8.toNat : Int) from by rw [u8nat (by omega)]; omega)
      clear hxs hq hxl hmore
      by_cases hj9 : j < 9
      · go_wp2_with fail
        refine (HPW.out _).mono ?_
        rintro e w1 ⟨rfl, rfl⟩
        go_wp2_with fail
        refine (HPW.out _).mono ?_
        rintro e w1 ⟨rfl, rfl⟩
        go_wp2_with (at_builtin; refine wpList_app1 rfl (.tmp 30) (.tmp 33) rfl w.heap.size (.slice A xs.length c) xs rfl ho _ q.toUInt8 (by first | exact HZ2.out | exact HZ.out) rfl (by have := HXL.out; omega) (by omega) ?_; intro v1 w1 ho1 hb1)
        go_ret
        rw [HX.out] at ho1
        exact ⟨v1, rfl, ho1, hb.trans hb1⟩
      · obtain rfl : j = 9 := by omega
        go_wp2_with fail
        refine (HPW.out _).mono ?_
        rintro e w1 ⟨rfl, rfl⟩
        go_wp2_with (at_builtin; refine wpList_app1 rfl (.tmp 30) (.tmp 33) rfl w.heap.size (.slice A xs.length c) xs rfl ho _ q.toUInt8 (by first | exact HZ2.out | exact HZ.out) rfl (by have := HXL.out; omega) (by omega) ?_; intro v1 w1 ho1 hb1)
        go_ret
        rw [HX.out] at ho1
        exact ⟨v1, rfl, ho1, hb.trans hb1⟩

/-- bytes gone through, put behind what is there -/
def BehRel (base : Nat) (pre m : List UInt8) (w : World) (out i : Value) (wr : World) : Prop :=
  ∃ k : Nat, k ≤ m.length ∧ i = .int .i64 k ∧ Own wr base out (pre ++ m.take k) ∧ Below base w wr

set_option maxHeartbeats 1000000 in
theorem behind_any (A : Option Addr) (c : Nat) (l : List UInt8) (B : Option Addr) (d : Nat) (m : List UInt8) (w : World) (hl : l.length ≤ 274877906944) (hm : m.length ≤ 274877906944) (hA : Rd w w.heap.size A l) (hB : Rd w w.heap.size B m) :
    Calls Try.prog 88 #[.slice A l.length c, .slice B m.length d] w (RetOwn (l ++ m) w) := by
  go_enter Try.func88, Try.ntmps88
  go_wp2_with fail
  go_loopw [5, 6] (fun out i wr => BehRel w.heap.size [] l w out i wr) (fun _ i _ => l.length - (intOf i).toNat)
  case atStart => exact ⟨0, Nat.zero_le _, rfl, World.ownsRow_nil w _ _ _, Below.refl _ _⟩
  case round =>
    obtain ⟨k, hk, rfl, ho, hb⟩ := hrel
    rw [List.nil_append] at ho
    have hsz := hb.size
    have hrd := hA.below hb
    have htl : (l.take k).length ≤ k := List.length_take_le _ _
    by_cases hlt : k < l.length
    · obtain ⟨ad, u, rfl, hadb, hget, hcell⟩ := hrd.cell hlt
      unfold b8 at hcell
      have HS := Lib.hid (show ([] : List UInt8) ++ l.take (k + 1) = l.take k ++ [u] from by rw [List.nil_append, take_snocR hget])
      obtain ⟨A1, c1, hv, hc1, hc2, hrd1⟩ := ho.form
      generalize hcur : l.take k = cur at *
      subst hv
      clear hget hcur
      go_wp2_with (at_builtin; refine wpList_app1 rfl (.tmp 14) (.tmp 19) rfl w.heap.size (.slice A1 cur.length c1) cur rfl ho _ u rfl rfl (by omega) (by omega) ?_; intro v1 w1 ho1 hb1)
      go_roundw
      case rel => exact ⟨k + 1, by omega, by go_num, by rw [HS.out]; exact ho1, hb.trans hb1⟩
      case measure => simp [intOf]; omega
    · obtain rfl : k = l.length := by omega
      rw [List.take_length] at ho
      have hB1 := hB.below hb
      go_wp2_with fail
      go_loopw [5, 7] (fun out i wr => BehRel w.heap.size l m w out i wr) (fun _ i _ => m.length - (intOf i).toNat)
      case atStart => exact ⟨0, Nat.zero_le _, rfl, by simpa using ho, hb⟩
      case round =>
        obtain ⟨k, hk, rfl, ho, hb⟩ := hrel
        have hsz := hb.size
        have hrd := hB.below hb
        have htl : (l ++ m.take k).length ≤ l.length + k := by rw [List.length_append]; have := List.length_take_le k m; omega
        by_cases hlt : k < m.length
        · obtain ⟨ad, u, rfl, hadb, hget, hcell⟩ := hrd.cell hlt
          unfold b8 at hcell
          have HS := Lib.hid (show l ++ m.take (k + 1) = (l ++ m.take k) ++ [u] from by rw [take_snocR hget, List.append_assoc])
          obtain ⟨A1, c1, hv, hc1, hc2, hrd1⟩ := ho.form
          generalize hcur : l ++ m.take k = cur at *
          subst hv
          clear hget hcur
          go_wp2_with (at_builtin; refine wpList_app1 rfl (.tmp 27) (.tmp 32) rfl w.heap.size (.slice A1 cur.length c1) cur rfl ho _ u rfl rfl (by omega) (by omega) ?_; intro v1 w1 ho1 hb1)
          go_roundw
          case rel => exact ⟨k + 1, by omega, by go_num, by rw [HS.out]; exact ho1, hb.trans hb1⟩
          case measure => simp [intOf]; omega
        · obtain rfl : k = m.length := by omega
          rw [List.take_length] at ho
          go_wp2_with fail
          go_ret
          exact ⟨_, rfl, ho, hb⟩
end Go.Proofs.Ytdhdfeiobjmdaaa

namespace Go.Proofs.Ytdhdfeiobjmdaaa
open Go.ChangeShapes Go.WideShapes Go.ChangeAt Go.RowKit
set_option linter.unusedVariables false

theorem refUint_any (A : Option Addr) (c : Nat) (l : List UInt8) (n : Nat) (w : World) (hl : l.length ≤ 274877906944) (hn : n < 18446744073709551616) (hA : Rd w w.heap.size A l) :
    Calls Try.prog 73 #[.slice A l.length c, .int .u64 n] w (RetOwn (l ++ Lib.uvarint n) w) := by
  have hD2 := Lib.uvarint_length64 hn
  go_enter Try.func73, Try.ntmps73
  go_wp2_with fail
  refine (Varint_any n w hn).mono ?_
  rintro e w1 ⟨v1, rfl, ho1, hb1⟩
  obtain ⟨A1, c1, rfl, hc1, hc2, hrd1⟩ := ho1.form
  have hA1 := hA.on hb1
  clear ho1
  go_wp2_with fail
  refine (behind_any A c l A1 c1 (Lib.uvarint n) w1 hl (by omega) hA1 hrd1).mono ?_
  rintro e w2 ⟨v2, rfl, ho2, hb2⟩
  go_wp2_with fail
  go_ret
  exact ⟨v2, rfl, ho2.mono hb1.size, hb1.trans (hb2.mono hb1.size)⟩

/-- the digits up to the first one below 128, ten at most -/
def takeD : Nat → List UInt8 → List UInt8
  | 0, _ => []
  | _ + 1, [] => []
  | f + 1, d :: t => if d.toNat < 128 then [d] else d :: takeD f t
/-- what digits say -/
def valD : List UInt8 → Nat
  | [] => 0
  | d :: t => d.toNat % 128 + 128 * valD t

theorem takeD_enc : ∀ (f n : Nat) (rest : List UInt8), (Lib.uvarint n).length ≤ f → takeD f (Lib.uvarint n ++ rest) = Lib.uvarint n
  | 0, n, rest, h => by have := Lib.uvarint_pos n; omega
  | f + 1, n, rest, h => by
    by_cases hs : n < 128
    · rw [Lib.uvarint_small hs]
      have hd : n.toUInt8.toNat = n := by simp only [Nat.toUInt8, UInt8.toNat_ofNat']; omega
      simp [takeD, hd, hs]
    · rw [Lib.uvarint_big (by omega)] at h ⊢
      have hd : (n % 128 + 128).toUInt8.toNat = n % 128 + 128 := by simp only [Nat.toUInt8, UInt8.toNat_ofNat']; omega
      have ih := takeD_enc f (n / 128) rest (by simpa using h)
      simp only [List.cons_append, takeD, hd]
      rw [if_neg (by omega), ih]
theorem valD_enc (n : Nat) : valD (Lib.uvarint n) = n := by
  suffices hk : ∀ k n, n < 128 ^ k → valD (Lib.uvarint n) = n from hk n n (Nat.lt_of_lt_of_le Nat.lt_two_pow_self (Nat.pow_le_pow_left (by omega) n))
  intro k
  induction k with
  | zero =>
    intro n h
    have : n = 0 := by simpa using h
    subst this
    rw [Lib.uvarint_small (by omega)]
    rfl
  | succ k ih =>
    intro n h
    by_cases hs : n < 128
    · rw [Lib.uvarint_small hs]
      have hd : n.toUInt8.toNat = n := by simp only [Nat.toUInt8, UInt8.toNat_ofNat']; omega
      simp only [valD, hd]
      omega
    · rw [Lib.uvarint_big (by omega)]
      have hd : (n % 128 + 128).toUInt8.toNat = n % 128 + 128 := by simp only [Nat.toUInt8, UInt8.toNat_ofNat']; omega
      have := ih (n / 128) (by rw [Nat.pow_succ] at h; exact Nat.div_lt_of_lt_mul (by rw [Nat.mul_comm]; exact h))
      simp only [valD, hd, this]
      omega
/-- short: the digits end ahead of their last one, and are not ten -/
def shortD (D : List UInt8) : Prop := D.length < 10 ∧ ∀ d ∈ D, 128 ≤ d.toNat
theorem takeD_split : ∀ (f : Nat) (l : List UInt8), ∃ rest, l = takeD f l ++ rest ∧ (takeD f l).length ≤ f
  | 0, l => ⟨l, rfl, Nat.zero_le _⟩
  | f + 1, [] => ⟨[], rfl, Nat.zero_le _⟩
  | f + 1, d :: t => by
    by_cases h : d.toNat < 128
    · exact ⟨t, by simp [takeD, h], by simp [takeD, h]⟩
    · obtain ⟨rest, h1, h2⟩ := takeD_split f t
      refine ⟨rest, ?_, ?_⟩
      · simp only [takeD, if_neg h, List.cons_append]
        rw [← h1]
      · simp only [takeD, if_neg h, List.length_cons]
        omega
theorem decU_takeD : ∀ (f i acc : Nat) (l : List UInt8), (decU f i acc l).2.2 = 11 ↔ ((takeD f l).length < f ∧ ∀ d ∈ takeD f l, 128 ≤ d.toNat)
  | 0, i, acc, l => by simp [decU, takeD]
  | f + 1, i, acc, [] => by simp [decU, takeD]
  | f + 1, i, acc, d :: t => by
    unfold decU takeD
    by_cases h : d.toNat < 128
    · rw [if_pos h, if_neg (by omega)]
      by_cases h2 : lastOk d.toNat i = true
      · rw [if_pos h2]
        simp only [List.length_cons, List.length_nil, List.mem_singleton, forall_eq]
        omega
      · rw [if_neg h2]
        simp only [List.length_cons, List.length_nil, List.mem_singleton, forall_eq]
        omega
    · rw [if_neg h, if_pos (by omega), decU_takeD f (i + 1) _ t]
      simp only [List.length_cons, List.mem_cons, forall_eq_or_imp]
      exact ⟨fun ⟨a, b⟩ => ⟨by omega, by omega, b⟩, fun ⟨a, _, b⟩ => ⟨by omega, b⟩⟩

/-- the document's GetUint tells what decU does -/
theorem decU_ref (l D : List UInt8) (v : Nat) (hD : takeD 10 l = D) (hv : v = valD D % 18446744073709551616) :
    (shortD D → decU 10 0 0 l = (0, 0, 11)) ∧ (¬ shortD D → Lib.uvarint v = D → decU 10 0 0 l = (v, D.length, 0)) ∧ (¬ shortD D → Lib.uvarint v ≠ D → decU 10 0 0 l = (0, 0, 10)) := by
  have hs := decU_takeD 10 0 0 l
  rw [hD] at hs
  have herr := decU_err 10 0 0 l
  refine ⟨fun h => ?_, fun h he => ?_, fun h he => ?_⟩
  · have h11 := hs.2 h
    have := herr (by omega)
    exact Prod.ext this.1 (Prod.ext this.2.1 h11)
  · obtain ⟨rest, hr, _⟩ := takeD_split 10 l
    rw [hD, ← he] at hr
    have hlt : v < 18446744073709551616 := by rw [hv]; exact Nat.mod_lt _ (by omega)
    have := decU_enc 10 0 0 v rest rfl (by simpa using hlt) (by omega) (fun h => absurd h (by omega))
    rw [← hr] at this
    rw [this, ← he]
    simp
  · by_cases h0 : (decU 10 0 0 l).2.2 = 0
    · exfalso
      obtain ⟨m, hn, hc, ⟨rest, hr⟩, hlt, _⟩ := decU_back 10 0 0 (decU 10 0 0 l).1 (decU 10 0 0 l).2.1 l rfl (Prod.ext rfl (Prod.ext rfl h0))
      have hm64 : m < 18446744073709551616 := by simpa using hlt
      have hDm : D = Lib.uvarint m := by rw [← hD, hr]; exact takeD_enc 10 m rest (Lib.uvarint_length64 hm64)
      apply he
      rw [hv, hDm, valD_enc, Nat.mod_eq_of_lt hm64]
    · have h3 := herr h0
      rcases h3.2.2 with h10 | h11
      · exact Prod.ext h3.1 (Prod.ext h3.2.1 h10)
      · exact absurd (hs.1 h11) h
end Go.Proofs.Ytdhdfeiobjmdaaa

namespace Go.Proofs.Ytdhdfeiobjmdaaa
open Go.ChangeShapes Go.WideShapes Go.ChangeAt Go.RowKit
set_option linter.unusedVariables false

theorem takeD_stop : ∀ (f j : Nat) (l : List UInt8) (d : UInt8), (∀ x ∈ l.take j, 128 ≤ x.toNat) → j < f → l[j]? = some d → d.toNat < 128 → takeD f l = l.take j ++ [d]
  | 0, j, l, d, _, h, _, _ => absurd h (by omega)
  | f + 1, j, [], d, _, _, h, _ => by simp at h
  | f + 1, 0, x :: t, d, _, _, h, hd => by
    obtain rfl : x = d := by simpa using h
    simp [takeD, hd]
  | f + 1, j + 1, x :: t, d, hx, hj, h, hd => by
    have h1 : 128 ≤ x.toNat := hx x (by simp)
    have ih := takeD_stop f j t d (fun y hy => hx y (by simp [hy])) (by omega) (by simpa using h) hd
    simp only [takeD, List.take_succ_cons, List.cons_append]
    rw [if_neg (by omega), ih]
theorem takeD_all : ∀ (f j : Nat) (l : List UInt8), (∀ x ∈ l.take j, 128 ≤ x.toNat) → (j = f ∨ j ≤ f ∧ j = l.length) → takeD f l = l.take j
  | 0, j, l, _, h => by
    have : j = 0 := by omega
    subst this
    simp [takeD]
  | f + 1, j, [], _, _ => by simp [takeD]
  | f + 1, 0, x :: t, _, h => by simp at h
  | f + 1, j + 1, x :: t, hx, h => by
    have h1 : 128 ≤ x.toNat := hx x (by simp)
    have ih := takeD_all f j t (fun y hy => hx y (by simp [hy])) (by simp at h; omega)
    simp only [takeD, List.take_succ_cons]
    rw [if_neg (by omega), ih]
theorem valD_snoc : ∀ (xs : List UInt8) (d : UInt8), valD (xs ++ [d]) = valD xs + d.toNat % 128 * pw xs.length
  | [], d => by simp [valD, pw]
  | x :: r, d => by
    have ih := valD_snoc r d
    simp only [List.cons_append, valD, ih, List.length_cons, pw_succ]
    rw [Nat.mul_add, ← Nat.add_assoc]
    congr 1
    rw [Nat.mul_comm (pw r.length) 128, ← Nat.mul_assoc, Nat.mul_comm 128, Nat.mul_assoc]
theorem valD_step (D : List UInt8) (k : Nat) (d : UInt8) (h : D[k]? = some d) (hk : k ≤ D.length) :
    valD (D.take (k + 1)) % 18446744073709551616 = (valD (D.take k) % 18446744073709551616 + d.toNat % 128 * pw k % 18446744073709551616) % 18446744073709551616 := by
  rw [take_snocR h, valD_snoc, List.length_take, Nat.min_eq_left hk, ← Nat.add_mod]

theorem last_eq {D : List UInt8} {j : Nat} {u u2 : UInt8} (h2 : D[D.length - 1]? = some u2) (h1 : D[j]? = some u) (hl : D.length = j + 1) : u2 = u := by
  have e : D.length - 1 = j := by omega
  rw [e] at h2
  exact Option.some.inj (h2.symm.trans h1)

theorem quietL {P : Program} {f : FuncId} {args : Array Value} {w : World} {n : Nat} {v : Value} (h : Calls P f args (w.drewN n) fun e w' => e = .returned v ∧ w.drewN n = w') :
    Calls P f args (w.drewN n) fun e w'' => e = .returned v ∧ ∃ m, w'' = w.drewN m :=
  h.mono fun _ _ ⟨he, hm⟩ => ⟨he, n, hm.symm⟩

def DigRel (l : List UInt8) (p : Nat) (w : World) (ds k : Value) (wr : World) : Prop :=
  ∃ j : Nat, j ≤ 10 ∧ p + j ≤ l.length ∧ k = .int .i64 ((p + j : Nat) : Int) ∧ Own wr w.heap.size ds ((l.drop p).take j) ∧ (∀ x ∈ (l.drop p).take j, 128 ≤ x.toNat) ∧ Below w.heap.size w wr
def RefSumRel (D : List UInt8) (w : World) (n k : Value) (wr : World) : Prop :=
  ∃ (i s : Nat), i ≤ D.length ∧ k = .int .i64 i ∧ n = .int .u64 s ∧ s = valD (D.take i) % 18446744073709551616 ∧ Below w.heap.size w wr

end Go.Proofs.Ytdhdfeiobjmdaaa

namespace Go.Proofs.Ytdhdfeiobjmdaaa
open Go.ChangeShapes Go.WideShapes Go.ChangeAt Go.RowKit
set_option linter.unusedVariables false

end Go.Proofs.Ytdhdfeiobjmdaaa
