/-
  sortOf, bodyLen, head (layer 3, record). Conditions: right values; at most 200 of them.
-/
import Derived.Test.YtdhdfeiobjmdaaaRLen
namespace Go.Proofs.Ytdhdfeiobjmdaaa
open Go.ChangeShapes Go.WideShapes Go.ChangeAt Go.RowKit
set_option linter.unusedVariables false

/-- the sort of a value -/
def sortN (k n : Int) (s : ByteArray) : Nat := if k = 1 then lenI n else if k = 2 then 11 + 2 * s.size else if k = 3 then 10 + 2 * s.size else 0
theorem sortN_lt (k n : Int) (s : ByteArray) (h : s.size ≤ 65536) : sortN k n s ≤ 131083 := by
  have h1 := (lenF_range 7 n).2
  unfold sortN lenI
  split
  · omega
  · split
    · omega
    · split <;> omega
def bodyN (z : Nat) : Nat := if z < 10 then z else (z - 10) / 2
set_option maxRecDepth 100000 in
theorem sortOf_any (k n : Int) (s : ByteArray) (w : World) (hs : s.size ≤ 65536) (hn : In64 n) :
    Calls Try.prog 55 #[.agg #[.int .u8 k, .int .i64 n, .string s]] w fun e w' => e = .returned (.int .u64 (sortN k n s)) ∧ Below w.heap.size w w' := by
  by_cases h1 : k = 1
  · subst h1
    have hr := lenF_range 7 n
    have HN := Lib.hid hn
    have HP := Lib.hid (show (lenI n : Int) = (sortN 1 n s : Int) by simp [sortN])
    have hr1 : lenI n ≤ 8 := hr.2
    clear hn hr
    go_enter Try.func55, Try.ntmps55
    go_wp2_with (go_at_call 81; refine (intLen_any _ _ HN.out).mono ?_; rintro e w' ⟨rfl, rfl⟩)
    go_ret
    exact ⟨by rw [← HP.out]; rfl, (Below.refl _ _).alloc (Nat.le_refl _) _⟩
  · have e1 : (k == 1) = false := by simpa using h1
    by_cases h2 : k = 2
    · subst h2
      have HP := Lib.hid (show (11 : Int) + 2 * s.size = (sortN 2 n s : Int) by simp [sortN])
      go_enter Try.func55, Try.ntmps55
      go_wp2_with fail
      go_ret
      exact ⟨by rw [← HP.out]; rfl, (Below.refl _ _).alloc (Nat.le_refl _) _⟩
    · have e2 : (k == 2) = false := by simpa using h2
      by_cases h3 : k = 3
      · subst h3
        have HP := Lib.hid (show (10 : Int) + 2 * s.size = (sortN 3 n s : Int) by simp [sortN])
        go_enter Try.func55, Try.ntmps55
        go_wp2_with fail
        go_ret
        exact ⟨by rw [← HP.out]; rfl, (Below.refl _ _).alloc (Nat.le_refl _) _⟩
      · have e3 : (k == 3) = false := by simpa using h3
        have HP := Lib.hid (show (0 : Int) = (sortN k n s : Int) by simp [sortN, h1, h2, h3])
        clear h1 h2 h3
        go_enter Try.func55, Try.ntmps55
        go_wp2_with fail
        go_ret
        exact ⟨by rw [← HP.out]; rfl, (Below.refl _ _).alloc (Nat.le_refl _) _⟩
theorem bodyLen_any (z : Nat) (w : World) (hz : z ≤ 1099511627776) :
    Calls Try.prog 54 #[.int .u64 z] w fun e w' => e = .returned (.int .u64 (bodyN z)) ∧ w' = w := by
  by_cases h : z < 10
  · have HP := Lib.hid (show (z : Int) = (bodyN z : Int) by simp [bodyN, h])
    go_enter Try.func54, Try.ntmps54
    go_wp2_with fail
    go_ret
    exact ⟨by rw [← HP.out]; rfl, rfl⟩
  · have HP := Lib.hid (show ((z : Int) - 10) / 2 = (bodyN z : Int) by unfold bodyN; rw [if_neg h]; omega)
    go_enter Try.func54, Try.ntmps54
    go_wp2_with fail
    go_ret
    exact ⟨by rw [← HP.out]; rfl, rfl⟩

/-- the sorts of a row's values, as bytes -/
def sortsL : List Trip → List UInt8
  | [] => []
  | (k, n, s) :: vs => Lib.uvarint (sortN k n s) ++ sortsL vs
theorem sortsL_append (a b : List Trip) : sortsL (a ++ b) = sortsL a ++ sortsL b := by
  induction a with
  | nil => rfl
  | cons t a ih => obtain ⟨k, n, s⟩ := t; simp [sortsL, ih]
theorem sortsL_take {vs : List Trip} {j : Nat} {k n : Int} {s : ByteArray} (h : vs[j]? = some (k, n, s)) : sortsL (vs.take (j + 1)) = sortsL (vs.take j) ++ Lib.uvarint (sortN k n s) := by
  rw [List.take_add_one, h, sortsL_append]
  simp [sortsL]
theorem sortsL_len : ∀ vs : List Trip, (∀ t ∈ vs, t.2.2.size ≤ 65536) → (sortsL vs).length ≤ 10 * vs.length
  | [], _ => by simp [sortsL]
  | (k, n, s) :: vs, h => by
    have ih := sortsL_len vs fun t ht => h t (List.mem_cons_of_mem _ ht)
    have h0 := sortN_lt k n s (h (k, n, s) List.mem_cons_self)
    have h1 := Lib.uvarint_length64 (x := sortN k n s) (by omega)
    simp only [sortsL, List.length_append, List.length_cons]
    omega
def headL (vs : List Trip) : List UInt8 := Lib.uvarint vs.length ++ sortsL vs

def HeadRel (w : World) (vs : List Trip) (v i : Value) (wr : World) : Prop :=
  ∃ k : Nat, k ≤ vs.length ∧ i = .int .i64 k ∧ Own wr w.heap.size v (Lib.uvarint vs.length ++ sortsL (vs.take k)) ∧ Below w.heap.size w wr
set_option maxRecDepth 100000 in
set_option maxHeartbeats 800000 in
theorem head_any (A : Option Addr) (cap : Nat) (vs : List Trip) (w : World) (hR : RdR w w.heap.size A vs) (hl : vs.length ≤ 200) (hs : ∀ t ∈ vs, t.2.2.size ≤ 65536 ∧ In64 t.2.1) :
    Calls Try.prog 53 #[.slice A vs.length cap] w (RetOwn (headL vs) w) := by
  have HS := Lib.hid hs
  have hu := Lib.uvarint_length64 (x := vs.length) (by omega)
  clear hs
  go_enter Try.func53, Try.ntmps53
  go_wp2_with (go_at_call 80; refine (Uint_any none 0 [] vs.length _ (by simp) (by omega) Rd.nil).mono ?_; rintro e w1 ⟨v1, rfl, ho1, hb1⟩; rw [List.nil_append] at ho1)
  have HB := Lib.hid hb1
  have HO := Lib.hid ho1
  clear hb1 ho1
  go_loopw [3, 12] (fun v i wr => HeadRel w vs v i wr) (fun _ i _ => vs.length - (intOf i).toNat)
  case atStart => exact ⟨0, Nat.zero_le _, rfl, by simpa [sortsL] using HO.out, HB.out⟩
  case round =>
    obtain ⟨k, hk, rfl, ho, hbw⟩ := hrel
    have HX := Lib.hid hbw
    by_cases hlt : k < vs.length
    · have hget : vs[k]? = some vs[k] := List.getElem?_eq_getElem hlt
      obtain ⟨ad, rfl, hal, hcs⟩ := (hR.below hbw) (by omega)
      have hmem := List.mem_of_getElem? hget
      have hsl := sortsL_len (vs.take k) (fun t ht => (HS.out t (List.mem_of_mem_take ht)).1)
      have hlk : (vs.take k).length ≤ 200 := by rw [List.length_take]; omega
      have hlq : (Lib.uvarint vs.length ++ sortsL (vs.take k)).length ≤ 2010 := by rw [List.length_append]; omega
      generalize vs[k] = t at *
      obtain ⟨kk, n, s⟩ := t
      obtain ⟨c0, c1, c2⟩ := hcs k kk n s hget
      have HT := Lib.hid (show Lib.uvarint vs.length ++ sortsL (vs.take (k + 1)) = (Lib.uvarint vs.length ++ sortsL (vs.take k)) ++ Lib.uvarint (sortN kk n s) by rw [sortsL_take hget, List.append_assoc])
      obtain ⟨hsz, hn64⟩ := HS.out _ hmem
      have HN := Lib.hid hn64
      have hsn := sortN_lt kk n s hsz
      have hun := Lib.uvarint_length64 (x := sortN kk n s) (by omega)
      have HOx := Lib.hid ho
      obtain ⟨A1, cc1, rfl, _, _, _⟩ := ho.form
      clear hget hcs hbw hmem hsl hlk hn64 ho
      generalize hq : Lib.uvarint vs.length ++ sortsL (vs.take k) = q at *
      have HQ := Lib.hid hq
      clear hq
      go_wp2_with (go_at_call 55; refine (sortOf_any _ _ _ _ hsz HN.out).mono ?_; rintro e w2 ⟨rfl, hb⟩; have HB2 := Lib.hid ((Below.refl wr.heap.size wr).alloc (Nat.le_refl _) (box kk n s) |>.trans (hb.mono (by simp))); clear hb)
      refine (Uint_any none 0 [] (sortN kk n s) w2 (by simp) (by omega) Rd.nil).mono ?_
      rintro e w3 ⟨v3, rfl, ho3, hb3⟩
      rw [List.nil_append] at ho3
      have hsz2 := HB2.out.size
      have hsz3 := hb3.size
      have hszx := HX.out.size
      have HOy := Lib.hid ((HOx.out.below HB2.out).below hb3)
      have HB3 := Lib.hid ((HX.out.trans (HB2.out.mono HX.out.size)).trans (hb3.mono (by omega)))
      obtain ⟨A3, cc3, rfl, _, _, hrd⟩ := ho3.form
      have HRd := Lib.hid hrd
      clear ho3 hb3 hrd
      generalize hm : Lib.uvarint (sortN kk n s) = m at *
      have HM := Lib.hid hm
      clear hm
      go_wp2_with (at_builtin; refine wpList_appB rfl (.tmp 16) (.tmp 19) rfl w.heap.size (.slice A1 q.length cc1) q rfl HOy.out A3 cc3 m m.length rfl rfl HRd.out (by omega) (by omega) ?_; intro v4 w4 ho4 hb4; have HO4 := Lib.hid ho4; have HB4 := Lib.hid (HB3.out.trans hb4); clear ho4 hb4)
      go_roundw
      case rel => exact ⟨k + 1, by omega, by go_num, by rw [HT.out]; exact HO4.out, HB4.out⟩
      case measure => simp [intOf]; omega
    · obtain rfl : k = vs.length := by omega
      rw [show vs.take vs.length = vs from List.take_length] at ho
      have HO2 := Lib.hid ho
      obtain ⟨A1, cc1, rfl, _, _, _⟩ := ho.form
      clear ho hbw
      go_wp2_with fail
      go_ret
      exact ⟨_, rfl, HO2.out, HX.out⟩
end Go.Proofs.Ytdhdfeiobjmdaaa
