/-
  record.Put of a right row (layer 3). Conditions: a right row of at most 200 columns, at most 2^20 bytes.
-/
import Derived.Test.YtdhdfeiobjmdaaaRGrow
namespace Go.Proofs.Ytdhdfeiobjmdaaa
open Go.ChangeShapes Go.WideShapes Go.ChangeAt Go.RowKit
set_option linter.unusedVariables false

/-- the bytes of a row's values -/
def bodiesL : List Trip → List UInt8
  | [] => []
  | (k, n, s) :: vs => bodyL k n s ++ bodiesL vs
theorem bodiesL_append (a b : List Trip) : bodiesL (a ++ b) = bodiesL a ++ bodiesL b := by
  induction a with
  | nil => rfl
  | cons t a ih => obtain ⟨k, n, s⟩ := t; simp [bodiesL, ih]
theorem bodiesL_take {vs : List Trip} {j : Nat} {k n : Int} {s : ByteArray} (h : vs[j]? = some (k, n, s)) : bodiesL (vs.take (j + 1)) = bodiesL (vs.take j) ++ bodyL k n s := by
  rw [List.take_add_one, h, bodiesL_append]
  simp [bodiesL]
theorem bodyL_len (k n : Int) (s : ByteArray) (h : s.size ≤ 65536) : (bodyL k n s).length ≤ 65544 := by
  have h1 : s.data.toList.length = s.size := by rcases s with ⟨⟨l⟩⟩; rfl
  have h2 : lenI n ≤ 8 := (lenF_range 7 n).2
  unfold bodyL
  split
  · rw [beN_length]; omega
  · omega
theorem bodiesL_len : ∀ (vs : List Trip), (∀ t ∈ vs, t.2.2.size ≤ 65536) → (bodiesL vs).length ≤ 65544 * vs.length
  | [], _ => by simp [bodiesL]
  | (k, n, s) :: vs, h => by
    have ih := bodiesL_len vs fun t ht => h t (List.mem_cons_of_mem _ ht)
    have h0 := bodyL_len k n s (h (k, n, s) List.mem_cons_self)
    simp only [bodiesL, List.length_append, List.length_cons]
    omega
/-- the bytes of a row -/
def putL (vs : List Trip) : List UInt8 := headL vs ++ bodiesL vs
theorem headL_len (vs : List Trip) (hl : vs.length ≤ 200) (h : ∀ t ∈ vs, t.2.2.size ≤ 65536) : (headL vs).length ≤ 2010 := by
  have h1 := Lib.uvarint_length64 (x := vs.length) (by omega)
  have h2 := sortsL_len vs h
  unfold headL
  rw [List.length_append]
  omega
/-- how many bytes the values take, as bodyLen tells -/
def sumB (vs : List Trip) : Nat := (vs.map fun t => bodyN (sortN t.1 t.2.1 t.2.2)).sum
theorem sumB_take {vs : List Trip} {j : Nat} {k n : Int} {s : ByteArray} (h : vs[j]? = some (k, n, s)) : sumB (vs.take (j + 1)) = sumB (vs.take j) + bodyN (sortN k n s) := by
  rw [List.take_add_one, h]
  simp [sumB]
theorem bodyN_le (k n : Int) (s : ByteArray) (h : s.size ≤ 65536) : bodyN (sortN k n s) ≤ 131083 := by
  have := sortN_lt k n s h
  unfold bodyN
  split <;> omega
theorem sumB_le : ∀ (vs : List Trip), (∀ t ∈ vs, t.2.2.size ≤ 65536) → sumB vs ≤ 131083 * vs.length
  | [], _ => by simp [sumB]
  | (k, n, s) :: vs, h => by
    have ih := sumB_le vs fun t ht => h t (List.mem_cons_of_mem _ ht)
    have h0 := bodyN_le k n s (h (k, n, s) List.mem_cons_self)
    simp only [sumB, List.map_cons, List.sum_cons, List.length_cons] at *
    omega

def SumRel (base p : Nat) (w : World) (vs : List Trip) (h0 : List UInt8) (z i : Value) (wr : World) : Prop :=
  ∃ k : Nat, k ≤ vs.length ∧ i = .int .i64 k ∧ z = .int .u64 ((h0.length + sumB (vs.take k) : Nat) : Int) ∧ Acc base p [] wr h0 ∧ Below base w wr
def PutsRel (base p : Nat) (w : World) (vs : List Trip) (h0 : List UInt8) (i : Value) (wr : World) : Prop :=
  ∃ k : Nat, k ≤ vs.length ∧ i = .int .i64 k ∧ Acc base p [] wr (h0 ++ bodiesL (vs.take k)) ∧ Below base w wr
theorem acc_box (base : Nat) (X : World) (v : Value) (l : List UInt8) (ho : Own X base v l) (hb : base ≤ X.heap.size) : Acc base X.heap.size [] (X.alloc (.cells #[v] 62)) l := by
  refine ⟨v, ?_, ?_, ho.alloc _, hb, fun e => ?_, fun d hd => by simp at hd⟩
  · simp [go_sem]
  · simp [go_sem]
  · have := (ho.lt _ e).2
    omega

set_option maxRecDepth 100000 in
set_option maxHeartbeats 1000000 in
theorem Put_ok (A : Option Addr) (cap : Nat) (vs : List Trip) (w : World) (hR : RdR w w.heap.size A vs) (hl : vs.length ≤ 200)
    (hg : vs.any pBad = false) (hs : ∀ t ∈ vs, t.2.2.size ≤ 65536 ∧ In64 t.2.1) (hsum : (headL vs).length + sumB vs ≤ 1048576) :
    Calls Try.prog 27 #[.slice A vs.length cap] w fun e w' => ∃ v, e = .returned (.tuple #[v, .int .i64 0]) ∧ Own w' w.heap.size v (putL vs) ∧ Below w.heap.size w w' := by
  have HG := Lib.hid hg
  have hs1 : ∀ t ∈ vs, t.2.2.size ≤ 65536 := fun t ht => (hs t ht).1
  have HS := Lib.hid hs
  have HS1 := Lib.hid hs1
  have hhl := headL_len vs hl hs1
  have HPL := Lib.hid (show headL vs ++ bodiesL vs = putL vs from rfl)
  have hR0 := Lib.hid hR
  clear hg hs hs1
  go_enter Try.func27, Try.ntmps27
  go_wp2_with (go_at_call 48; refine (allRight_any A cap vs _ (fun t ht => by have := HS1.out t ht; omega) (by omega) hR).mono ?_; rintro e w1 ⟨rfl, hb1⟩; rw [HG.out])
  have HB := Lib.hid hb1
  have hR1 : RdR w1 w1.heap.size A vs := by
    intro hp
    obtain ⟨ad, e, hlt, hc⟩ := (hR.below hb1) hp
    exact ⟨ad, e, Nat.lt_of_lt_of_le hlt hb1.size, hc⟩
  clear hb1
  refine (head_any A cap vs w1 hR1 hl HS.out).mono ?_
  rintro e w2 ⟨v2, rfl, ho2, hb2⟩
  generalize hh : headL vs = h0 at *
  have HH := Lib.hid hh
  clear hh
  have HA := Lib.hid (acc_box w.heap.size w2 v2 h0 (ho2.mono HB.out.size) (Nat.le_trans HB.out.size hb2.size))
  have HB2 := Lib.hid (((HB.out.trans (hb2.mono HB.out.size))).alloc (Nat.le_trans HB.out.size hb2.size) (.cells #[v2] 62))
  obtain ⟨A2, cc2, rfl, _, _, _⟩ := ho2.form
  clear ho2 hb2 hR1
  go_wp2_with fail
  generalize w2.heap.size = p at *
  go_loopw [5, 24] (fun z i wr => SumRel w.heap.size p w vs h0 z i wr) (fun _ i _ => vs.length - (intOf i).toNat)
  case atStart => exact ⟨0, Nat.zero_le _, rfl, by simp [sumB], HA.out, HB2.out⟩
  case round =>
    obtain ⟨k, hk, rfl, rfl, ha, hbw⟩ := hrel
    have HX := Lib.hid hbw
    have HAx := Lib.hid ha
    by_cases hlt : k < vs.length
    · obtain ⟨⟨kk, n, s⟩, hget⟩ : ∃ t, vs[k]? = some t := ⟨vs[k], List.getElem?_eq_getElem hlt⟩
      obtain ⟨ad, rfl, hal, hcs⟩ := (hR.below hbw) (by omega)
      have hmem := List.mem_of_getElem? hget
      obtain ⟨c0, c1, c2⟩ := hcs k kk n s hget
      have HT := Lib.hid (sumB_take hget)
      obtain ⟨hsz, hn64⟩ := HS.out _ hmem
      have HN := Lib.hid hn64
      have hsn := sortN_lt kk n s hsz
      have hpn := bodyN_le kk n s hsz
      have hsm := sumB_le (vs.take k) (fun t ht => HS1.out t (List.mem_of_mem_take ht))
      have hlk : (vs.take k).length ≤ 200 := by rw [List.length_take]; omega
      have hsm2 : sumB (vs.take k) ≤ 26216600 := by omega
      have HA1 := Lib.hid (ha.alloc (box kk n s)).tail
      clear hget hcs hbw hmem hsm hlk ha hn64
      go_wp2_with (first
        | (go_at_call 55; refine (sortOf_any _ _ _ _ hsz HN.out).mono ?_; rintro e w3 ⟨rfl, hb⟩; have HB3 := Lib.hid (((HX.out.alloc HX.out.size (box kk n s))).trans (hb.mono (Nat.le_trans HX.out.size (by simp)))); have HA3 := Lib.hid (HA1.out.below hb); clear hb)
        | (go_at_call 54; refine (bodyLen_any _ _ (by omega)).mono ?_; rintro e w' ⟨rfl, rfl⟩))
      go_roundw
      case rel => exact ⟨k + 1, by omega, by go_num, by rw [HT.out]; go_num, HA3.out, HB3.out⟩
      case measure => simp [intOf]; omega
    · obtain rfl : k = vs.length := by omega
      rw [show vs.take vs.length = vs from List.take_length]
      generalize wr = w3 at *
      obtain ⟨v, h1, h2, h3, h4, h5, h6⟩ := ha
      have HO := Lib.hid h3
      have HS3 := Lib.hid (fun w' v' (ho : Own w' w.heap.size v' h0) (hb : Below w.heap.size w3 w') hk hv => Acc.stored (D := []) h1 h2 h4 h3 h5 h6 ho hb hk hv)
      obtain ⟨A3, cc3, rfl, _, _, _⟩ := h3.form
      clear h3 h5 h6 h4 hlt hbw
      go_wp2_with fail
      rw [show (h0.length : Int) + (sumB vs : Int) - (h0.length : Int) = (sumB vs : Int) by omega]
      refine (grow_any w.heap.size _ h0 (sumB vs) w3 HO.out (by omega) (by omega) HX.out.size).mono ?_
      rintro e w4 ⟨v4, rfl, ho4, hb4, hv4⟩
      obtain ⟨d1, d2, hA4, hK4⟩ := HS3.out w4 v4 ho4 (hb4.mono HX.out.size) (fun k hk _ => hb4.block k hk) hv4
      have HA4 := Lib.hid hA4
      have HB4 := Lib.hid (HX.out.trans hK4.1)
      obtain ⟨A4, cc4, rfl, _, _, _⟩ := ho4.form
      clear hA4 hK4 ho4 hb4 hv4 h1 h2 HS3 HO HA HAx
      go_wp2_with fail
      go_loopw [46] (fun i wr => PutsRel w.heap.size p w vs h0 i wr) (fun i _ => vs.length - (intOf i).toNat)
      case atStart => exact ⟨0, Nat.zero_le _, rfl, by simpa [bodiesL] using HA4.out, HB4.out⟩
      case round =>
        obtain ⟨j, hj, rfl, ha, hbw⟩ := hrel
        have HW := Lib.hid hbw
        by_cases hlt : j < vs.length
        · obtain ⟨⟨kk, n, s⟩, hget⟩ : ∃ t, vs[j]? = some t := ⟨vs[j], List.getElem?_eq_getElem hlt⟩
          obtain ⟨ad, rfl, hal, hcs⟩ := (hR.below hbw) (by omega)
          have hmem := List.mem_of_getElem? hget
          have hlen := bodiesL_len (vs.take j) (fun t ht => HS1.out t (List.mem_of_mem_take ht))
          have hlj : (vs.take j).length ≤ 200 := by rw [List.length_take]; omega
          obtain ⟨c0, c1, c2⟩ := hcs j kk n s hget
          have HT := Lib.hid (show h0 ++ bodiesL (vs.take (j + 1)) = (h0 ++ bodiesL (vs.take j)) ++ bodyL kk n s by rw [bodiesL_take hget, List.append_assoc])
          obtain ⟨hsz, hn64⟩ := HS.out _ hmem
          have HN := Lib.hid hn64
          have HA5 := Lib.hid (ha.alloc (box kk n s)).tail
          have HL := Lib.hid (show (h0 ++ bodiesL (vs.take j)).length ≤ 1080000000000 by rw [List.length_append]; omega)
          clear hget hcs hbw hmem ha hlen hlj hn64
          go_wp2_with fail
          refine (putBodyP w.heap.size p [] _ kk n s _ HA5.out HN.out (by omega) HL.out).mono ?_
          rintro e w5 ⟨rfl, hA6, hK6⟩
          have HA6 := Lib.hid hA6
          have HB6 := Lib.hid ((HW.out.alloc HW.out.size (box kk n s)).trans hK6.1)
          clear hA6 hK6
          go_wp2_with fail
          go_roundw
          case rel => exact ⟨j + 1, by omega, by go_num, by rw [HT.out]; exact HA6.out, HB6.out⟩
          case measure => simp [intOf]; omega
        · have e1 : vs.take j = vs := by rw [show j = vs.length by omega]; exact List.take_length
          rw [e1, HPL.out] at ha
          obtain ⟨v, h1, h2, h3, h4, h5, h6⟩ := ha
          have HO := Lib.hid h3
          obtain ⟨A5, cc5, rfl, _, _, _⟩ := h3.form
          clear h3 h5 h6 e1 hbw
          go_wp2_with fail
          go_ret2
          exact ⟨_, rfl, HO.out, HW.out⟩
end Go.Proofs.Ytdhdfeiobjmdaaa
