/-
  record.Put and record.Key of rows that are right, but too long: ErrLong. Conditions: sizes as stated.
-/
import Derived.Test.YtdhdfeiobjmdaaaRPutR
import Derived.Test.YtdhdfeiobjmdaaaRKey
namespace Go.Proofs.Ytdhdfeiobjmdaaa
open Go.ChangeShapes Go.WideShapes Go.ChangeAt Go.RowKit
set_option linter.unusedVariables false

set_option maxRecDepth 100000 in
set_option maxHeartbeats 1000000 in
theorem Put_long (A : Option Addr) (cap : Nat) (vs : List Trip) (w : World) (hR : RdR w w.heap.size A vs) (hl : vs.length ≤ 200)
    (hg : vs.any pBad = false) (hs : ∀ t ∈ vs, t.2.2.size ≤ 65536 ∧ In64 t.2.1) (hsum : 1048576 < (headL vs).length + sumB vs) :
    Calls Try.prog 27 #[.slice A vs.length cap] w fun e w' => e = .returned (.tuple #[.slice none 0 0, .int .i64 3]) ∧ Below w.heap.size w w' := by
  have HG := Lib.hid hg
  have hs1 : ∀ t ∈ vs, t.2.2.size ≤ 65536 := fun t ht => (hs t ht).1
  have HS := Lib.hid hs
  have HS1 := Lib.hid hs1
  have hhl := headL_len vs hl hs1
  have HPL := Lib.hid (show headL vs ++ bodiesL vs = putL vs from rfl)
  have hR0 := Lib.hid hR
  clear hg hs hs1
  go_enter Try.func27, Try.ntmps27
  go_wp2_with (go_at_call 48; refine (allRight_any A cap vs _ (fun t ht => by have := HS1.out t ht; omega) (by omega) hR).mono ?_; rintro e w1 ⟨rfl, hb1⟩; rw [HG.out])
  have HB := Lib.hid hb1
  have hR1 : RdR w1 w1.heap.size A vs := by
    intro hp
    obtain ⟨ad, e, hlt, hc⟩ := (hR.below hb1) hp
    exact ⟨ad, e, Nat.lt_of_lt_of_le hlt hb1.size, hc⟩
  clear hb1
  refine (head_any A cap vs w1 hR1 hl HS.out).mono ?_
  rintro e w2 ⟨v2, rfl, ho2, hb2⟩
  generalize hh : headL vs = h0 at *
  have HH := Lib.hid hh
  clear hh
  have HA := Lib.hid (acc_box w.heap.size w2 v2 h0 (ho2.mono HB.out.size) (Nat.le_trans HB.out.size hb2.size))
  have HB2 := Lib.hid (((HB.out.trans (hb2.mono HB.out.size))).alloc (Nat.le_trans HB.out.size hb2.size) (.cells #[v2] 62))
  obtain ⟨A2, cc2, rfl, _, _, _⟩ := ho2.form
  clear ho2 hb2 hR1
  go_wp2_with fail
  generalize w2.heap.size = p at *
  go_loopw [5, 24] (fun z i wr => SumRel w.heap.size p w vs h0 z i wr) (fun _ i _ => vs.length - (intOf i).toNat)
  case atStart => exact ⟨0, Nat.zero_le _, rfl, by simp [sumB], HA.out, HB2.out⟩
  case round =>
    obtain ⟨k, hk, rfl, rfl, ha, hbw⟩ := hrel
    have HX := Lib.hid hbw
    have HAx := Lib.hid ha
    by_cases hlt : k < vs.length
    · obtain ⟨⟨kk, n, s⟩, hget⟩ : ∃ t, vs[k]? = some t := ⟨vs[k], List.getElem?_eq_getElem hlt⟩
      obtain ⟨ad, rfl, hal, hcs⟩ := (hR.below hbw) (by omega)
      have hmem := List.mem_of_getElem? hget
      obtain ⟨c0, c1, c2⟩ := hcs k kk n s hget
      have HT := Lib.hid (sumB_take hget)
      obtain ⟨hsz, hn64⟩ := HS.out _ hmem
      have HN := Lib.hid hn64
      have hsn := sortN_lt kk n s hsz
      have hpn := bodyN_le kk n s hsz
      have hsm := sumB_le (vs.take k) (fun t ht => HS1.out t (List.mem_of_mem_take ht))
      have hlk : (vs.take k).length ≤ 200 := by rw [List.length_take]; omega
      have hsm2 : sumB (vs.take k) ≤ 26216600 := by omega
      have HA1 := Lib.hid (ha.alloc (box kk n s)).tail
      clear hget hcs hbw hmem hsm hlk ha hn64
      go_wp2_with (first
        | (go_at_call 55; refine (sortOf_any _ _ _ _ hsz HN.out).mono ?_; rintro e w3 ⟨rfl, hb⟩; have HB3 := Lib.hid (((HX.out.alloc HX.out.size (box kk n s))).trans (hb.mono (Nat.le_trans HX.out.size (by simp)))); have HA3 := Lib.hid (HA1.out.below hb); clear hb)
        | (go_at_call 54; refine (bodyLen_any _ _ (by omega)).mono ?_; rintro e w' ⟨rfl, rfl⟩))
      go_roundw
      case rel => exact ⟨k + 1, by omega, by go_num, by rw [HT.out]; go_num, HA3.out, HB3.out⟩
      case measure => simp [intOf]; omega
    · obtain rfl : k = vs.length := by omega
      rw [show vs.take vs.length = vs from List.take_length]
      generalize wr = w3 at *
      obtain ⟨v, h1, h2, h3, h4, h5, h6⟩ := ha
      have HO := Lib.hid h3
      have HS3 := Lib.hid (fun w' v' (ho : Own w' w.heap.size v' h0) (hb : Below w.heap.size w3 w') hk hv => Acc.stored (D := []) h1 h2 h4 h3 h5 h6 ho hb hk hv)
      obtain ⟨A3, cc3, rfl, _, _, _⟩ := h3.form
      clear h3 h5 h6 h4 hlt hbw
      have hbig : (1048576 : Int) < (h0.length : Int) + (sumB vs : Int) := by omega
      go_wp2_with fail
      go_ret2
      exact ⟨rfl, HX.out⟩

set_option maxRecDepth 100000 in
set_option maxHeartbeats 1000000 in
theorem Key_long (A : Option Addr) (cap : Nat) (vs : List Trip) (F : Option Addr) (fcap : Nat) (ds : List Bool) (w : World) (hR : RdR w w.heap.size A vs) (hF : RdF w w.heap.size F ds) (hl : vs.length ≤ 200) (hd : ds.length = vs.length)
    (hg : vs.any pBad = false) (hs : ∀ t ∈ vs, t.2.2.size ≤ 65536 ∧ In64 t.2.1) (hsum : 1048576 < sumP vs) :
    Calls Try.prog 26 #[.slice A vs.length cap, .slice F ds.length fcap] w fun e w' => e = .returned (.tuple #[.slice none 0 0, .int .i64 3]) ∧ Below w.heap.size w w' := by
  have HD := Lib.hid hd
  have HG := Lib.hid hg
  have hs1 : ∀ t ∈ vs, t.2.2.size ≤ 65536 := fun t ht => (hs t ht).1
  have HS := Lib.hid hs
  have HS1 := Lib.hid hs1
  have HSum := Lib.hid hsum
  have hall := sumP_le vs hs1
  clear hg hs hsum
  rw [hd] 
  clear hd
  go_enter Try.func26, Try.ntmps26
  go_wp2_with (go_at_call 48; refine (allRight_any A cap vs _ (fun t ht => by have := HS1.out t ht; omega) (by omega) hR).mono ?_; rintro e w1 ⟨rfl, hb1⟩; rw [HG.out])
  have HB := Lib.hid hb1
  clear hb1
  go_loopw [6, 28] (fun z i wr => SizeRel w vs z i wr) (fun _ i _ => vs.length - (intOf i).toNat)
  case atStart => exact ⟨0, Nat.zero_le _, rfl, by simp [sumP], HB.out⟩
  case round =>
    obtain ⟨k, hk, rfl, rfl, hbw⟩ := hrel
    have HX := Lib.hid hbw
    by_cases hlt : k < vs.length
    · have hget : vs[k]? = some vs[k] := List.getElem?_eq_getElem hlt
      obtain ⟨ad, rfl, hal, hcs⟩ := (hR.below hbw) (by omega)
      have hmem := List.mem_of_getElem? hget
      generalize vs[k] = t at *
      obtain ⟨kk, n, s⟩ := t
      obtain ⟨c0, c1, c2⟩ := hcs k kk n s hget
      have HT := Lib.hid (sumP_take hget)
      have hsz : s.size ≤ 65536 := HS1.out _ hmem
      have hpn := partN_le kk s hsz
      have hsm := sumP_le (vs.take k) (fun t ht => HS1.out t (List.mem_of_mem_take ht))
      have hlk : (vs.take k).length ≤ 200 := by rw [List.length_take]; omega
      have hsm2 : sumP (vs.take k) ≤ 26216000 := by omega
      clear hget hcs hbw hmem hsm hlk
      go_wp2_with (go_at_call 49; refine (partLen_any _ _ _ _ (by omega)).mono ?_; rintro e w2 ⟨rfl, hb⟩; have HB2 := Lib.hid (((HX.out.alloc HX.out.size (box kk n s))).trans (hb.mono (Nat.le_trans HX.out.size (by simp)))); clear hb)
      go_roundw
      case rel => exact ⟨k + 1, by omega, by go_num, by rw [HT.out]; go_num, HB2.out⟩
      case measure => simp [intOf]; omega
    · obtain rfl : k = vs.length := by omega
      rw [show vs.take vs.length = vs from List.take_length]
      have hsm := HSum.out
      have hbig : (1048576 : Int) < (sumP vs : Int) := by omega
      go_wp2_with fail
      go_ret2
      exact ⟨rfl, HX.out⟩
end Go.Proofs.Ytdhdfeiobjmdaaa
