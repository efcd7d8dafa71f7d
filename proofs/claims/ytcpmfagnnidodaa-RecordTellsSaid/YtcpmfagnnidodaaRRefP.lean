/-
  The document's own Put (layer 3, record). Conditions: sizes as stated; a row that is right is at most a megabyte.
-/
import Derived.Test.YtcpmfagnnidodaaRRefA
import Derived.Test.YtcpmfagnnidodaaRRef
import Derived.Test.YtcpmfagnnidodaaRBackW
namespace Go.Proofs.Ytcpmfagnnidodaa
open Go.ChangeShapes Go.WideShapes Go.ChangeAt Go.RowKit
set_option linter.unusedVariables false

theorem refUint_int (A : Option Addr) (c : Nat) (l : List UInt8) (z : Int) (n : Nat) (w : World) (hz : z = n) (hl : l.length ≤ 274877906944) (hn : n < 18446744073709551616) (hA : Rd w w.heap.size A l) :
    Calls Try.prog 78 #[.slice A l.length c, .int .u64 z] w (RetOwn (l ++ Lib.uvarint n) w) := by
  subst hz
  exact refUint_any A c l n w hl hn hA

def RPutRel (w : World) (vs : List Trip) (out rest i : Value) (wr : World) : Prop :=
  ∃ k B : Nat, k ≤ vs.length ∧ i = .int .i64 k ∧ w.heap.size ≤ B ∧ B ≤ wr.heap.size ∧ Own wr B out (Lib.uvarint vs.length ++ sortsL (vs.take k)) ∧ Own wr w.heap.size rest (bodiesL (vs.take k)) ∧ (∀ g, rest.ownBlock = some g → g < B) ∧ Below w.heap.size w wr

set_option maxRecDepth 100000 in
set_option maxHeartbeats 1600000 in
theorem refPut_ok (A : Option Addr) (cap : Nat) (vs : List Trip) (w : World) (hR : RdR w w.heap.size A vs) (hl : vs.length ≤ 200) (hg : FineR vs) (hlen : (putL vs).length ≤ 1048576) :
    Calls Try.prog 31 #[.slice A vs.length cap] w fun e w' => ∃ v, e = .returned (.tuple #[v, .int .i64 0]) ∧ Own w' w.heap.size v (putL vs) ∧ Below w.heap.size w w' := by
  have HF := Lib.hid hg
  have hE := Lib.hid (show 0 = if 200 < vs.length then 3 else if vs.any pBad then 2 else 0 by rw [if_neg (by omega), hg.bad]; rfl)
  have HSZ := Lib.hid (show ∀ t ∈ vs, t.2.2.size ≤ 65536 from fun t ht => rt_size (HF.out t ht).1)
  have hu := Lib.uvarint_length64 (x := vs.length) (by omega)
  have HLEN := Lib.hid hlen
  clear hg hlen
  go_enter Try.func31, Try.ntmps31
  go_wp2_with fail
  refine (refRow_any A cap vs w hR (by omega) (fun t ht => by have := HSZ.out t ht; omega) 0 hE).mono ?_
  rintro e w1 ⟨rfl, hb1⟩
  have hs1 := hb1.size
  go_wp2_with fail
  refine (Varint_any vs.length w1 (by omega)).mono ?_
  rintro e w2 ⟨v2, rfl, ho2, hb2⟩
  have hs2 := hb2.size
  have HB2 := Lib.hid (hb1.trans (hb2.mono hs1))
  have HO2 := Lib.hid ho2
  clear hb1 hb2 ho2
  go_wp2_with fail
  go_loopw [5, 6, 7] (fun out rest i wr => RPutRel w vs out rest i wr) (fun _ _ i _ => vs.length - (intOf i).toNat)
  case atStart => exact ⟨0, w1.heap.size, by omega, rfl, by omega, by omega, by simpa [sortsL] using HO2.out, World.ownsRow_nil _ _ _ _, fun g hg => by simp [Value.ownBlock] at hg, HB2.out⟩
  case round =>
    obtain ⟨k, B, hk, rfl, hB1, hB2, hout, hrest, hapart, hbw⟩ := hrel
    have hszw := hbw.size
    by_cases hlt : k < vs.length
    · have hget : vs[k]? = some vs[k] := List.getElem?_eq_getElem hlt
      obtain ⟨ad, rfl, hal, hcs⟩ := (hR.below hbw) (by omega)
      have hsl := sortsL_len (vs.take k) (fun t ht => HSZ.out t (List.mem_of_mem_take ht))
      have hbl := bodiesL_len (vs.take k) (fun t ht => HSZ.out t (List.mem_of_mem_take ht))
      have hlk : (vs.take k).length ≤ 200 := by rw [List.length_take]; omega
      obtain ⟨hrt, hn64⟩ := HF.out _ (List.mem_of_getElem? hget)
      generalize vs[k] = t at *
      obtain ⟨kk, n, s⟩ := t
      obtain ⟨c0, c1, c2⟩ := hcs k kk n s hget
      have HT := Lib.hid (show Lib.uvarint vs.length ++ sortsL (vs.take (k + 1)) = (Lib.uvarint vs.length ++ sortsL (vs.take k)) ++ Lib.uvarint (sortN kk n s) by rw [sortsL_take hget, List.append_assoc])
      have HBO := Lib.hid (bodiesL_take hget)
      have hq1 : (Lib.uvarint vs.length ++ sortsL (vs.take k)).length ≤ 2010 := by rw [List.length_append]; omega
      have hq2 : (bodiesL (vs.take k)).length ≤ 13108800 := by have := Nat.mul_le_mul_left 65544 hlk; omega
      have hki : (k : Int) < vs.length := by omega
      have HN := Lib.hid hn64
      have HOUT := Lib.hid hout
      have HREST := Lib.hid hrest
      have HAP := Lib.hid hapart
      have HBW := Lib.hid hbw
      have hss : s.size ≤ 65536 := rt_size hrt
      obtain ⟨Ao, co, rfl, _, _, _⟩ := hout.form
      clear hget hcs hsl hbl hn64 hout hrest hapart hbw
      generalize hx1 : Lib.uvarint vs.length ++ sortsL (vs.take k) = x1 at *
      generalize hx2 : bodiesL (vs.take k) = x2 at *
      have HX1 := Lib.hid hx1
      have HX2 := Lib.hid hx2
      clear hx1 hx2
      have hrd : Rd wr wr.heap.size Ao x1 := by
        obtain ⟨A', c', e, _, _, hr⟩ := HOUT.out.form
        simp only [Value.slice.injEq] at e
        obtain ⟨rfl, _, _⟩ := e
        exact hr
      have HRD := Lib.hid hrd
      have hfin : ∀ (v9 rest : Value) (w8 w9 : World) (m : List UInt8), Below w.heap.size w w8 → bodiesL (vs.take (k + 1)) = m → Own w8 w.heap.size rest m → Own w9 w8.heap.size v9 (x1 ++ Lib.uvarint (sortN kk n s)) → Below w8.heap.size w8 w9 → RPutRel w vs v9 rest (.int .i64 ((k + 1 : Nat) : Int)) w9 := by
        intro v9 rest w8 w9 m hb8 hm hr8 ho9 hb9
        subst hm
        exact ⟨k + 1, w8.heap.size, by omega, rfl, hb8.size, hb9.size, by rw [HT.out]; exact ho9, hr8.below hb9, fun g hg => (hr8.lt g hg).2, hb8.trans (hb9.mono hb8.size)⟩
      have HFIN := Lib.hid hfin
      have HBX := Lib.hid (fun o => HBW.out.alloc HBW.out.size o)
      clear hrd hfin
      rcases hrt with ⟨rfl, rfl, hz⟩ | ⟨rfl, hz⟩ | ⟨rfl | rfl, rfl, _⟩
      · have HBD := Lib.hid (show bodiesL (vs.take (k + 1)) = x2 by rw [HBO.out, none_bytes s hz]; simp [bodyL])
        have HS := Lib.hid (show sortN 0 0 s = 0 from rfl)
        clear hz
        go_wp2_with fail
        refine (refUint_int Ao co x1 0 0 _ rfl (by omega) (by omega) ((HRD.out.alloc _).more (by simp))).mono ?_
        rintro e w9 ⟨v9, rfl, ho9, hb9⟩
        have HO9 := Lib.hid ho9
        have HB9 := Lib.hid hb9
        clear ho9 hb9
        go_wp2_with fail
        go_roundw
        case rel => exact HFIN.out v9 _ _ w9 x2 (HBX.out _) HBD.out (HREST.out.alloc _) (by rw [HS.out]; exact HO9.out) HB9.out
        case measure => simp [intOf]; omega
      · have HBD := Lib.hid (show bodiesL (vs.take (k + 1)) = x2 ++ beN (u64N n) (lenI n) by rw [HBO.out]; simp [bodyL])
        have hli := lenF_range 7 n
        have HS := Lib.hid (show sortN 1 n s = lenI n from rfl)
        have hl8 : lenI n ≤ 8 := hli.2
        have hlp : 1 ≤ lenI n := hli.1
        have HNB := Lib.hid (fun W => refNumber_any n (lenI n) W HN.out hl8)
        have hwd := fun W => refWide_any n W HN.out
        generalize hL : lenI n = L at *
        have HL := Lib.hid hL
        have HWD := Lib.hid hwd
        clear hL hwd hli hz
        go_wp2_with fail
        refine (HWD.out _).mono ?_
        rintro e w8 ⟨rfl, rfl⟩
        go_wp2_with fail
        have HC := Lib.hid (show (wr.alloc (.cells #[.int .u8 1, .int .i64 n, .string s] 44)).cell? ⟨wr.heap.size, 1, none⟩ = some (.int .i64 n) by simp [go_sem])
        have HRL := Lib.hid (fun g hg => (HREST.out.lt g hg).2)
        go_region_held3 (fun X => X.cell? ⟨wr.heap.size, 1, none⟩ = some (.int .i64 n))
          (first
            | exact HC.out
            | exact (HB7.out.cell (by simp)).trans HC.out
            | exact (World.cell?_of_block (HG8.out.block _ (by have := HB7.out.size; simp at this ⊢; omega) fun e => by have := HRL.out _ e.symm; simp at this)).trans ((HB7.out.cell (by simp)).trans HC.out))
          (first
            | (go_at_call 76; refine (HWD.out _).mono ?_; rintro e w8 ⟨rfl, rfl⟩)
            | (go_at_call 77; refine (HNB.out _).mono ?_; rintro e w7 ⟨A7, c7, rfl, hr7, _, _, hb7⟩; have HR7 := Lib.hid hr7; have HB7 := Lib.hid hb7; clear hr7 hb7)
            | (refine step_appBG rfl (.tmp 37) (.tmp 43) rfl w.heap.size u6 x2 rfl (((HREST.out.alloc _).drew).below HB7.out) A7 c7 _ (beN (u64N n) L) rfl rfl HR7.out (by rw [beN_length]; omega) (by have := HB7.out.size; simp at this; omega) ?_; intro v8 w8 ho8 hg8; have HO8 := Lib.hid ho8; have HG8 := Lib.hid hg8; clear ho8 hg8))
        go_wp2_with fail
        have HW7 := Lib.hid (show Below w.heap.size w w7 from (((HBX.out _).drew).trans (HB7.out.mono (by have := HBW.out.size; simp; omega))))
        have HW8 := Lib.hid (show Below w.heap.size w w8 from HW7.out.grown HG8.out HW7.out.size fun g hg => (HREST.out.lt g hg).1)
        have hrd8 : Rd w8 w8.heap.size Ao x1 := by
          have := ((((HOUT.out.alloc (.cells #[.int .u8 1, .int .i64 n, .string s] 44)).drew).below HB7.out).apart HG8.out HAP.out).form
          obtain ⟨A', c', e, _, _, hr⟩ := this
          simp only [Value.slice.injEq] at e
          obtain ⟨rfl, _, _⟩ := e
          exact hr
        have HRD8 := Lib.hid hrd8
        clear hrd8
        refine (refUint_any Ao co x1 L _ (by omega) (by omega) HRD8.out).mono ?_
        rintro e w9 ⟨v9, rfl, ho9, hb9⟩
        have HO9 := Lib.hid ho9
        have HB9 := Lib.hid hb9
        clear ho9 hb9
        go_wp2_with fail
        go_roundw
        case rel => exact HFIN.out v9 _ w8 w9 (x2 ++ beN (u64N n) L) HW8.out HBD.out HO8.out (by rw [HS.out]; exact HO9.out) HB9.out
        case measure => simp [intOf]; omega
      · have HBD := Lib.hid (show bodiesL (vs.take (k + 1)) = x2 ++ s.data.toList by rw [HBO.out]; simp [bodyL])
        have HS := Lib.hid (show sortN 2 0 s = 11 + 2 * s.size from rfl)
        go_wp2_with (at_builtin; refine wpList_appSG rfl (.tmp 65) (.tmp 67) rfl w.heap.size u6 x2 rfl (HREST.out.alloc _) s rfl (by omega) (by simp; omega) ?_; intro v8 w8 ho8 hg8; have HO8 := Lib.hid ho8; have HG8 := Lib.hid hg8; have hz8 := hg8.size; clear ho8 hg8)
        have HW8 := Lib.hid (show Below w.heap.size w w8 from (HBX.out _).grown HG8.out (by simp; omega) fun g hg => (HREST.out.lt g hg).1)
        have hrd8 : Rd w8 w8.heap.size Ao x1 := by
          have := ((HOUT.out.alloc (.cells #[.int .u8 2, .int .i64 0, .string s] 44)).apart HG8.out HAP.out).form
          obtain ⟨A', c', e, _, _, hr⟩ := this
          simp only [Value.slice.injEq] at e
          obtain ⟨rfl, _, _⟩ := e
          exact hr
        have HRD8 := Lib.hid hrd8
        clear hrd8
        refine (refUint_int Ao co x1 (2 * (s.size : Int) + 11) (11 + 2 * s.size) _ (by omega) (by omega) (by omega) HRD8.out).mono ?_
        rintro e w9 ⟨v9, rfl, ho9, hb9⟩
        have HO9 := Lib.hid ho9
        have HB9 := Lib.hid hb9
        clear ho9 hb9
        go_wp2_with fail
        go_roundw
        case rel => exact HFIN.out v9 _ w8 w9 (x2 ++ s.data.toList) HW8.out HBD.out HO8.out (by rw [HS.out]; exact HO9.out) HB9.out
        case measure => simp [intOf]; omega
      · have HBD := Lib.hid (show bodiesL (vs.take (k + 1)) = x2 ++ s.data.toList by rw [HBO.out]; simp [bodyL])
        have HS := Lib.hid (show sortN 3 0 s = 10 + 2 * s.size from rfl)
        go_wp2_with (at_builtin; refine wpList_appSG rfl (.tmp 53) (.tmp 55) rfl w.heap.size u6 x2 rfl (HREST.out.alloc _) s rfl (by omega) (by simp; omega) ?_; intro v8 w8 ho8 hg8; have HO8 := Lib.hid ho8; have HG8 := Lib.hid hg8; have hz8 := hg8.size; clear ho8 hg8)
        have HW8 := Lib.hid (show Below w.heap.size w w8 from (HBX.out _).grown HG8.out (by simp; omega) fun g hg => (HREST.out.lt g hg).1)
        have hrd8 : Rd w8 w8.heap.size Ao x1 := by
          have := ((HOUT.out.alloc (.cells #[.int .u8 3, .int .i64 0, .string s] 44)).apart HG8.out HAP.out).form
          obtain ⟨A', c', e, _, _, hr⟩ := this
          simp only [Value.slice.injEq] at e
          obtain ⟨rfl, _, _⟩ := e
          exact hr
        have HRD8 := Lib.hid hrd8
        clear hrd8
        refine (refUint_int Ao co x1 (2 * (s.size : Int) + 10) (10 + 2 * s.size) _ (by omega) (by omega) (by omega) HRD8.out).mono ?_
        rintro e w9 ⟨v9, rfl, ho9, hb9⟩
        have HO9 := Lib.hid ho9
        have HB9 := Lib.hid hb9
        clear ho9 hb9
        go_wp2_with fail
        go_roundw
        case rel => exact HFIN.out v9 _ w8 w9 (x2 ++ s.data.toList) HW8.out HBD.out HO8.out (by rw [HS.out]; exact HO9.out) HB9.out
        case measure => simp [intOf]; omega
    · obtain rfl : k = vs.length := by omega
      rw [List.take_length] at hout hrest
      have HOUT := Lib.hid hout
      have HREST := Lib.hid hrest
      have hlen := HLEN.out
      have hpl : putL vs = (Lib.uvarint vs.length ++ sortsL vs) ++ bodiesL vs := rfl
      have hll : (Lib.uvarint vs.length ++ sortsL vs).length + (bodiesL vs).length ≤ 1048576 := by rw [hpl, List.length_append] at hlen; exact hlen
      have HPL := Lib.hid hpl
      obtain ⟨A6, c6, rfl, _, _, hr6⟩ := hrest.form
      have HR6 := Lib.hid hr6
      generalize bodiesL vs = x2 at *
      generalize Lib.uvarint vs.length ++ sortsL vs = x1 at *
      have HBW := Lib.hid hbw
      obtain ⟨Ao, co, rfl, _, _, _⟩ := hout.form
      clear hlen hpl hr6 hout hrest hbw
      go_wp2_with (at_builtin; refine wpList_appBG rfl (.tmp 72) (.tmp 73) rfl B (.slice Ao x1.length co) x1 rfl HOUT.out A6 c6 _ x2 rfl rfl HR6.out (by omega) hB2 ?_; intro v8 w8 ho8 hg8; have HO8 := Lib.hid ho8; have HG8 := Lib.hid hg8; obtain ⟨A8, c8, rfl, _, _, _⟩ := ho8.form; clear ho8 hg8; have hl12 : (x1 ++ x2).length ≤ 1048576 := (by rw [List.length_append]; exact hll); generalize hx12 : x1 ++ x2 = x12 at *; have HX12 := Lib.hid hx12; clear hx12)
      go_ret2
      exact ⟨_, rfl, by rw [HPL.out]; exact HO8.out.mono hB1, HBW.out.grown HG8.out HBW.out.size fun g hg => Nat.le_trans hB1 (HOUT.out.lt g hg).1⟩
end Go.Proofs.Ytcpmfagnnidodaa
