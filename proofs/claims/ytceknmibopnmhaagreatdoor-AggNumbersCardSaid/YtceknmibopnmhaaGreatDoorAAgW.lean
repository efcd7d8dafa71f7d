/-
  Layer 8: AggAgain's walk. Conditions: sizes.
-/
import Derived.Test.YtceknmibopnmhaaGreatDoorANul
namespace Go.Proofs.YtceknmibopnmhaaGreatDoor
open Go.ChangeShapes Go.WideShapes Go.ChangeAt Go.RowKit Go.Maps Go.Sort Go.Shelf Go.ChangeMaps Go.Lib
set_option linter.unusedVariables false
set_option linter.unusedSimpArgs false

/-- a total stays what it is while older memory stays -/
theorem AccAt.keep {B a : Nat} {all d : Bool} {fin : Bool → List Trip → Trip × Int} {w w' : World} {L : List Trip} (h : AccAt B a all d fin w L) (hb : Below w.heap.size w w') : AccAt B a all d fin w' L := by
  obtain ⟨gb, cb, sf, ff, bs, rs, h1, h2, ⟨g, cb', g', cb'', St, e1, e2, e3, e4, e5, e6, hS, st⟩, h4, h5⟩ := h
  exact ⟨gb, cb, sf, ff, bs, rs, h1.on (hb.block a), h2.on (fun b _ hl => hb.block b hl), ⟨g, cb', g', cb'', St, e1, e2, e3, e4, e5, e6, hS, hS w w' L st (fun b _ hl => hb.block b hl)⟩, h4, fun b hb2 => ⟨Nat.lt_of_lt_of_le (h5 b hb2).1 hb.size, (h5 b hb2).2⟩⟩
theorem Reset_at {B a : Nat} {all d : Bool} {fin : Bool → List Trip → Trip × Int} {w : World} {L : List Trip} (h : AccAt B a all d fin w L) :
    Calls Tryz.prog 32 #[.pointer (some ⟨a, 0, none⟩)] w fun e w' => e = .returned (.tuple #[]) ∧ AccAt B a all d fin w' [] ∧ Keep (· = a) w w' := by
  obtain ⟨gb, cb, sf, ff, bs, rs, h1, h2, _⟩ := h
  exact Reset_ok h1 h2
/-- a list of bools that lies in memory -/
def RdB (w : World) (A : Option Addr) (l : List Bool) : Prop := l = [] ∨ ∃ ad, A = some ad ∧ ad.block < w.heap.size ∧ ∀ (j : Nat) (z : Bool), l[j]? = some z → w.cell? (ad.add j) = some (.bool z)
theorem RdB.on {w w' : World} {A : Option Addr} {l : List Bool} (h : RdB w A l) (hb : Below w.heap.size w w') : RdB w' A l := by
  rcases h with h | ⟨ad, h1, h2, h3⟩
  · exact .inl h
  · exact .inr ⟨ad, h1, Nat.lt_of_lt_of_le h2 hb.size, fun j z hj => by rw [hb.cell (by rw [addT]; exact h2)]; exact h3 j z hj⟩
theorem named_at7 (i : Nat) (hi : i < 7) : ∃ name all fin, namesL[i]? = some name ∧ Named name all fin ∧ (all = true → name = ⟨#[99, 111, 117, 110, 116, 42]⟩) := by
  match i, hi with
  | 0, _ => exact ⟨_, _, _, rfl, named_count, fun h => by cases h⟩
  | 1, _ => exact ⟨_, _, _, rfl, named_countAll, fun _ => rfl⟩
  | 2, _ => exact ⟨_, _, _, rfl, named_sum, fun h => by cases h⟩
  | 3, _ => exact ⟨_, _, _, rfl, named_total, fun h => by cases h⟩
  | 4, _ => exact ⟨_, _, _, rfl, named_min, fun h => by cases h⟩
  | 5, _ => exact ⟨_, _, _, rfl, named_max, fun h => by cases h⟩
  | 6, _ => exact ⟨_, _, _, rfl, named_join, fun h => by cases h⟩
def AgAt (m B a : Nat) (all d : Bool) (fin : Bool → List Trip → Trip × Int) (wn : World) (L : Nat → List Trip) (v : Value) (wr : World) : Prop :=
  ∃ j : Nat, j ≤ m ∧ v = .int .i64 (j : Int) ∧ AccAt B a all d fin wr (L j) ∧ Below wn.heap.size wn wr
set_option maxRecDepth 100000 in
set_option maxHeartbeats 4000000 in
theorem again_walk (q : Int) (d : Bool) (A : Option Addr) (c : Nat) (vs : List Trip) (AB : Option Addr) (cb : Nat) (fs : List Bool) (w : World) (hW : Wd w) (hq : 0 ≤ q ∧ q ≤ 255) (hR : RdT w A vs) (hF : RdB w AB fs)
    (hsz : ∀ t ∈ vs, t.2.2.size ≤ 9223372036854775807) (hcap : vs.length ≤ 9223372036854775807) (hc : vs.length ≤ c) (h64 : ∀ t ∈ vs, In64 t.2.1) (hfl : fs.length ≤ 9223372036854775807) :
    Calls Tryz.prog 9 #[.int .u8 q, .bool d, .slice A vs.length c, .slice AB fs.length cb] w fun e w' => e = .returned (.bool true) ∧ Below w.heap.size w w' := by
  have HRG := Lib.hid (right8 A c vs w hR hsz hcap)
  cases h : rightA vs
  · rw [h] at HRG
    clear hR hsz h64
    go_enter Tryz.func9, Tryz.ntmps9
    go_wp2_with (go_at_call 39; refine HRG.out.mono ?_; rintro e w1 ⟨rfl, hb⟩)
    refine (awake_any w1 (hW.on hb)).mono ?_
    rintro e w2 ⟨rfl, hb2⟩
    go_wp2_with fail
    go_ret
    exact ⟨rfl, hb.trans (hb2.mono hb.size)⟩
  · rw [h] at HRG
    obtain ⟨hl, hgd⟩ := good_of h h64
    by_cases h40 : 40 < vs.length
    · have h40z : (40 : Int) < (vs.length : Int) := by omega
      clear hR hsz h64 hgd
      go_enter Tryz.func9, Tryz.ntmps9
      go_wp2_with (go_at_call 39; refine HRG.out.mono ?_; rintro e w1 ⟨rfl, hb⟩)
      refine (awake_any w1 (hW.on hb)).mono ?_
      rintro e w2 ⟨rfl, hb2⟩
      go_wp2_with fail
      go_ret
      exact ⟨rfl, hb.trans (hb2.mono hb.size)⟩
    have h40z : ¬ (40 : Int) < (vs.length : Int) := by omega
    have hq7 := Int.emod_nonneg q (show (7 : Int) ≠ 0 by decide)
    have hq7' := Int.emod_lt_of_pos q (show (0 : Int) < 7 by decide)
    obtain ⟨i, hi⟩ : ∃ i : Nat, q % 7 = (i : Int) := ⟨(q % 7).toNat, by omega⟩
    have hi7 : i < 7 := by omega
    have hi2 : q.tmod 7 = (i : Int) := by rw [Int.tmod_eq_emod_of_nonneg hq.1]; exact hi
    obtain ⟨name, all, fin, hnm, hN, hA⟩ := named_at7 i hi7
    have HR := Lib.hid hR
    have HF := Lib.hid hF
    have HW := Lib.hid hW
    have HGD := Lib.hid hgd
    have HNM := Lib.hid hnm
    have hi7z : (i : Int) < 7 := by omega
    clear hR hW hsz h64 hgd h hq7 hq7' hnm hF
    obtain ⟨hq0, hq1⟩ := hq
    cases had : (all && d)
    · obtain ⟨⟨⟨k, z, s⟩, r⟩, hfin⟩ : ∃ x, fin d (valsOf all vs) = x := ⟨_, rfl⟩
      have HOF := Lib.hid (fun (w : World) (hW : Wd w) (hR : RdT w A vs) => of_any hN had w hW A c vs hR HGD.out (by omega) hc)
      rw [hfin] at HOF
      have HNEW := Lib.hid (fun (w : World) => New_ok (B := w.heap.size) hN had w (Nat.le_refl _))
      have HFIN := Lib.hid hfin
      clear hN hA had hfin
      go_enter Tryz.func9, Tryz.ntmps9
      go_wp2_with fail
      refine HRG.out.mono ?_
      rintro e w1 ⟨rfl, hb1⟩
      have HB1 := Lib.hid hb1
      clear hb1
      go_wp2_with (go_at_call 43; refine (names_at _).mono ?_; rintro e w2 ⟨rfl, hc2, hb2⟩; have hcell := hc2 _ _ HNM.out; have HB2 := Lib.hid hb2; clear hb2 hc2)
      have HB3 := Lib.hid (HB1.out.trans (HB2.out.mono HB1.out.size))
      refine (HOF.out w2 (HW.out.on HB3.out) (HR.out.on HB3.out)).mono ?_
      rintro e w3 ⟨rfl, hb3⟩
      have HB4 := Lib.hid (HB3.out.trans (hb3.mono HB3.out.size))
      clear hb3 hcell
      go_upto_region 5 with (fail)
      obtain ⟨w4, hw4⟩ : ∃ w4, w3.alloc (.cells #[.int .u8 k, .int .i64 z, .string s] 24) = w4 := ⟨_, rfl⟩
      rw [hw4]
      have hal4 : Below w3.heap.size w3 w4 := by rw [← hw4]; exact (Below.refl _ _).alloc (Nat.le_refl _) _
      have b4 : BoxT w4 w3.heap.size (k, z, s) := by rw [← hw4]; exact BoxT.new w3 (k, z, s)
      clear hw4
      have HB5 := Lib.hid (HB4.out.trans (hal4.mono HB4.out.size))
      have HX := Lib.hid b4
      clear hal4 b4
      generalize w3.heap.size = g10 at *
      go_wp2_with fail
      refine (HNEW.out w4).mono ?_
      rintro e w5 ⟨a, rfl, hat, hla, hb5⟩
      have HAT := Lib.hid hat
      have HLA := Lib.hid hla
      have HB6 := Lib.hid hb5
      clear hat hb5 HNEW hla
      go_wp2_with fail
      go_loopw [14] (fun v wr => AgAt 2 w4.heap.size a all d fin w4 (fun _ => []) v wr) (fun v _ => 2 - (intOf v).toNat)
      case atStart => exact ⟨0, by omega, rfl, HAT.out, HB6.out⟩
      case round =>
        obtain ⟨m, hm, rfl, hac, hb⟩ := hrel
        by_cases hlt : m < 2
        · have HM := Lib.hid hlt
          have hm2 : (m : Int) < 2 := by omega
          have HAC := Lib.hid hac
          have HBO := Lib.hid hb
          clear hac hb hlt
          go_wp2_with fail
          go_loopw [15] (fun v wr => AgAt vs.length w4.heap.size a all d fin w4 (fun j => valsOf all (vs.take j)) v wr) (fun v _ => vs.length - (intOf v).toNat)
          case atStart => exact ⟨0, Nat.zero_le _, rfl, HAC.out, HBO.out⟩
          case round =>
            obtain ⟨j, hj, rfl, hac, hb⟩ := hrel
            by_cases hlt : j < vs.length
            · obtain ⟨⟨k', z', s'⟩, ht⟩ : ∃ t, vs[j]? = some t := ⟨_, List.getElem?_eq_getElem hlt⟩
              have HBW := Lib.hid (HB5.out.trans (hb.mono HB5.out.size))
              rcases HR.out.on HBW.out with hrd | ⟨b, off, hAe, hrd⟩
              · subst hrd; simp at hlt
              subst hAe
              obtain ⟨y0, y1, y2⟩ := hrd.2 j k' z' s' ht
              have hlen : (valsOf all (vs.take j)).length < 100000 := by
                have h1 := valsOf_len all (vs.take j)
                rw [List.length_take] at h1
                omega
              have HST := Lib.hid (Step_ok hac (k', z', s') (HGD.out _ (List.mem_of_getElem? ht)) hlen ⟨w4, HW.out.on HB5.out, Nat.le_refl _, hb⟩)
              have HSN := Lib.hid (show valsOf all (vs.take (j + 1)) = oneMore all (valsOf all (vs.take j)) (k', z', s') by
                rw [List.take_add_one, ht, Option.toList_some, valsOf_snoc])
              have HBJ := Lib.hid hb
              have HJ := Lib.hid (show j + 1 ≤ vs.length from hlt)
              have HL1 := Lib.hid (show (valsOf all (vs.take (j + 1))).length ≤ 100000 by
                have h1 := valsOf_len all (vs.take (j + 1))
                rw [List.length_take] at h1
                omega)
              clear hac hb hrd ht hlen
              go_wp2_with fail
              clear y0 y1 y2
              refine HST.out.mono ?_
              rintro e w7 ⟨rfl, hac, hk⟩
              rw [← HSN.out] at hac
              have HB7 := Lib.hid (HBJ.out.trans (hk.below HBJ.out.size fun k hk => by have := HLA.out; omega))
              have HAC7 := Lib.hid hac
              clear hac hk
              by_cases hjf : j < fs.length
              · obtain ⟨f, hf⟩ : ∃ f, fs[j]? = some f := ⟨_, List.getElem?_eq_getElem hjf⟩
                have hjfz : (j : Int) < (fs.length : Int) := by omega
                rcases HF.out.on (HB5.out.trans (HB7.out.mono HB5.out.size)) with hrd | ⟨adf, hAe, _, hrd⟩
                · subst hrd; simp at hjf
                subst hAe
                have y0 := hrd j f hf
                clear hrd hf
                cases f
                · go_wp2_with fail
                  exact ⟨⟨j + 1, HJ.out, by go_num, HAC7.out, HB7.out⟩, by have := HJ.out; simp [intOf]; omega⟩
                · have HFN := Lib.hid (Final_ok HAC7.out HL1.out ⟨w4, HW.out.on HB5.out, Nat.le_refl _, HB7.out⟩)
                  go_wp2_with fail
                  refine HFN.out.mono ?_
                  rintro e w8 ⟨rfl, hb8⟩
                  have HAC8 := Lib.hid (HAC7.out.keep hb8)
                  have HB8 := Lib.hid (HB7.out.trans (hb8.mono HB7.out.size))
                  clear hb8
                  go_wp2_with fail
                  exact ⟨⟨j + 1, HJ.out, by go_num, HAC8.out, HB8.out⟩, by have := HJ.out; simp [intOf]; omega⟩
              · have hjfz : ¬ (j : Int) < (fs.length : Int) := by omega
                go_wp2_with fail
                exact ⟨⟨j + 1, HJ.out, by go_num, HAC7.out, HB7.out⟩, by have := HJ.out; simp [intOf]; omega⟩
            · obtain rfl : j = vs.length := by omega
              have q1 : ¬ ((vs.length : Int) < (vs.length : Int)) := by omega
              rw [show (fun j => valsOf all (vs.take j)) vs.length = valsOf all vs from by simp] at hac
              have HAC7 := Lib.hid hac
              have HB7 := Lib.hid hb
              clear hac hb
              go_wp2_with fail
              have HFIX := Lib.hid (show (valsOf all vs).length ≤ 100000 by have := valsOf_len all vs; omega)
              go_loopw [16] (fun v wr => AgAt 2 w4.heap.size a all d fin w4 (fun _ => valsOf all vs) v wr) (fun v _ => 2 - (intOf v).toNat)
              case atStart => exact ⟨0, by omega, rfl, HAC7.out, HB7.out⟩
              case round =>
                obtain ⟨t, ht, rfl, hac, hb⟩ := hrel
                by_cases hlt : t < 2
                · have hfo := Final_ok hac HFIX.out ⟨w4, HW.out.on HB5.out, Nat.le_refl _, hb⟩
                  rw [HFIN.out] at hfo
                  have HFN := Lib.hid hfo
                  have HT := Lib.hid hlt
                  have ht2 : (t : Int) < 2 := by omega
                  have HBJ := Lib.hid hb
                  have HAC := Lib.hid hac
                  clear hac hb hfo hlt
                  go_wp2_with fail
                  refine HFN.out.mono ?_
                  rintro e w8 ⟨rfl, hb8⟩
                  have HAC8 := Lib.hid (HAC.out.keep hb8)
                  have HB8 := Lib.hid (HBJ.out.trans (hb8.mono HBJ.out.size))
                  have HX8 := Lib.hid (HX.out.on HB8.out)
                  clear hb8
                  go_upto_region 22 with (fail)
                  obtain ⟨w9, hw9⟩ : ∃ w9, w8.alloc (.cells #[.int .u8 k, .int .i64 z, .string s] 24) = w9 := ⟨_, rfl⟩
                  rw [hw9]
                  have hal9 : Below w8.heap.size w8 w9 := by rw [← hw9]; exact (Below.refl _ _).alloc (Nat.le_refl _) _
                  have b9 : BoxT w9 w8.heap.size (k, z, s) := by rw [← hw9]; exact BoxT.new w8 (k, z, s)
                  clear hw9
                  have HB9 := Lib.hid (HB8.out.trans (hal9.mono HB8.out.size))
                  have HAC9 := Lib.hid (HAC8.out.keep hal9)
                  obtain ⟨x0, x1, x2⟩ := (HX8.out.on hal9).cells
                  obtain ⟨y0, y1, y2⟩ := b9.cells
                  dsimp only at x0 x1 x2 y0 y1 y2
                  clear hal9 b9
                  generalize w8.heap.size = g17 at *
                  go_wp2_with fail
                  exact ⟨⟨t + 1, HT.out, by go_num, HAC9.out, HB9.out⟩, by have := HT.out; simp [intOf]; omega⟩
                · have ht2 : ¬ (t : Int) < 2 := by omega
                  have HRS := Lib.hid (Reset_at hac)
                  have HBJ := Lib.hid hb
                  clear hac hb hlt
                  go_wp2_with fail
                  refine HRS.out.mono ?_
                  rintro e w8 ⟨rfl, hac8, hk⟩
                  have HAC8 := Lib.hid hac8
                  have HB8 := Lib.hid (HBJ.out.trans (hk.below HBJ.out.size fun k hk => by have := HLA.out; omega))
                  clear hac8 hk
                  go_wp2_with fail
                  exact ⟨⟨m + 1, HM.out, by go_num, HAC8.out, HB8.out⟩, by have := HM.out; simp [intOf]; omega⟩
        · have hm2 : ¬ (m : Int) < 2 := by omega
          have HB9 := Lib.hid (HB5.out.trans (hb.mono HB5.out.size))
          clear hac hb hlt
          go_wp2_with fail
          refine (awake_any _ (HW.out.on HB9.out)).mono ?_
          rintro e wz ⟨rfl, hbz⟩
          have HBZ := Lib.hid (HB9.out.trans (hbz.mono HB9.out.size))
          clear hbz
          go_wp2_with fail
          go_ret
          exact ⟨rfl, HBZ.out⟩
    · obtain ⟨rfl, rfl⟩ : all = true ∧ d = true := by simpa using had
      obtain rfl := hA rfl
      have HOF := Lib.hid (fun (w : World) (v : Value) => of_dis hN w v)
      have HNEW := Lib.hid (fun (w : World) => New_dis hN w)
      clear hN hA had
      go_enter Tryz.func9, Tryz.ntmps9
      go_wp2_with fail
      refine HRG.out.mono ?_
      rintro e w1 ⟨rfl, hb1⟩
      have HB1 := Lib.hid hb1
      clear hb1
      go_wp2_with (go_at_call 43; refine (names_at _).mono ?_; rintro e w2 ⟨rfl, hc2, hb2⟩; have hcell := hc2 _ _ HNM.out; have HB2 := Lib.hid hb2; clear hb2 hc2)
      have HB3 := Lib.hid (HB1.out.trans (HB2.out.mono HB1.out.size))
      refine (HOF.out w2 _).mono ?_
      rintro e w3 ⟨rfl, hb3⟩
      have HB4 := Lib.hid (HB3.out.trans (hb3.mono HB3.out.size))
      clear hb3 hcell
      go_upto_region 5 with (fail)
      have HB5 := Lib.hid (HB4.out.alloc HB4.out.size (.cells #[.int .u8 0, .int .i64 0, .string ⟨#[]⟩] 24))
      go_wp2_with fail
      refine (HNEW.out _).mono ?_
      rintro e w5 ⟨rfl, hb5⟩
      have HB6 := Lib.hid (HB5.out.trans (hb5.mono HB5.out.size))
      clear hb5
      go_wp2_with (go_at_call 34; refine (awake_any _ (HW.out.on HB6.out)).mono ?_; rintro e wz ⟨rfl, hbz⟩; have HBZ := Lib.hid (HB6.out.trans (hbz.mono HB6.out.size)); clear hbz)
      go_ret
      exact ⟨rfl, HBZ.out⟩
end Go.Proofs.YtceknmibopnmhaaGreatDoor
