/-
  BytesPowers returns true for every two numbers, and changes nothing that was there. No conditions.
-/
import Derived.Test.YtnmlbkgkamfioaaClose
import Derived.Test.YtnmlbkgkamfioaaPowMath
import Derived.Deep.RegionHeld
import Derived.Laws.Concat
namespace Go.Proofs.Ytnmlbkgkamfioaa
open Go.ChangeShapes Go.WideShapes Go.ChangeAt Go.RowKit
set_option linter.unusedVariables false

def ManyRel (n : Nat) (m k : Value) : Prop := ∃ i : Nat, 1 ≤ i ∧ i ≤ 10 ∧ k = .int .i64 i ∧ m = .int .i64 (min (Lib.uvarint n).length i : Nat)

theorem shl_one (i : Nat) (h : i ≤ 9) : IntKind.u64.wrap ((2 : Int) ^ (7 * i)) = ((128 ^ i : Nat) : Int) := by
  have hp := pow_le_63 h
  have e : ((2 : Int) ^ (7 * i)) = ((2 ^ (7 * i) : Nat) : Int) := by simp
  rw [pow128, e]
  generalize 2 ^ (7 * i) = q at *
  rw [IntKind.wrap_u64]
  omega

def LessRel (n m : Nat) (w : World) (less k : Value) (wr : World) : Prop :=
  ∃ j : Nat, j ≤ (Lib.uvarint n).length ∧ k = .int .i64 ((j : Int) - 1) ∧ less = .bool false ∧ (Lib.uvarint n).drop j = (Lib.uvarint m).drop j ∧ Below w.heap.size w wr

set_option maxHeartbeats 4000000 in
theorem powers_walk (a b : Int) (n m : Nat) (ha : a = n) (hb : b = m) (hn : n < 18446744073709551616) (hm : m < 18446744073709551616) (w : World) :
    Calls Try.prog 7 #[.int .u64 a, .int .u64 b] w fun e w' => e = .returned (.bool true) ∧ Below w.heap.size w w' := by
  have hD1 := Lib.uvarint_pos n
  have hD2 := Lib.uvarint_length64 hn
  have hE1 := Lib.uvarint_pos m
  have hE2 := Lib.uvarint_length64 hm
  have HA := Lib.hid ha
  have HB := Lib.hid hb
  have HN64 := Lib.hid hn
  have HM64 := Lib.hid hm
  have ha0 : 0 ≤ a := by omega
  have ha1 : a ≤ 18446744073709551615 := by omega
  have hb0 : 0 ≤ b := by omega
  have hb1' : b ≤ 18446744073709551615 := by omega
  clear ha hb hn hm
  go_enter Try.func7, Try.ntmps7
  go_wp2_with fail
  refine (Uint_int none 0 [] a n _ HA.out (by simp) HN64.out Rd.nil).mono ?_
  rintro e w1 ⟨v1, rfl, ho1, hb1⟩
  rw [List.nil_append] at ho1
  go_wp2_with fail
  refine (Uint_int none 0 [] b m _ HB.out (by simp) HM64.out Rd.nil).mono ?_
  rintro e w2 ⟨v2, rfl, ho2, hb2⟩
  rw [List.nil_append] at ho2
  obtain ⟨A1, c1, rfl, hx1, hx2, hr1'⟩ := ho1.form
  obtain ⟨A2, c2, rfl, hy1, hy2, hr2⟩ := ho2.form
  have hr1 := hr1'.on hb2
  have hw2 := hb1.trans (hb2.mono hb1.size)
  clear ho1 ho2 hr1' hb1 hb2
  go_wp2_with fail
  go_loop [7, 8] (fun m k => ManyRel n m k) (fun _ k => 10 - (intOf k).toNat)
  case atStart => exact ⟨1, by omega, by omega, rfl, by rw [Nat.min_eq_right hD1]; rfl⟩
  case round =>
    obtain ⟨i, hi1, hi2, rfl, rfl⟩ := hrel
    by_cases hlt : i < 10
    · have HG := Lib.hid (len_gt i n)
      have HS := Lib.hid (shl_one i (by omega))
      go_wp2_with fail
      · have h : IntKind.u64.wrap (2 ^ (7 * i)) ≤ a := by assumption
        rw [HS.out, HA.out] at h
        have hg := HG.out
        go_round
        case rel => exact ⟨i + 1, by omega, by omega, by go_num, by go_num⟩
        case measure => simp [intOf]; omega
      · have h : a < IntKind.u64.wrap (2 ^ (7 * i)) := by assumption
        rw [HS.out, HA.out] at h
        have hg := HG.out
        go_round
        case rel => exact ⟨i + 1, by omega, by omega, by go_num, by go_num⟩
        case measure => simp [intOf]; omega
    · obtain rfl : i = 10 := by omega
      have hmin : min (Lib.uvarint n).length 10 = (Lib.uvarint n).length := Nat.min_eq_left hD2
      have he0 : (((Lib.uvarint m).length : Int) == 0) = false := beq_eq_false_iff_ne.2 (by omega)
      by_cases hlen : (Lib.uvarint n).length = (Lib.uvarint m).length
      · have hl1 : decide ((Lib.uvarint n).length < (Lib.uvarint m).length) = false := decide_eq_false (by omega)
        have HL := Lib.hid hlen
        have hl2 : (((Lib.uvarint n).length : Int) == (Lib.uvarint m).length) = true := by simp [hlen]
        have hle : (Lib.uvarint n).length ≤ (Lib.uvarint m).length := by omega
        clear hlen hlt
        go_wp2_with fail
        go_loopw [9, 10] (fun less k wr => LessRel n m w2 less k wr) (fun _ k _ => (intOf k + 1).toNat)
        case atStart => exact ⟨(Lib.uvarint n).length, Nat.le_refl _, rfl, rfl, by rw [List.drop_length, HL.out, List.drop_length], Below.refl _ _⟩
        case round =>
          obtain ⟨j, hj, rfl, rfl, hdr, hb⟩ := hrel
          have g1 := hr1.on hb
          have g2 := hr2.on hb
          have hbw := hw2.trans (hb.mono hw2.size)
          rcases Nat.eq_zero_or_pos j with hj0 | hj0
          · subst hj0
            have hnm : n = m := uvarint_inj (by simpa using hdr)
            have hab : decide (a < b) = false := decide_eq_false (by have := HA.out; have := HB.out; omega)
            have r1 := run_strN g1 c1
            clear hdr hnm
            by_cases hz : n = 0
            · have hz' : (a == 0) = true := by have := HA.out; simp; omega
              clear hz
              go_wp2_with fail
              refine (awake_any _).mono ?_
              rintro e w9 ⟨rfl, hb9⟩
              go_wp2_with fail
              go_ret
              exact ⟨rfl, hbw.trans (hb9.mono hbw.size)⟩
            · have hz' : (a == 0) = false := by have := HA.out; simp; omega
              have hpos : 0 < n := by omega
              clear hz
              by_cases hbig : 144115188075855872 ≤ a
              · go_wp2_with fail
                refine (awake_any _).mono ?_
                rintro e w9 ⟨rfl, hb9⟩
                go_wp2_with fail
                go_ret
                exact ⟨rfl, hbw.trans (hb9.mono hbw.size)⟩
              · have hbig' : decide (144115188075855872 ≤ a) = false := decide_eq_false hbig
                have HT := Lib.hid (uvarint_times n hpos)
                have HM := Lib.hid (show IntKind.u64.wrap (a * 128) = ((n * 128 : Nat) : Int) from by rw [IntKind.wrap_u64]; have := HA.out; omega)
                have HM2 := Lib.hid (show a * 128 = ((n * 128 : Nat) : Int) from by have := HA.out; omega)
                have HN := Lib.hid (show n * 128 < 18446744073709551616 from by have := HA.out; omega)
                have hcat : (({ data := #[128] } : ByteArray) ++ { data := (Lib.uvarint n).toArray }) = { data := (128 :: Lib.uvarint n).toArray } := ByteArray.mk_append_mk [128] (Lib.uvarint n)
                have gS := fun (W : World) (h : Below wr.heap.size wr W) => run_str (g1.on h) c1
                clear r1
                go_wp2_with fail
                go_region_held (fun W => Sem.run Try.prog (convert 30 9 (.slice A1 (Lib.uvarint n).length c1)) W = .ok (.string ⟨(Lib.uvarint n).toArray⟩) W)
                  (first | go_keep | exact gS _ (Below.refl _ _).drew | exact gS _ ((Below.refl _ _).drew.trans hb7) | exact gS _ (((Below.refl _ _).drew.trans hb7).trans (hb8.mono hb7.size)))
                  (first
                    | (go_at_call 20; refine (Uint_int none 0 [] _ (n * 128) _ (by first | exact HM.out | exact HM2.out) (by simp) HN.out Rd.nil).mono ?_; rintro e w7 ⟨v7, rfl, ho7, hb7⟩; rw [List.nil_append, HT.out] at ho7; obtain ⟨A7, c7, rfl, hz1, hz2, hq7⟩ := ho7.form; have r7 := run_str hq7 c7; simp only [List.length_cons] at r7)
                    | (go_at_call 14; refine (awake_any _).mono ?_; rintro e w8 ⟨rfl, hb8⟩))
                go_wp2_with fail
                all_goals go_ret
                all_goals exact ⟨rfl, (hbw.drew.trans (hb7.mono hbw.size)).trans (hb8.mono (Nat.le_trans hbw.size hb7.size))⟩
          · obtain ⟨q, rfl⟩ : ∃ q, j = q + 1 := ⟨j - 1, by omega⟩
            obtain ⟨a1, x, rfl, _, hgx, hcx⟩ := g1.cell (show q < (Lib.uvarint n).length by omega)
            obtain ⟨a2, y, rfl, _, hgy, hcy⟩ := g2.cell (show q < (Lib.uvarint m).length by omega)
            unfold b8 at hcx hcy
            have hx256 : x.toNat < 256 := x.toNat_lt
            have hy256 : y.toNat < 256 := y.toNat_lt
            have HGX := Lib.hid hgx
            have HGY := Lib.hid hgy
            have HDR := Lib.hid hdr
            clear hgx hgy hdr
            have hbw0 := hbw
            have g0 := g1
            clear hbw g1
            have hi0 : (0 : Int) ≤ (q : Int) := by omega
            have hi1 : (q : Int) < ((Lib.uvarint n).length : Int) := by omega
            have hi2 : (q : Int) < ((Lib.uvarint m).length : Int) := by omega
            by_cases hxy : x = y
            · subst hxy
              go_wp2_with fail
              go_quiet (fail)
              go_wp2_with fail
              go_roundw
              case rel => exact ⟨q, by omega, by go_num, rfl, by rw [drop_cons HGX.out, drop_cons HGY.out, HDR.out], below_drewN hb _⟩
              case measure => simp [intOf]
            · have hxb : ((x.toNat : Int) != y.toNat) = true := by
                rw [bne_iff_ne]
                intro e
                exact hxy (UInt8.toNat_inj.1 (by omega))
              have hless := less_by_digit q n m x y HL.out HGX.out HGY.out HDR.out hxy
              rcases (show (a < b ∧ x.toNat < y.toNat) ∨ (¬ a < b ∧ ¬ x.toNat < y.toNat) from by have := HA.out; have := HB.out; omega) with ⟨hab, hxl⟩ | ⟨hab, hxl⟩
              · have hab' : decide (a < b) = true := decide_eq_true hab
                clear hless hxy
                go_wp2_with fail
                go_quiet (fail)
                have hbwa := below_drewN hbw0 nq
                have ga : Rd (wr.drewN nq) (wr.drewN nq).heap.size (some a1) (Lib.uvarint n) := g0.drewN nq
                have hcxa : (wr.drewN nq).cell? (a1.add q) = some (.int .u8 x.toNat) := hcx
                have hcya : (wr.drewN nq).cell? (a2.add q) = some (.int .u8 y.toNat) := hcy
                generalize wr.drewN nq = wa at hbwa ga hcxa hcya ⊢
                clear hcx hcy g0 g2 hbw0 hb nq
                go_wp2_with fail
                go_quiet (fail)
                have hbw := below_drewN hbwa nq
                have g1 : Rd (wa.drewN nq) (wa.drewN nq).heap.size (some a1) (Lib.uvarint n) := ga.drewN nq
                generalize wa.drewN nq = wq at hbw g1 ⊢
                clear hcxa hcya ga hbwa
                by_cases hz : n = 0
                · have hz' : (a == 0) = true := by have := HA.out; simp; omega
                  clear hz
                  go_wp2_with fail
                  refine (awake_any _).mono ?_
                  rintro e w9 ⟨rfl, hb9⟩
                  go_wp2_with fail
                  go_ret
                  exact ⟨rfl, hbw.trans (hb9.mono hbw.size)⟩
                · have hz' : (a == 0) = false := by have := HA.out; simp; omega
                  have hpos : 0 < n := by omega
                  clear hz
                  by_cases hbig : 144115188075855872 ≤ a
                  · go_wp2_with fail
                    refine (awake_any _).mono ?_
                    rintro e w9 ⟨rfl, hb9⟩
                    go_wp2_with fail
                    go_ret
                    exact ⟨rfl, hbw.trans (hb9.mono hbw.size)⟩
                  · have hbig' : decide (144115188075855872 ≤ a) = false := decide_eq_false hbig
                    have HT := Lib.hid (uvarint_times n hpos)
                    have HM := Lib.hid (show IntKind.u64.wrap (a * 128) = ((n * 128 : Nat) : Int) from by rw [IntKind.wrap_u64]; have := HA.out; omega)
                    have HM2 := Lib.hid (show a * 128 = ((n * 128 : Nat) : Int) from by have := HA.out; omega)
                    have HN := Lib.hid (show n * 128 < 18446744073709551616 from by have := HA.out; omega)
                    have hcat : (({ data := #[128] } : ByteArray) ++ { data := (Lib.uvarint n).toArray }) = { data := (128 :: Lib.uvarint n).toArray } := ByteArray.mk_append_mk [128] (Lib.uvarint n)
                    have gS := fun (W : World) (h : Below wq.heap.size wq W) => run_str (g1.on h) c1
                    go_wp2_with fail
                    go_region_held (fun W => Sem.run Try.prog (convert 30 9 (.slice (some a1) (Lib.uvarint n).length c1)) W = .ok (.string ⟨(Lib.uvarint n).toArray⟩) W)
                      (first | go_keep | exact gS _ (Below.refl _ _).drew | exact gS _ ((Below.refl _ _).drew.trans hb7) | exact gS _ (((Below.refl _ _).drew.trans hb7).trans (hb8.mono hb7.size)))
                      (first
                        | (go_at_call 20; refine (Uint_int none 0 [] _ (n * 128) _ (by first | exact HM.out | exact HM2.out) (by simp) HN.out Rd.nil).mono ?_; rintro e w7 ⟨v7, rfl, ho7, hb7⟩; rw [List.nil_append, HT.out] at ho7; obtain ⟨A7, c7, rfl, hz1, hz2, hq7⟩ := ho7.form; have r7 := run_str hq7 c7; simp only [List.length_cons] at r7)
                        | (go_at_call 14; refine (awake_any _).mono ?_; rintro e w8 ⟨rfl, hb8⟩))
                    go_wp2_with fail
                    all_goals go_ret
                    all_goals exact ⟨rfl, (hbw.drew.trans (hb7.mono hbw.size)).trans (hb8.mono (Nat.le_trans hbw.size hb7.size))⟩
              · have hab' : decide (a < b) = false := decide_eq_false hab
                clear hless hxy
                go_wp2_with fail
                go_quiet (fail)
                have hbwa := below_drewN hbw0 nq
                have ga : Rd (wr.drewN nq) (wr.drewN nq).heap.size (some a1) (Lib.uvarint n) := g0.drewN nq
                have hcxa : (wr.drewN nq).cell? (a1.add q) = some (.int .u8 x.toNat) := hcx
                have hcya : (wr.drewN nq).cell? (a2.add q) = some (.int .u8 y.toNat) := hcy
                generalize wr.drewN nq = wa at hbwa ga hcxa hcya ⊢
                clear hcx hcy g0 g2 hbw0 hb nq
                go_wp2_with fail
                go_quiet (fail)
                have hbw := below_drewN hbwa nq
                have g1 : Rd (wa.drewN nq) (wa.drewN nq).heap.size (some a1) (Lib.uvarint n) := ga.drewN nq
                generalize wa.drewN nq = wq at hbw g1 ⊢
                clear hcxa hcya ga hbwa
                by_cases hz : n = 0
                · have hz' : (a == 0) = true := by have := HA.out; simp; omega
                  clear hz
                  go_wp2_with fail
                  refine (awake_any _).mono ?_
                  rintro e w9 ⟨rfl, hb9⟩
                  go_wp2_with fail
                  go_ret
                  exact ⟨rfl, hbw.trans (hb9.mono hbw.size)⟩
                · have hz' : (a == 0) = false := by have := HA.out; simp; omega
                  have hpos : 0 < n := by omega
                  clear hz
                  by_cases hbig : 144115188075855872 ≤ a
                  · go_wp2_with fail
                    refine (awake_any _).mono ?_
                    rintro e w9 ⟨rfl, hb9⟩
                    go_wp2_with fail
                    go_ret
                    exact ⟨rfl, hbw.trans (hb9.mono hbw.size)⟩
                  · have hbig' : decide (144115188075855872 ≤ a) = false := decide_eq_false hbig
                    have HT := Lib.hid (uvarint_times n hpos)
                    have HM := Lib.hid (show IntKind.u64.wrap (a * 128) = ((n * 128 : Nat) : Int) from by rw [IntKind.wrap_u64]; have := HA.out; omega)
                    have HM2 := Lib.hid (show a * 128 = ((n * 128 : Nat) : Int) from by have := HA.out; omega)
                    have HN := Lib.hid (show n * 128 < 18446744073709551616 from by have := HA.out; omega)
                    have hcat : (({ data := #[128] } : ByteArray) ++ { data := (Lib.uvarint n).toArray }) = { data := (128 :: Lib.uvarint n).toArray } := ByteArray.mk_append_mk [128] (Lib.uvarint n)
                    have gS := fun (W : World) (h : Below wq.heap.size wq W) => run_str (g1.on h) c1
                    go_wp2_with fail
                    go_region_held (fun W => Sem.run Try.prog (convert 30 9 (.slice (some a1) (Lib.uvarint n).length c1)) W = .ok (.string ⟨(Lib.uvarint n).toArray⟩) W)
                      (first | go_keep | exact gS _ (Below.refl _ _).drew | exact gS _ ((Below.refl _ _).drew.trans hb7) | exact gS _ (((Below.refl _ _).drew.trans hb7).trans (hb8.mono hb7.size)))
                      (first
                        | (go_at_call 20; refine (Uint_int none 0 [] _ (n * 128) _ (by first | exact HM.out | exact HM2.out) (by simp) HN.out Rd.nil).mono ?_; rintro e w7 ⟨v7, rfl, ho7, hb7⟩; rw [List.nil_append, HT.out] at ho7; obtain ⟨A7, c7, rfl, hz1, hz2, hq7⟩ := ho7.form; have r7 := run_str hq7 c7; simp only [List.length_cons] at r7)
                        | (go_at_call 14; refine (awake_any _).mono ?_; rintro e w8 ⟨rfl, hb8⟩))
                    go_wp2_with fail
                    all_goals go_ret
                    all_goals exact ⟨rfl, (hbw.drew.trans (hb7.mono hbw.size)).trans (hb8.mono (Nat.le_trans hbw.size hb7.size))⟩
      · have hl2 : (((Lib.uvarint n).length : Int) == (Lib.uvarint m).length) = false := beq_eq_false_iff_ne.2 (by omega)
        clear hlt
        rcases (show (a < b ∧ (Lib.uvarint n).length < (Lib.uvarint m).length) ∨ (¬ a < b ∧ ¬ (Lib.uvarint n).length < (Lib.uvarint m).length) from by
          have h1 := HA.out
          have h2 := HB.out
          rcases Nat.lt_or_ge (Lib.uvarint n).length (Lib.uvarint m).length with h | h
          · have := less_of_len h
            omega
          · have := less_of_len (show (Lib.uvarint m).length < (Lib.uvarint n).length by omega)
            omega) with ⟨hab, hll⟩ | ⟨hab, hll⟩
        · have hab' : decide (a < b) = true := decide_eq_true hab
          have hll' : decide ((Lib.uvarint n).length < (Lib.uvarint m).length) = true := decide_eq_true hll
          clear hlen
          go_wp2_with fail
          go_loop [9, 10] (fun less k => less = .bool true ∧ k = .int .i64 (((Lib.uvarint n).length : Int) - 1)) (fun _ k => 0)
          case atStart => exact ⟨rfl, rfl⟩
          case round =>
            obtain ⟨rfl, rfl⟩ := hrel
            have g1 := hr1
            have hbw := hw2
            by_cases hz : n = 0
            · have hz' : (a == 0) = true := by have := HA.out; simp; omega
              clear hz
              go_wp2_with fail
              refine (awake_any _).mono ?_
              rintro e w9 ⟨rfl, hb9⟩
              go_wp2_with fail
              go_ret
              exact ⟨rfl, hbw.trans (hb9.mono hbw.size)⟩
            · have hz' : (a == 0) = false := by have := HA.out; simp; omega
              have hpos : 0 < n := by omega
              clear hz
              by_cases hbig : 144115188075855872 ≤ a
              · go_wp2_with fail
                refine (awake_any _).mono ?_
                rintro e w9 ⟨rfl, hb9⟩
                go_wp2_with fail
                go_ret
                exact ⟨rfl, hbw.trans (hb9.mono hbw.size)⟩
              · have hbig' : decide (144115188075855872 ≤ a) = false := decide_eq_false hbig
                have HT := Lib.hid (uvarint_times n hpos)
                have HM := Lib.hid (show IntKind.u64.wrap (a * 128) = ((n * 128 : Nat) : Int) from by rw [IntKind.wrap_u64]; have := HA.out; omega)
                have HM2 := Lib.hid (show a * 128 = ((n * 128 : Nat) : Int) from by have := HA.out; omega)
                have HN := Lib.hid (show n * 128 < 18446744073709551616 from by have := HA.out; omega)
                have hcat : (({ data := #[128] } : ByteArray) ++ { data := (Lib.uvarint n).toArray }) = { data := (128 :: Lib.uvarint n).toArray } := ByteArray.mk_append_mk [128] (Lib.uvarint n)
                have gS := fun (W : World) (h : Below w2.heap.size w2 W) => run_str (g1.on h) c1
                go_wp2_with fail
                go_region_held (fun W => Sem.run Try.prog (convert 30 9 (.slice A1 (Lib.uvarint n).length c1)) W = .ok (.string ⟨(Lib.uvarint n).toArray⟩) W)
                  (first | go_keep | exact gS _ (Below.refl _ _).drew | exact gS _ ((Below.refl _ _).drew.trans hb7) | exact gS _ (((Below.refl _ _).drew.trans hb7).trans (hb8.mono hb7.size)))
                  (first
                    | (go_at_call 20; refine (Uint_int none 0 [] _ (n * 128) _ (by first | exact HM.out | exact HM2.out) (by simp) HN.out Rd.nil).mono ?_; rintro e w7 ⟨v7, rfl, ho7, hb7⟩; rw [List.nil_append, HT.out] at ho7; obtain ⟨A7, c7, rfl, hz1, hz2, hq7⟩ := ho7.form; have r7 := run_str hq7 c7; simp only [List.length_cons] at r7)
                    | (go_at_call 14; refine (awake_any _).mono ?_; rintro e w8 ⟨rfl, hb8⟩))
                go_wp2_with fail
                all_goals go_ret
                all_goals exact ⟨rfl, (hbw.drew.trans (hb7.mono hbw.size)).trans (hb8.mono (Nat.le_trans hbw.size hb7.size))⟩
        · have hab' : decide (a < b) = false := decide_eq_false hab
          have hll' : decide ((Lib.uvarint n).length < (Lib.uvarint m).length) = false := decide_eq_false hll
          clear hlen
          go_wp2_with fail
          go_loop [9, 10] (fun less k => less = .bool false ∧ k = .int .i64 (((Lib.uvarint n).length : Int) - 1)) (fun _ k => 0)
          case atStart => exact ⟨rfl, rfl⟩
          case round =>
            obtain ⟨rfl, rfl⟩ := hrel
            have g1 := hr1
            have hbw := hw2
            by_cases hz : n = 0
            · have hz' : (a == 0) = true := by have := HA.out; simp; omega
              clear hz
              go_wp2_with fail
              refine (awake_any _).mono ?_
              rintro e w9 ⟨rfl, hb9⟩
              go_wp2_with fail
              go_ret
              exact ⟨rfl, hbw.trans (hb9.mono hbw.size)⟩
            · have hz' : (a == 0) = false := by have := HA.out; simp; omega
              have hpos : 0 < n := by omega
              clear hz
              by_cases hbig : 144115188075855872 ≤ a
              · go_wp2_with fail
                refine (awake_any _).mono ?_
                rintro e w9 ⟨rfl, hb9⟩
                go_wp2_with fail
                go_ret
                exact ⟨rfl, hbw.trans (hb9.mono hbw.size)⟩
              · have hbig' : decide (144115188075855872 ≤ a) = false := decide_eq_false hbig
                have HT := Lib.hid (uvarint_times n hpos)
                have HM := Lib.hid (show IntKind.u64.wrap (a * 128) = ((n * 128 : Nat) : Int) from by rw [IntKind.wrap_u64]; have := HA.out; omega)
                have HM2 := Lib.hid (show a * 128 = ((n * 128 : Nat) : Int) from by have := HA.out; omega)
                have HN := Lib.hid (show n * 128 < 18446744073709551616 from by have := HA.out; omega)
                have hcat : (({ data := #[128] } : ByteArray) ++ { data := (Lib.uvarint n).toArray }) = { data := (128 :: Lib.uvarint n).toArray } := ByteArray.mk_append_mk [128] (Lib.uvarint n)
                have gS := fun (W : World) (h : Below w2.heap.size w2 W) => run_str (g1.on h) c1
                go_wp2_with fail
                go_region_held (fun W => Sem.run Try.prog (convert 30 9 (.slice A1 (Lib.uvarint n).length c1)) W = .ok (.string ⟨(Lib.uvarint n).toArray⟩) W)
                  (first | go_keep | exact gS _ (Below.refl _ _).drew | exact gS _ ((Below.refl _ _).drew.trans hb7) | exact gS _ (((Below.refl _ _).drew.trans hb7).trans (hb8.mono hb7.size)))
                  (first
                    | (go_at_call 20; refine (Uint_int none 0 [] _ (n * 128) _ (by first | exact HM.out | exact HM2.out) (by simp) HN.out Rd.nil).mono ?_; rintro e w7 ⟨v7, rfl, ho7, hb7⟩; rw [List.nil_append, HT.out] at ho7; obtain ⟨A7, c7, rfl, hz1, hz2, hq7⟩ := ho7.form; have r7 := run_str hq7 c7; simp only [List.length_cons] at r7)
                    | (go_at_call 14; refine (awake_any _).mono ?_; rintro e w8 ⟨rfl, hb8⟩))
                go_wp2_with fail
                all_goals go_ret
                all_goals exact ⟨rfl, (hbw.drew.trans (hb7.mono hbw.size)).trans (hb8.mono (Nat.le_trans hbw.size hb7.size))⟩
end Go.Proofs.Ytnmlbkgkamfioaa
