/-
  BytesCount returns true for all bytes and places, and changes nothing that was there. No conditions.
-/
import Derived.Test.YtnmlbkgkamfioaaOpen
import Derived.Deep.RegionHeld
namespace Go.Proofs.Ytnmlbkgkamfioaa
open Go.ChangeShapes Go.WideShapes Go.ChangeAt Go.RowKit
set_option linter.unusedVariables false

/-- how many bytes are below 128 -/
def lows (l : List UInt8) : Nat := (l.filter fun u => decide (u.toNat < 128)).length
theorem lows_append (l m : List UInt8) : lows (l ++ m) = lows l + lows m := by simp [lows]
theorem lows_uvarint (n : Nat) : lows (Lib.uvarint n) = 1 := by
  suffices hk : ∀ k n, n < 128 ^ k → lows (Lib.uvarint n) = 1 from hk n n (Nat.lt_of_lt_of_le Nat.lt_two_pow_self (Nat.pow_le_pow_left (by omega) n))
  intro k
  induction k with
  | zero =>
    intro n h
    have : n = 0 := by simpa using h
    subst this
    rw [Lib.uvarint_small (by omega)]
    rfl
  | succ k ih =>
    intro n h
    by_cases hs : n < 128
    · rw [Lib.uvarint_small hs]
      have hd : n.toUInt8.toNat = n := by simp only [Nat.toUInt8, UInt8.toNat_ofNat']; omega
      simp [lows, hd, hs]
    · rw [Lib.uvarint_big (by omega)]
      have hd : (n % 128 + 128).toUInt8.toNat = n % 128 + 128 := by simp only [Nat.toUInt8, UInt8.toNat_ofNat']; omega
      have := ih (n / 128) (by rw [Nat.pow_succ] at h; exact Nat.div_lt_of_lt_mul (by rw [Nat.mul_comm]; exact h))
      unfold lows at this ⊢
      rw [List.filter_cons, hd, if_neg (by simp), this]
theorem lows_le (l : List UInt8) : lows l ≤ l.length := List.length_filter_le _ _
theorem lows_snoc (l : List UInt8) (u : UInt8) : lows (l ++ [u]) = lows l + if u.toNat < 128 then 1 else 0 := by
  rw [lows_append]
  by_cases h : u.toNat < 128 <;> simp [lows, h]

/-- what was read from a place on -/
def seg (l : List UInt8) (first p : Nat) : List UInt8 := (l.drop first).take (p - first)
theorem seg_length {l : List UInt8} {first p : Nat} (h : p ≤ l.length) : (seg l first p).length = p - first := by
  simp [seg]; omega
theorem seg_next {l : List UInt8} {first p : Nat} {v : List UInt8} (h1 : first ≤ p) (hv : (l.drop p).take v.length = v) : seg l first (p + v.length) = seg l first p ++ v := by
  unfold seg
  rw [show p + v.length - first = (p - first) + v.length from by omega, List.take_add, List.drop_drop, show first + (p - first) = p from by omega, hv]

def CountRel (l : List UInt8) (first : Nat) (w : World) (at_ many again i : Value) (wr : World) : Prop :=
  ∃ p k : Nat, first ≤ p ∧ p ≤ l.length ∧ at_ = .int .i64 p ∧ many = .int .i64 k ∧ i = .int .i64 k ∧ k + first ≤ p ∧ lows (seg l first p) = k ∧ Own wr 0 again (seg l first p) ∧ Below w.heap.size w wr

def LowRel (s : List UInt8) (low x i : Value) : Prop := ∃ j : Nat, j ≤ s.length ∧ i = .int .i64 j ∧ low = .int .i64 (lows (s.take j) : Nat)

set_option maxRecDepth 100000 in
set_option maxHeartbeats 4000000 in
theorem count_walk (A : Option Addr) (c : Nat) (l : List UInt8) (f : Nat) (w : World) (hf : f < 65536) (hc : l.length ≤ c) (hcm : c ≤ maxLen) (hA : Rd w w.heap.size A l) (hl : l.length ≤ 300) :
    Calls Try.prog 6 #[.slice A l.length c, .int .u16 f] w fun e w' => e = .returned (.bool true) ∧ Below w.heap.size w w' := by
  unfold maxLen at hcm
  have h300 : decide ((300 : Int) < l.length) = false := decide_eq_false (by omega)
  have hfl : f % (l.length + 1) ≤ l.length := by have := Nat.mod_lt f (show 0 < l.length + 1 by omega); omega
  obtain ⟨first, hfirst, hfle⟩ : ∃ first : Nat, (f : Int) % ((l.length : Int) + 1) = first ∧ first ≤ l.length := ⟨f % (l.length + 1), by simp, hfl⟩
  clear hfl
  go_enter Try.func6, Try.ntmps6
  go_wp2_with fail
  rw [hfirst]
  clear hfirst h300
  go_loopw [5, 7, 8, 9, 10, 11, 29] (fun a m g x9 x10 x11 i wr => CountRel l first w a m g i wr) (fun _ _ _ _ _ _ i _ => l.length + 1 - (intOf i).toNat)
  case atStart => exact ⟨first, 0, Nat.le_refl _, hfle, rfl, rfl, rfl, by omega, by simp [seg, lows], by rw [show seg l first first = [] from by simp [seg]]; exact World.ownsRow_nil w 0 _ _, Below.refl _ _⟩
  case round =>
    obtain ⟨p, k, hp1, hp2, rfl, rfl, rfl, hkp, hlow, ho, hb⟩ := hrel
    have hrd := hA.on hb
    have hsl := seg_length (l := l) (first := first) hp2
    obtain ⟨A1, c1, rfl, hx1, hx2, hr1⟩ := ho.form
    by_cases hlt : k < l.length + 1
    · have HU := Lib.hid (GetUint_any A c l p wr (by omega) hrd)
      obtain ⟨hu1, hu2, hu3⟩ := uintAt_lt l p
      by_cases he : (uintAt l p).2.2 = 0
      · obtain ⟨n, q, hnq⟩ : ∃ n q, uintAt l p = (n, q, 0) := ⟨_, _, Prod.ext rfl (Prod.ext rfl he)⟩
        obtain ⟨hb1, _, hb3, hb4, hb5⟩ := uintAt_back l p n q hnq
        rw [hnq] at HU hu1 hu2
        simp only at hu1 hu2
        have hpos := Lib.uvarint_pos n
        have hD2 := Lib.uvarint_length64 hu1
        have hpn : ((p : Int)).toNat = p := by omega
        rw [hpn] at hb3 hb5
        have hnext := seg_next hp1 hb5
        rw [← hb3] at hnext
        have hlow2 : lows (seg l first q) = k + 1 := by rw [hnext, lows_append, lows_uvarint, hlow]
        have hqp : p < q := by omega
        have HN := Lib.hid hnext
        have HL := Lib.hid hlow2
        have HUI := Lib.hid (fun (W : World) (g : Rd W W.heap.size A1 (seg l first p)) => Uint_any A1 c1 (seg l first p) n W (by omega) hu1 g)
        clear hnext hlow2 hb5 hb3 hpn he hnq hlow ho hsl hb1
        go_wp2_with fail
        refine HU.out.mono ?_
        rintro e w1 ⟨rfl, rfl⟩
        go_wp2_with fail
        refine (HUI.out _ hr1).mono ?_
        rintro e w2 ⟨v2, rfl, ho2, hb2⟩
        rw [← HN.out] at ho2
        go_wp2_with fail
        go_roundw
        case rel => exact ⟨q, k + 1, by omega, hu2, rfl, by go_num, by go_num, by omega, HL.out, ho2.mono (Nat.zero_le _), hb.trans (hb2.mono hb.size)⟩
        case measure => simp [intOf]; omega
      · have hin : ¬ ((p : Int) < 0 ∨ (l.length : Int) < p) := by omega
        obtain ⟨e1, he1, he10⟩ : ∃ e1, uintAt l p = (0, 0, e1) ∧ (e1 = 10 ∨ e1 = 11 ∧ l.length - p ≤ 9) := by
          have herr := decU_err 10 0 0 (l.drop ((p : Int)).toNat)
          have hshort := decU_short 10 0 0 (l.drop ((p : Int)).toNat)
          unfold uintAt at he ⊢
          rw [if_neg hin] at he ⊢
          simp only at he ⊢
          obtain ⟨h1, h2, h3⟩ := herr he
          refine ⟨(decU 10 0 0 (l.drop ((p : Int)).toNat)).2.2, by rw [if_neg he, h1], ?_⟩
          rcases h3 with h3 | h3
          · exact .inl h3
          · refine .inr ⟨h3, ?_⟩
            have := (hshort h3).1
            rw [List.length_drop] at this
            omega
        rw [he1] at HU
        have hne0 : ((e1 : Int) != 0) = true := by rw [bne_iff_ne]; omega
        have hne2 : ((e1 : Int) == 2) = false := beq_eq_false_iff_ne.2 (by omega)
        have HR := hrd.cut first (p - first) c hc
        have HSEG : Hid ((l.drop first).take (p - first) = seg l first p) := rfl
        rw [HSEG.out] at HR
        clear he he1 hu1 hu2 hu3 hin ho
        have hi0 : (0 : Int) ≤ (first : Int) := by omega
        have hi1 : (first : Int) ≤ p := by omega
        have hi2 : (p : Int) ≤ c := by omega
        have HLOW := Lib.hid hlow
        clear hlow
        rcases he10 with he10 | ⟨he10, h9⟩
        · have hne11 : ((e1 : Int) == 11) = false := beq_eq_false_iff_ne.2 (by omega)
          clear he10
          by_cases hcf : c = first
          · rw [if_pos hcf] at HR
            have hcf' := hcf.symm
            subst hcf'
            go_wp2_with fail
            refine HU.out.mono ?_
            rintro e w1 ⟨rfl, rfl⟩
            go_wp2_with fail
            go_loop [12, 14, 74] (fun low x i => LowRel (seg l first p) low x i) (fun _ _ i => (p - first) - (intOf i).toNat)
            case atStart => exact ⟨0, by omega, rfl, by simp [lows]⟩
            case round =>
              obtain ⟨j, hj, rfl, rfl⟩ := hrel
              rw [hsl] at hj
              by_cases hjl : j < p - first
              · exact absurd hjl (by omega)
              · obtain rfl : j = p - first := by omega
                have hlk : lows ((seg l first p).take (p - first)) = k := by rw [List.take_of_length_le (by omega)]; exact HLOW.out
                clear hj hjl
                have gS1 := fun (W : World) (h : Below wr.heap.size wr W) => run_str (hr1.on h) c1
                have gS2 := fun (W : World) (h : Below wr.heap.size wr W) => run_str (HR.on h) 0
                rw [hsl] at gS1 gS2
                have GS1 := Lib.hid gS1
                have GS2 := Lib.hid gS2
                clear gS1 gS2
                go_wp2_with fail
                go_region_held (fun W => Sem.run Try.prog (convert 30 9 (.slice A1 (p - first) c1)) W = .ok (.string ⟨(seg l first p).toArray⟩) W ∧ Sem.run Try.prog (convert 30 9 (.slice A (p - first) 0)) W = .ok (.string ⟨(seg l first p).toArray⟩) W)
                  (first | go_keep | exact ⟨GS1.out _ (Below.refl _ _).drew, GS2.out _ (Below.refl _ _).drew⟩ | exact ⟨GS1.out _ ((Below.refl _ _).drew.trans hb8), GS2.out _ ((Below.refl _ _).drew.trans hb8)⟩)
                  (first
                    | (go_at_call 14; refine (awake_any _).mono ?_; rintro e w8 ⟨rfl, hb8⟩))
                go_wp2_with fail
                all_goals go_ret
                all_goals exact ⟨rfl, hb.drew.trans (hb8.mono hb.size)⟩
          · rw [if_neg hcf] at HR
            rcases A with _ | ad0
            · have hpf : p - first = 0 := by
                rcases Nat.eq_zero_or_pos (p - first) with h0 | h0
                · exact h0
                · obtain ⟨ad, _, h, _⟩ := HR.cell (show 0 < (seg l first p).length by omega)
                  cases h
              have hpf' : p - first ≤ 0 := by omega
              clear hpf
              simp only [Option.map_none] at HR
              go_wp2_with fail
              refine HU.out.mono ?_
              rintro e w1 ⟨rfl, rfl⟩
              go_wp2_with fail
              go_loop [12, 14, 74] (fun low x i => LowRel (seg l first p) low x i) (fun _ _ i => (p - first) - (intOf i).toNat)
              case atStart => exact ⟨0, by omega, rfl, by simp [lows]⟩
              case round =>
                obtain ⟨j, hj, rfl, rfl⟩ := hrel
                rw [hsl] at hj
                by_cases hjl : j < p - first
                · exact absurd hjl (by omega)
                · obtain rfl : j = p - first := by omega
                  have hlk : lows ((seg l first p).take (p - first)) = k := by rw [List.take_of_length_le (by omega)]; exact HLOW.out
                  clear hj hjl
                  have gS1 := fun (W : World) (h : Below wr.heap.size wr W) => run_str (hr1.on h) c1
                  have gS2 := fun (W : World) (h : Below wr.heap.size wr W) => run_str (HR.on h) (c - first)
                  rw [hsl] at gS1 gS2
                  have GS1 := Lib.hid gS1
                  have GS2 := Lib.hid gS2
                  clear gS1 gS2
                  go_wp2_with fail
                  go_region_held (fun W => Sem.run Try.prog (convert 30 9 (.slice A1 (p - first) c1)) W = .ok (.string ⟨(seg l first p).toArray⟩) W ∧ Sem.run Try.prog (convert 30 9 (.slice none (p - first) (c - first))) W = .ok (.string ⟨(seg l first p).toArray⟩) W)
                    (first | go_keep | exact ⟨GS1.out _ (Below.refl _ _).drew, GS2.out _ (Below.refl _ _).drew⟩ | exact ⟨GS1.out _ ((Below.refl _ _).drew.trans hb8), GS2.out _ ((Below.refl _ _).drew.trans hb8)⟩)
                    (first
                      | (go_at_call 14; refine (awake_any _).mono ?_; rintro e w8 ⟨rfl, hb8⟩))
                  go_wp2_with fail
                  all_goals go_ret
                  all_goals exact ⟨rfl, hb.drew.trans (hb8.mono hb.size)⟩
            · simp only [Option.map_some] at HR
              go_wp2_with fail
              refine HU.out.mono ?_
              rintro e w1 ⟨rfl, rfl⟩
              go_wp2_with fail
              go_loop [12, 14, 74] (fun low x i => LowRel (seg l first p) low x i) (fun _ _ i => (p - first) - (intOf i).toNat)
              case atStart => exact ⟨0, by omega, rfl, by simp [lows]⟩
              case round =>
                obtain ⟨j, hj, rfl, rfl⟩ := hrel
                rw [hsl] at hj
                by_cases hjl : j < p - first
                · obtain ⟨ad, u, hsome, _, hgu, hcu⟩ := HR.cell (show j < (seg l first p).length by omega)
                  obtain rfl : ad0.add first = ad := by simpa using hsome
                  unfold b8 at hcu
                  have hu256 : u.toNat < 256 := u.toNat_lt
                  have HSN := Lib.hid (show lows ((seg l first p).take (j + 1)) = lows ((seg l first p).take j) + if u.toNat < 128 then 1 else 0 from by rw [take_snoc hgu, lows_snoc])
                  have hlj : lows ((seg l first p).take j) ≤ j := Nat.le_trans (lows_le _) (List.length_take_le _ _)
                  clear hgu hsome HR
                  generalize ad0.add first = ad1 at hcu ⊢
                  by_cases h128 : u.toNat < 128
                  · go_wp2_with fail
                    go_round
                    case rel => exact ⟨j + 1, by omega, by go_num, by rw [HSN.out, if_pos h128]; go_num⟩
                    case measure => simp [intOf]; omega
                  · go_wp2_with fail
                    go_round
                    case rel => exact ⟨j + 1, by omega, by go_num, by rw [HSN.out, if_neg h128]; go_num⟩
                    case measure => simp [intOf]; omega
                · obtain rfl : j = p - first := by omega
                  have hlk : lows ((seg l first p).take (p - first)) = k := by rw [List.take_of_length_le (by omega)]; exact HLOW.out
                  clear hj hjl
                  have gS1 := fun (W : World) (h : Below wr.heap.size wr W) => run_str (hr1.on h) c1
                  have gS2 := fun (W : World) (h : Below wr.heap.size wr W) => run_str (HR.on h) (c - first)
                  rw [hsl] at gS1 gS2
                  have GS1 := Lib.hid gS1
                  have GS2 := Lib.hid gS2
                  clear gS1 gS2
                  go_wp2_with fail
                  go_region_held (fun W => Sem.run Try.prog (convert 30 9 (.slice A1 (p - first) c1)) W = .ok (.string ⟨(seg l first p).toArray⟩) W ∧ Sem.run Try.prog (convert 30 9 (.slice (some (ad0.add first)) (p - first) (c - first))) W = .ok (.string ⟨(seg l first p).toArray⟩) W)
                    (first | go_keep | exact ⟨GS1.out _ (Below.refl _ _).drew, GS2.out _ (Below.refl _ _).drew⟩ | exact ⟨GS1.out _ ((Below.refl _ _).drew.trans hb8), GS2.out _ ((Below.refl _ _).drew.trans hb8)⟩)
                    (first
                      | (go_at_call 14; refine (awake_any _).mono ?_; rintro e w8 ⟨rfl, hb8⟩))
                  go_wp2_with fail
                  all_goals go_ret
                  all_goals exact ⟨rfl, hb.drew.trans (hb8.mono hb.size)⟩
        · have hne11 : ((e1 : Int) == 11) = true := by simp [he10]
          have h9' : decide ((9 : Int) < (l.length : Int) - p) = false := decide_eq_false (by omega)
          clear he10
          by_cases hcf : c = first
          · rw [if_pos hcf] at HR
            have hcf' := hcf.symm
            subst hcf'
            go_wp2_with fail
            refine HU.out.mono ?_
            rintro e w1 ⟨rfl, rfl⟩
            go_wp2_with fail
            go_loop [12, 14, 74] (fun low x i => LowRel (seg l first p) low x i) (fun _ _ i => (p - first) - (intOf i).toNat)
            case atStart => exact ⟨0, by omega, rfl, by simp [lows]⟩
            case round =>
              obtain ⟨j, hj, rfl, rfl⟩ := hrel
              rw [hsl] at hj
              by_cases hjl : j < p - first
              · exact absurd hjl (by omega)
              · obtain rfl : j = p - first := by omega
                have hlk : lows ((seg l first p).take (p - first)) = k := by rw [List.take_of_length_le (by omega)]; exact HLOW.out
                clear hj hjl
                have gS1 := fun (W : World) (h : Below wr.heap.size wr W) => run_str (hr1.on h) c1
                have gS2 := fun (W : World) (h : Below wr.heap.size wr W) => run_str (HR.on h) 0
                rw [hsl] at gS1 gS2
                have GS1 := Lib.hid gS1
                have GS2 := Lib.hid gS2
                clear gS1 gS2
                go_wp2_with fail
                go_region_held (fun W => Sem.run Try.prog (convert 30 9 (.slice A1 (p - first) c1)) W = .ok (.string ⟨(seg l first p).toArray⟩) W ∧ Sem.run Try.prog (convert 30 9 (.slice A (p - first) 0)) W = .ok (.string ⟨(seg l first p).toArray⟩) W)
                  (first | go_keep | exact ⟨GS1.out _ (Below.refl _ _).drew, GS2.out _ (Below.refl _ _).drew⟩ | exact ⟨GS1.out _ ((Below.refl _ _).drew.trans hb8), GS2.out _ ((Below.refl _ _).drew.trans hb8)⟩)
                  (first
                    | (go_at_call 14; refine (awake_any _).mono ?_; rintro e w8 ⟨rfl, hb8⟩))
                go_wp2_with fail
                all_goals go_ret
                all_goals exact ⟨rfl, hb.drew.trans (hb8.mono hb.size)⟩
          · rw [if_neg hcf] at HR
            rcases A with _ | ad0
            · have hpf : p - first = 0 := by
                rcases Nat.eq_zero_or_pos (p - first) with h0 | h0
                · exact h0
                · obtain ⟨ad, _, h, _⟩ := HR.cell (show 0 < (seg l first p).length by omega)
                  cases h
              have hpf' : p - first ≤ 0 := by omega
              clear hpf
              simp only [Option.map_none] at HR
              go_wp2_with fail
              refine HU.out.mono ?_
              rintro e w1 ⟨rfl, rfl⟩
              go_wp2_with fail
              go_loop [12, 14, 74] (fun low x i => LowRel (seg l first p) low x i) (fun _ _ i => (p - first) - (intOf i).toNat)
              case atStart => exact ⟨0, by omega, rfl, by simp [lows]⟩
              case round =>
                obtain ⟨j, hj, rfl, rfl⟩ := hrel
                rw [hsl] at hj
                by_cases hjl : j < p - first
                · exact absurd hjl (by omega)
                · obtain rfl : j = p - first := by omega
                  have hlk : lows ((seg l first p).take (p - first)) = k := by rw [List.take_of_length_le (by omega)]; exact HLOW.out
                  clear hj hjl
                  have gS1 := fun (W : World) (h : Below wr.heap.size wr W) => run_str (hr1.on h) c1
                  have gS2 := fun (W : World) (h : Below wr.heap.size wr W) => run_str (HR.on h) (c - first)
                  rw [hsl] at gS1 gS2
                  have GS1 := Lib.hid gS1
                  have GS2 := Lib.hid gS2
                  clear gS1 gS2
                  go_wp2_with fail
                  go_region_held (fun W => Sem.run Try.prog (convert 30 9 (.slice A1 (p - first) c1)) W = .ok (.string ⟨(seg l first p).toArray⟩) W ∧ Sem.run Try.prog (convert 30 9 (.slice none (p - first) (c - first))) W = .ok (.string ⟨(seg l first p).toArray⟩) W)
                    (first | go_keep | exact ⟨GS1.out _ (Below.refl _ _).drew, GS2.out _ (Below.refl _ _).drew⟩ | exact ⟨GS1.out _ ((Below.refl _ _).drew.trans hb8), GS2.out _ ((Below.refl _ _).drew.trans hb8)⟩)
                    (first
                      | (go_at_call 14; refine (awake_any _).mono ?_; rintro e w8 ⟨rfl, hb8⟩))
                  go_wp2_with fail
                  all_goals go_ret
                  all_goals exact ⟨rfl, hb.drew.trans (hb8.mono hb.size)⟩
            · simp only [Option.map_some] at HR
              go_wp2_with fail
              refine HU.out.mono ?_
              rintro e w1 ⟨rfl, rfl⟩
              go_wp2_with fail
              go_loop [12, 14, 74] (fun low x i => LowRel (seg l first p) low x i) (fun _ _ i => (p - first) - (intOf i).toNat)
              case atStart => exact ⟨0, by omega, rfl, by simp [lows]⟩
              case round =>
                obtain ⟨j, hj, rfl, rfl⟩ := hrel
                rw [hsl] at hj
                by_cases hjl : j < p - first
                · obtain ⟨ad, u, hsome, _, hgu, hcu⟩ := HR.cell (show j < (seg l first p).length by omega)
                  obtain rfl : ad0.add first = ad := by simpa using hsome
                  unfold b8 at hcu
                  have hu256 : u.toNat < 256 := u.toNat_lt
                  have HSN := Lib.hid (show lows ((seg l first p).take (j + 1)) = lows ((seg l first p).take j) + if u.toNat < 128 then 1 else 0 from by rw [take_snoc hgu, lows_snoc])
                  have hlj : lows ((seg l first p).take j) ≤ j := Nat.le_trans (lows_le _) (List.length_take_le _ _)
                  clear hgu hsome HR
                  generalize ad0.add first = ad1 at hcu ⊢
                  by_cases h128 : u.toNat < 128
                  · go_wp2_with fail
                    go_round
                    case rel => exact ⟨j + 1, by omega, by go_num, by rw [HSN.out, if_pos h128]; go_num⟩
                    case measure => simp [intOf]; omega
                  · go_wp2_with fail
                    go_round
                    case rel => exact ⟨j + 1, by omega, by go_num, by rw [HSN.out, if_neg h128]; go_num⟩
                    case measure => simp [intOf]; omega
                · obtain rfl : j = p - first := by omega
                  have hlk : lows ((seg l first p).take (p - first)) = k := by rw [List.take_of_length_le (by omega)]; exact HLOW.out
                  clear hj hjl
                  have gS1 := fun (W : World) (h : Below wr.heap.size wr W) => run_str (hr1.on h) c1
                  have gS2 := fun (W : World) (h : Below wr.heap.size wr W) => run_str (HR.on h) (c - first)
                  rw [hsl] at gS1 gS2
                  have GS1 := Lib.hid gS1
                  have GS2 := Lib.hid gS2
                  clear gS1 gS2
                  go_wp2_with fail
                  go_region_held (fun W => Sem.run Try.prog (convert 30 9 (.slice A1 (p - first) c1)) W = .ok (.string ⟨(seg l first p).toArray⟩) W ∧ Sem.run Try.prog (convert 30 9 (.slice (some (ad0.add first)) (p - first) (c - first))) W = .ok (.string ⟨(seg l first p).toArray⟩) W)
                    (first | go_keep | exact ⟨GS1.out _ (Below.refl _ _).drew, GS2.out _ (Below.refl _ _).drew⟩ | exact ⟨GS1.out _ ((Below.refl _ _).drew.trans hb8), GS2.out _ ((Below.refl _ _).drew.trans hb8)⟩)
                    (first
                      | (go_at_call 14; refine (awake_any _).mono ?_; rintro e w8 ⟨rfl, hb8⟩))
                  go_wp2_with fail
                  all_goals go_ret
                  all_goals exact ⟨rfl, hb.drew.trans (hb8.mono hb.size)⟩
    · exact absurd hkp (by omega)

theorem count_long (A : Option Addr) (c n : Nat) (f : Int) (w : World) (hn : n ≤ 9223372036854775807) (hl : 300 < n) :
    Calls Try.prog 6 #[.slice A n c, .int .u16 f] w fun e w' => e = .returned (.bool true) ∧ Below w.heap.size w w' := by
  go_enter Try.func6, Try.ntmps6
  go_wp2_with fail
  refine (awake_any _).mono ?_
  rintro e w9 ⟨rfl, hb9⟩
  go_wp2_with fail
  go_ret
  exact ⟨rfl, hb9⟩
end Go.Proofs.Ytnmlbkgkamfioaa
