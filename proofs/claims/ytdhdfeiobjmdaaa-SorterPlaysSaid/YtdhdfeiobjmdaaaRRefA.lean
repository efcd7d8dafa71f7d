/-
  The document's own answers for layer 3: right values, right rows, numbers of so many bytes, as few bytes as tell a number. Conditions: sizes as stated.
  The document's own answers for layer 3: as few bytes as tell a number, two lists of bytes. Conditions: sizes as stated.
  Appends of bytes, and of a string's bytes, that leave every other row alone. Conditions: sizes as stated.
  Bytes of the call's own that are written over; parts of a key, turned (layer 3, record). Conditions: sizes as stated.
-/
import Derived.Test.YtdhdfeiobjmdaaaRRowM
import Derived.Test.YtdhdfeiobjmdaaaRHelp
import Derived.Lib.AppendStr
namespace Go.Proofs.Ytdhdfeiobjmdaaa
open Go.ChangeShapes Go.WideShapes Go.ChangeAt Go.RowKit
set_option linter.unusedVariables false

theorem refRight_any (k n : Int) (s : ByteArray) (w : World) (hs : s.size ≤ 9223372036854775807) :
    Calls Try.prog 86 #[vv k n s] w fun e w' => e = .returned (.bool (decide (Rt k n s))) ∧ Below w.heap.size w w' := by
  have key : ∀ β, decide (Rt k n s) = β → Calls Try.prog 86 #[vv k n s] w fun e w' => e = .returned (.bool β) ∧ Below w.heap.size w w' := by
    intro β hβ
    have HB := Lib.hid hβ
    have d0 : (n == 0) = decide (n = 0) := by by_cases h : n = 0 <;> simp [h]
    have dz : (((s.size : Nat) : Int) == 0) = decide (s.size = 0) := by by_cases h : s.size = 0 <;> simp [h]
    by_cases h0 : k = 0
    · subst h0
      have HR := Lib.hid (show β = (decide (n = 0) && decide (s.size = 0)) by rw [← HB.out, Bool.eq_iff_iff]; simp [Rt])
      clear hβ HB
      by_cases hn : n = 0 <;> by_cases hz : s.size = 0
      all_goals
        have e0 : (n == 0) = _ := d0
        have ez : (((s.size : Nat) : Int) == 0) = _ := dz
        simp only [hn, hz, decide_true, decide_false] at e0 ez
        clear d0 dz
        simp only [hn, hz, decide_true, decide_false] at HR
        go_enter Try.func86, Try.ntmps86
        go_wp2_with fail
        go_ret
        exact ⟨by rw [HR.out]; rfl, (Below.refl _ _).alloc (Nat.le_refl _) _⟩
    · by_cases h1 : k = 1
      · subst h1
        have HR := Lib.hid (show β = decide (s.size = 0) by rw [← HB.out, Bool.eq_iff_iff]; simp [Rt])
        clear hβ HB d0
        by_cases hz : s.size = 0
        all_goals
          have ez : (((s.size : Nat) : Int) == 0) = _ := dz
          simp only [hz, decide_true, decide_false] at ez
          clear dz
          simp only [hz, decide_true, decide_false] at HR
          go_enter Try.func86, Try.ntmps86
          go_wp2_with fail
          go_ret
          exact ⟨by rw [HR.out]; rfl, (Below.refl _ _).alloc (Nat.le_refl _) _⟩
      · have e0 : (k == 0) = false := by simpa using h0
        have e1 : (k == 1) = false := by simpa using h1
        by_cases h23 : k = 2 ∨ k = 3
        · have HR := Lib.hid (show β = (decide (n = 0) && decide (s.size ≤ 65536)) by rw [← HB.out, Bool.eq_iff_iff]; simp [Rt]; rcases h23 with rfl | rfl <;> simp)
          clear hβ HB dz
          have hle : decide ((s.size : Int) ≤ 65536) = decide (s.size ≤ 65536) := by rw [decide_eq_decide]; omega
          rcases h23 with rfl | rfl
          all_goals
            by_cases hn : n = 0
            all_goals
              have en : (n == 0) = _ := d0
              simp only [hn, decide_true, decide_false] at en
              simp only [hn, decide_true, decide_false, Bool.true_and, Bool.false_and] at HR
              go_enter Try.func86, Try.ntmps86
              go_wp2_with fail
              go_ret
              exact ⟨by rw [HR.out]; rfl, (Below.refl _ _).alloc (Nat.le_refl _) _⟩
        · have e2 : (k == 2) = false := by simp; omega
          have e3 : (k == 3) = false := by simp; omega
          have HR := Lib.hid (show β = false by rw [← HB.out]; simp [Rt]; omega)
          clear hβ HB dz d0
          go_enter Try.func86, Try.ntmps86
          go_wp2_with fail
          go_ret
          exact ⟨by rw [HR.out]; rfl, (Below.refl _ _).alloc (Nat.le_refl _) _⟩
  exact key _ rfl

def RefRightRel (w : World) (vs : List Trip) (i : Value) (wr : World) : Prop :=
  ∃ j : Nat, j ≤ vs.length ∧ i = .int .i64 j ∧ (vs.take j).any pBad = false ∧ Below w.heap.size w wr

set_option maxHeartbeats 400000 in
theorem refRow_any (A : Option Addr) (cap : Nat) (vs : List Trip) (w : World) (hR : RdR w w.heap.size A vs) (hl : vs.length ≤ 1000000) (hsz : ∀ t ∈ vs, t.2.2.size ≤ 9223372036854775807) (E : Nat)
    (hE : Hid (E = if 200 < vs.length then 3 else if vs.any pBad then 2 else 0)) :
    Calls Try.prog 68 #[.slice A vs.length cap] w fun e w' => e = .returned (.int .i64 (E : Nat)) ∧ Below w.heap.size w w' := by
  by_cases h2 : 200 < vs.length
  · have h2' : decide ((200 : Int) < vs.length) = true := decide_eq_true (by omega)
    have HE := Lib.hid (show E = 3 by rw [hE.out, if_pos h2])
    clear hE
    go_enter Try.func68, Try.ntmps68
    go_wp2_with fail
    go_ret
    exact ⟨by rw [HE.out]; rfl, Below.refl _ _⟩
  · have h2' : decide ((200 : Int) < vs.length) = false := decide_eq_false (by omega)
    have HE := Lib.hid (show E = if vs.any pBad then 2 else 0 by rw [hE.out, if_neg h2])
    clear hE
    go_enter Try.func68, Try.ntmps68
    go_wp2_with fail
    go_loopw [3] (fun i wr => RefRightRel w vs i wr) (fun i _ => vs.length - (intOf i).toNat)
    case atStart => exact ⟨0, Nat.zero_le _, rfl, by simp, Below.refl _ _⟩
    case round =>
      obtain ⟨j, hj, rfl, h0, hbw⟩ := hrel
      by_cases hlt : j < vs.length
      · have hget : vs[j]? = some vs[j] := List.getElem?_eq_getElem hlt
        have hany := any_take_succ hget h0
        have hat := fun h => any_of_at (p := pBad) hget h
        obtain ⟨ad, rfl, hal, hcs⟩ := (hR.below hbw) (by omega)
        generalize vs[j] = t at *
        obtain ⟨kk, n, s⟩ := t
        obtain ⟨c0, c1, c2⟩ := hcs j kk n s hget
        have HA := Lib.hid hany
        have HT := Lib.hid hat
        have HG := Lib.hid (hsz _ (List.mem_of_getElem? hget))
        have hji : (j : Int) < vs.length := by omega
        clear hany hat hget hcs h0
        cases hp : pBad (kk, n, s)
        · have hp' : decide (Rt kk n s) = true := by simpa [pBad] using hp
          go_wp2_with (go_at_call 86; refine (refRight_any _ _ _ _ HG.out).mono ?_; rintro e w1 ⟨rfl, hb⟩; rw [hp']; have HB := Lib.hid (hbw.trans (hb.mono hbw.size)); clear hb)
          go_roundw
          case rel => exact ⟨j + 1, by omega, by go_num, by rw [HA.out]; exact hp, HB.out⟩
          case measure => simp [intOf]; omega
        · have hp' : decide (Rt kk n s) = false := by simpa [pBad] using hp
          go_wp2_with (go_at_call 86; refine (refRight_any _ _ _ _ HG.out).mono ?_; rintro e w1 ⟨rfl, hb⟩; rw [hp']; have HB := Lib.hid (hbw.trans (hb.mono hbw.size)); clear hb)
          go_ret
          exact ⟨by rw [HE.out, HT.out hp]; rfl, HB.out⟩
      · go_wp2_with fail
        go_ret
        have : j = vs.length := by omega
        subst this
        rw [List.take_length] at h0
        exact ⟨by rw [HE.out, h0]; rfl, hbw⟩

/-- a call that tells bytes in memory that was not there -/
def RetRd (l : List UInt8) (w : World) (e : Ending) (w' : World) : Prop := ∃ A c, e = .returned (.slice A l.length c) ∧ Rd w' w'.heap.size A l ∧ l.length ≤ c ∧ c ≤ maxLen ∧ Below w.heap.size w w'

theorem run_make8n (n : Nat) (hn : n ≤ 1099511627776) (w : World) : (Instr.makeSlice 62 (.int .i64 (n : Int)) (.int .i64 (n : Int))).run Try.prog w = .ok (.slice (some ⟨w.heap.size, 0, none⟩) n n) (w.alloc (.cells (madeCells #[.int .u8 0] n) 5)) := by
  obtain ⟨i0, hi, hz0, hz1, hz2⟩ := info_parts Try.info_u8
  have h := run_make (P := Try.prog) w 62 5 i0 (.int .u8 0) Try.underlying62 hi hz0 .i64 .i64 (n : Int) (n : Int) (by omega) (by omega) (by rw [hz2]; omega) (by omega)
  rw [h, hz1]
  have e1 : ((n : Int)).toNat = n := by omega
  rw [e1, Nat.mul_one]
  rfl

/-- byte p of the k, once j of them are laid from the last one on -/
def midN (N k j p : Nat) : UInt8 := if k - j ≤ p then (N / 256 ^ (k - 1 - p)).toUInt8 else 0
def NumAt (w : World) (g N k j : Nat) : Prop := g < w.heap.size ∧ ∀ p, p < k → w.cell? ⟨g, p, none⟩ = some (b8 (midN N k j p)) ∧ w.frozen? ⟨g, p, none⟩ = false
theorem NumAt.set {w : World} {g N k j : Nat} (h : NumAt w g N k j) (hj : j < k) (z : Int) (hz : z = ((N / 256 ^ j).toUInt8.toNat : Int)) : NumAt (w.setCell ⟨g, k - 1 - j, none⟩ (.int .u8 z)) g N k (j + 1) := by
  subst hz
  refine ⟨by simpa using h.1, fun p hp => ⟨?_, by rw [World.frozen?_setCell]; exact (h.2 p hp).2⟩⟩
  by_cases e : k - 1 - j = p
  · subst e
    rw [World.cell?_setCell_same (h := (h.2 _ hp).1)]
    have h1 : k - (j + 1) ≤ k - 1 - j := by omega
    have h2 : k - 1 - (k - 1 - j) = j := by omega
    simp [midN, h1, h2, b8]
  · rw [World.cell?_setCell_other (h := by intro h'; injection h' with _ h' _; omega), (h.2 p hp).1]
    have : (k - (j + 1) ≤ p) = (k - j ≤ p) := by simp; omega
    simp only [midN, this]
theorem beN_get (N : Nat) : ∀ (k p : Nat), p < k → (beN N k)[p]? = some (N / 256 ^ (k - 1 - p)).toUInt8
  | 0, p, h => by omega
  | k + 1, 0, _ => by simp [beN]
  | k + 1, p + 1, h => by
    have := beN_get N k p (by omega)
    simp only [beN, List.getElem?_cons_succ]
    rw [this, show k + 1 - 1 - (p + 1) = k - 1 - p by omega]
theorem NumAt.rd {w : World} {g N k : Nat} (h : NumAt w g N k k) : Rd w w.heap.size (some ⟨g, 0, none⟩) (beN N k) := by
  intro _
  refine ⟨_, rfl, h.1, fun j u hu => ?_⟩
  have hj : j < k := by
    rcases Nat.lt_or_ge j k with hlt | hge
    · exact hlt
    · rw [List.getElem?_eq_none (by rw [beN_length]; exact hge)] at hu; cases hu
  have ha : ((⟨g, 0, none⟩ : Addr).add j) = ⟨g, j, none⟩ := by
    unfold Addr.add
    by_cases hj0 : j = 0 <;> simp [hj0]
  rw [ha, (h.2 j hj).1]
  rw [beN_get N k j hj] at hu
  injection hu with hu
  simp [midN, hu]
theorem numAt_made (w : World) (N k : Nat) : NumAt (w.alloc (.cells (madeCells #[.int .u8 0] k) 5)) w.heap.size N k 0 := by
  have hs : (madeCells #[.int .u8 0] k).size = k := size_madeCells _ _
  refine ⟨by simp, fun p hp => ?_⟩
  have hm : ¬ (k - 0 ≤ p) := by omega
  simp only [World.cell?, World.frozen?, heap_alloc_new, midN, if_neg hm]
  refine ⟨?_, by simp⟩
  rw [Array.getElem?_eq_getElem (by omega)]
  simp [madeCells, b8, Nat.mod_one]

def NumRel (w : World) (N k : Nat) (i : Value) (wr : World) : Prop := ∃ j : Nat, j ≤ k ∧ i = .int .i64 j ∧ Below w.heap.size w wr ∧ NumAt wr w.heap.size N k j

set_option maxRecDepth 100000 in
theorem refNumber_any (n : Int) (k : Nat) (w : World) (hn : In64 n) (hk : k ≤ 8) :
    Calls Try.prog 72 #[.int .i64 n, .int .i64 k] w (RetRd (beN (u64N n) k) w) := by
  have hmk := run_make8n k (by omega) w
  have hu : u64N n < 18446744073709551616 := by unfold u64N; omega
  have HM := Lib.hid (numAt_made w (u64N n) k)
  have hwr : IntKind.u64.wrap n = ((u64N n : Nat) : Int) := by rw [show IntKind.u64.wrap n = n % 18446744073709551616 by simp [IntKind.wrap, IntKind.bits, IntKind.signed]]; unfold u64N; omega
  go_enter Try.func72, Try.ntmps72
  go_wp2_with fail
  go_loopw [6] (fun i wr => NumRel w (u64N n) k i wr) (fun i _ => k - (intOf i).toNat)
  case atStart => exact ⟨0, by omega, rfl, (Below.refl _ _).alloc (Nat.le_refl _) _, HM.out⟩
  case round =>
    obtain ⟨j, hj, rfl, hb, hat⟩ := hrel
    by_cases hlt : j < k
    · obtain ⟨hc, hf⟩ := hat.2 (k - 1 - j) (by omega)
      have HS := Lib.hid (fun z hz => hat.set hlt z hz)
      have hi : ((k : Int) - 1 - j) = ((k - 1 - j : Nat) : Int) := by omega
      have hi2 : ((k - 1 - j : Nat) : Int) < k := by omega
      clear hat
      go_wp2_with fail
      refine ⟨⟨j + 1, by omega, by go_num, hb.setCell (Nat.le_refl _) _, HS.out _ (be_byte _ _)⟩, by simp [intOf]; omega⟩
    · obtain rfl : j = k := by omega
      have HR := Lib.hid hat.rd
      clear hat
      go_wp2_with fail
      go_ret
      exact ⟨_, j, by rw [beN_length]; rfl, HR.out, by rw [beN_length]; exact Nat.le_refl _, by simp only [maxLen]; omega, hb⟩
end Go.Proofs.Ytdhdfeiobjmdaaa

namespace Go.Proofs.Ytdhdfeiobjmdaaa
open Go.ChangeShapes Go.WideShapes Go.ChangeAt Go.RowKit
set_option linter.unusedVariables false

theorem lenF_le : ∀ (f : Nat) (m : Int) (j : Nat), j < f → (lenF f m ≤ j + 1 ↔ -128 * 256 ^ j ≤ m ∧ m ≤ 128 * 256 ^ j - 1)
  | 0, _, _, h => by omega
  | f + 1, m, 0, _ => by
    have h1 := (lenF_range f (m / 256)).1
    unfold lenF
    split
    · rename_i h
      simp
      omega
    · rename_i h
      simp
      omega
  | f + 1, m, j + 1, hj => by
    have ih := lenF_le f (m / 256) j (by omega)
    have hp : (1 : Int) ≤ 256 ^ j := Int.pow_pos (by omega)
    have e : (256 : Int) ^ (j + 1) = 256 ^ j * 256 := Int.pow_succ _ _
    rw [e]
    generalize (256 : Int) ^ j = q at *
    unfold lenF
    split
    · rename_i h
      constructor
      · intro _; constructor <;> omega
      · intro _; omega
    · rw [Nat.add_le_add_iff_right, ih]
      constructor
      · rintro ⟨a, b⟩; constructor <;> omega
      · rintro ⟨a, b⟩; constructor <;> omega
theorem lenI_le (n : Int) (j : Nat) (hj : j < 7) : lenI n ≤ j + 1 ↔ -128 * 256 ^ j ≤ n ∧ n ≤ 128 * 256 ^ j - 1 := lenF_le 7 n j hj

def WideRel (n : Int) (k : Value) : Prop := ∃ j : Nat, 1 ≤ j ∧ j ≤ 8 ∧ k = .int .i64 j ∧ j ≤ lenI n

set_option maxRecDepth 100000 in
theorem refWide_any (n : Int) (w : World) (hn : In64 n) :
    Calls Try.prog 71 #[.int .i64 n] w fun e w' => e = .returned (.int .i64 (lenI n : Nat)) ∧ w = w' := by
  have hr := lenF_range 7 n
  have HR : lenI n ≤ 8 := hr.2
  have H1 : 1 ≤ lenI n := hr.1
  have HL := Lib.hid (lenI_le n)
  obtain ⟨hn1, hn2⟩ := hn
  clear hr
  generalize hg : lenI n = g at *
  have HG := Lib.hid hg
  clear hg
  go_enter Try.func71, Try.ntmps71
  go_wp2_with fail
  go_loop [3] (fun k => WideRel n k) (fun k => 8 - (intOf k).toNat)
  case atStart => exact ⟨1, by omega, by omega, rfl, by rw [HG.out]; omega⟩
  case round =>
    obtain ⟨j, hj1, hj8, rfl, hjg⟩ := hrel
    rw [HG.out] at hjg
    rcases (show j = 1 ∨ j = 2 ∨ j = 3 ∨ j = 4 ∨ j = 5 ∨ j = 6 ∨ j = 7 ∨ j = 8 by omega) with rfl | rfl | rfl | rfl | rfl | rfl | rfl | rfl
    · have hl : g ≤ 1 ↔ -128 ≤ n ∧ n ≤ 127 := by have := HL.out 0 (by omega); simpa using this
      by_cases hin : g ≤ 1
      · obtain ⟨a, b⟩ := hl.1 hin
        obtain rfl : g = 1 := by omega
        have t1 : decide (-128 ≤ n) = true := decide_eq_true a
        have t2 : decide (n < 128) = true := decide_eq_true (by omega)
        clear hl hin hjg
        go_wp2_with fail
        go_ret
        exact ⟨rfl, rfl⟩
      · have hno : ¬ (-128 ≤ n ∧ n ≤ 127) := fun h => hin (hl.2 h)
        have hrel : WideRel n (.int .i64 ((1 : Nat) + 1 : Int)) := ⟨2, by omega, by omega, rfl, by rw [HG.out]; omega⟩
        have HREL := Lib.hid hrel
        by_cases h1 : n < -128
        · have t1 : decide (-128 ≤ n) = false := decide_eq_false (by omega)
          clear hl hin hno hrel
          go_wp2_with fail
          go_round
          case rel => exact HREL.out
          case measure => simp [intOf]
        · have t1 : decide (-128 ≤ n) = true := decide_eq_true (by omega)
          have t2 : decide (n < 128) = false := decide_eq_false (by omega)
          clear hl hin hno hrel
          go_wp2_with fail
          go_round
          case rel => exact HREL.out
          case measure => simp [intOf]
    · have hl : g ≤ 2 ↔ -32768 ≤ n ∧ n ≤ 32767 := by have := HL.out 1 (by omega); simpa using this
      by_cases hin : g ≤ 2
      · obtain ⟨a, b⟩ := hl.1 hin
        obtain rfl : g = 2 := by omega
        have t1 : decide (-32768 ≤ n) = true := decide_eq_true a
        have t2 : decide (n < 32768) = true := decide_eq_true (by omega)
        clear hl hin hjg
        go_wp2_with fail
        go_ret
        exact ⟨rfl, rfl⟩
      · have hno : ¬ (-32768 ≤ n ∧ n ≤ 32767) := fun h => hin (hl.2 h)
        have hrel : WideRel n (.int .i64 ((2 : Nat) + 1 : Int)) := ⟨3, by omega, by omega, rfl, by rw [HG.out]; omega⟩
        have HREL := Lib.hid hrel
        by_cases h1 : n < -32768
        · have t1 : decide (-32768 ≤ n) = false := decide_eq_false (by omega)
          clear hl hin hno hrel
          go_wp2_with fail
          go_round
          case rel => exact HREL.out
          case measure => simp [intOf]
        · have t1 : decide (-32768 ≤ n) = true := decide_eq_true (by omega)
          have t2 : decide (n < 32768) = false := decide_eq_false (by omega)
          clear hl hin hno hrel
          go_wp2_with fail
          go_round
          case rel => exact HREL.out
          case measure => simp [intOf]
    · have hl : g ≤ 3 ↔ -8388608 ≤ n ∧ n ≤ 8388607 := by have := HL.out 2 (by omega); simpa using this
      by_cases hin : g ≤ 3
      · obtain ⟨a, b⟩ := hl.1 hin
        obtain rfl : g = 3 := by omega
        have t1 : decide (-8388608 ≤ n) = true := decide_eq_true a
        have t2 : decide (n < 8388608) = true := decide_eq_true (by omega)
        clear hl hin hjg
        go_wp2_with fail
        go_ret
        exact ⟨rfl, rfl⟩
      · have hno : ¬ (-8388608 ≤ n ∧ n ≤ 8388607) := fun h => hin (hl.2 h)
        have hrel : WideRel n (.int .i64 ((3 : Nat) + 1 : Int)) := ⟨4, by omega, by omega, rfl, by rw [HG.out]; omega⟩
        have HREL := Lib.hid hrel
        by_cases h1 : n < -8388608
        · have t1 : decide (-8388608 ≤ n) = false := decide_eq_false (by omega)
          clear hl hin hno hrel
          go_wp2_with fail
          go_round
          case rel => exact HREL.out
          case measure => simp [intOf]
        · have t1 : decide (-8388608 ≤ n) = true := decide_eq_true (by omega)
          have t2 : decide (n < 8388608) = false := decide_eq_false (by omega)
          clear hl hin hno hrel
          go_wp2_with fail
          go_round
          case rel => exact HREL.out
          case measure => simp [intOf]
    · have hl : g ≤ 4 ↔ -2147483648 ≤ n ∧ n ≤ 2147483647 := by have := HL.out 3 (by omega); simpa using this
      by_cases hin : g ≤ 4
      · obtain ⟨a, b⟩ := hl.1 hin
        obtain rfl : g = 4 := by omega
        have t1 : decide (-2147483648 ≤ n) = true := decide_eq_true a
        have t2 : decide (n < 2147483648) = true := decide_eq_true (by omega)
        clear hl hin hjg
        go_wp2_with fail
        go_ret
        exact ⟨rfl, rfl⟩
      · have hno : ¬ (-2147483648 ≤ n ∧ n ≤ 2147483647) := fun h => hin (hl.2 h)
        have hrel : WideRel n (.int .i64 ((4 : Nat) + 1 : Int)) := ⟨5, by omega, by omega, rfl, by rw [HG.out]; omega⟩
        have HREL := Lib.hid hrel
        by_cases h1 : n < -2147483648
        · have t1 : decide (-2147483648 ≤ n) = false := decide_eq_false (by omega)
          clear hl hin hno hrel
          go_wp2_with fail
          go_round
          case rel => exact HREL.out
          case measure => simp [intOf]
        · have t1 : decide (-2147483648 ≤ n) = true := decide_eq_true (by omega)
          have t2 : decide (n < 2147483648) = false := decide_eq_false (by omega)
          clear hl hin hno hrel
          go_wp2_with fail
          go_round
          case rel => exact HREL.out
          case measure => simp [intOf]
    · have hl : g ≤ 5 ↔ -549755813888 ≤ n ∧ n ≤ 549755813887 := by have := HL.out 4 (by omega); simpa using this
      by_cases hin : g ≤ 5
      · obtain ⟨a, b⟩ := hl.1 hin
        obtain rfl : g = 5 := by omega
        have t1 : decide (-549755813888 ≤ n) = true := decide_eq_true a
        have t2 : decide (n < 549755813888) = true := decide_eq_true (by omega)
        clear hl hin hjg
        go_wp2_with fail
        go_ret
        exact ⟨rfl, rfl⟩
      · have hno : ¬ (-549755813888 ≤ n ∧ n ≤ 549755813887) := fun h => hin (hl.2 h)
        have hrel : WideRel n (.int .i64 ((5 : Nat) + 1 : Int)) := ⟨6, by omega, by omega, rfl, by rw [HG.out]; omega⟩
        have HREL := Lib.hid hrel
        by_cases h1 : n < -549755813888
        · have t1 : decide (-549755813888 ≤ n) = false := decide_eq_false (by omega)
          clear hl hin hno hrel
          go_wp2_with fail
          go_round
          case rel => exact HREL.out
          case measure => simp [intOf]
        · have t1 : decide (-549755813888 ≤ n) = true := decide_eq_true (by omega)
          have t2 : decide (n < 549755813888) = false := decide_eq_false (by omega)
          clear hl hin hno hrel
          go_wp2_with fail
          go_round
          case rel => exact HREL.out
          case measure => simp [intOf]
    · have hl : g ≤ 6 ↔ -140737488355328 ≤ n ∧ n ≤ 140737488355327 := by have := HL.out 5 (by omega); simpa using this
      by_cases hin : g ≤ 6
      · obtain ⟨a, b⟩ := hl.1 hin
        obtain rfl : g = 6 := by omega
        have t1 : decide (-140737488355328 ≤ n) = true := decide_eq_true a
        have t2 : decide (n < 140737488355328) = true := decide_eq_true (by omega)
        clear hl hin hjg
        go_wp2_with fail
        go_ret
        exact ⟨rfl, rfl⟩
      · have hno : ¬ (-140737488355328 ≤ n ∧ n ≤ 140737488355327) := fun h => hin (hl.2 h)
        have hrel : WideRel n (.int .i64 ((6 : Nat) + 1 : Int)) := ⟨7, by omega, by omega, rfl, by rw [HG.out]; omega⟩
        have HREL := Lib.hid hrel
        by_cases h1 : n < -140737488355328
        · have t1 : decide (-140737488355328 ≤ n) = false := decide_eq_false (by omega)
          clear hl hin hno hrel
          go_wp2_with fail
          go_round
          case rel => exact HREL.out
          case measure => simp [intOf]
        · have t1 : decide (-140737488355328 ≤ n) = true := decide_eq_true (by omega)
          have t2 : decide (n < 140737488355328) = false := decide_eq_false (by omega)
          clear hl hin hno hrel
          go_wp2_with fail
          go_round
          case rel => exact HREL.out
          case measure => simp [intOf]
    · have hl : g ≤ 7 ↔ -36028797018963968 ≤ n ∧ n ≤ 36028797018963967 := by have := HL.out 6 (by omega); simpa using this
      by_cases hin : g ≤ 7
      · obtain ⟨a, b⟩ := hl.1 hin
        obtain rfl : g = 7 := by omega
        have t1 : decide (-36028797018963968 ≤ n) = true := decide_eq_true a
        have t2 : decide (n < 36028797018963968) = true := decide_eq_true (by omega)
        clear hl hin hjg
        go_wp2_with fail
        go_ret
        exact ⟨rfl, rfl⟩
      · have hno : ¬ (-36028797018963968 ≤ n ∧ n ≤ 36028797018963967) := fun h => hin (hl.2 h)
        have hrel : WideRel n (.int .i64 ((7 : Nat) + 1 : Int)) := ⟨8, by omega, by omega, rfl, by rw [HG.out]; omega⟩
        have HREL := Lib.hid hrel
        by_cases h1 : n < -36028797018963968
        · have t1 : decide (-36028797018963968 ≤ n) = false := decide_eq_false (by omega)
          clear hl hin hno hrel
          go_wp2_with fail
          go_round
          case rel => exact HREL.out
          case measure => simp [intOf]
        · have t1 : decide (-36028797018963968 ≤ n) = true := decide_eq_true (by omega)
          have t2 : decide (n < 36028797018963968) = false := decide_eq_false (by omega)
          clear hl hin hno hrel
          go_wp2_with fail
          go_round
          case rel => exact HREL.out
          case measure => simp [intOf]
    · obtain rfl : g = 8 := by omega
      go_wp2_with fail
      go_ret
      exact ⟨rfl, rfl⟩

def SameRelB (a b : List UInt8) (w : World) (i : Value) (wr : World) : Prop := ∃ j : Nat, j ≤ a.length ∧ i = .int .i64 j ∧ Below w.heap.size w wr ∧ a.take j = b.take j
end Go.Proofs.Ytdhdfeiobjmdaaa

namespace Go.Proofs.Ytdhdfeiobjmdaaa
open Go.ChangeShapes Go.WideShapes Go.ChangeAt Go.RowKit
set_option linter.unusedVariables false

set_option maxRecDepth 100000 in
theorem run_appBG (w : World) (ty : TypeId) (base : Nat) (v : Value) (l : List UInt8) (hown : Own w base v l) (A : Option Addr) (c : Nat) (m : List UInt8) (hr : Rd w w.heap.size A m) (hlen : l.length + m.length ≤ 70368744177664) (hbase : base ≤ w.heap.size) :
    ∃ v' w', (Builtin.append_ #[62, 62] ty #[v, .slice A m.length c]).run Try.prog w = .ok v' w' ∧ Own w' base v' (l ++ m) ∧ w.grownBy w' v.ownBlock := by
  obtain ⟨i0, hi, hz0, hz1, hz2⟩ := info_parts Try.info_u8
  rcases A with _ | ad
  · have h0 : m = [] := by
      cases m with
      | nil => rfl
      | cons u r =>
        obtain ⟨ad, e, _⟩ := hr (by simp)
        cases e
    subst h0
    have hs2 : w.ownsRow base 5 1 v l.length (bs l) := hown
    refine ⟨v, w, ?_, by rw [List.append_nil]; exact hown, World.grownBy.refl w _⟩
    rcases hs2.2 with ⟨rfl, _⟩ | ⟨g, cap, cur, rfl, _, _, hnc, _⟩ <;>
      simp [Builtin.append_, run_underlying Try.underlying62, sizeOf, typeInfo, hi, Builtin.lenOf, Builtin.firstCells]
    simp [hnc, storeCells]
  · obtain ⟨v', w', hrun, h1, h2, _⟩ := run_append_own (P := Try.prog) w base 62 ty 5 i0 (.int .u8 0) 1 1 Try.underlying62 hi hz0 hz1 hz2 rfl (by decide) v l.length (bs l) hown ad m.length c (bs m) (by rw [bs_length, Nat.mul_one]) (fun j u hu => by
      rw [bs_getElem?] at hu
      obtain ⟨q, hq, rfl⟩ := Option.map_eq_some_iff.1 hu
      have hj : j < m.length := by
        rcases Nat.lt_or_ge j m.length with hlt | hge
        · exact hlt
        · rw [List.getElem?_eq_none hge] at hq; cases hq
      obtain ⟨ad', e, _, hc⟩ := hr (by omega)
      injection e with e
      subst e
      exact hc j q hq) (bs_one m) (by simp only [maxLen]; omega) (by omega) hbase
    refine ⟨v', w', hrun, ?_, h2⟩
    unfold Own
    rw [List.length_append, bs_append]
    exact h1

theorem wp_appBG {w : World} {o : Oper} {a : Act} {K : Act → World → Prop} {Q : Exit → Act → World → Prop} (s x : Operand)
    (ho : o.op = .call { callee := .builtin .append, args := #[s, x], argTypes := #[62, 62] })
    (base : Nat) (v : Value) (l : List UInt8) (hs : a.eval s = v) (hown : Own w base v l) (A : Option Addr) (c n : Nat) (m : List UInt8) (hn : n = m.length) (hx : a.eval x = .slice A n c) (hr : Rd w w.heap.size A m) (hlen : l.length + m.length ≤ 70368744177664) (hbase : base ≤ w.heap.size)
    (h : ∀ v' w', Own w' base v' (l ++ m) → w.grownBy w' v.ownBlock → K (a.put o.dst v') w') : o.wp Try.prog a w K Q := by
  subst hn
  obtain ⟨v', w', hrun, h1, h2⟩ := run_appBG w o.type base v l hown A c m hr hlen hbase
  unfold Oper.wp execOp
  simp only [ho, resolve, invoke, builtin, Sem.run_bind, Sem.run_pure, Result.andThen_ok, List.map_toArray, List.map_cons, List.map_nil, hs, hx, hrun]
  exact h v' w' h1 h2

theorem wpList_appBG {w : World} {ops : Array Oper} {rest : List Oper} {o : Oper} {a : Act} {Q : Exit → Act → World → Prop} (hgd : o.guard = none) (s x : Operand)
    (ho : o.op = .call { callee := .builtin .append, args := #[s, x], argTypes := #[62, 62] })
    (base : Nat) (v : Value) (l : List UInt8) (hs : a.eval s = v) (hown : Own w base v l) (A : Option Addr) (c n : Nat) (m : List UInt8) (hn : n = m.length) (hx : a.eval x = .slice A n c) (hr : Rd w w.heap.size A m) (hlen : l.length + m.length ≤ 70368744177664) (hbase : base ≤ w.heap.size)
    (h : ∀ v' w', Own w' base v' (l ++ m) → w.grownBy w' v.ownBlock → wpList Try.prog ops Q rest (a.put o.dst v') w') : wpList Try.prog ops Q (o :: rest) a w :=
  wpList_plain hgd fun _ hK => wp_appBG s x ho base v l hs hown A c n m hn hx hr hlen hbase fun v' w' h1 h2 => hK _ _ (h v' w' h1 h2)

theorem step_appBG {w : World} {ops : Array Oper} {o : Oper} {a : Act} {K : Act → World → Prop} {Q : Exit → Act → World → Prop} {E : Prop} (hgd : o.guard = none) (s x : Operand)
    (ho : o.op = .call { callee := .builtin .append, args := #[s, x], argTypes := #[62, 62] })
    (base : Nat) (v : Value) (l : List UInt8) (hs : a.eval s = v) (hown : Own w base v l) (A : Option Addr) (c n : Nat) (m : List UInt8) (hn : n = m.length) (hx : a.eval x = .slice A n c) (hr : Rd w w.heap.size A m) (hlen : l.length + m.length ≤ 70368744177664) (hbase : base ≤ w.heap.size)
    (h : ∀ v' w', Own w' base v' (l ++ m) → w.grownBy w' v.ownBlock → K (a.put o.dst v') w') :
    if Region.wanted o (yielded ops a.tmps) = true then Oper.wp Try.prog o a w K Q else E := by
  have hw : Region.wanted o (yielded ops a.tmps) = true := by simp [Region.wanted, hgd]
  rw [if_pos hw]
  exact wp_appBG s x ho base v l hs hown A c n m hn hx hr hlen hbase h

theorem bs_str (s : ByteArray) : Lib.strCells s = bs s.data.toList := by
  rcases s with ⟨⟨l⟩⟩
  simp [Lib.strCells, bs, b8]

/-- append of a string's bytes -/
theorem wpList_appSG {w : World} {ops : Array Oper} {rest : List Oper} {o : Oper} {a : Act} {Q : Exit → Act → World → Prop} (hgd : o.guard = none) (s x : Operand)
    (ho : o.op = .call { callee := .builtin .append, args := #[s, x], argTypes := #[62, 9] })
    (base : Nat) (v : Value) (l : List UInt8) (hs : a.eval s = v) (hown : Own w base v l) (q : ByteArray) (hx : a.eval x = .string q) (hlen : l.length + q.size ≤ 70368744177664) (hbase : base ≤ w.heap.size)
    (h : ∀ v' w', Own w' base v' (l ++ q.data.toList) → w.grownBy w' v.ownBlock → wpList Try.prog ops Q rest (a.put o.dst v') w') : wpList Try.prog ops Q (o :: rest) a w := by
  obtain ⟨i0, hi, hz0, hz1, hz2⟩ := info_parts Try.info_u8
  refine Lib.wpList_append_own_string w hgd s x 62 9 ho base 5 i0 Try.underlying62 Try.underlying9 hi hz0 hz1 hz2 v l.length (bs l) hs hown q hx (by simp only [maxLen]; omega) (by omega) hbase ?_
  intro v' w' h1 h2 _
  refine h v' w' ?_ h2
  unfold Own
  rw [List.length_append, bs_append, ← bs_str]
  have e : q.data.toList.length = q.size := by rcases q with ⟨⟨l⟩⟩; rfl
  rw [e]
  exact h1

/-- a row of the call's own stays while another one grows -/
theorem Own.apart {w w' : World} {b1 : Nat} {v1 v2 : Value} {l1 : List UInt8} (h1 : Own w b1 v1 l1) (hg : w.grownBy w' v2.ownBlock) (h2 : ∀ g, v2.ownBlock = some g → g < b1) : Own w' b1 v1 l1 := by
  refine World.ownsRow.kept h1 hg ?_
  cases h : v1.ownBlock with
  | none => exact .inl rfl
  | some g =>
    right
    have := (h1.lt g h).1
    intro e
    have := h2 g e.symm
    omega
end Go.Proofs.Ytdhdfeiobjmdaaa

namespace Go.Proofs.Ytdhdfeiobjmdaaa
open Go.ChangeShapes Go.WideShapes Go.ChangeAt Go.RowKit
set_option linter.unusedVariables false

theorem Own.cells {w : World} {base g n c : Nat} {l : List UInt8} (h : Own w base (.slice (some ⟨g, 0, none⟩) n c) l) : n = l.length ∧ base ≤ g ∧ g < w.heap.size ∧ l.length ≤ c ∧ c ≤ maxLen ∧ ∀ (j : Nat) (u : UInt8), l[j]? = some u → w.cell? ⟨g, j, none⟩ = some (b8 u) ∧ w.frozen? ⟨g, j, none⟩ = false := by
  have h' := h
  obtain ⟨h1, h2⟩ := h
  rcases h2 with ⟨hv, _⟩ | ⟨g', cap, cur, hv, hg, hh, hc, hm, hs, ht⟩
  · cases hv
  · simp only [Value.slice.injEq, Option.some.injEq, Addr.mk.injEq] at hv
    obtain ⟨⟨rfl, _, _⟩, rfl, rfl⟩ := hv
    refine ⟨rfl, hg, (Own.lt h' g rfl).2, hc, hm, fun j u hu => ⟨?_, by simp [World.frozen?, hh]⟩⟩
    have := World.ownsRow.cells h' (g := g) rfl j (b8 u) (by rw [bs_getElem?, hu]; rfl)
    have ha : ((⟨g, 0, none⟩ : Addr).add j) = ⟨g, j, none⟩ := by
      unfold Addr.add
      by_cases hj0 : j = 0 <;> simp [hj0]
    rwa [ha] at this

theorem Own.set {w : World} {base g n c : Nat} {l : List UInt8} (h : Own w base (.slice (some ⟨g, 0, none⟩) n c) l) (j : Nat) (u : UInt8) : Own (w.setCell ⟨g, j, none⟩ (b8 u)) base (.slice (some ⟨g, 0, none⟩) n c) (l.set j u) := by
  obtain ⟨h1, h2⟩ := h
  rcases h2 with ⟨hv, _⟩ | ⟨g', cap, cur, hv, hg, hh, hc, hm, hs, ht⟩
  · cases hv
  · simp only [Value.slice.injEq, Option.some.injEq, Addr.mk.injEq] at hv
    obtain ⟨⟨rfl, _, _⟩, rfl, rfl⟩ := hv
    have e : (l.set j u).length = l.length := List.length_set
    refine ⟨by rw [bs_length, e, Nat.mul_one], .inr ⟨g, c, cur.setIfInBounds j (b8 u), by rw [e], hg, heap_setCell_same w g j cur _ _ hh, by rw [e]; exact hc, hm, by simpa using hs, ?_⟩⟩
    rw [e]
    rw [Nat.mul_one] at ht ⊢
    rw [Array.toList_setIfInBounds, List.take_set, ht]
    simp [bs, List.map_set]

theorem own_built (w : World) (base : Nat) (l : List UInt8) (n : Nat) (hn : n = l.length) (hb : base ≤ w.heap.size) (hl : l.length ≤ maxLen) : Own (w.alloc (.cells (bs l).toArray 5)) base (.slice (some ⟨w.heap.size, 0, none⟩) n n) l := by
  subst hn
  refine ⟨by rw [bs_length, Nat.mul_one], .inr ⟨w.heap.size, l.length, (bs l).toArray, rfl, hb, heap_alloc_new _ _, Nat.le_refl _, hl, by simp [bs], ?_⟩⟩
  rw [Nat.mul_one]
  exact List.take_of_length_le (by simp [bs])

theorem xor255 : ∀ n, n < 256 → n ^^^ 255 = 255 - n := by decide +kernel
theorem turn255 (c : UInt8) : (255 : Int) - (c.toNat : Int) = ((c ^^^ 255).toNat : Int) := by
  have h := c.toNat_lt
  rw [UInt8.toNat_xor, show (255 : UInt8).toNat = 255 from rfl, xor255 _ h]
  omega

/-- the first j bytes turned -/
def halfT (l : List UInt8) (j : Nat) : List UInt8 := turnL 255 (l.take j) ++ l.drop j
theorem halfT_length (l : List UInt8) (j : Nat) : (halfT l j).length = l.length := by simp [halfT, turnL_length]; omega
theorem halfT_get (l : List UInt8) (j : Nat) (hj : j < l.length) : (halfT l j)[j]? = some l[j] := by
  unfold halfT
  rw [List.getElem?_append_right (by rw [turnL_length, List.length_take]; omega), turnL_length, List.length_take, show j - min j l.length = 0 by omega, List.getElem?_drop]
  simp [hj]
theorem halfT_set (l : List UInt8) (j : Nat) (hj : j < l.length) : (halfT l j).set j (l[j] ^^^ 255) = halfT l (j + 1) := by
  unfold halfT
  have h1 : (turnL 255 (l.take j)).length = j := by rw [turnL_length, List.length_take]; omega
  rw [List.set_append_right _ _ (by omega), h1, Nat.sub_self, List.drop_eq_getElem_cons hj, List.set_cons_zero, List.take_add_one, List.getElem?_eq_getElem hj, turnL_append]
  simp [turnL]

def TurnRelP (base g c : Nat) (w : World) (l : List UInt8) (i : Value) (wr : World) : Prop :=
  ∃ j : Nat, j ≤ l.length ∧ i = .int .i64 j ∧ Own wr base (.slice (some ⟨g, 0, none⟩) l.length c) (halfT l j) ∧ Below base w wr

theorem xor128 : ∀ n, n < 256 → n ^^^ 128 = if n < 128 then n + 128 else n - 128 := by decide +kernel
/-- the digits of a number as a key has them -/
theorem int_part (n : Int) (h : In64 n) : ∃ (c : UInt8) (r : List UInt8), beN (u64N n) 8 = c :: r ∧ beN (intN n) 8 = (c ^^^ 128) :: r := by
  refine ⟨(u64N n / 256 ^ 7).toUInt8, beN (u64N n) 7, rfl, ?_⟩
  have h2 : beN (intN n) 7 = beN (u64N n) 7 := be_inj (by unfold intN u64N; omega)
  show (intN n / 256 ^ 7).toUInt8 :: beN (intN n) 7 = _
  rw [h2]
  congr 1
  apply UInt8.toNat_inj.1
  rw [UInt8.toNat_xor]
  simp only [Nat.toUInt8, UInt8.toNat_ofNat']
  have hu : u64N n / 256 ^ 7 < 256 := by unfold u64N; omega
  rw [show (128 : UInt8).toNat = 128 from rfl, Nat.mod_eq_of_lt (show u64N n / 256 ^ 7 < 2 ^ 8 by omega), xor128 _ hu]
  unfold u64N at hu
  unfold intN u64N
  split <;> omega

/-- what a part is: its bytes, turned or not -/
def PartRet (k n : Int) (s : ByteArray) (d : Bool) (w : World) (e : Ending) (w' : World) : Prop := RetOwn (turnL (if d then 255 else 0) (partL k n s)) w e w'
theorem turn0 (l : List UInt8) : turnL 0 l = l := turn_no l
theorem halfT_end (l : List UInt8) : halfT l l.length = turnL 255 l := by simp [halfT]
theorem halfT_zero (l : List UInt8) : halfT l 0 = l := by simp [halfT, turnL]
def StrRelP (base : Nat) (w0 : World) (s : List UInt8) (k : UInt8) (v i : Value) (wr : World) : Prop :=
  ∃ j : Nat, j ≤ s.length ∧ i = .int .i64 j ∧ Own wr base v (k :: escL (s.take j)) ∧ Below base w0 wr

end Go.Proofs.Ytdhdfeiobjmdaaa
