/-
  Layer 7, sorter: the law's helper less.
-/
import Derived.Test.YtbeaiaepbmldbaaQHelp
import Derived.Test.YtbeaiaepbmldbaaROrdC
namespace Go.Proofs.Ytbeaiaepbmldbaa
open Go.ChangeShapes Go.WideShapes Go.ChangeAt Go.RowKit
set_option linter.unusedVariables false

def LessRel7 (w : World) (a b : List Trip) (ds : List Bool) (i : Value) (wr : World) : Prop :=
  ∃ k : Nat, k ≤ 2 ∧ i = .int .i64 k ∧ rowsC (a.drop k) (b.drop k) (ds.drop k) = rowsC a b ds ∧ Below w.heap.size w wr
set_option maxRecDepth 100000 in
set_option maxHeartbeats 1000000 in
theorem less7 (A : Option Addr) (ca : Nat) (a : List Trip) (x : Trip) (B : Option Addr) (cb : Nat) (b : List Trip) (y : Trip) (d0 d1 : Bool) (w : World) (hA : RdR w w.heap.size A (a ++ [x])) (hB : RdR w w.heap.size B (b ++ [y])) (hl : a.length = 2) (hlb : b.length = 2) (c : Int) (hc : rowsC a b [d0, d1] = c) :
    Calls Try.prog 28 #[.slice A 3 ca, .slice B 3 cb, .agg #[.bool d0, .bool d1]] w fun e w' => e = .returned (.int .i64 c) ∧ Below w.heap.size w w' := by
  have hal0 : Below w.heap.size w (w.alloc (.cells #[.bool d0, .bool d1] 57)) := (Below.refl _ _).alloc (Nat.le_refl _) _
  have HC := Lib.hid hc
  have HLA := Lib.hid hl
  have HLB := Lib.hid hlb
  have HW := Lib.hid hal0
  have HA0 := Lib.hid (show RdR (w.alloc (.cells #[.bool d0, .bool d1] 57)) (w.alloc (.cells #[.bool d0, .bool d1] 57)).heap.size A (a ++ [x]) from fun hp => by
    obtain ⟨ad, e, hal, hcs⟩ := (hA.below hal0) hp
    exact ⟨ad, e, Nat.lt_of_lt_of_le hal hal0.size, hcs⟩)
  have HB0 := Lib.hid (show RdR (w.alloc (.cells #[.bool d0, .bool d1] 57)) (w.alloc (.cells #[.bool d0, .bool d1] 57)).heap.size B (b ++ [y]) from fun hp => by
    obtain ⟨ad, e, hal, hcs⟩ := (hB.below hal0) hp
    exact ⟨ad, e, Nat.lt_of_lt_of_le hal hal0.size, hcs⟩)
  have HD0 := Lib.hid (show ∀ j d, [d0, d1][j]? = some d → (w.alloc (.cells #[.bool d0, .bool d1] 57)).cell? ⟨w.heap.size, j, none⟩ = some (.bool d) from fun j d hj => by
    match j, hj with
    | 0, hj =>
      obtain rfl : d0 = d := by simpa using hj
      simp [go_sem]
    | 1, hj =>
      obtain rfl : d1 = d := by simpa using hj
      simp [go_sem]
    | j + 2, hj => simp at hj)
  have hsz : (w.alloc (.cells #[.bool d0, .bool d1] 57)).heap.size = w.heap.size + 1 := by simp
  clear hc hl hlb hA hB hal0
  go_enter Try.func28, Try.ntmps28
  go_wp2_with fail
  generalize hw1 : (w.alloc (.cells #[.bool d0, .bool d1] 57)) = w1 at *
  go_loopw [7] (fun i wr => LessRel7 w1 a b [d0, d1] i wr) (fun i _ => 2 - (intOf i).toNat)
  case atStart => exact ⟨0, Nat.zero_le _, rfl, rfl, Below.refl _ _⟩
  case round =>
    obtain ⟨j, hj, rfl, hs, hbw⟩ := hrel
    have HX := Lib.hid hbw
    have HSm := Lib.hid hs
    by_cases hlt : j < 2
    · obtain ⟨⟨k, n, s⟩, hg1⟩ : ∃ t, a[j]? = some t := ⟨a[j]'(by rw [HLA.out]; exact hlt), List.getElem?_eq_getElem _⟩
      obtain ⟨⟨k', n', s'⟩, hg2⟩ : ∃ t, b[j]? = some t := ⟨b[j]'(by rw [HLB.out]; exact hlt), List.getElem?_eq_getElem _⟩
      obtain ⟨d, hg3⟩ : ∃ d, [d0, d1][j]? = some d := ⟨[d0, d1][j]'hlt, List.getElem?_eq_getElem _⟩
      obtain ⟨ad, rfl, hal, hcs⟩ := HA0.out (by simp)
      obtain ⟨bd, rfl, hbl, hbs⟩ := HB0.out (by simp)
      have HA := Lib.hid (hcs j k n s (by rw [List.getElem?_append_left (by rw [HLA.out]; exact hlt)]; exact hg1))
      have HB := Lib.hid (hbs j k' n' s' (by rw [List.getElem?_append_left (by rw [HLB.out]; exact hlt)]; exact hg2))
      have HF := Lib.hid (HD0.out j d hg3)
      have HST := Lib.hid (rowsC_step hg1 hg2 hg3)
      have hrg := cmpV_range k n s k' n' s'
      have on1 := Lib.hid (fun (X : World) (h : Below w1.heap.size w1 X) (p : Addr) (hp : p.block < w1.heap.size) => h.cell (p := p) hp)
      have ha3 : (ad.add (j * 3)).block < w1.heap.size := by rw [blockAdd]; exact hal
      have hb3 : (bd.add (j * 3)).block < w1.heap.size := by rw [blockAdd]; exact hbl
      have hf3 : w.heap.size < w1.heap.size := by omega
      have FC := Lib.hid (fun (X : World) (h : Below w1.heap.size w1 X) => (show (X.cell? (ad.add (j * 3)) = some (.int .u8 k) ∧ X.cell? ⟨(ad.add (j * 3)).block, (ad.add (j * 3)).off + 1, none⟩ = some (.int .i64 n) ∧ X.cell? ⟨(ad.add (j * 3)).block, (ad.add (j * 3)).off + 2, none⟩ = some (.string s)) ∧ (X.cell? (bd.add (j * 3)) = some (.int .u8 k') ∧ X.cell? ⟨(bd.add (j * 3)).block, (bd.add (j * 3)).off + 1, none⟩ = some (.int .i64 n') ∧ X.cell? ⟨(bd.add (j * 3)).block, (bd.add (j * 3)).off + 2, none⟩ = some (.string s'))
        from ⟨⟨(on1.out X h _ ha3).trans HA.out.1, (on1.out X h ⟨_, _, none⟩ ha3).trans HA.out.2.1, (on1.out X h ⟨_, _, none⟩ ha3).trans HA.out.2.2⟩, ⟨(on1.out X h _ hb3).trans HB.out.1, (on1.out X h ⟨_, _, none⟩ hb3).trans HB.out.2.1, (on1.out X h ⟨_, _, none⟩ hb3).trans HB.out.2.2⟩⟩))
      have FF := Lib.hid (fun (X : World) (h : Below w1.heap.size w1 X) => (on1.out X h ⟨w.heap.size, j, none⟩ hf3).trans HF.out)
      have q1 : (j : Int) < 2 := by omega
      have q2 : (0 : Int) ≤ (j : Int) := by omega
      have q3 : (j : Int) < 3 := by omega
      have HQ := Lib.hid hw1
      generalize hcv : cmpV k n s k' n' s' = cv at *
      have HCV := Lib.hid hcv
      clear hcv hbw hs hcs hbs hg1 hg2 hg3 hw1
      go_wp2_with fail
      go_region_held3 (fun X => X.cell? (ad.add (j * 3)) = some (.int .u8 k) ∧ X.cell? ⟨(ad.add (j * 3)).block, (ad.add (j * 3)).off + 1, none⟩ = some (.int .i64 n) ∧ X.cell? ⟨(ad.add (j * 3)).block, (ad.add (j * 3)).off + 2, none⟩ = some (.string s) ∧
          X.cell? (bd.add (j * 3)) = some (.int .u8 k') ∧ X.cell? ⟨(bd.add (j * 3)).block, (bd.add (j * 3)).off + 1, none⟩ = some (.int .i64 n') ∧ X.cell? ⟨(bd.add (j * 3)).block, (bd.add (j * 3)).off + 2, none⟩ = some (.string s'))
        (first | (have q := FC.out _ hcur.out; exact ⟨q.1.1, q.1.2.1, q.1.2.2, q.2.1, q.2.2.1, q.2.2.2⟩) | (have q := FC.out _ HX.out.drew; exact ⟨q.1.1, q.1.2.1, q.1.2.2, q.2.1, q.2.2.1, q.2.2.2⟩))
        (first | (go_at_call 55; refine (Compare_any _ _ _ _ _ _ _).mono ?_; rintro e wa ⟨rfl, ba⟩; rw [HCV.out]; have hcur := Lib.hid (HX.out.drew.trans (ba.mono HX.out.size))))
      have f0 := FF.out wa hcur.out
      have HE := Lib.hid (show Below w.heap.size w wa from HW.out.trans (hcur.out.mono (by omega)))
      clear FC FF on1 ba HA HB HF
      by_cases h0 : cv = 0
      · subst h0
        have HST2 := Lib.hid (show rowsC (a.drop (j + 1)) (b.drop (j + 1)) ([d0, d1].drop (j + 1)) = rowsC a b [d0, d1] by have := HST.out; rw [if_pos rfl, HSm.out] at this; exact this.symm)
        clear f0
        go_wp2_with fail
        exact ⟨⟨j + 1, by omega, by go_num, HST2.out, hcur.out⟩, by simp [intOf]; omega⟩
      · have hne : (cv != 0) = true := by simpa using h0
        have HST2 := Lib.hid (show (if d = true then -cv else cv) = c by have := HST.out; rw [if_neg h0, HSm.out, HC.out] at this; exact this.symm)
        clear h0
        cases d with
        | true =>
          go_wp2_with fail
          go_ret
          exact ⟨ret_i (by simpa using HST2.out), HE.out⟩
        | false =>
          go_wp2_with fail
          go_ret
          exact ⟨ret_i (by simpa using HST2.out), HE.out⟩
    · have hz : (0 : Int) = c := by
        have e2 : j = 2 := by omega
        rw [e2, show a.drop 2 = [] by rw [← HLA.out, List.drop_length]] at hs
        rw [← HC.out, ← hs]
        rfl
      have HZ := Lib.hid hz
      have q1 : ¬ (j : Int) < 2 := by omega
      have HE := Lib.hid (show Below w.heap.size w wr from HW.out.trans (hbw.mono (by omega)))
      clear hs hbw hz
      go_wp2_with fail
      go_ret
      exact ⟨ret_i HZ.out, HE.out⟩
end Go.Proofs.Ytbeaiaepbmldbaa
