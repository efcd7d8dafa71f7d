/-
  The statements' helper rows, and value.Compare (layer 3). Conditions: sizes.
-/
import Derived.Test.YtgaeljiindpcmaaROrdM
import Derived.Test.YtgaeljiindpcmaaRShelf
import Derived.Deep.RegionHeld3
import Derived.Deep.DeepCutAuto
namespace Go.Proofs.Ytgaeljiindpcmaa
open Go.ChangeShapes Go.WideShapes Go.ChangeAt Go.RowKit
set_option linter.unusedVariables false

theorem ret_i {k : IntKind} {a b : Int} (h : a = b) : Ending.returned (.int k a) = .returned (.int k b) := by rw [h]
theorem cmpKind_any (a b : Int) (w : World) :
    Calls Try.prog 107 #[.int .u8 a, .int .u8 b] w fun e w' => e = .returned (.int .i64 (cmp3 a b)) ∧ w = w' := by
  go_enter Try.func107, Try.ntmps107
  go_wp2
  all_goals (go_ret; exact ⟨ret_i (by unfold cmp3; (repeat' split) <;> omega), rfl⟩)
theorem cmpInt_any (a b : Int) (w : World) :
    Calls Try.prog 108 #[.int .i64 a, .int .i64 b] w fun e w' => e = .returned (.int .i64 (cmp3 a b)) ∧ w = w' := by
  go_enter Try.func108, Try.ntmps108
  go_wp2
  all_goals (go_ret; exact ⟨ret_i (by unfold cmp3; (repeat' split) <;> omega), rfl⟩)
theorem Compare_any (k n : Int) (s : ByteArray) (k' n' : Int) (s' : ByteArray) (w : World) :
    Calls Try.prog 86 #[vv k n s, vv k' n' s'] w fun e w' => e = .returned (.int .i64 (cmpV k n s k' n' s')) ∧ Below w.heap.size w w' := by
  by_cases hk : k = k'
  · subst hk
    by_cases h1 : k = 1
    · subst h1
      go_enter Try.func86, Try.ntmps86
      go_wp2_with (go_at_call 108; refine (cmpInt_any _ _ _).mono ?_; rintro e w1 ⟨rfl, rfl⟩)
      go_ret
      exact ⟨ret_i (by simp [cmpV]), ((Below.refl _ _).alloc (Nat.le_refl _) _).alloc (by simp) _⟩
    · have e1 : (k == 1) = false := by simpa using h1
      by_cases h2 : k = 2
      · subst h2
        go_enter Try.func86, Try.ntmps86
        go_wp2_with (go_at_call 40; refine (Try.strings_Compare _ _ _).mono ?_; rintro e w1 ⟨rfl, rfl⟩)
        go_ret
        exact ⟨ret_i (by simp [cmpV]), ((Below.refl _ _).alloc (Nat.le_refl _) _).alloc (by simp) _⟩
      · have e2 : (k == 2) = false := by simpa using h2
        by_cases h3 : k = 3
        · subst h3
          go_enter Try.func86, Try.ntmps86
          go_wp2_with (go_at_call 40; refine (Try.strings_Compare _ _ _).mono ?_; rintro e w1 ⟨rfl, rfl⟩)
          go_ret
          exact ⟨ret_i (by simp [cmpV]), ((Below.refl _ _).alloc (Nat.le_refl _) _).alloc (by simp) _⟩
        · have e3 : (k == 3) = false := by simpa using h3
          have HC := Lib.hid (show 0 = cmpV k n s k n' s' by simp [cmpV, h1, h2, h3])
          clear h1 h2 h3
          go_enter Try.func86, Try.ntmps86
          go_wp2
          go_ret
          exact ⟨ret_i HC.out, ((Below.refl _ _).alloc (Nat.le_refl _) _).alloc (by simp) _⟩
  · have e0 : (k != k') = true := by simpa using hk
    have HC := Lib.hid (show cmp3 k k' = cmpV k n s k' n' s' by simp [cmpV, hk])
    clear hk
    go_enter Try.func86, Try.ntmps86
    go_wp2_with (go_at_call 107; refine (cmpKind_any _ _ _).mono ?_; rintro e w1 ⟨rfl, rfl⟩)
    go_ret
    exact ⟨ret_i HC.out, ((Below.refl _ _).alloc (Nat.le_refl _) _).alloc (by simp) _⟩

theorem cmpV_range (k n : Int) (s : ByteArray) (k' n' : Int) (s' : ByteArray) : -1 ≤ cmpV k n s k' n' s' ∧ cmpV k n s k' n' s' ≤ 1 := by
  have h3 : ∀ a b, -1 ≤ cmp3 a b ∧ cmp3 a b ≤ 1 := fun a b => by unfold cmp3; (repeat' split) <;> omega
  have hb : ∀ l m : List UInt8, -1 ≤ Lib.compareBytes l m ∧ Lib.compareBytes l m ≤ 1 := by
    intro l
    induction l with
    | nil => intro m; cases m <;> (unfold Lib.compareBytes; omega)
    | cons a l ih =>
      intro m
      cases m with
      | nil => unfold Lib.compareBytes; omega
      | cons b m =>
        have := ih m
        show -1 ≤ (if a < b then (-1 : Int) else if b < a then 1 else Lib.compareBytes l m) ∧ (if a < b then (-1 : Int) else if b < a then 1 else Lib.compareBytes l m) ≤ 1
        (repeat' split) <;> omega
  unfold cmpV
  split
  · exact h3 _ _
  · split
    · exact h3 _ _
    · split
      · exact hb _ _
      · omega
theorem rowsC_step {a b : List Trip} {ds : List Bool} {j : Nat} {k n : Int} {s : ByteArray} {k' n' : Int} {s' : ByteArray} {d : Bool} (h1 : a[j]? = some (k, n, s)) (h2 : b[j]? = some (k', n', s')) (h3 : ds[j]? = some d) :
    rowsC (a.drop j) (b.drop j) (ds.drop j) = if cmpV k n s k' n' s' = 0 then rowsC (a.drop (j + 1)) (b.drop (j + 1)) (ds.drop (j + 1)) else if d then -cmpV k n s k' n' s' else cmpV k n s k' n' s' := by
  have drop_at : ∀ {α : Type} {l : List α} {i : Nat} {x : α}, l[i]? = some x → l.drop i = x :: l.drop (i + 1) := by
    intro α l i x h
    obtain ⟨hi, rfl⟩ := List.getElem?_eq_some_iff.1 h
    exact List.drop_eq_getElem_cons hi
  rw [drop_at h1, drop_at h2, drop_at h3]
  rfl
def RowsRel (w : World) (a b : List Trip) (ds : List Bool) (i : Value) (wr : World) : Prop :=
  ∃ k : Nat, k ≤ a.length ∧ i = .int .i64 k ∧ rowsC (a.drop k) (b.drop k) (ds.drop k) = rowsC a b ds ∧ Below w.heap.size w wr
set_option maxRecDepth 100000 in
set_option maxHeartbeats 1000000 in
theorem rows_any (A : Option Addr) (ca m : Nat) (a : List Trip) (B : Option Addr) (cb m' : Nat) (b : List Trip) (F : Option Addr) (cf m2 : Nat) (ds : List Bool) (w : World) (hA : RdR w w.heap.size A a) (hB : RdR w w.heap.size B b) (hF : RdF w w.heap.size F ds) (hl : a.length ≤ 1000) (hlb : b.length = a.length) (hld : ds.length = a.length) (hm : m = a.length) (hm' : m' = a.length) (hm2 : m2 = a.length) (c : Int) (hc : rowsC a b ds = c) :
    Calls Try.prog 41 #[.slice A m ca, .slice B m' cb, .slice F m2 cf] w fun e w' => e = .returned (.int .i64 c) ∧ Below w.heap.size w w' := by
  subst hm hm' hm2
  have HC := Lib.hid hc
  have HLB := Lib.hid hlb
  have HLD := Lib.hid hld
  clear hc hlb hld
  go_enter Try.func41, Try.ntmps41
  go_wp2_with fail
  go_loopw [7, 11] (fun x i wr => RowsRel w a b ds i wr) (fun _ i _ => a.length - (intOf i).toNat)
  case atStart => exact ⟨0, Nat.zero_le _, rfl, rfl, Below.refl _ _⟩
  case round =>
    obtain ⟨j, hj, rfl, hs, hbw⟩ := hrel
    have HX := Lib.hid hbw
    have HSm := Lib.hid hs
    by_cases hlt : j < a.length
    · obtain ⟨⟨k, n, s⟩, hg1⟩ : ∃ t, a[j]? = some t := ⟨a[j], List.getElem?_eq_getElem hlt⟩
      obtain ⟨⟨k', n', s'⟩, hg2⟩ : ∃ t, b[j]? = some t := ⟨b[j]'(by rw [HLB.out]; exact hlt), List.getElem?_eq_getElem _⟩
      obtain ⟨d, hg3⟩ : ∃ d, ds[j]? = some d := ⟨ds[j]'(by rw [HLD.out]; exact hlt), List.getElem?_eq_getElem _⟩
      obtain ⟨ad, rfl, hal, hcs⟩ := hA (by omega)
      obtain ⟨bd, rfl, hbl, hbs⟩ := hB (by rw [HLB.out]; omega)
      obtain ⟨fd, rfl, hfl, hfs⟩ := hF (by rw [HLD.out]; omega)
      have HA := Lib.hid (hcs j k n s hg1)
      have HB := Lib.hid (hbs j k' n' s' hg2)
      have HF := Lib.hid (hfs j d hg3)
      have HST := Lib.hid (rowsC_step hg1 hg2 hg3)
      have hrg := cmpV_range k n s k' n' s'
      have on1 := Lib.hid (fun (X : World) (h : Below w.heap.size w X) (p : Addr) (hp : p.block < w.heap.size) => h.cell (p := p) hp)
      have ha3 : (ad.add (j * 3)).block < w.heap.size := by rw [blockAdd]; exact hal
      have hb3 : (bd.add (j * 3)).block < w.heap.size := by rw [blockAdd]; exact hbl
      have hf3 : (fd.add j).block < w.heap.size := by rw [blockAdd]; exact hfl
      have FC := Lib.hid (fun (X : World) (h : Below w.heap.size w X) => (show (X.cell? (ad.add (j * 3)) = some (.int .u8 k) ∧ X.cell? ⟨(ad.add (j * 3)).block, (ad.add (j * 3)).off + 1, none⟩ = some (.int .i64 n) ∧ X.cell? ⟨(ad.add (j * 3)).block, (ad.add (j * 3)).off + 2, none⟩ = some (.string s)) ∧ (X.cell? (bd.add (j * 3)) = some (.int .u8 k') ∧ X.cell? ⟨(bd.add (j * 3)).block, (bd.add (j * 3)).off + 1, none⟩ = some (.int .i64 n') ∧ X.cell? ⟨(bd.add (j * 3)).block, (bd.add (j * 3)).off + 2, none⟩ = some (.string s'))
        from ⟨⟨(on1.out X h _ ha3).trans HA.out.1, (on1.out X h ⟨_, _, none⟩ ha3).trans HA.out.2.1, (on1.out X h ⟨_, _, none⟩ ha3).trans HA.out.2.2⟩, ⟨(on1.out X h _ hb3).trans HB.out.1, (on1.out X h ⟨_, _, none⟩ hb3).trans HB.out.2.1, (on1.out X h ⟨_, _, none⟩ hb3).trans HB.out.2.2⟩⟩))
      have FF := Lib.hid (fun (X : World) (h : Below w.heap.size w X) => (on1.out X h _ hf3).trans HF.out)
      generalize hcv : cmpV k n s k' n' s' = cv at *
      have HCV := Lib.hid hcv
      clear hcv hbw hs hcs hbs hfs hg1 hg2 hg3
      go_wp2_with fail
      go_region_held3 (fun X => X.cell? (ad.add (j * 3)) = some (.int .u8 k) ∧ X.cell? ⟨(ad.add (j * 3)).block, (ad.add (j * 3)).off + 1, none⟩ = some (.int .i64 n) ∧ X.cell? ⟨(ad.add (j * 3)).block, (ad.add (j * 3)).off + 2, none⟩ = some (.string s) ∧
          X.cell? (bd.add (j * 3)) = some (.int .u8 k') ∧ X.cell? ⟨(bd.add (j * 3)).block, (bd.add (j * 3)).off + 1, none⟩ = some (.int .i64 n') ∧ X.cell? ⟨(bd.add (j * 3)).block, (bd.add (j * 3)).off + 2, none⟩ = some (.string s'))
        (first | (have q := FC.out _ hcur.out; exact ⟨q.1.1, q.1.2.1, q.1.2.2, q.2.1, q.2.2.1, q.2.2.2⟩) | (have q := FC.out _ HX.out.drew; exact ⟨q.1.1, q.1.2.1, q.1.2.2, q.2.1, q.2.2.1, q.2.2.2⟩))
        (first | (go_at_call 86; refine (Compare_any _ _ _ _ _ _ _).mono ?_; rintro e wa ⟨rfl, ba⟩; rw [HCV.out]; have hcur := Lib.hid (HX.out.drew.trans (ba.mono HX.out.size))))
      have f0 := FF.out wa hcur.out
      clear FC FF on1 ba hA hB hF HA HB HF
      by_cases h0 : cv = 0
      · subst h0
        have HST2 := Lib.hid (show rowsC (a.drop (j + 1)) (b.drop (j + 1)) (ds.drop (j + 1)) = rowsC a b ds by have := HST.out; rw [if_pos rfl, HSm.out] at this; exact this.symm)
        clear f0
        go_wp2_with fail
        go_roundw
        case rel => exact ⟨j + 1, by omega, by go_num, HST2.out, hcur.out⟩
        case measure => simp [intOf]; omega
      · have hne : (cv != 0) = true := by simpa using h0
        have HST2 := Lib.hid (show (if d = true then -cv else cv) = c by have := HST.out; rw [if_neg h0, HSm.out, HC.out] at this; exact this.symm)
        clear h0
        cases d with
        | true =>
          go_wp2_with fail
          go_ret
          exact ⟨ret_i (by simpa using HST2.out), hcur.out⟩
        | false =>
          go_wp2_with fail
          go_ret
          exact ⟨ret_i (by simpa using HST2.out), hcur.out⟩
    · have hz : (0 : Int) = c := by
        rw [show j = a.length by omega, List.drop_length] at hs
        rw [← HC.out, ← hs]
        rfl
      have HZ := Lib.hid hz
      clear hs hbw hz
      go_wp2_with fail
      go_ret
      exact ⟨ret_i HZ.out, HX.out⟩
end Go.Proofs.Ytgaeljiindpcmaa
