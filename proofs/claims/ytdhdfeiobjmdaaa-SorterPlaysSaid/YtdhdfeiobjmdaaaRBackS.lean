/-
  RecordBack returns true for every two rows, flags and bytes: the walk. Conditions: numbers of 64 bits; sizes.
-/
import Derived.Test.YtdhdfeiobjmdaaaRRowM
import Derived.Test.YtdhdfeiobjmdaaaRUnkL
import Derived.BigQuiet
namespace Go.Proofs.Ytdhdfeiobjmdaaa
open Go.ChangeShapes Go.WideShapes Go.ChangeAt Go.RowKit
set_option linter.unusedVariables false

theorem same_step {a b : List Trip} {k : Nat} {t u : Trip} (ht : a[k]? = some t) (hu : b[k]? = some u) (h : a.take k = b.take k) (e : t = u) : a.take (k + 1) = b.take (k + 1) := by
  rw [List.take_add_one, List.take_add_one, h, ht, hu, e]
theorem same_not {a b : List Trip} {k : Nat} {t u : Trip} (ht : a[k]? = some t) (hu : b[k]? = some u) (e : t ≠ u) : a ≠ b := by
  intro h
  subst h
  rw [ht] at hu
  exact e (Option.some.inj hu)
set_option maxRecDepth 100000 in
theorem SameValues_any (A : Option Addr) (ca m : Nat) (a : List Trip) (B : Option Addr) (cb m' : Nat) (b : List Trip) (w : World) (hA : RdR w w.heap.size A a) (hB : RdR w w.heap.size B b) (hm : m = a.length) (hm' : m' = b.length) (hl : a.length ≤ 1000000) (β : Bool) (hβ : decide (a = b) = β) :
    Calls Try.prog 19 #[.slice A m ca, .slice B m' cb] w fun e w' => e = .returned (.bool β) ∧ Below w.heap.size w w' := by
  subst hm hm'
  have Hb := Lib.hid hβ
  by_cases h : a.length = b.length
  · have h1 : ((a.length : Int) != b.length) = false := by simp [h]
    have HL := Lib.hid h
    clear hβ h
    go_enter Try.func19, Try.ntmps19
    go_wp2_with fail
    go_loopw [5] (fun i wr => ∃ k : Nat, k ≤ a.length ∧ i = .int .i64 k ∧ a.take k = b.take k ∧ Below w.heap.size w wr) (fun i _ => a.length - (intOf i).toNat)
    case atStart => exact ⟨0, Nat.zero_le _, rfl, by simp, Below.refl _ _⟩
    case round =>
      obtain ⟨k, hk, rfl, h0, hbw⟩ := hrel
      have HX := Lib.hid hbw
      by_cases hlt : k < a.length
      · obtain ⟨⟨k1, n1, s1⟩, hga⟩ : ∃ t, a[k]? = some t := ⟨a[k], List.getElem?_eq_getElem hlt⟩
        obtain ⟨⟨k2, n2, s2⟩, hgb⟩ : ∃ t, b[k]? = some t := ⟨b[k]'(by rw [← HL.out]; exact hlt), List.getElem?_eq_getElem _⟩
        have hlb : (k : Int) < b.length := by have := HL.out; omega
        have HS := Lib.hid (same_step hga hgb h0)
        have HN := Lib.hid (same_not hga hgb)
        obtain ⟨ad, rfl, hal, hcs⟩ := (hA.on hbw) (by omega)
        obtain ⟨bd, rfl, hbl, hbs⟩ := (hB.on hbw) (by omega)
        obtain ⟨f0, f1, f2⟩ := hcs k k1 n1 s1 hga
        obtain ⟨g0, g1, g2⟩ := hbs k k2 n2 s2 hgb
        clear hcs hbs hga hgb h0 hbw hA hB
        by_cases he : ((k1, n1, s1) : Trip) = (k2, n2, s2)
        · have HS2 := Lib.hid (HS.out he)
          injection he with e1 e2
          injection e2 with e2 e3
          subst e1 e2 e3
          go_wp2_with fail
          go_quiet (fail)
          go_wp2_with fail
          go_roundw
          case rel => exact ⟨k + 1, by omega, by go_num, HS2.out, belowN HX.out _⟩
          case measure => simp [intOf]; omega
        · have HF := Lib.hid (show false = β by rw [← Hb.out]; simp [HN.out he])
          by_cases e1 : k1 = k2
          · subst e1
            by_cases e2 : n1 = n2
            · subst e2
              have e3 : s1 ≠ s2 := fun e => he (by rw [e])
              have hne : (s1.toList == s2.toList) = false := by
                have h := list_beq s1.data.toList s2.data.toList
                have q1 : (⟨s1.data.toList.toArray⟩ : ByteArray) = s1 := rfl
                have q2 : (⟨s2.data.toList.toArray⟩ : ByteArray) = s2 := rfl
                rw [q1, q2] at h
                rw [h]
                refine decide_eq_false fun e => e3 ?_
                rw [← q1, ← q2, e]
              clear he e3
              go_wp2_with fail
              go_quiet (fail)
              go_wp2_with fail
              go_ret
              exact ⟨by rw [← HF.out]; rfl, belowN HX.out _⟩
            · have hne : (n1 == n2) = false := by simp [e2]
              clear he e2
              go_wp2_with fail
              go_quiet (fail)
              go_wp2_with fail
              go_ret
              exact ⟨by rw [← HF.out]; rfl, belowN HX.out _⟩
          · have hne : (k1 == k2) = false := by simp [e1]
            clear he e1
            go_wp2_with fail
            go_quiet (fail)
            go_wp2_with fail
            go_ret
            exact ⟨by rw [← HF.out]; rfl, belowN HX.out _⟩
      · have e1 : a.take k = a := List.take_of_length_le (by omega)
        have e2 : b.take k = b := List.take_of_length_le (by have := HL.out; omega)
        rw [e1, e2] at h0
        have HT := Lib.hid (show true = β by rw [← Hb.out]; simp [h0])
        clear h0 hbw e1 e2
        go_wp2_with fail
        go_ret
        exact ⟨by rw [← HT.out]; rfl, HX.out⟩
  · have h1 : ((a.length : Int) != b.length) = true := by simp; omega
    have HF := Lib.hid (show false = β by rw [← hβ]; simp; intro e; exact h (by rw [e]))
    clear hβ h
    go_enter Try.func19, Try.ntmps19
    go_wp2_with fail
    go_ret
    exact ⟨by rw [← HF.out]; rfl, Below.refl _ _⟩
end Go.Proofs.Ytdhdfeiobjmdaaa
