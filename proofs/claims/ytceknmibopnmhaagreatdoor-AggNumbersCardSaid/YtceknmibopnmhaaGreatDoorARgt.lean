/-
  Layer 8: the statements' helpers: Small, right. Conditions: no string is greater than memory.
-/
import Derived.Test.YtceknmibopnmhaaGreatDoorAOf
namespace Go.Proofs.YtceknmibopnmhaaGreatDoor
open Go.ChangeShapes Go.WideShapes Go.ChangeAt Go.RowKit Go.Maps Go.Sort Go.Shelf Go.ChangeMaps Go.Lib
set_option linter.unusedVariables false

theorem allA_succ {vs : List Trip} {p : Trip → Bool} {k : Nat} {t : Trip} (h : vs[k]? = some t) (h0 : (vs.take k).all p = true) : (vs.take (k + 1)).all p = p t := by
  rw [List.take_add_one, h]
  simp [h0]
theorem allA_not {vs : List Trip} {p : Trip → Bool} {k : Nat} {t : Trip} (h : vs[k]? = some t) (hp : p t = false) : vs.all p = false := by
  cases he : vs.all p
  · rfl
  · have := List.all_eq_true.1 he t (List.mem_of_getElem? h)
    rw [hp] at this
    cases this
def SmallA (w : World) (vs : List Trip) (long : Nat) (i : Value) (wr : World) : Prop :=
  ∃ k : Nat, k ≤ vs.length ∧ i = .int .i64 k ∧ (vs.take k).all (fun t => decide (t.2.2.size ≤ long)) = true ∧ wr = w
def smallA (vs : List Trip) (most long : Nat) : Bool := decide (vs.length ≤ most) && vs.all (fun t => decide (t.2.2.size ≤ long))
set_option maxRecDepth 100000 in
theorem Small8 (A : Option Addr) (cap : Nat) (vs : List Trip) (most long : Nat) (w : World) (hR : RdT w A vs) (hm : most ≤ 1000000) (hln : long ≤ 1000000) (hsz : ∀ t ∈ vs, t.2.2.size ≤ 9223372036854775807) (hcap : vs.length ≤ 9223372036854775807) :
    Calls Tryz.prog 35 #[.slice A vs.length cap, .int .i64 most, .int .i64 long] w fun e w' => e = .returned (.bool (smallA vs most long)) ∧ w' = w := by
  by_cases h : most < vs.length
  · have h1 : decide ((most : Int) < vs.length) = true := decide_eq_true (by omega)
    have HP := Lib.hid (show false = smallA vs most long by simp [smallA]; omega)
    go_enter Tryz.func35, Tryz.ntmps35
    go_wp2_with fail
    go_ret
    exact ⟨by rw [← HP.out]; rfl, rfl⟩
  · have h1 : decide ((most : Int) < vs.length) = false := decide_eq_false (by omega)
    have HM := Lib.hid (show decide (vs.length ≤ most) = true from decide_eq_true (by omega))
    have hl : vs.length ≤ 1000000 := by omega
    have HSZ := Lib.hid hsz
    clear hcap hsz
    go_enter Tryz.func35, Tryz.ntmps35
    go_wp2_with fail
    go_loopw [7] (fun i wr => SmallA w vs long i wr) (fun i _ => vs.length - (intOf i).toNat)
    case atStart => exact ⟨0, Nat.zero_le _, rfl, by simp, rfl⟩
    case round =>
      obtain ⟨k, hk, rfl, h0, rfl⟩ := hrel
      by_cases hlt : k < vs.length
      · obtain ⟨⟨kk, n, s⟩, hget⟩ : ∃ t, vs[k]? = some t := ⟨vs[k], List.getElem?_eq_getElem hlt⟩
        rcases hR with hR | ⟨b, o, rfl, hR⟩
        · subst hR; simp at hlt
        obtain ⟨c0, c1, c2⟩ := hR.2 k kk n s hget
        have hs8 := HSZ.out _ (List.mem_of_getElem? hget)
        have HA := Lib.hid (allA_succ (p := fun t => decide (t.2.2.size ≤ long)) hget h0)
        have HN := Lib.hid (allA_not (p := fun t => decide (t.2.2.size ≤ long)) hget)
        clear hR hget h0
        by_cases hs : s.size ≤ long
        · have hs1 : decide ((long : Int) < s.size) = false := decide_eq_false (by omega)
          have HS := Lib.hid (decide_eq_true hs)
          have hs2 : ¬ long < s.size := by omega
          clear hs
          go_wp2_with fail
          go_roundw
          case rel => exact ⟨k + 1, by omega, by go_num, by rw [HA.out]; exact HS.out, rfl⟩
          case measure => simp [intOf]; omega
        · have hs1 : decide ((long : Int) < s.size) = true := decide_eq_true (by omega)
          have HS := Lib.hid (decide_eq_false hs)
          have hs2 : long < s.size := by omega
          clear hs
          go_wp2_with fail
          go_ret
          exact ⟨by rw [smallA, HN.out HS.out, Bool.and_false]; rfl, rfl⟩
      · have e1 : vs.take k = vs := by rw [show k = vs.length by omega]; exact List.take_length
        rw [e1] at h0
        have HP := Lib.hid (show true = smallA vs most long by rw [smallA, HM.out, h0]; rfl)
        go_wp2_with fail
        go_ret
        exact ⟨by rw [← HP.out]; rfl, rfl⟩
/-- are they values that the laws look at? -/
def rightA (vs : List Trip) : Bool := smallA vs 60 100 && vs.all (fun t => decide (Rt t.1 t.2.1 t.2.2))
def RgtRel (w : World) (vs : List Trip) (i : Value) (wr : World) : Prop :=
  ∃ k : Nat, k ≤ vs.length ∧ i = .int .i64 k ∧ (vs.take k).all (fun t => decide (Rt t.1 t.2.1 t.2.2)) = true ∧ Below w.heap.size w wr
set_option maxRecDepth 100000 in
theorem right8 (A : Option Addr) (cap : Nat) (vs : List Trip) (w : World) (hR : RdT w A vs) (hsz : ∀ t ∈ vs, t.2.2.size ≤ 9223372036854775807) (hcap : vs.length ≤ 9223372036854775807) :
    Calls Tryz.prog 39 #[.slice A vs.length cap] w fun e w' => e = .returned (.bool (rightA vs)) ∧ Below w.heap.size w w' := by
  have HS0 := Lib.hid (Small8 A cap vs 60 100 w hR (by omega) (by omega) hsz hcap)
  cases h : smallA vs 60 100
  · have HP := Lib.hid (show false = rightA vs by rw [rightA, h]; rfl)
    rw [h] at HS0
    clear h
    go_enter Tryz.func39, Tryz.ntmps39
    go_wp2_with fail
    refine HS0.out.mono ?_
    rintro e w' ⟨rfl, rfl⟩
    go_wp2_with fail
    go_ret
    exact ⟨by rw [← HP.out]; rfl, Below.refl _ _⟩
  · have H := Lib.hid h
    have hl : vs.length ≤ 1000000 := by
      have := of_decide_eq_true (Bool.and_eq_true_iff.1 h).1
      omega
    have HSZ := Lib.hid hsz
    rw [h] at HS0
    clear h hsz
    go_enter Tryz.func39, Tryz.ntmps39
    go_wp2_with fail
    refine HS0.out.mono ?_
    rintro e w' ⟨rfl, hw2⟩
    rw [hw2]
    clear hw2
    go_wp2_with fail
    go_loopw [3] (fun i wr => RgtRel w vs i wr) (fun i _ => vs.length - (intOf i).toNat)
    case atStart => exact ⟨0, Nat.zero_le _, rfl, by simp, Below.refl _ _⟩
    case round =>
      obtain ⟨k, hk, rfl, h0, hbw⟩ := hrel
      have HX := Lib.hid hbw
      by_cases hlt : k < vs.length
      · obtain ⟨⟨kk, n, s⟩, hget⟩ : ∃ t, vs[k]? = some t := ⟨vs[k], List.getElem?_eq_getElem hlt⟩
        rcases hR with hR | ⟨b, o, rfl, hR⟩
        · subst hR; simp at hlt
        obtain ⟨c0, c1, c2⟩ := (hR.on hbw).2 k kk n s hget
        have hs8 := HSZ.out _ (List.mem_of_getElem? hget)
        have HA := Lib.hid (allA_succ (p := fun t => decide (Rt t.1 t.2.1 t.2.2)) hget h0)
        have HN := Lib.hid (allA_not (p := fun t => decide (Rt t.1 t.2.1 t.2.2)) hget)
        clear hR hget h0 hbw
        have HRT := Lib.hid (fun W => Right_any kk n s W hs8)
        by_cases hs : Rt kk n s
        · have HS := Lib.hid (decide_eq_true hs)
          rw [HS.out] at HRT
          clear hs
          go_wp2_with (go_at_call 17; refine (HRT.out _).mono ?_; rintro e w2 ⟨rfl, hb⟩; have HB2 := Lib.hid (HX.out.trans (hb.mono HX.out.size)); clear hb)
          go_roundw
          case rel => exact ⟨k + 1, by omega, by go_num, by rw [HA.out]; exact HS.out, HB2.out⟩
          case measure => simp [intOf]; omega
        · have HS := Lib.hid (decide_eq_false hs)
          rw [HS.out] at HRT
          clear hs
          go_wp2_with (go_at_call 17; refine (HRT.out _).mono ?_; rintro e w2 ⟨rfl, hb⟩; have HB2 := Lib.hid (HX.out.trans (hb.mono HX.out.size)); clear hb)
          go_ret
          exact ⟨by rw [rightA, HN.out HS.out, Bool.and_false]; rfl, HB2.out⟩
      · have e1 : vs.take k = vs := by rw [show k = vs.length by omega]; exact List.take_length
        rw [e1] at h0
        have HP := Lib.hid (show true = rightA vs by rw [rightA, H.out, h0]; rfl)
        clear hbw
        go_wp2_with fail
        go_ret
        exact ⟨by rw [← HP.out]; rfl, HX.out⟩
end Go.Proofs.YtceknmibopnmhaaGreatDoor
