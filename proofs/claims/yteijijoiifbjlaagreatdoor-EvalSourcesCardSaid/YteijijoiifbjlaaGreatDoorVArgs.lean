/-
  Lists of values as arguments (layer 2, value): what slices.IndexFunc and slices.ContainsFunc answer of them. Conditions: sizes.
-/
import Derived.Test.YteijijoiifbjlaaGreatDoorVBase
namespace Go.Proofs.YteijijoiifbjlaaGreatDoor
open Go.ChangeShapes Go.WideShapes Go.ChangeAt Go.RowKit
set_option linter.unusedVariables false

abbrev Trip := Int × Int × ByteArray
/-- the cells from a place on hold these values -/
def RdV (w : World) (b off : Nat) (vs : List Trip) : Prop :=
  b < w.heap.size ∧ ∀ j k n s, vs[j]? = some (k, n, s) → w.cell? ⟨b, off + j * 3, none⟩ = some (.int .u8 k) ∧ w.cell? ⟨b, off + j * 3 + 1, none⟩ = some (.int .i64 n) ∧ w.cell? ⟨b, off + j * 3 + 2, none⟩ = some (.string s)
theorem RdV.on {w w' : World} {b off : Nat} {vs : List Trip} (h : RdV w b off vs) (hb : Below w.heap.size w w') : RdV w' b off vs := by
  have e : ∀ o v, w.cell? ⟨b, o, none⟩ = some v → w'.cell? ⟨b, o, none⟩ = some v := fun o v hv => (hb.cell (p := ⟨b, o, none⟩) h.1).trans hv
  exact ⟨Nat.lt_of_lt_of_le h.1 hb.size, fun j k n s hj => ⟨e _ _ (h.2 j k n s hj).1, e _ _ (h.2 j k n s hj).2.1, e _ _ (h.2 j k n s hj).2.2⟩⟩

/-- the closure that asks whether a value is not right -/
theorem notRight_any (k n : Int) (s : ByteArray) (w : World) (hs : s.size ≤ 9223372036854775807) :
    Calls Tryz.prog 80 #[vv k n s] w fun e w' => e = .returned (.bool (!decide (Rt k n s))) ∧ Below w.heap.size w w' := by
  go_enter Tryz.func80, Tryz.ntmps80
  go_wp2_with (go_at_call 12; refine (Right_any _ _ _ _ hs).mono ?_; rintro e w1 ⟨rfl, hb⟩)
  go_ret
  exact ⟨rfl, ((Below.refl _ _).alloc (Nat.le_refl _) _).trans (hb.mono (by simp))⟩

def IdxRel (w : World) (vs : List Trip) (p : Trip → Bool) (i : Value) (wr : World) : Prop :=
  ∃ k : Nat, k ≤ vs.length ∧ i = .int .i64 k ∧ (vs.take k).any p = false ∧ Below w.heap.size w wr
def IdxRet (w : World) (vs : List Trip) (p : Trip → Bool) (e : Ending) (w' : World) : Prop :=
  ∃ z : Int, e = .returned (.int .i64 z) ∧ decide (0 ≤ z) = vs.any p ∧ Below w.heap.size w w'
theorem any_take_succ {vs : List Trip} {p : Trip → Bool} {k : Nat} {t : Trip} (h : vs[k]? = some t) (h0 : (vs.take k).any p = false) : (vs.take (k + 1)).any p = p t := by
  rw [List.take_add_one, h]
  simp [h0]
theorem any_of_at {vs : List Trip} {p : Trip → Bool} {k : Nat} {t : Trip} (h : vs[k]? = some t) (hp : p t = true) : vs.any p = true :=
  List.any_eq_true.2 ⟨t, List.mem_of_getElem? h, hp⟩

/-- is it not right? -/
def pBad (t : Trip) : Bool := !decide (Rt t.1 t.2.1 t.2.2)
/-- is it NULL? -/
def pNul (t : Trip) : Bool := t.1 == 0

set_option maxHeartbeats 400000 in
theorem IndexFunc_notRight (b off cap : Nat) (vs : List Trip) (w : World) (hsz : ∀ t ∈ vs, t.2.2.size ≤ 9223372036854775807) (hl : vs.length ≤ 1000000) (hR : RdV w b off vs) :
    Calls Tryz.prog 99 #[.slice (some ⟨b, off, none⟩) vs.length cap, .func (.func 80) #[] #[]] w (IdxRet w vs pBad) := by
  go_enter Tryz.func99, Tryz.ntmps99
  go_wp2_with fail
  go_loopw [5, 8] (fun x i wr => IdxRel w vs pBad i wr) (fun _ i _ => vs.length - (intOf i).toNat)
  case atStart => exact ⟨0, Nat.zero_le _, rfl, by simp, Below.refl _ _⟩
  case round =>
    obtain ⟨k, hk, rfl, h0, hbw⟩ := hrel
    by_cases hlt : k < vs.length
    · have hget : vs[k]? = some vs[k] := List.getElem?_eq_getElem hlt
      have hany := any_take_succ hget h0
      have hat := fun h => any_of_at (p := pBad) hget h
      have hR' := hR.on hbw
      generalize vs[k] = t at *
      obtain ⟨kk, n, s⟩ := t
      obtain ⟨c0, c1, c2⟩ := hR'.2 k kk n s hget
      have HA := Lib.hid hany
      have HT := Lib.hid hat
      have HG := Lib.hid (hsz _ (List.mem_of_getElem? hget))
      clear hany hat hget hR' h0
      cases hp : pBad (kk, n, s)
      · have hp' : (!decide (Rt kk n s)) = false := hp
        go_wp2_with (go_at_call 80; refine (notRight_any _ _ _ _ HG.out).mono ?_; rintro e w1 ⟨rfl, hb⟩; rw [hp']; have HB := Lib.hid (hbw.trans (hb.mono hbw.size)); clear hb)
        go_roundw
        case rel => exact ⟨k + 1, by omega, by go_num, by rw [HA.out]; exact hp, HB.out⟩
        case measure => simp [intOf]; omega
      · have hp' : (!decide (Rt kk n s)) = true := hp
        go_wp2_with (go_at_call 80; refine (notRight_any _ _ _ _ HG.out).mono ?_; rintro e w1 ⟨rfl, hb⟩; rw [hp']; have HB := Lib.hid (hbw.trans (hb.mono hbw.size)); clear hb)
        go_ret
        exact ⟨k, rfl, by rw [HT.out hp]; exact decide_eq_true (by omega), HB.out⟩
    · go_wp2_with fail
      go_ret
      have : k = vs.length := by omega
      subst this
      exact ⟨-1, rfl, by rw [List.take_length] at h0; rw [h0]; rfl, hbw⟩

theorem ContainsFunc_notRight (b off cap : Nat) (vs : List Trip) (w : World) (hsz : ∀ t ∈ vs, t.2.2.size ≤ 9223372036854775807) (hl : vs.length ≤ 1000000) (hR : RdV w b off vs) :
    Calls Tryz.prog 79 #[.slice (some ⟨b, off, none⟩) vs.length cap, .func (.func 80) #[] #[]] w fun e w' => e = .returned (.bool (vs.any pBad)) ∧ Below w.heap.size w w' := by
  go_enter Tryz.func79, Tryz.ntmps79
  go_wp2_with (go_at_call 99; refine (IndexFunc_notRight b off cap vs _ hsz hl hR).mono ?_; rintro e w1 ⟨z, rfl, hz, hb⟩; have HZ := Lib.hid hz; clear hz)
  go_ret
  exact ⟨congrArg (fun x => Ending.returned (.bool x)) HZ.out, hb⟩

set_option maxHeartbeats 400000 in
theorem IndexFunc_isNull (b off cap : Nat) (vs : List Trip) (w : World) (hsz : ∀ t ∈ vs, t.2.2.size ≤ 9223372036854775807) (hl : vs.length ≤ 1000000) (hR : RdV w b off vs) :
    Calls Tryz.prog 99 #[.slice (some ⟨b, off, none⟩) vs.length cap, .func (.func 34) #[] #[]] w (IdxRet w vs pNul) := by
  go_enter Tryz.func99, Tryz.ntmps99
  go_wp2_with fail
  go_loopw [5, 8] (fun x i wr => IdxRel w vs pNul i wr) (fun _ i _ => vs.length - (intOf i).toNat)
  case atStart => exact ⟨0, Nat.zero_le _, rfl, by simp, Below.refl _ _⟩
  case round =>
    obtain ⟨k, hk, rfl, h0, hbw⟩ := hrel
    by_cases hlt : k < vs.length
    · have hget : vs[k]? = some vs[k] := List.getElem?_eq_getElem hlt
      have hany := any_take_succ hget h0
      have hat := fun h => any_of_at (p := pNul) hget h
      have hR' := hR.on hbw
      generalize vs[k] = t at *
      obtain ⟨kk, n, s⟩ := t
      obtain ⟨c0, c1, c2⟩ := hR'.2 k kk n s hget
      have HA := Lib.hid hany
      have HT := Lib.hid hat
      have HG := Lib.hid (hsz _ (List.mem_of_getElem? hget))
      clear hany hat hget hR' h0
      cases hp : pNul (kk, n, s)
      · have hp' : (kk == 0) = false := hp
        go_wp2_with (go_at_call 34; refine (isNull_any _ _ _ _).mono ?_; rintro e w1 ⟨rfl, hb⟩; rw [hp']; have HB := Lib.hid (hbw.trans (hb.mono hbw.size)); clear hb)
        go_roundw
        case rel => exact ⟨k + 1, by omega, by go_num, by rw [HA.out]; exact hp, HB.out⟩
        case measure => simp [intOf]; omega
      · have hp' : (kk == 0) = true := hp
        go_wp2_with (go_at_call 34; refine (isNull_any _ _ _ _).mono ?_; rintro e w1 ⟨rfl, hb⟩; rw [hp']; have HB := Lib.hid (hbw.trans (hb.mono hbw.size)); clear hb)
        go_ret
        exact ⟨k, rfl, by rw [HT.out hp]; exact decide_eq_true (by omega), HB.out⟩
    · go_wp2_with fail
      go_ret
      have : k = vs.length := by omega
      subst this
      exact ⟨-1, rfl, by rw [List.take_length] at h0; rw [h0]; rfl, hbw⟩

theorem ContainsFunc_isNull (b off cap : Nat) (vs : List Trip) (w : World) (hsz : ∀ t ∈ vs, t.2.2.size ≤ 9223372036854775807) (hl : vs.length ≤ 1000000) (hR : RdV w b off vs) :
    Calls Tryz.prog 79 #[.slice (some ⟨b, off, none⟩) vs.length cap, .func (.func 34) #[] #[]] w fun e w' => e = .returned (.bool (vs.any pNul)) ∧ Below w.heap.size w w' := by
  go_enter Tryz.func79, Tryz.ntmps79
  go_wp2_with (go_at_call 99; refine (IndexFunc_isNull b off cap vs _ hsz hl hR).mono ?_; rintro e w1 ⟨z, rfl, hz, hb⟩; have HZ := Lib.hid hz; clear hz)
  go_ret
  exact ⟨congrArg (fun x => Ending.returned (.bool x)) HZ.out, hb⟩

end Go.Proofs.YteijijoiifbjlaaGreatDoor
