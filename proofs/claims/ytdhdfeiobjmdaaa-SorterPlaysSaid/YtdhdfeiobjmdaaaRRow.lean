/-
  Rows as arguments (layer 3, record): allRight. Conditions: sizes.
-/
import Derived.Test.YtdhdfeiobjmdaaaRPart
namespace Go.Proofs.Ytdhdfeiobjmdaaa
open Go.ChangeShapes Go.WideShapes Go.ChangeAt Go.RowKit
set_option linter.unusedVariables false

/-- at this address lies that value -/
def RowAt (w : World) (a : Addr) (k n : Int) (s : ByteArray) : Prop := w.cell? a = some (.int .u8 k) ∧ w.cell? ⟨a.block, a.off + 1, none⟩ = some (.int .i64 n) ∧ w.cell? ⟨a.block, a.off + 2, none⟩ = some (.string s)
/-- the pointer A leads to these values, all of them below block number B -/
def RdR (w : World) (B : Nat) (A : Option Addr) (vs : List Trip) : Prop :=
  0 < vs.length → ∃ ad, A = some ad ∧ ad.block < B ∧ ∀ j k n s, vs[j]? = some (k, n, s) → RowAt w (ad.add (j * 3)) k n s
theorem RdR.below {w w' : World} {B : Nat} {A : Option Addr} {vs : List Trip} (h : RdR w B A vs) (hb : Below B w w') : RdR w' B A vs := by
  intro hp
  obtain ⟨ad, e, hl, hc⟩ := h hp
  refine ⟨ad, e, hl, fun j k n s hj => ?_⟩
  obtain ⟨a, b, c⟩ := hc j k n s hj
  have hq : (ad.add (j * 3)).block < B := by rw [blockAdd]; exact hl
  exact ⟨(hb.cell hq).trans a, (hb.cell (p := ⟨_, _, none⟩) hq).trans b, (hb.cell (p := ⟨_, _, none⟩) hq).trans c⟩

theorem notRight_any (k n : Int) (s : ByteArray) (w : World) (hs : s.size ≤ 9223372036854775807) :
    Calls Try.prog 75 #[vv k n s] w fun e w' => e = .returned (.bool (!decide (Rt k n s))) ∧ Below w.heap.size w w' := by
  go_enter Try.func75, Try.ntmps75
  go_wp2_with (go_at_call 76; refine (Right_any _ _ _ _ hs).mono ?_; rintro e w1 ⟨rfl, hb⟩)
  go_ret
  exact ⟨rfl, ((Below.refl _ _).alloc (Nat.le_refl _) _).trans (hb.mono (by simp))⟩

set_option maxHeartbeats 400000 in
theorem IndexFunc_notRight (A : Option Addr) (cap : Nat) (vs : List Trip) (w : World) (hsz : ∀ t ∈ vs, t.2.2.size ≤ 9223372036854775807) (hl : vs.length ≤ 1000000) (hR : RdR w w.heap.size A vs) :
    Calls Try.prog 89 #[.slice A vs.length cap, .func (.func 75) #[] #[]] w (IdxRet w vs pBad) := by
  go_enter Try.func89, Try.ntmps89
  go_wp2_with fail
  go_loopw [5, 8] (fun x i wr => IdxRel w vs pBad i wr) (fun _ i _ => vs.length - (intOf i).toNat)
  case atStart => exact ⟨0, Nat.zero_le _, rfl, by simp, Below.refl _ _⟩
  case round =>
    obtain ⟨k, hk, rfl, h0, hbw⟩ := hrel
    by_cases hlt : k < vs.length
    · have hget : vs[k]? = some vs[k] := List.getElem?_eq_getElem hlt
      have hany := any_take_succ hget h0
      have hat := fun h => any_of_at (p := pBad) hget h
      obtain ⟨ad, rfl, hal, hcs⟩ := (hR.below hbw) (by omega)
      generalize vs[k] = t at *
      obtain ⟨kk, n, s⟩ := t
      obtain ⟨c0, c1, c2⟩ := hcs k kk n s hget
      have HA := Lib.hid hany
      have HT := Lib.hid hat
      have HG := Lib.hid (hsz _ (List.mem_of_getElem? hget))
      clear hany hat hget hcs h0
      cases hp : pBad (kk, n, s)
      · have hp' : (!decide (Rt kk n s)) = false := hp
        go_wp2_with (go_at_call 75; refine (notRight_any _ _ _ _ HG.out).mono ?_; rintro e w1 ⟨rfl, hb⟩; rw [hp']; have HB := Lib.hid (hbw.trans (hb.mono hbw.size)); clear hb)
        go_roundw
        case rel => exact ⟨k + 1, by omega, by go_num, by rw [HA.out]; exact hp, HB.out⟩
        case measure => simp [intOf]; omega
      · have hp' : (!decide (Rt kk n s)) = true := hp
        go_wp2_with (go_at_call 75; refine (notRight_any _ _ _ _ HG.out).mono ?_; rintro e w1 ⟨rfl, hb⟩; rw [hp']; have HB := Lib.hid (hbw.trans (hb.mono hbw.size)); clear hb)
        go_ret
        exact ⟨k, rfl, by rw [HT.out hp]; exact decide_eq_true (by omega), HB.out⟩
    · go_wp2_with fail
      go_ret
      have : k = vs.length := by omega
      subst this
      exact ⟨-1, rfl, by rw [List.take_length] at h0; rw [h0]; rfl, hbw⟩

theorem ContainsFunc_notRight (A : Option Addr) (cap : Nat) (vs : List Trip) (w : World) (hsz : ∀ t ∈ vs, t.2.2.size ≤ 9223372036854775807) (hl : vs.length ≤ 1000000) (hR : RdR w w.heap.size A vs) :
    Calls Try.prog 74 #[.slice A vs.length cap, .func (.func 75) #[] #[]] w fun e w' => e = .returned (.bool (vs.any pBad)) ∧ Below w.heap.size w w' := by
  go_enter Try.func74, Try.ntmps74
  go_wp2_with (go_at_call 89; refine (IndexFunc_notRight A cap vs _ hsz hl hR).mono ?_; rintro e w1 ⟨z, rfl, hz, hb⟩; have HZ := Lib.hid hz; clear hz)
  go_ret
  exact ⟨congrArg (fun x => Ending.returned (.bool x)) HZ.out, hb⟩
theorem allRight_any (A : Option Addr) (cap : Nat) (vs : List Trip) (w : World) (hsz : ∀ t ∈ vs, t.2.2.size ≤ 9223372036854775807) (hl : vs.length ≤ 1000000) (hR : RdR w w.heap.size A vs) :
    Calls Try.prog 48 #[.slice A vs.length cap] w fun e w' => e = .returned (.bool (!vs.any pBad)) ∧ Below w.heap.size w w' := by
  go_enter Try.func48, Try.ntmps48
  go_wp2_with (go_at_call 74; refine (ContainsFunc_notRight A cap vs _ hsz hl hR).mono ?_; rintro e w1 ⟨rfl, hb⟩)
  go_ret
  exact ⟨rfl, hb⟩
end Go.Proofs.Ytdhdfeiobjmdaaa
