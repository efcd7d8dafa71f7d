/-
  More of what Call and Cast tell (layer 2, value): of NULL, of ifnull, coalesce and typeof; casts. Conditions: right values; the library's variables are as its text lays them.
-/
import Derived.Test.YteijijoiifbjlaaGreatDoorVOne
namespace Go.Proofs.YteijijoiifbjlaaGreatDoor
open Go.ChangeShapes Go.WideShapes Go.ChangeAt Go.RowKit
set_option linter.unusedVariables false

set_option maxRecDepth 100000 in
set_option maxHeartbeats 800000 in
/-- NULL among the arguments of a function that does not take it -/
theorem Call_null (name : ByteArray) (least most : Int) (g : Nat) (lb : Nat → Nat → Array Value) (hN : Named name least most false g lb) (b off cap : Nat) (vs : List Trip) (w : World)
    (hsz : ∀ t ∈ vs, t.2.2.size ≤ 9223372036854775807) (hl : vs.length ≤ 1000000) (hR : RdV w b off vs) (h1 : least ≤ vs.length) (h2 : vs.length ≤ most)
    (hbad : vs.any pBad = false) (hnul : vs.any pNul = true) :
    Calls Tryz.prog 59 #[.string name, .slice (some ⟨b, off, none⟩) vs.length cap] w (RetV nul 0 w) := by
  have HS := Lib.hid hsz
  have HR := Lib.hid hR
  have HN := Lib.hid hN
  have HB := Lib.hid hbad
  have HU := Lib.hid hnul
  clear hsz hR hN hbad hnul
  go_enter Tryz.func59, Tryz.ntmps59
  go_wp2_with (first
    | (go_at_call 78; refine (find_yes name least most _ false g lb HN.out h1 h2 _).mono ?_; rintro e wa ⟨c1, c2, rfl, hx, ba⟩; have hcur := Lib.hid ba; have HX := Lib.hid (hx.alloc (fbox least most false (.func (.func g) #[] (lb c1 c2)))); have hc2 := Lib.hid (Below.refl (wa.alloc (fbox least most false (.func (.func g) #[] (lb c1 c2)))).heap.size (wa.alloc (fbox least most false (.func (.func g) #[] (lb c1 c2))))); clear hx ba)
    | (go_at_call 79; (with_reducible refine (ContainsFunc_notRight b off cap vs _ HS.out hl (HR.out.on (call_chain0 hcur.out hc2.out))).mono ?_); rintro e wb ⟨rfl, bb⟩; rw [HB.out]; have hc2 := Lib.hid (hc2.out.trans (bb.mono hc2.out.size)); obtain ⟨t0, t1⟩ := fbox_at hc2.out; clear bb)
    | (go_at_call 79; (with_reducible refine (ContainsFunc_isNull b off cap vs _ HS.out hl (HR.out.on (call_chain0 hcur.out hc2.out))).mono ?_); rintro e wb ⟨rfl, bb⟩; rw [HU.out]; have hc2 := Lib.hid (hc2.out.trans (bb.mono hc2.out.size)); obtain ⟨t0, t1⟩ := fbox_at hc2.out; obtain ⟨u0, u1, u2, v0, v1, v2⟩ := w1_out w _ (call_chain hcur.out hc2.out); have hz : w.heap.size < wb.heap.size := (by have := (call_chain hcur.out hc2.out).size; simp at this; omega); clear bb))
  exact bodyPost_ret (v := .tuple #[nul, .int .i64 0]) (by simp [results, Tryz.results59, go_sem, u0, u1, u2]) rfl ⟨rfl, w1_end _ _ (call_chain hcur.out hc2.out) _ _ _⟩

/-- the first one that is not NULL -/
def firstV (vs : List Trip) : Trip := (vs.find? (fun t => !pNul t)).getD (0, 0, ⟨#[]⟩)
def FstRel (w : World) (vs : List Trip) (i : Value) (wr : World) : Prop :=
  ∃ k : Nat, k ≤ vs.length ∧ i = .int .i64 k ∧ (vs.take k).all pNul = true ∧ Below (w1 w).heap.size (w1 w) wr
theorem first_at {vs : List Trip} {k : Nat} {t : Trip} (h : vs[k]? = some t) (h0 : (vs.take k).all pNul = true) (hp : pNul t = false) : firstV vs = t := by
  have hk : k < vs.length := (List.getElem?_eq_some_iff.1 h).1
  have e : vs = vs.take k ++ t :: vs.drop (k + 1) := by
    rw [← (List.getElem?_eq_some_iff.1 h).2]
    simp
  have hn : (vs.take k).find? (fun t => !pNul t) = none := by
    rw [List.find?_eq_none]
    intro x hx
    have := List.all_eq_true.1 h0 x hx
    simp [this]
  unfold firstV
  rw [e, List.find?_append, hn]
  simp [hp]
theorem first_none {vs : List Trip} (h0 : vs.all pNul = true) : firstV vs = (0, 0, ⟨#[]⟩) := by
  have hn : vs.find? (fun t => !pNul t) = none := by
    rw [List.find?_eq_none]
    intro x hx
    have := List.all_eq_true.1 h0 x hx
    simp [this]
  simp [firstV, hn]
theorem all_take_nul {vs : List Trip} {k : Nat} {t : Trip} (h : vs[k]? = some t) (h0 : (vs.take k).all pNul = true) (hp : pNul t = true) : (vs.take (k + 1)).all pNul = true := by
  rw [List.take_add_one, h]
  simp [h0, hp]
set_option maxRecDepth 100000 in
set_option maxHeartbeats 800000 in
theorem firstNot_any (b off cap : Nat) (vs : List Trip) (w : World) (hl : vs.length ≤ 1000000) (hR : RdV w b off vs) (k0 n0 : Int) (s0 : ByteArray) (hf : firstV vs = (k0, n0, s0)) :
    Calls Tryz.prog 133 #[.slice (some ⟨b, off, none⟩) vs.length cap] w (RetV (vv k0 n0 s0) 0 w) := by
  have HF := Lib.hid hf
  have HW1 := Lib.hid (w1_below w)
  clear hf
  go_enter Tryz.func133, Tryz.ntmps133
  go_wp2_with fail
  go_loopw [8] (fun i wr => FstRel w vs i wr) (fun i _ => vs.length - (intOf i).toNat)
  case atStart => exact ⟨0, Nat.zero_le _, rfl, by simp, Below.refl _ _⟩
  case round =>
    obtain ⟨k, hk, rfl, h0, hbw⟩ := hrel
    have hbw0 := HW1.out.trans (hbw.mono HW1.out.size)
    by_cases hlt : k < vs.length
    · have hget : vs[k]? = some vs[k] := List.getElem?_eq_getElem hlt
      have hno : pNul vs[k] = true → (vs.take (k + 1)).all pNul = true := all_take_nul hget h0
      have hyes : pNul vs[k] = false → firstV vs = vs[k] := first_at hget h0
      have hR' := hR.on hbw0
      generalize vs[k] = t at *
      obtain ⟨kk, n, s⟩ := t
      obtain ⟨c0, c1, c2⟩ := hR'.2 k kk n s hget
      have HNo := Lib.hid hno
      have HYes := Lib.hid hyes
      have HBW := Lib.hid hbw
      clear hno hyes hget hR' h0 hbw
      by_cases hp : kk = 0
      · subst hp
        go_wp2_with (go_at_call 34; refine (isNull_any _ _ _ _).mono ?_; rintro e wa ⟨rfl, ba⟩; have HB := Lib.hid ((HBW.out.alloc HBW.out.size _).trans (ba.mono (Nat.le_trans HBW.out.size (by simp)))); clear ba)
        go_roundw
        case rel => exact ⟨k + 1, by omega, by go_num, HNo.out rfl, HB.out⟩
        case measure => simp [intOf]; omega
      · have hk0 : (kk == 0) = false := by simpa using hp
        have HE := Lib.hid (HYes.out (show pNul (kk, n, s) = false from hk0))
        clear hp
        go_wp2_with (go_at_call 34; refine (isNull_any _ _ _ _).mono ?_; rintro e wa ⟨rfl, ba⟩; rw [hk0]; obtain ⟨hc, hf⟩ := bcell ba; have HB := Lib.hid ((HBW.out.alloc HBW.out.size (box kk n s)).trans (ba.mono (Nat.le_trans HBW.out.size (by simp)))); obtain ⟨u0, u1, u2, v0, v1, v2⟩ := w1_out w _ HB.out; have hz : wr.heap.size < wa.heap.size := (by have := ba.size; simp at this; omega); clear ba)
        have e := HF.out.symm.trans HE.out
        obtain ⟨rfl, rfl, rfl⟩ : k0 = kk ∧ n0 = n ∧ s0 = s := by simpa using e
        exact bodyPost_ret (v := .tuple #[vv k0 n0 s0, .int .i64 0]) (by simp [results, Tryz.results133, go_sem, u0, u1, u2]) rfl ⟨rfl, w1_end _ _ HB.out _ _ _⟩
    · have hk' : k = vs.length := by omega
      subst hk'
      rw [List.take_length] at h0
      have e := HF.out.symm.trans (first_none h0)
      obtain ⟨rfl, rfl, rfl⟩ : k0 = 0 ∧ n0 = 0 ∧ s0 = ⟨#[]⟩ := by simpa using e
      have HBW := Lib.hid hbw
      obtain ⟨u0, u1, u2, v0, v1, v2⟩ := w1_out w _ hbw
      have hz : w.heap.size < wr.heap.size := (by have := hbw.size; simp at this; omega)
      clear hbw hbw0 e h0
      go_wp2_with fail
      exact bodyPost_ret (v := .tuple #[nul, .int .i64 0]) (by simp [results, Tryz.results133, go_sem, u0, u1, u2]) rfl ⟨rfl, w1_end _ _ HBW.out _ _ _⟩
end Go.Proofs.YteijijoiifbjlaaGreatDoor
