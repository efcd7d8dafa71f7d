/-
  An argument of type api.Value: its kind, its number, its bytes; and the statements' helper right. No conditions.
-/
import Derived.Test.YtaidipdofomgoaaGreatDoorVClose
import Derived.Test.YtaidipdofomgoaaGreatDoorVArgs
import Derived.Lib.SmallJoins
namespace Go.Proofs.YtaidipdofomgoaaGreatDoor
open Go.ChangeShapes Go.WideShapes Go.ChangeAt Go.RowKit
set_option linter.unusedVariables false

set_option maxRecDepth 100000 in
theorem openV {H : Type} {enc : TypeId × Value → H} {W : World} {b0 base : Nat} {sp : Nat → Bool} {held : Bool} {v : Value} {d : DataW H} {p : List MemPlace}
    (hv : Value.okWide Tryz.prog W .any b0 24 v) (h : DataW.Trod enc Tryz.prog W base sp held 24 v d p) :
    ∃ (k n : Int) (s : ByteArray), v = vv k n s ∧ (0 ≤ k ∧ k ≤ 255) ∧ In64 n ∧ s.size ≤ maxLen := by
  obtain ⟨v0, v1, v2, y0, y1, y2, m, rfl, _, _, h0, h1, h2⟩ := Go.Joins.open_agg3 Tryz.underlying24 (by kernel_rfl) (by kernel_rfl) hv h
  obtain ⟨k, e0, _, w0⟩ := DataW.trod_int Tryz.underlying22 h0
  obtain ⟨n, e1, _, w1⟩ := DataW.trod_int Tryz.underlying2 h1
  obtain ⟨s, e2, _, w2⟩ := DataW.trod_string Tryz.underlying9 h2
  simp only [List.cons.injEq, and_true] at e0 e1 e2
  subst e0 e1 e2
  refine ⟨k, n, s, rfl, ?_, ?_, w2⟩
  · simpa [Lit.wf, IntKind.min, IntKind.max, IntKind.signed, IntKind.bits] using w0
  · unfold In64
    simpa [Lit.wf, IntKind.min, IntKind.max, IntKind.signed, IntKind.bits] using w1

/-- are all right, and short? -/
def shortR (t : Trip) : Bool := decide (Rt t.1 t.2.1 t.2.2) && decide (t.2.2.size ≤ 300)
def RightRel (w : World) (vs : List Trip) (i : Value) (wr : World) : Prop :=
  ∃ k : Nat, k ≤ vs.length ∧ i = .int .i64 k ∧ (vs.take k).all shortR = true ∧ Below w.heap.size w wr
theorem all_take_succ {vs : List Trip} {p : Trip → Bool} {k : Nat} {t : Trip} (h : vs[k]? = some t) (h0 : (vs.take k).all p = true) : (vs.take (k + 1)).all p = p t := by
  rw [List.take_add_one, h]
  simp [h0]
theorem all_not_at {vs : List Trip} {p : Trip → Bool} {k : Nat} {t : Trip} (h : vs[k]? = some t) (hp : p t = false) : vs.all p = false := by
  rw [Bool.eq_false_iff]
  intro ha
  have := List.all_eq_true.1 ha t (List.mem_of_getElem? h)
  rw [hp] at this
  cases this

set_option maxRecDepth 100000 in
set_option maxHeartbeats 800000 in
theorem right_any (b off cap : Nat) (vs : List Trip) (w : World) (hsz : ∀ t ∈ vs, t.2.2.size ≤ 9223372036854775807) (hl : vs.length ≤ 1000000) (hR : RdV w b off vs) :
    Calls Tryz.prog 27 #[.slice (some ⟨b, off, none⟩) vs.length cap] w fun e w' => e = .returned (.bool (vs.all shortR)) ∧ Below w.heap.size w w' := by
  go_enter Tryz.func27, Tryz.ntmps27
  go_wp2_with fail
  go_loopw [3] (fun i wr => RightRel w vs i wr) (fun i _ => vs.length - (intOf i).toNat)
  case atStart => exact ⟨0, Nat.zero_le _, rfl, by simp, Below.refl _ _⟩
  case round =>
    obtain ⟨k, hk, rfl, h0, hbw⟩ := hrel
    by_cases hlt : k < vs.length
    · have hget : vs[k]? = some vs[k] := List.getElem?_eq_getElem hlt
      have hall := all_take_succ hget h0
      have hnot := fun h => all_not_at (p := shortR) hget h
      have hR' := hR.on hbw
      generalize vs[k] = t at *
      obtain ⟨kk, n, s⟩ := t
      obtain ⟨c0, c1, c2⟩ := hR'.2 k kk n s hget
      have hG := hsz _ (List.mem_of_getElem? hget)
      have HR2 := Lib.hid hR'
      have HG2 := Lib.hid hget
      have HA := Lib.hid hall
      have HN := Lib.hid hnot
      have hss : s.size ≤ 9223372036854775807 := hG
      clear hall hnot hget hR' h0 hG
      by_cases hr : Rt kk n s
      · have HD := Lib.hid (decide_eq_true hr)
        by_cases h3 : s.size ≤ 300
        · have HS := Lib.hid (show shortR (kk, n, s) = true by simp [shortR, hr, h3])
          clear hr
          go_wp2_with (go_at_call 19; refine (Right_any _ _ _ _ hss).mono ?_; rintro e wa ⟨rfl, ba⟩; rw [HD.out]; obtain ⟨d0, d1, d2⟩ := (HR2.out.on ba).2 k kk n s HG2.out; have HB := Lib.hid (hbw.trans (ba.mono hbw.size)); clear ba)
          go_roundw
          case rel => exact ⟨k + 1, by omega, by go_num, by rw [HA.out]; exact HS.out, HB.out⟩
          case measure => simp [intOf]; omega
        · have HS := Lib.hid (show shortR (kk, n, s) = false by simp [shortR, h3])
          have h3' : 300 < s.size := by omega
          clear hr h3
          go_wp2_with (go_at_call 19; refine (Right_any _ _ _ _ hss).mono ?_; rintro e wa ⟨rfl, ba⟩; rw [HD.out]; obtain ⟨d0, d1, d2⟩ := (HR2.out.on ba).2 k kk n s HG2.out; have HB := Lib.hid (hbw.trans (ba.mono hbw.size)); clear ba)
          go_ret
          exact ⟨ret_b (HN.out HS.out).symm, HB.out⟩
      · have HD := Lib.hid (decide_eq_false hr)
        have HS := Lib.hid (show shortR (kk, n, s) = false by simp [shortR, hr])
        clear hr
        go_wp2_with (go_at_call 19; refine (Right_any _ _ _ _ hss).mono ?_; rintro e wa ⟨rfl, ba⟩; rw [HD.out]; have HB := Lib.hid (hbw.trans (ba.mono hbw.size)); clear ba)
        go_ret
        exact ⟨ret_b (HN.out HS.out).symm, HB.out⟩
    · go_wp2_with fail
      go_ret
      have hk' : k = vs.length := by omega
      subst hk'
      exact ⟨ret_b (by rw [List.take_length] at h0; rw [h0]), hbw⟩
end Go.Proofs.YtaidipdofomgoaaGreatDoor
