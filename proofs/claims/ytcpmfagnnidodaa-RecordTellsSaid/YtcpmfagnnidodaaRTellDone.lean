/-
  The calls of layer 3, refused or not, and the document's own: one answer for both. Conditions: sizes as stated.
  RecordTells returns true for every row, flags and bytes: the walk. Conditions: numbers of 64 bits; sizes.
  RecordTells returns true for every input, and every argument reads behind the call as it read before. No conditions.
-/
import Derived.Test.YtcpmfagnnidodaaRRefU
import Derived.Test.YtcpmfagnnidodaaRRefH
import Derived.Test.YtcpmfagnnidodaaRRefP
import Derived.Test.YtcpmfagnnidodaaRRefK
import Derived.Test.YtcpmfagnnidodaaRBackW
import Derived.Test.YtcpmfagnnidodaaROpenB
namespace Go.Proofs.Ytcpmfagnnidodaa
open Go.ChangeShapes Go.WideShapes Go.ChangeAt Go.RowKit
set_option linter.unusedVariables false

def putE (vs : List Trip) : Nat := if 200 < vs.length then 3 else if vs.any pBad then 2 else 0
def putX (vs : List Trip) : List UInt8 := if putE vs = 0 then putL vs else []
def keyE (vs : List Trip) (ds : List Bool) : Nat := if 200 < vs.length then 3 else if vs.any pBad then 2 else if ds.length ≠ vs.length then 2 else 0
def keyX (vs : List Trip) (ds : List Bool) : List UInt8 := if keyE vs ds = 0 then keyL vs ds else []
/-- bytes and an error are told -/
def RetE (w : World) (x : List UInt8) (E : Nat) (e : Ending) (w' : World) : Prop :=
  ∃ (A : Option Addr) (c : Nat), e = .returned (.tuple #[.slice A x.length c, .int .i64 (E : Nat)]) ∧ Rd w' w'.heap.size A x ∧ Below w.heap.size w w'
/-- values and an error are told -/
def RetV3 (w : World) (vs : List Trip) (E : Nat) (e : Ending) (w' : World) : Prop :=
  ∃ (A : Option Addr) (c : Nat), e = .returned (.tuple #[.slice A vs.length c, .int .i64 (E : Nat)]) ∧ RdR w' w'.heap.size A vs ∧ Below w.heap.size w w'
theorem UnkPost.tells {w : World} {o : Option (List Trip)} {e : Ending} {w' : World} (h : UnkPost w o e w') : RetV3 w (o.getD []) (if o.isSome then 0 else 10) e w' := by
  cases o with
  | none =>
    obtain ⟨rfl, hb⟩ := h
    exact ⟨none, 0, rfl, fun h => absurd h (by simp), hb⟩
  | some vs =>
    obtain ⟨⟨v, rfl, ho⟩, hb⟩ := h
    obtain ⟨A, c, rfl, _, _, hr⟩ := OwnR.form ho
    exact ⟨A, c, rfl, hr, hb⟩
theorem RetE.of_own {w : World} {x : List UInt8} {e : Ending} {w' : World} (h : ∃ v, e = .returned (.tuple #[v, .int .i64 0]) ∧ Own w' w.heap.size v x ∧ Below w.heap.size w w') : RetE w x 0 e w' := by
  obtain ⟨v, rfl, ho, hb⟩ := h
  obtain ⟨A, c, rfl, _, _, hr⟩ := ho.form
  exact ⟨A, c, rfl, hr, hb⟩
theorem fine_of {vs : List Trip} (h : vs.any pBad = false) (h64 : ∀ t ∈ vs, In64 t.2.1) : FineR vs := by
  intro t ht
  refine ⟨?_, h64 t ht⟩
  have := List.any_eq_false.1 h t ht
  simpa [pBad] using this

theorem put_small (vs : List Trip) (hl : vs.length ≤ 200) (hf : FineR vs) (hs : ∀ t ∈ vs, t.2.2.size ≤ 300) : (putL vs).length ≤ 1048576 := by
  have h1 := sortsL_len vs (fun t ht => by have := hs t ht; omega)
  have h2 := bodiesL_le vs (fun t ht => ⟨(hf t ht).1, (hf t ht).2, by have := hs t ht; omega⟩)
  have h3 := Lib.uvarint_length64 (x := vs.length) (by omega)
  have h4 : putL vs = (Lib.uvarint vs.length ++ sortsL vs) ++ bodiesL vs := rfl
  rw [h4, List.length_append, List.length_append]
  omega
theorem part_small (k n : Int) (s : ByteArray) (h : s.size ≤ 300) : (partL k n s).length ≤ 610 := by
  have he := escL_len s.data.toList
  have hs : s.data.toList.length ≤ 300 := by rw [Array.length_toList]; exact h
  unfold partL strN
  split
  · rw [List.length_cons, beN_length]; omega
  · split
    · simp; omega
    · split
      · simp; omega
      · simp
theorem key_small : ∀ (vs : List Trip) (ds : List Bool), (∀ t ∈ vs, t.2.2.size ≤ 300) → (keyL vs ds).length ≤ 610 * vs.length
  | [], _, _ => by simp [keyL]
  | (k, n, s) :: vs, [], _ => by simp [keyL]
  | (k, n, s) :: vs, d :: ds, h => by
    have ih := key_small vs ds (fun t ht => h t (List.mem_cons_of_mem _ ht))
    have h1 := part_small k n s (h (k, n, s) List.mem_cons_self)
    simp only [keyL, List.length_append, List.length_cons, turnL_length]
    omega

set_option maxRecDepth 100000 in
theorem Put_tells (A : Option Addr) (cap : Nat) (vs : List Trip) (w : World) (hR : RdR w w.heap.size A vs) (hl : vs.length ≤ 1000) (hs : ∀ t ∈ vs, t.2.2.size ≤ 300 ∧ In64 t.2.1) :
    Calls Try.prog 19 #[.slice A vs.length cap] w fun e w' => RetE w (putX vs) (putE vs) e w' := by
  by_cases h2 : 200 < vs.length
  · have HE := Lib.hid (show putE vs = 3 by unfold putE; rw [if_pos h2])
    have HX := Lib.hid (show putX vs = [] by unfold putX; rw [HE.out, if_neg (by decide)])
    rw [HE.out, HX.out]
    go_enter Try.func19, Try.ntmps19
    go_wp2_with fail
    go_ret2
    exact ⟨none, 0, rfl, Rd.nil, Below.refl _ _⟩
  · cases hb : vs.any pBad
    · have hE : putE vs = 0 := by unfold putE; rw [if_neg h2, hb]; rfl
      have hX : putX vs = putL vs := by unfold putX; rw [if_pos hE]
      rw [hE, hX]
      have hf := fine_of hb (fun t ht => (hs t ht).2)
      refine (put_all A cap vs.length vs w hR (by omega) hf rfl (putL vs) rfl (put_small vs (by omega) hf (fun t ht => (hs t ht).1))).mono ?_
      rintro e w' ⟨B1, c1, rfl, ho1, hb1⟩
      exact ⟨B1, c1, rfl, own_rd ho1, hb1⟩
    · have HE := Lib.hid (show putE vs = 2 by unfold putE; rw [if_neg h2, hb]; rfl)
      have HX := Lib.hid (show putX vs = [] by unfold putX; rw [HE.out, if_neg (by decide)])
      rw [HE.out, HX.out]
      go_enter Try.func19, Try.ntmps19
      go_wp2_with (go_at_call 54; refine (allRight_any A cap vs _ (fun t ht => by have := (hs t ht).1; omega) (by omega) hR).mono ?_; rintro e w1 ⟨rfl, hb1⟩; rw [hb])
      go_ret2
      exact ⟨none, 0, rfl, Rd.nil, hb1⟩
set_option maxRecDepth 100000 in
theorem refPut_tells (A : Option Addr) (cap : Nat) (vs : List Trip) (w : World) (hR : RdR w w.heap.size A vs) (hl : vs.length ≤ 1000) (hs : ∀ t ∈ vs, t.2.2.size ≤ 300 ∧ In64 t.2.1) :
    Calls Try.prog 31 #[.slice A vs.length cap] w fun e w' => RetE w (putX vs) (putE vs) e w' := by
  by_cases h0 : putE vs = 0
  · have hX : putX vs = putL vs := by unfold putX; rw [if_pos h0]
    rw [h0, hX]
    have h2 : ¬ 200 < vs.length := by intro h; unfold putE at h0; rw [if_pos h] at h0; cases h0
    have hb : vs.any pBad = false := by
      cases hb : vs.any pBad
      · rfl
      · unfold putE at h0; rw [if_neg h2, hb] at h0; cases h0
    have hf := fine_of hb (fun t ht => (hs t ht).2)
    exact (refPut_ok A cap vs w hR (by omega) hf (put_small vs (by omega) hf (fun t ht => (hs t ht).1))).mono fun e w' h => RetE.of_own h
  · have HX := Lib.hid (show putX vs = [] by unfold putX; rw [if_neg h0])
    rw [HX.out]
    have HC := Lib.hid (refRow_any A cap vs w hR (by omega) (fun t ht => by have := (hs t ht).1; omega) (putE vs) (Lib.hid rfl))
    generalize putE vs = E at *
    have hne := neqI E h0
    go_enter Try.func31, Try.ntmps31
    go_wp2_with fail
    refine HC.out.mono ?_
    rintro e w1 ⟨rfl, hb1⟩
    go_wp2_with fail
    go_ret2
    exact ⟨none, 0, rfl, Rd.nil, hb1⟩

set_option maxRecDepth 100000 in
theorem Key_tells (A : Option Addr) (cap : Nat) (vs : List Trip) (F : Option Addr) (fcap : Nat) (ds : List Bool) (w : World) (hR : RdR w w.heap.size A vs) (hF : RdF w w.heap.size F ds) (hl : vs.length ≤ 1000) (hs : ∀ t ∈ vs, t.2.2.size ≤ 300 ∧ In64 t.2.1) :
    Calls Try.prog 23 #[.slice A vs.length cap, .slice F ds.length fcap] w fun e w' => RetE w (keyX vs ds) (keyE vs ds) e w' := by
  by_cases h2 : 200 < vs.length
  · have HE := Lib.hid (show keyE vs ds = 3 by unfold keyE; rw [if_pos h2])
    have HX := Lib.hid (show keyX vs ds = [] by unfold keyX; rw [HE.out, if_neg (by decide)])
    rw [HE.out, HX.out]
    go_enter Try.func23, Try.ntmps23
    go_wp2_with fail
    go_ret2
    exact ⟨none, 0, rfl, Rd.nil, Below.refl _ _⟩
  · cases hb : vs.any pBad
    · by_cases hd : ds.length = vs.length
      · have hE : keyE vs ds = 0 := by unfold keyE; rw [if_neg h2, hb, if_neg (by simp), if_neg (by simpa using hd)]
        have hX : keyX vs ds = keyL vs ds := by unfold keyX; rw [if_pos hE]
        rw [hE, hX]
        have hf := fine_of hb (fun t ht => (hs t ht).2)
        refine (key_all A cap vs.length vs F fcap ds.length ds w hR hF (by omega) hd hf rfl rfl (keyL vs ds) rfl (by have := key_small vs ds (fun t ht => (hs t ht).1); omega)).mono ?_
        rintro e w' ⟨B1, c1, rfl, ho1, hb1⟩
        exact ⟨B1, c1, rfl, own_rd ho1, hb1⟩
      · have HE := Lib.hid (show keyE vs ds = 2 by unfold keyE; rw [if_neg h2, hb, if_neg (by simp), if_pos hd])
        have HX := Lib.hid (show keyX vs ds = [] by unfold keyX; rw [HE.out, if_neg (by decide)])
        rw [HE.out, HX.out]
        have hdi : ((ds.length : Int) != vs.length) = true := by
          have : ¬ (ds.length : Int) = vs.length := by omega
          simpa using this
        clear hd
        go_enter Try.func23, Try.ntmps23
        go_wp2_with (go_at_call 54; refine (allRight_any A cap vs _ (fun t ht => by have := (hs t ht).1; omega) (by omega) hR).mono ?_; rintro e w1 ⟨rfl, hb1⟩; rw [hb])
        go_ret2
        exact ⟨none, 0, rfl, Rd.nil, hb1⟩
    · have HE := Lib.hid (show keyE vs ds = 2 by unfold keyE; rw [if_neg h2, hb]; rfl)
      have HX := Lib.hid (show keyX vs ds = [] by unfold keyX; rw [HE.out, if_neg (by decide)])
      rw [HE.out, HX.out]
      go_enter Try.func23, Try.ntmps23
      go_wp2_with (go_at_call 54; refine (allRight_any A cap vs _ (fun t ht => by have := (hs t ht).1; omega) (by omega) hR).mono ?_; rintro e w1 ⟨rfl, hb1⟩; rw [hb])
      go_ret2
      exact ⟨none, 0, rfl, Rd.nil, hb1⟩

set_option maxRecDepth 100000 in
theorem refKey_tells (A : Option Addr) (cap : Nat) (vs : List Trip) (F : Option Addr) (fcap : Nat) (ds : List Bool) (w : World) (hR : RdR w w.heap.size A vs) (hF : RdF w w.heap.size F ds) (hl : vs.length ≤ 1000) (hs : ∀ t ∈ vs, t.2.2.size ≤ 300 ∧ In64 t.2.1) :
    Calls Try.prog 32 #[.slice A vs.length cap, .slice F ds.length fcap] w fun e w' => RetE w (keyX vs ds) (keyE vs ds) e w' := by
  by_cases h0 : putE vs = 0
  · have h2 : ¬ 200 < vs.length := by intro h; unfold putE at h0; rw [if_pos h] at h0; cases h0
    have hb : vs.any pBad = false := by
      cases hb : vs.any pBad
      · rfl
      · unfold putE at h0; rw [if_neg h2, hb] at h0; cases h0
    by_cases hd : ds.length = vs.length
    · have hE : keyE vs ds = 0 := by unfold keyE; rw [if_neg h2, hb, if_neg (by simp), if_neg (by simpa using hd)]
      have hX : keyX vs ds = keyL vs ds := by unfold keyX; rw [if_pos hE]
      rw [hE, hX]
      have hf := fine_of hb (fun t ht => (hs t ht).2)
      exact (refKey_ok A cap vs F fcap ds w hR hF (by omega) hd hf (by have := key_small vs ds (fun t ht => (hs t ht).1); omega)).mono fun e w' h => RetE.of_own h
    · have HE := Lib.hid (show keyE vs ds = 2 by unfold keyE; rw [if_neg h2, hb, if_neg (by simp), if_pos hd])
      have HX := Lib.hid (show keyX vs ds = [] by unfold keyX; rw [HE.out, if_neg (by decide)])
      rw [HE.out, HX.out]
      have hdi : ((ds.length : Int) != vs.length) = true := by
        have : ¬ (ds.length : Int) = vs.length := by omega
        simpa using this
      have HC := Lib.hid (refRow_any A cap vs w hR (by omega) (fun t ht => by have := (hs t ht).1; omega) 0 (Lib.hid h0.symm))
      clear hd
      go_enter Try.func32, Try.ntmps32
      go_wp2_with fail
      refine HC.out.mono ?_
      rintro e w1 ⟨rfl, hb1⟩
      go_wp2_with fail
      go_ret2
      exact ⟨none, 0, rfl, Rd.nil, hb1⟩
  · have HE := Lib.hid (show keyE vs ds = putE vs by
      unfold keyE putE
      by_cases h2 : 200 < vs.length
      · rw [if_pos h2, if_pos h2]
      · rw [if_neg h2, if_neg h2]
        cases hb : vs.any pBad
        · exfalso; apply h0; unfold putE; rw [if_neg h2, hb]; rfl
        · rfl)
    have HX := Lib.hid (show keyX vs ds = [] by unfold keyX; rw [HE.out, if_neg h0])
    rw [HE.out, HX.out]
    have HC := Lib.hid (refRow_any A cap vs w hR (by omega) (fun t ht => by have := (hs t ht).1; omega) (putE vs) (Lib.hid rfl))
    clear HE HX
    generalize putE vs = E at *
    have hne := neqI E h0
    go_enter Try.func32, Try.ntmps32
    go_wp2_with fail
    refine HC.out.mono ?_
    rintro e w1 ⟨rfl, hb1⟩
    go_wp2_with fail
    go_ret2
    exact ⟨none, 0, rfl, Rd.nil, hb1⟩
end Go.Proofs.Ytcpmfagnnidodaa

namespace Go.Proofs.Ytcpmfagnnidodaa
open Go.ChangeShapes Go.WideShapes Go.ChangeAt Go.RowKit
set_option linter.unusedVariables false

set_option maxRecDepth 100000 in
set_option maxHeartbeats 4000000 in
theorem tells_no (A : Option Addr) (ca : Nat) (a : List Trip) (F : Option Addr) (fcap : Nat) (l : List Bool) (D : Option Addr) (cd : Nat) (d : List UInt8) (w : World) (hA : RdR w w.heap.size A a) (hla : a.length ≤ 9223372036854775807) (hsa : ∀ t ∈ a, t.2.2.size ≤ 9223372036854775807)
    (hno : smallV a 250 300 = false ∨ 300 < l.length ∨ 3000 < d.length) :
    Calls Try.prog 5 #[.slice A a.length ca, .slice F l.length fcap, .slice D d.length cd] w fun e w' => e = .returned (.bool true) ∧ Below w.heap.size w w' := by
  have HS := Lib.hid (fun X hX => Small_any A ca a 250 300 X hX (by omega) (by omega) hsa hla)
  by_cases h1 : smallV a 250 300 = false
  · have H1 := Lib.hid h1
    clear hno h1
    go_enter Try.func5, Try.ntmps5
    go_wp2_with fail
    refine (HS.out _ hA).mono ?_
    rintro e w1 ⟨rfl, rfl⟩
    rw [H1.out]
    go_wp2_with fail
    refine (awake_any _).mono ?_
    rintro e w2 ⟨rfl, b2⟩
    go_wp2_with fail
    go_ret
    exact ⟨rfl, b2⟩
  · have H1 := Lib.hid (show smallV a 250 300 = true by simpa using h1)
    by_cases h2 : 300 < l.length
    · have e2 : decide ((300 : Int) < l.length) = true := decide_eq_true (by omega)
      clear hno h1
      go_enter Try.func5, Try.ntmps5
      go_wp2_with fail
      refine (HS.out _ hA).mono ?_
      rintro e w1 ⟨rfl, rfl⟩
      rw [H1.out]
      go_wp2_with fail
      refine (awake_any _).mono ?_
      rintro e w2 ⟨rfl, b2⟩
      go_wp2_with fail
      go_ret
      exact ⟨rfl, b2⟩
    · have e2 : decide ((300 : Int) < l.length) = false := decide_eq_false (by omega)
      have e3 : decide ((3000 : Int) < d.length) = true := decide_eq_true (by rcases hno with h | h | h; exact absurd h h1; exact absurd h h2; omega)
      clear hno h1
      go_enter Try.func5, Try.ntmps5
      go_wp2_with fail
      refine (HS.out _ hA).mono ?_
      rintro e w1 ⟨rfl, rfl⟩
      rw [H1.out]
      go_wp2_with fail
      refine (awake_any _).mono ?_
      rintro e w2 ⟨rfl, b2⟩
      go_wp2_with fail
      go_ret
      exact ⟨rfl, b2⟩

set_option maxRecDepth 100000 in
set_option maxHeartbeats 8000000 in
theorem tells_go (A : Option Addr) (ca : Nat) (a : List Trip) (F : Option Addr) (fcap : Nat) (l : List Bool) (D : Option Addr) (cd : Nat) (d : List UInt8) (w : World) (hA : RdR w w.heap.size A a) (hnil : A = none → a = [] ∧ ca = 0) (hF : RdF w w.heap.size F l) (hD : Rd w w.heap.size D d)
    (hla : a.length ≤ 250) (hll : l.length ≤ 300) (hld : d.length ≤ 3000) (hcd : d.length ≤ cd) (hcd2 : cd ≤ 9223372036854775807) (hsa : ∀ t ∈ a, t.2.2.size ≤ 300 ∧ In64 t.2.1) (hsm : Hid (smallV a 250 300 = true))
    (x z : List UInt8) (E K : Nat) (hx : Hid (putX a = x)) (hE : Hid (putE a = E)) (hz : Hid (keyX a l = z)) (hK : Hid (keyE a l = K))
    (g u : List Trip) (G U : Nat) (hg : Hid ((getN d).getD [] = g)) (hG : Hid ((if (getN d).isSome then 0 else 10) = G)) (hu : Hid ((unkN l d).getD [] = u)) (hU : Hid ((if (unkN l d).isSome then 0 else 10) = U)) (hgl : g.length ≤ 1000) (hul : u.length ≤ 1000) :
    Calls Try.prog 5 #[.slice A a.length ca, .slice F l.length fcap, .slice D d.length cd] w fun e w' => e = .returned (.bool true) ∧ Below w.heap.size w w' := by
  have HS := Lib.hid (fun X hX => Small_any A ca a 250 300 X hX (by omega) (by omega) (fun t ht => by have := (hsa t ht).1; omega) (by omega))
  have HSA := Lib.hid hsa
  have e2 : decide ((300 : Int) < l.length) = false := decide_eq_false (by omega)
  have e3 : decide ((3000 : Int) < d.length) = false := decide_eq_false (by omega)
  have HA := Lib.hid hA
  have HF := Lib.hid hF
  have HD := Lib.hid hD
  have HP := Lib.hid (fun A' ca' X (hX : RdR X X.heap.size A' a) => Put_tells A' ca' a X hX (by omega) HSA.out)
  have HRP := Lib.hid (fun A' ca' X (hX : RdR X X.heap.size A' a) => refPut_tells A' ca' a X hX (by omega) HSA.out)
  have HKY := Lib.hid (fun A' ca' X (hX : RdR X X.heap.size A' a) (hY : RdF X X.heap.size F l) => Key_tells A' ca' a F fcap l X hX hY (by omega) HSA.out)
  have HRK := Lib.hid (fun A' ca' X (hX : RdR X X.heap.size A' a) (hY : RdF X X.heap.size F l) => refKey_tells A' ca' a F fcap l X hX hY (by omega) HSA.out)
  have HNIL := Lib.hid hnil
  clear hsa hA hF hD hnil
  go_enter Try.func5, Try.ntmps5
  go_wp2_with fail
  refine (HS.out _ HA.out).mono ?_
  rintro e w1 ⟨rfl, rfl⟩
  rw [hsm.out]
  go_wp2_with fail
  refine (CopyValues_any A ca a w1 (by omega) HA.out HNIL.out).mono ?_
  rintro e w2 ⟨v2, rfl, ho2, hb2⟩
  obtain ⟨A2, c2, rfl, _, _, hr2⟩ := OwnR.form ho2
  have HR2 := Lib.hid hr2
  have HX := Lib.hid hb2
  clear ho2 hr2 hb2
  go_wp2_with fail
  refine (CopyBytes_any D cd d w2 (by omega) (HD.out.on HX.out)).mono ?_
  rintro e w3 ⟨v3, rfl, ho3, hb⟩
  obtain ⟨A3, c3, rfl, hc3, hm3, hr3⟩ := ho3.form
  have hm3' : c3 ≤ 9223372036854775807 := by unfold maxLen at hm3; omega
  have HR3 := Lib.hid hr3
  have HR2 := Lib.hid (HR2.out.on hb)
  have HX := Lib.hid (onB HX.out hb)
  clear ho3 hr3 hb hm3
  go_wp2_with fail
  refine (HP.out A2 c2 w3 HR2.out).mono ?_
  rw [hx.out, hE.out]
  rintro e w4 ⟨A4, c4, rfl, hr4, hb⟩
  have HR4 := Lib.hid hr4
  have HR2 := Lib.hid (HR2.out.on hb)
  have HR3 := Lib.hid (HR3.out.on hb)
  have HX := Lib.hid (onB HX.out hb)
  clear hr4 hb
  go_wp2_with fail
  refine (HRP.out A ca w4 (HA.out.on HX.out)).mono ?_
  rw [hx.out, hE.out]
  rintro e w5 ⟨A5, c5, rfl, hr5, hb⟩
  have HR5 := Lib.hid hr5
  have HR4 := Lib.hid (HR4.out.on hb)
  have HR2 := Lib.hid (HR2.out.on hb)
  have HR3 := Lib.hid (HR3.out.on hb)
  have HX := Lib.hid (onB HX.out hb)
  clear hr5 hb
  go_wp2_with fail
  refine (HKY.out A2 c2 w5 HR2.out (HF.out.on HX.out)).mono ?_
  rw [hz.out, hK.out]
  rintro e w6 ⟨A6, c6, rfl, hr6, hb⟩
  have HR6 := Lib.hid hr6
  have HR5 := Lib.hid (HR5.out.on hb)
  have HR4 := Lib.hid (HR4.out.on hb)
  have HR2 := Lib.hid (HR2.out.on hb)
  have HR3 := Lib.hid (HR3.out.on hb)
  have HX := Lib.hid (onB HX.out hb)
  clear hr6 hb
  go_wp2_with fail
  refine (HRK.out A ca w6 (HA.out.on HX.out) (HF.out.on HX.out)).mono ?_
  rw [hz.out, hK.out]
  rintro e w7 ⟨A7, c7, rfl, hr7, hb⟩
  have HR7 := Lib.hid hr7
  have HR6 := Lib.hid (HR6.out.on hb)
  have HR5 := Lib.hid (HR5.out.on hb)
  have HR4 := Lib.hid (HR4.out.on hb)
  have HR2 := Lib.hid (HR2.out.on hb)
  have HR3 := Lib.hid (HR3.out.on hb)
  have HX := Lib.hid (onB HX.out hb)
  clear hr7 hb
  go_wp2_with fail
  refine ((Get_any A3 d.length c3 d w7 rfl HR3.out hc3 hm3').mono fun e w' h => UnkPost.tells h).mono ?_
  rw [hg.out, hG.out]
  rintro e w8 ⟨A8, c8, rfl, hr8, hb⟩
  have HR8 := Lib.hid hr8
  have HR7 := Lib.hid (HR7.out.on hb)
  have HR6 := Lib.hid (HR6.out.on hb)
  have HR5 := Lib.hid (HR5.out.on hb)
  have HR4 := Lib.hid (HR4.out.on hb)
  have HR2 := Lib.hid (HR2.out.on hb)
  have HR3 := Lib.hid (HR3.out.on hb)
  have HX := Lib.hid (onB HX.out hb)
  clear hr8 hb
  go_wp2_with fail
  refine ((refGet_any D cd d w8 (HD.out.on HX.out) hcd hcd2 hld).mono fun e w' h => UnkPost.tells h).mono ?_
  rw [hg.out, hG.out]
  rintro e w9 ⟨A9, c9, rfl, hr9, hb⟩
  have HR9 := Lib.hid hr9
  have HR8 := Lib.hid (HR8.out.on hb)
  have HR7 := Lib.hid (HR7.out.on hb)
  have HR6 := Lib.hid (HR6.out.on hb)
  have HR5 := Lib.hid (HR5.out.on hb)
  have HR4 := Lib.hid (HR4.out.on hb)
  have HR2 := Lib.hid (HR2.out.on hb)
  have HR3 := Lib.hid (HR3.out.on hb)
  have HX := Lib.hid (onB HX.out hb)
  clear hr9 hb
  go_wp2_with fail
  refine ((Unkey_any A3 d.length c3 d F l.length fcap l w9 rfl rfl HR3.out (HF.out.on HX.out) hc3 hm3').mono fun e w' h => UnkPost.tells h).mono ?_
  rw [hu.out, hU.out]
  rintro e w10 ⟨A10, c10, rfl, hr10, hb⟩
  have HR10 := Lib.hid hr10
  have HR9 := Lib.hid (HR9.out.on hb)
  have HR8 := Lib.hid (HR8.out.on hb)
  have HR7 := Lib.hid (HR7.out.on hb)
  have HR6 := Lib.hid (HR6.out.on hb)
  have HR5 := Lib.hid (HR5.out.on hb)
  have HR4 := Lib.hid (HR4.out.on hb)
  have HR2 := Lib.hid (HR2.out.on hb)
  have HR3 := Lib.hid (HR3.out.on hb)
  have HX := Lib.hid (onB HX.out hb)
  clear hr10 hb
  go_wp2_with fail
  refine ((refUnkey_any D cd d F fcap l w10 (HD.out.on HX.out) (HF.out.on HX.out) hld (by omega)).mono fun e w' h => UnkPost.tells h).mono ?_
  rw [hu.out, hU.out]
  rintro e w11 ⟨A11, c11, rfl, hr11, hb⟩
  have HR11 := Lib.hid hr11
  have HR10 := Lib.hid (HR10.out.on hb)
  have HR9 := Lib.hid (HR9.out.on hb)
  have HR8 := Lib.hid (HR8.out.on hb)
  have HR7 := Lib.hid (HR7.out.on hb)
  have HR6 := Lib.hid (HR6.out.on hb)
  have HR5 := Lib.hid (HR5.out.on hb)
  have HR4 := Lib.hid (HR4.out.on hb)
  have HR2 := Lib.hid (HR2.out.on hb)
  have HR3 := Lib.hid (HR3.out.on hb)
  have HX := Lib.hid (onB HX.out hb)
  clear hr11 hb
  go_wp2_with fail
  refine (SameBytes_any A4 c4 x A5 c5 x _ _ _ HR4.out HR5.out).mono ?_
  rintro e w12 ⟨rfl, rfl⟩
  rw [decide_eq_true (rfl : x = x)]
  clear HR4 HR5
  go_wp2_with fail
  refine (SameBytes_any A6 c6 z A7 c7 z _ _ _ HR6.out HR7.out).mono ?_
  rintro e w13 ⟨rfl, rfl⟩
  rw [decide_eq_true (rfl : z = z)]
  clear HR6 HR7
  go_wp2_with fail
  refine (SameValues_any A8 c8 g.length g A9 c9 g.length g _ HR8.out HR9.out rfl rfl (by omega) true (by simp)).mono ?_
  rintro e w14 ⟨rfl, hb⟩
  have HR11 := Lib.hid (HR11.out.on hb)
  have HR10 := Lib.hid (HR10.out.on hb)
  have HR2 := Lib.hid (HR2.out.on hb)
  have HR3 := Lib.hid (HR3.out.on hb)
  have HX := Lib.hid (onB HX.out hb)
  clear hb HR8 HR9
  go_wp2_with fail
  refine (SameValues_any A10 c10 u.length u A11 c11 u.length u _ HR10.out HR11.out rfl rfl (by omega) true (by simp)).mono ?_
  rintro e w15 ⟨rfl, hb⟩
  have HR2 := Lib.hid (HR2.out.on hb)
  have HR3 := Lib.hid (HR3.out.on hb)
  have HX := Lib.hid (onB HX.out hb)
  clear hb HR10 HR11
  go_wp2_with fail
  refine (SameValues_any A2 c2 a.length a A ca a.length a _ HR2.out (HA.out.on HX.out) rfl rfl (by omega) true (by simp)).mono ?_
  rintro e w16 ⟨rfl, hb⟩
  have HR3 := Lib.hid (HR3.out.on hb)
  have HX := Lib.hid (onB HX.out hb)
  clear hb HR2
  go_wp2_with fail
  refine (SameBytes_any A3 c3 d D cd d _ _ _ HR3.out (HD.out.on HX.out)).mono ?_
  rintro e w17 ⟨rfl, rfl⟩
  rw [decide_eq_true (rfl : d = d)]
  go_wp2_with fail
  refine (awake_any _).mono ?_
  rintro e w18 ⟨rfl, b2⟩
  go_wp2_with fail
  go_ret
  exact ⟨rfl, onB HX.out b2⟩

/-- ALL CALLS ANSWER AS THE DOCUMENT DEFINES -/
theorem tells_walk (A : Option Addr) (ca : Nat) (a : List Trip) (F : Option Addr) (fcap : Nat) (l : List Bool) (D : Option Addr) (cd : Nat) (d : List UInt8) (w : World) (hA : RdR w w.heap.size A a) (hnil : A = none → a = [] ∧ ca = 0) (hF : RdF w w.heap.size F l) (hD : Rd w w.heap.size D d)
    (hla : a.length ≤ 9223372036854775807) (hcd : d.length ≤ cd) (hcd2 : cd ≤ 9223372036854775807) (hsa : ∀ t ∈ a, In64 t.2.1 ∧ t.2.2.size ≤ 9223372036854775807) :
    Calls Try.prog 5 #[.slice A a.length ca, .slice F l.length fcap, .slice D d.length cd] w fun e w' => e = .returned (.bool true) ∧ Below w.heap.size w w' := by
  by_cases hno : smallV a 250 300 = false ∨ 300 < l.length ∨ 3000 < d.length
  · exact tells_no A ca a F fcap l D cd d w hA hla (fun t ht => (hsa t ht).2) hno
  · have h1 : smallV a 250 300 = true := by
      cases h : smallV a 250 300
      · exact absurd (.inl h) hno
      · rfl
    have h1' := h1
    unfold smallV at h1'
    rw [Bool.and_eq_true, decide_eq_true_eq, List.all_eq_true] at h1'
    have hgl : ((getN d).getD []).length ≤ 1000 := by
      cases e : getN d with
      | none => simp
      | some vs => have := (getN_inv e).2.2.1; simp only [Option.getD_some]; omega
    have hul : ((unkN l d).getD []).length ≤ 1000 := by
      unfold unkN
      split
      · cases e : getK l d with
        | none => simp
        | some vs => have := (getK_inv _ _ _ e).2.2; simp only [Option.getD_some]; omega
      · simp
    exact tells_go A ca a F fcap l D cd d w hA hnil hF hD h1'.1 (by omega) (by omega) hcd hcd2 (fun t ht => ⟨by have := h1'.2 t ht; simpa using this, (hsa t ht).1⟩) (Lib.hid h1) _ _ _ _ (Lib.hid rfl) (Lib.hid rfl) (Lib.hid rfl) (Lib.hid rfl) _ _ _ _ (Lib.hid rfl) (Lib.hid rfl) (Lib.hid rfl) (Lib.hid rfl) hgl hul
end Go.Proofs.Ytcpmfagnnidodaa

namespace Go.Proofs.Ytcpmfagnnidodaa.recordTells
open Go.ChangeShapes Go.WideShapes Go.ChangeAt Go.RowKit
set_option linter.unusedVariables false

set_option maxRecDepth 100000 in
theorem lifted (os : Os) (started : os.Started) (H : Type) (enc : TypeId × Value → H) :
    ReturnsInHanded {} Try.checked os 5 .any (Rows.recordTellsSpec.pre6 enc Try.prog Try.f5 Rows.recordTellsRow.domain false) (Rows.recordTellsSpec.post enc Try.prog Try.f5 false true false false) := by
  refine returnsInHanded_of_change (C := Try.checked) Try.own started (by kernel_rfl) Try.func5
    (ChangeSpec.witness6 (enc := enc) (C := Try.checked) false ⟨#[], #[.slice none 0 0, .slice none 0 0, .slice none 0 0], []⟩ 8 (by kernel_rfl) (by kernel_rfl) (by kernel_rfl) (by kernel_rfl)) ?_
  intro W base args ds gs before hval0 hW hcnd _
  have hval : ∀ (j : Nat) t v, Try.f5.params[j]? = some t → args[j]? = some v → Value.okWide Try.prog W .any base t v := hval0
  have hW' := hW
  obtain ⟨p, q, hA0, hV, rfl, hfz, hnd⟩ := hW
  have hA : DataW.TrodAll enc Try.prog W 0 (fun _ => true) true Try.f5.params.toList args.toList ds p := hA0
  rw [Try.params5] at hA hval
  obtain ⟨v0, vs0, d0, ds0, p0, q0, hargs, rfl, rfl, h0, r0⟩ := trodAll_cons hA
  obtain ⟨v1, vs1, d1, ds1, p1, q1, rfl, rfl, rfl, h1, r1⟩ := trodAll_cons r0
  obtain ⟨v2, vs2, d2, ds2, p2, q2, rfl, rfl, rfl, h2, r2⟩ := trodAll_cons r1
  obtain ⟨rfl, rfl, rfl⟩ := trodAll_nil r2
  obtain rfl : args = #[v0, v1, v2] := by cases args; simp_all
  obtain ⟨rfl, rfl⟩ := trodVars_none hV
  obtain ⟨a0, n0, c0, fu0, rfl, t0⟩ := arg_slice Try.underlying46 (hval 0 46 v0 rfl rfl) h0
  obtain ⟨l0, rfl, hc0, hm0, hz0, hr0, hs0⟩ := openRow t0
  obtain ⟨a1, n1, c1, fu1, rfl, t1⟩ := arg_slice Try.underlying49 (hval 1 49 v1 rfl rfl) h1
  obtain ⟨l1, rfl, hc1, hm1, hr1⟩ := openF t1
  obtain ⟨a2, n2, c2, fu2, rfl, t2⟩ := arg_slice Try.underlying24 (hval 2 24 v2 rfl rfl) h2
  obtain ⟨l2, rfl, hc2, hm2, hr2⟩ := openB t2
  clear hA0 hval0
  have key : Calls Try.prog 5 #[.slice a0 l0.length c0, .slice a1 l1.length c1, .slice a2 l2.length c2] W fun e w' => e = .returned (.bool true) ∧ Below W.heap.size W w' := by
    unfold maxLen at hm0 hm1 hm2 hs0
    exact tells_walk a0 c0 l0 a1 c1 l1 a2 c2 l2 W hr0 hz0 hr1 hr2 (by omega) hc2 (by omega) (fun t ht => ⟨(hs0 t ht).1, by have := (hs0 t ht).2; omega⟩)
  refine key.mono fun e W' ⟨he, hb⟩ => ?_
  subst he
  exact ⟨_, rfl, law_post hW' rfl rfl (by decide +kernel) (by kernel_rfl) hb⟩

theorem over : Rows.recordTellsRow.holds Try.pinned (OpenSpec.ofChange Rows.recordTellsSpec) :=
  OpenClaim.holds_of_wide 5 Try.f5 rfl rfl rfl rfl rfl rfl rfl ⟨rfl, rfl, rfl, rfl, rfl⟩ rfl rfl rfl rfl rfl (by kernel_rfl) Try.func5 (by kernel_rfl)
    (of_decide_eq_true (by kernel_rfl)) (by unfold Func.isWrapper; first | (rw [if_pos (by decide +kernel)]; kernel_rfl) | (rw [if_neg (by decide +kernel)]; exact ⟨rfl, rfl⟩))
    (fun os started H enc _ => lifted os started H enc)
end Go.Proofs.Ytcpmfagnnidodaa.recordTells

namespace Go.Proofs.Ytcpmfagnnidodaa
theorem recordTells_holds : Rows.RecordTellsSaid := recordTells.over
end Go.Proofs.Ytcpmfagnnidodaa
