/-
  RecordApart returns true for every two rows, flags and cut: the walk. Conditions: numbers of 64 bits; sizes.
-/
import Derived.Test.YtlichbiioejpiaaRRowM
import Derived.Test.YtlichbiioejpiaaRUnkL
namespace Go.Proofs.Ytlichbiioejpiaa
open Go.ChangeShapes Go.WideShapes Go.ChangeAt Go.RowKit
set_option linter.unusedVariables false

theorem str_take (x : List UInt8) (n : Nat) : (⟨x.toArray⟩ : ByteArray).extract 0 n = ⟨(x.take n).toArray⟩ := by
  apply ByteArray.ext
  simp [ByteArray.data_extract]
set_option maxRecDepth 100000 in
theorem HasPrefix_any (x y : List UInt8) (w : World) (hx : x.length ≤ 1000000) (hy : y.length ≤ 1000000) (β : Bool) (hβ : (decide (y.length ≤ x.length) && decide (x.take y.length = y)) = β) :
    Calls Try.prog 87 #[.string ⟨x.toArray⟩, .string ⟨y.toArray⟩] w fun e w' => e = .returned (.bool β) ∧ w' = w := by
  have s1 : (⟨x.toArray⟩ : ByteArray).size = x.length := rfl
  have s2 : (⟨y.toArray⟩ : ByteArray).size = y.length := rfl
  by_cases h : y.length ≤ x.length
  · have h1 : (y.length : Int) ≤ (x.length : Int) := by omega
    have h0 : (0 : Int) ≤ (y.length : Int) := by omega
    have e1 := str_take x y.length
    have e2 := list_beq (x.take y.length) y
    have HB := Lib.hid (show decide (x.take y.length = y) = β by rw [← hβ, decide_eq_true h]; rfl)
    clear hβ h
    go_enter Try.func87, Try.ntmps87
    go_wp2_with fail
    go_ret
    refine ⟨?_, rfl⟩
    rw [← HB.out]
    exact congrArg (fun b => Ending.returned (.bool b)) (show (x.take y.length == y) = decide (x.take y.length = y) by rw [Bool.eq_iff_iff]; simp)
  · have h1 : ¬ (y.length : Int) ≤ (x.length : Int) := by omega
    have HB := Lib.hid (show false = β by rw [← hβ, decide_eq_false h]; rfl)
    clear hβ h
    go_enter Try.func87, Try.ntmps87
    go_wp2_with fail
    go_ret
    exact ⟨by rw [← HB.out]; rfl, rfl⟩
set_option maxRecDepth 100000 in
theorem stringsHasPrefix_any (x y : List UInt8) (w : World) (hx : x.length ≤ 1000000) (hy : y.length ≤ 1000000) (β : Bool) (hβ : (decide (y.length ≤ x.length) && decide (x.take y.length = y)) = β) :
    Calls Try.prog 42 #[.string ⟨x.toArray⟩, .string ⟨y.toArray⟩] w fun e w' => e = .returned (.bool β) ∧ w' = w := by
  have H := Lib.hid (HasPrefix_any x y w hx hy β hβ)
  clear hβ
  go_enter Try.func42, Try.ntmps42
  go_wp2_with fail
  refine H.out.mono ?_
  rintro e w1 ⟨rfl, rfl⟩
  go_wp2_with fail
  go_ret
  exact ⟨rfl, rfl⟩
theorem own_caps2 {w : World} {base : Nat} {B : Option Addr} {n c : Nat} {l : List UInt8} (h : Own w base (.slice B n c) l) : l.length ≤ c ∧ c ≤ 9223372036854775807 := by
  obtain ⟨B', c', e, h1, h2, _⟩ := h.form
  injection e with _ _ e3
  unfold maxLen at h2
  omega

set_option maxRecDepth 100000 in
theorem apart_no (A : Option Addr) (ca : Nat) (a : List Trip) (B : Option Addr) (cb m1 : Nat) (F : Option Addr) (fcap m q : Nat) (w : World) (hA : RdR w w.heap.size A a) (hsa : ∀ t ∈ a, t.2.2.size ≤ 9223372036854775807) (hla : a.length ≤ 9223372036854775807) (h : Hid (rowOk a 20 = false)) :
    Calls Try.prog 8 #[.slice A a.length ca, .slice B m1 cb, .slice F m fcap, .int .u16 q] w fun e w' => e = .returned (.bool true) ∧ Below w.heap.size w w' := by
  go_enter Try.func8, Try.ntmps8
  go_wp2_with (go_at_call 38; refine (right_any A ca a 20 _ hA (by omega) hsa hla).mono ?_; rintro e w1 ⟨rfl, hb⟩; rw [h.out]; have HX := Lib.hid hb; clear hb)
  refine (awake_any _).mono ?_
  rintro e w2 ⟨rfl, b2⟩
  go_wp2_with fail
  go_ret
  exact ⟨rfl, onB HX.out b2⟩
set_option maxRecDepth 100000 in
theorem apart_no2 (A : Option Addr) (ca : Nat) (a : List Trip) (B : Option Addr) (cb : Nat) (b : List Trip) (F : Option Addr) (fcap m q : Nat) (w : World) (hA : RdR w w.heap.size A a) (hB : RdR w w.heap.size B b) (hsa : ∀ t ∈ a, t.2.2.size ≤ 9223372036854775807) (hsb : ∀ t ∈ b, t.2.2.size ≤ 9223372036854775807) (hla : a.length ≤ 9223372036854775807) (hlb : b.length ≤ 9223372036854775807) (h : Hid (rowOk a 20 = true)) (h2 : Hid (rowOk b 20 = false)) :
    Calls Try.prog 8 #[.slice A a.length ca, .slice B b.length cb, .slice F m fcap, .int .u16 q] w fun e w' => e = .returned (.bool true) ∧ Below w.heap.size w w' := by
  go_enter Try.func8, Try.ntmps8
  go_wp2_with fail
  refine (right_any A ca a 20 _ hA (by omega) hsa hla).mono ?_
  rintro e w1 ⟨rfl, hb⟩
  rw [h.out]
  have HX := Lib.hid hb
  clear hb
  go_wp2_with fail
  refine (right_any B cb b 20 _ (hB.on HX.out) (by omega) hsb hlb).mono ?_
  rintro e w2 ⟨rfl, hb⟩
  rw [h2.out]
  have HX := Lib.hid (onB HX.out hb)
  clear hb
  go_wp2_with fail
  refine (awake_any _).mono ?_
  rintro e w3 ⟨rfl, b2⟩
  go_wp2_with fail
  go_ret
  exact ⟨rfl, onB HX.out b2⟩
set_option maxRecDepth 100000 in
theorem apart_none (A : Option Addr) (ca : Nat) (a : List Trip) (B : Option Addr) (cb : Nat) (b : List Trip) (F : Option Addr) (fcap m q : Nat) (w : World) (hA : RdR w w.heap.size A a) (hB : RdR w w.heap.size B b) (hsa : ∀ t ∈ a, t.2.2.size ≤ 9223372036854775807) (hsb : ∀ t ∈ b, t.2.2.size ≤ 9223372036854775807) (hla : a.length ≤ 9223372036854775807) (hlb : b.length ≤ 9223372036854775807) (h : Hid (rowOk a 20 = true)) (h2 : Hid (rowOk b 20 = true)) (h3 : min a.length b.length = 0) :
    Calls Try.prog 8 #[.slice A a.length ca, .slice B b.length cb, .slice F m fcap, .int .u16 q] w fun e w' => e = .returned (.bool true) ∧ Below w.heap.size w w' := by
  have hmin : min (a.length : Int) (b.length : Int) = 0 := by omega
  go_enter Try.func8, Try.ntmps8
  go_wp2_with fail
  refine (right_any A ca a 20 _ hA (by omega) hsa hla).mono ?_
  rintro e w1 ⟨rfl, hb⟩
  rw [h.out]
  have HX := Lib.hid hb
  clear hb
  go_wp2_with fail
  refine (right_any B cb b 20 _ (hB.on HX.out) (by omega) hsb hlb).mono ?_
  rintro e w2 ⟨rfl, hb⟩
  rw [h2.out]
  have HX := Lib.hid (onB HX.out hb)
  clear hb
  go_wp2_with fail
  refine (awake_any _).mono ?_
  rintro e w3 ⟨rfl, b2⟩
  go_wp2_with fail
  go_ret
  exact ⟨rfl, onB HX.out b2⟩
set_option maxRecDepth 100000 in
set_option maxHeartbeats 2000000 in
theorem apart_go (A : Option Addr) (ca : Nat) (a : List Trip) (B : Option Addr) (cb : Nat) (b : List Trip) (F : Option Addr) (fcap : Nat) (l : List Bool) (q : Nat) (w : World) (hA : RdR w w.heap.size A a) (hB : RdR w w.heap.size B b) (hF : RdF w w.heap.size F l) (hfl : l.length ≤ 9223372036854775807)
    (hca : a.length ≤ ca) (hcb : b.length ≤ cb) (hca2 : ca ≤ 9223372036854775807) (hcb2 : cb ≤ 9223372036854775807)
    (hsa : ∀ t ∈ a, t.2.2.size ≤ 9223372036854775807) (hsb : ∀ t ∈ b, t.2.2.size ≤ 9223372036854775807) (h : Hid (rowOk a 20 = true)) (h2 : Hid (rowOk b 20 = true)) (ga : Hid (GoodR a)) (gb : Hid (GoodR b)) (hla : a.length ≤ 20) (hlb : b.length ≤ 20) (hq : q < 65536) (n : Nat) (hn : n = min a.length b.length) (hn0 : 0 < n) (ds : List Bool) (hds : Hid (flagsL l n = ds)) (hdsl : ds.length = n) (x y r : List UInt8)
    (hx : Hid (keyL (a.take n) ds = x)) (hy : Hid (keyL (b.take n) ds = y)) (hr : Hid (putL (a.take n) = r)) (hxl : x.length ≤ 1000000) (hyl : y.length ≤ 1000000) (hrl : r.length ≤ 1000000) (hx0 : 0 < x.length) (hr0 : 0 < r.length)
    (β : Bool) (hβ : Hid (decide (x = y) = β)) (hp : Hid ((decide (y.length ≤ x.length) && decide (x.take y.length = y)) = β)) (j k : Nat) (hj : Hid (q % x.length = j)) (hk : Hid (q % r.length = k)) (hjx : j < x.length) (hkr : k < r.length) (u : UInt8) (hu : Hid ((q : Int) % 256 = (u.toNat : Int)))
    (g1 : Hid (unkN ds (x.take j) = none)) (g2 : Hid (unkN ds (x ++ [u]) = none)) (g3 : Hid (getN (r.take k) = none)) (g4 : Hid (getN (r ++ [u]) = none)) :
    Calls Try.prog 8 #[.slice A a.length ca, .slice B b.length cb, .slice F l.length fcap, .int .u16 q] w fun e w' => e = .returned (.bool true) ∧ Below w.heap.size w w' := by
  have HA := Lib.hid hA
  have HB := Lib.hid hB
  have HF := Lib.hid hF
  have hn1 : n ≤ a.length := by omega
  have hn2 : n ≤ b.length := by omega
  have hna : (a.take n).length = n := by rw [List.length_take]; omega
  have hnb : (b.take n).length = n := by rw [List.length_take]; omega
  have hk0 : (0 : Int) ≤ (n : Int) := by omega
  have hk1 : (n : Int) ≤ (a.length : Int) := by omega
  have hk2 : (n : Int) ≤ (ca : Int) := by omega
  have hk3 : (n : Int) ≤ (cb : Int) := by omega
  have hmin : min (a.length : Int) (b.length : Int) = (n : Int) := by omega
  have hnz : ¬ (n : Int) = 0 := by omega
  have HDL := Lib.hid hdsl
  go_enter Try.func8, Try.ntmps8
  go_wp2_with fail
  refine (right_any A ca a 20 _ hA (by omega) hsa (by omega)).mono ?_
  rintro e w1 ⟨rfl, hb⟩
  rw [h.out]
  have HX := Lib.hid hb
  clear hb
  go_wp2_with fail
  refine (right_any B cb b 20 _ (HB.out.on HX.out) (by omega) hsb (by omega)).mono ?_
  rintro e w2 ⟨rfl, hb⟩
  rw [h2.out]
  have HX := Lib.hid (onB HX.out hb)
  clear hb hA hB hF
  go_wp2_with fail
  rw [← hn]
  clear hn hmin
  refine (flags_any F fcap l n _ (HF.out.on HX.out) (by omega) hfl).mono ?_
  rintro e w3 ⟨g, rfl, hgb, hfa, hb⟩
  have HX := Lib.hid (onB HX.out hb)
  have HFl := Lib.hid (show RdF w3 w3.heap.size (some ⟨g, 0, none⟩) ds from by rw [← hds.out]; exact hfa.rdf)
  clear hb hfa hgb hdsl
  go_wp2_with fail
  refine (key_good A ca n (a.take n) (some ⟨g, 0, none⟩) n n ds _ ((HA.out.on HX.out).pre n) HFl.out (by omega) (by rw [HDL.out, hna]) (ga.out.take n) hna.symm hna.symm x hx.out).mono ?_
  rintro e w4 ⟨B1, c1, rfl, ho1, hb⟩
  have HO1 := Lib.hid ho1
  have HFl := Lib.hid (HFl.out.on hb)
  have HX := Lib.hid (onB HX.out hb)
  clear hb ho1
  go_wp2_with fail
  refine (key_good B cb n (b.take n) (some ⟨g, 0, none⟩) n n ds _ ((HB.out.on HX.out).pre n) HFl.out (by omega) (by rw [HDL.out, hnb]) (gb.out.take n) hnb.symm hnb.symm y hy.out).mono ?_
  rintro e w5 ⟨B2, c2, rfl, ho2, hb⟩
  have HO1 := Lib.hid (HO1.out.below hb)
  have HO2 := Lib.hid ho2
  have HFl := Lib.hid (HFl.out.on hb)
  have HX := Lib.hid (onB HX.out hb)
  have r1 := run_str (own_rd HO1.out) c1
  have r2 := run_str (own_rd HO2.out) c2
  have hxz : ¬ x.length = 0 := by omega
  have hxn : ¬ x = [] := fun e => by rw [e] at hx0; simp at hx0
  have hxe : ((x.length : Int) == 0) = false := by simp [hxn]
  clear hb ho2
  go_wp2_with fail
  refine (stringsHasPrefix_any x y _ hxl hyl β hp.out).mono ?_
  rintro e w6 ⟨rfl, rfl⟩
  go_wp2_with fail
  refine (SameBytes_any B1 c1 x B2 c2 y _ _ _ (own_rd HO1.out) (own_rd HO2.out)).mono ?_
  rintro e w7 ⟨rfl, rfl⟩
  rw [hβ.out]
  clear r1 r2 HO2
  obtain ⟨hc1, hc2⟩ := own_caps2 HO1.out
  have hj0 : (0 : Int) ≤ (j : Int) := by omega
  have hj1 : (j : Int) ≤ (x.length : Int) := by omega
  have hj2 : (j : Int) ≤ (c1 : Int) := by omega
  have hjq : (q : Int) % (x.length : Int) = (j : Int) := by rw [← hj.out]; simp
  have hjl : (x.take j).length = j := by rw [List.length_take]; omega
  go_wp2_with fail
  refine (Unkey_any B1 j c1 (x.take j) (some ⟨g, 0, none⟩) n n ds _ hjl.symm HDL.out.symm (rd_take (own_rd HO1.out) j) HFl.out (by omega) hc2).mono ?_
  rintro e w8 hp8
  rw [g1.out] at hp8
  obtain ⟨rfl, hb⟩ := hp8
  have HO1 := Lib.hid (HO1.out.below hb)
  have HFl := Lib.hid (HFl.out.on hb)
  have HX := Lib.hid (onB HX.out hb)
  clear hb
  go_wp2_with fail
  refine (CopyBytes_any B1 c1 x _ (by omega) (own_rd HO1.out)).mono ?_
  rintro e w9 ⟨v9, rfl, ho9, hb⟩
  have HO9 := Lib.hid ho9
  have hsz9 := hb.size
  have HB9 := Lib.hid hb
  obtain ⟨B9, c9, rfl, m1, m2, _⟩ := ho9.form
  clear m1 m2
  clear hb ho9 HO1
  go_wp2_with (at_builtin; refine wpList_app1 rfl (.tmp 98) (.tmp 101) rfl w8.heap.size _ x rfl HO9.out _ u hu.out rfl (by omega) hsz9 ?_; intro v10 w10 ho10 hb10)
  have HB10 := Lib.hid (HB9.out.trans hb10)
  have HO10 := Lib.hid ho10
  have HFl := Lib.hid (HFl.out.on HB10.out)
  have HX := Lib.hid (onB HX.out HB10.out)
  obtain ⟨B10, c10, rfl, m1, m2, _⟩ := ho10.form
  clear m1 m2 ho10 HO9 hsz9 hb10 HB9 HB10
  obtain ⟨hc3, hc4⟩ := own_caps2 HO10.out
  go_wp2_with fail
  refine (Unkey_any B10 (x ++ [u]).length c10 (x ++ [u]) (some ⟨g, 0, none⟩) n n ds _ rfl HDL.out.symm (own_rd HO10.out) HFl.out hc3 hc4).mono ?_
  rintro e w11 hp11
  rw [g2.out] at hp11
  obtain ⟨rfl, hb⟩ := hp11
  have HX := Lib.hid (onB HX.out hb)
  clear hb HFl HO10 hc3 hc4
  go_wp2_with fail
  refine (put_good A ca n (a.take n) _ ((HA.out.on HX.out).pre n) (by omega) (ga.out.take n) hna.symm r hr.out).mono ?_
  rintro e w12 ⟨B12, c12, rfl, ho12, hb⟩
  have HO12 := Lib.hid ho12
  have HX := Lib.hid (onB HX.out hb)
  clear hb ho12
  obtain ⟨hc5, hc6⟩ := own_caps2 HO12.out
  have hq0 : (0 : Int) ≤ (k : Int) := by omega
  have hq1 : (k : Int) ≤ (r.length : Int) := by omega
  have hq2 : (k : Int) ≤ (c12 : Int) := by omega
  have hmx : max (r.length : Int) 1 = (r.length : Int) := by omega
  have hkq : (q : Int) % (r.length : Int) = (k : Int) := by rw [← hk.out]; simp
  have hkl : (r.take k).length = k := by rw [List.length_take]; omega
  have hrz : ¬ (r.length : Int) = 0 := by omega
  go_wp2_with fail
  refine (Get_any B12 k c12 (r.take k) _ hkl.symm (rd_take (own_rd HO12.out) k) (by omega) hc6).mono ?_
  rintro e w13 hp13
  rw [g3.out] at hp13
  obtain ⟨rfl, hb⟩ := hp13
  have HO12 := Lib.hid (HO12.out.below hb)
  have HX := Lib.hid (onB HX.out hb)
  clear hb
  go_wp2_with fail
  refine (CopyBytes_any B12 c12 r _ (by omega) (own_rd HO12.out)).mono ?_
  rintro e w14 ⟨v14, rfl, ho14, hb⟩
  have HO14 := Lib.hid ho14
  have hsz14 := hb.size
  have HB14 := Lib.hid hb
  obtain ⟨B14, c14, rfl, m1, m2, _⟩ := ho14.form
  clear m1 m2 hb ho14 HO12
  go_wp2_with (at_builtin; refine wpList_app1 rfl (.tmp 128) (.tmp 131) rfl w13.heap.size _ r rfl HO14.out _ u hu.out rfl (by omega) hsz14 ?_; intro v15 w15 ho15 hb15)
  have HB15 := Lib.hid (HB14.out.trans hb15)
  have HO15 := Lib.hid ho15
  have HX := Lib.hid (onB HX.out HB15.out)
  obtain ⟨B15, c15, rfl, m1, m2, _⟩ := ho15.form
  clear m1 m2 ho15 HO14 hsz14 hb15 HB14 HB15
  obtain ⟨hc7, hc8⟩ := own_caps2 HO15.out
  go_wp2_with fail
  refine (Get_any B15 (r ++ [u]).length c15 (r ++ [u]) _ rfl (own_rd HO15.out) hc7 hc8).mono ?_
  rintro e w16 hp16
  rw [g4.out] at hp16
  obtain ⟨rfl, hb⟩ := hp16
  have HX := Lib.hid (onB HX.out hb)
  clear hb HO15 hc7 hc8
  go_wp2_with fail
  refine (awake_any _).mono ?_
  rintro e w17 ⟨rfl, hb⟩
  go_wp2_with fail
  go_ret
  exact ⟨rfl, onB HX.out hb⟩
theorem keyL_pos (a : List Trip) (ds : List Bool) (h : 0 < a.length) (hl : a.length = ds.length) : 0 < (keyL a ds).length := by
  match a, ds, h, hl with
  | (k, n, s) :: a, d :: ds, _, _ =>
    rw [keyL, List.length_append, turnL_length]
    have : 0 < (partL k n s).length := by
      unfold partL
      (repeat' split) <;> simp
    omega
/-- NO KEY IS THE BEGIN OF ANOTHER ONE, NO ROW'S BYTES CUT OR WITH MORE BEHIND THEM ARE A ROW'S -/
theorem apart_walk (A : Option Addr) (ca : Nat) (a : List Trip) (B : Option Addr) (cb : Nat) (b : List Trip) (F : Option Addr) (fcap : Nat) (l : List Bool) (q : Nat) (w : World) (hA : RdR w w.heap.size A a) (hB : RdR w w.heap.size B b) (hF : RdF w w.heap.size F l) (hca : a.length ≤ ca) (hcb : b.length ≤ cb) (hca2 : ca ≤ 9223372036854775807) (hcb2 : cb ≤ 9223372036854775807) (hfl : l.length ≤ 9223372036854775807) (hq : q < 65536)
    (hsa : ∀ t ∈ a, In64 t.2.1 ∧ t.2.2.size ≤ 9223372036854775807) (hsb : ∀ t ∈ b, In64 t.2.1 ∧ t.2.2.size ≤ 9223372036854775807) :
    Calls Try.prog 8 #[.slice A a.length ca, .slice B b.length cb, .slice F l.length fcap, .int .u16 q] w fun e w' => e = .returned (.bool true) ∧ Below w.heap.size w w' := by
  cases h : rowOk a 20
  · exact apart_no A ca a B cb b.length F fcap l.length q w hA (fun t ht => (hsa t ht).2) (by omega) (Lib.hid h)
  · cases h2 : rowOk b 20
    · exact apart_no2 A ca a B cb b F fcap l.length q w hA hB (fun t ht => (hsa t ht).2) (fun t ht => (hsb t ht).2) (by omega) (by omega) (Lib.hid h) (Lib.hid h2)
    · rcases Nat.eq_zero_or_pos (min a.length b.length) with h3 | h3
      · exact apart_none A ca a B cb b F fcap l.length q w hA hB (fun t ht => (hsa t ht).2) (fun t ht => (hsb t ht).2) (by omega) (by omega) (Lib.hid h) (Lib.hid h2) h3
      · obtain ⟨ga, la⟩ := GoodR.of h (fun t ht => (hsa t ht).1)
        obtain ⟨gb, lb⟩ := GoodR.of h2 (fun t ht => (hsb t ht).1)
        obtain ⟨n, hn⟩ : ∃ n, n = min a.length b.length := ⟨_, rfl⟩
        rw [← hn] at h3
        have hna : (a.take n).length = n := by rw [List.length_take]; omega
        have hnb : (b.take n).length = n := by rw [List.length_take]; omega
        have g1 := ga.take n
        have g2 := gb.take n
        have f1 : ∀ v ∈ a.take n, Rt v.1 v.2.1 v.2.2 ∧ In64 v.2.1 := fun v hv => ⟨(g1 v hv).1, (g1 v hv).2.2⟩
        have f2 : ∀ v ∈ b.take n, Rt v.1 v.2.1 v.2.2 ∧ In64 v.2.1 := fun v hv => ⟨(g2 v hv).1, (g2 v hv).2.2⟩
        have hdl := flagsL_length l n
        have hxl := keyL_good _ (flagsL l n) g1
        have hyl := keyL_good _ (flagsL l n) g2
        have hx0 := keyL_pos (a.take n) (flagsL l n) (by omega) (by omega)
        have hkx := fun r => getK_key (a.take n) (flagsL l n) r f1 (by omega)
        have hky := fun r => getK_key (b.take n) (flagsL l n) r f2 (by omega)
        have hrl : (putL (a.take n)).length ≤ 100000 := by
          have h1 := headL_len (a.take n) (by omega) (fun t ht => by have := (g1 t ht).2.1; omega)
          have h2 := sumB_good (a.take n) g1
          rw [putL, List.length_append, bodies_len (a.take n) f1]
          omega
        have hr0 : 0 < (putL (a.take n)).length := by
          have h1 : 0 < (Lib.uvarint (a.take n).length).length := by
            rcases Nat.eq_zero_or_pos (Lib.uvarint (a.take n).length).length with h | h
            · have h2 := decU_enc 10 0 0 (a.take n).length [] (by omega) (by omega) (by omega) (by omega)
              rw [List.eq_nil_of_length_eq_zero h] at h2
              simp [decU] at h2
            · exact h
          rw [putL, headL, List.length_append, List.length_append]
          omega
        have hβ : (decide ((keyL (b.take n) (flagsL l n)).length ≤ (keyL (a.take n) (flagsL l n)).length) && decide ((keyL (a.take n) (flagsL l n)).take (keyL (b.take n) (flagsL l n)).length = keyL (b.take n) (flagsL l n))) = decide (keyL (a.take n) (flagsL l n) = keyL (b.take n) (flagsL l n)) := by
          by_cases e : keyL (a.take n) (flagsL l n) = keyL (b.take n) (flagsL l n)
          · rw [e]; simp
          · rw [decide_eq_false e, Bool.and_eq_false_iff]
            refine .inr (decide_eq_false fun e2 => e ?_)
            have h4 := hky ((keyL (a.take n) (flagsL l n)).drop (keyL (b.take n) (flagsL l n)).length)
            have h5 := hkx []
            have e3 : keyL (b.take n) (flagsL l n) ++ (keyL (a.take n) (flagsL l n)).drop (keyL (b.take n) (flagsL l n)).length = keyL (a.take n) (flagsL l n) := by
              have := List.take_append_drop (keyL (b.take n) (flagsL l n)).length (keyL (a.take n) (flagsL l n))
              rw [e2] at this
              exact this
            rw [e3] at h4
            rw [List.append_nil, h4] at h5
            split at h5
            · rename_i e4
              rw [e4, List.append_nil] at e3
              exact e3.symm
            · cases h5
        have unk : ∀ m, getK (flagsL l n) m = none → unkN (flagsL l n) m = none := fun m hm => by
          unfold unkN
          split
          · exact hm
          · rfl
        exact apart_go A ca a B cb b F fcap l q w hA hB hF hfl hca hcb hca2 hcb2 (fun t ht => (hsa t ht).2) (fun t ht => (hsb t ht).2) (Lib.hid h) (Lib.hid h2) (Lib.hid ga) (Lib.hid gb) la lb hq n hn h3 _ (Lib.hid rfl) hdl _ _ _ (Lib.hid rfl) (Lib.hid rfl) (Lib.hid rfl) (by omega) (by omega) (by omega) hx0 hr0
          _ (Lib.hid rfl) (Lib.hid hβ) _ _ (Lib.hid rfl) (Lib.hid rfl) (Nat.mod_lt _ hx0) (Nat.mod_lt _ hr0) (q % 256).toUInt8 (Lib.hid (by simp only [Nat.toUInt8, UInt8.toNat_ofNat']; omega))
          (Lib.hid (unk _ (getK_cut f1 (by omega) (Nat.mod_lt _ hx0)))) (Lib.hid (unk _ (getK_more f1 (by omega) (by simp))))
          (Lib.hid (getN_cut f1 (by omega) (by omega) (Nat.mod_lt _ hr0))) (Lib.hid (getN_more f1 (by omega) (by simp)))
end Go.Proofs.Ytlichbiioejpiaa
