/-
  RecordOrder returns true for every two rows: the walk. Conditions: numbers of 64 bits; sizes.
-/
import Derived.Test.YtgaeljiindpcmaaROrdC
namespace Go.Proofs.Ytgaeljiindpcmaa
open Go.ChangeShapes Go.WideShapes Go.ChangeAt Go.RowKit
set_option linter.unusedVariables false

set_option maxRecDepth 100000 in
theorem order_no (A : Option Addr) (ca : Nat) (a : List Trip) (B : Option Addr) (cb : Nat) (b : List Trip) (F : Option Addr) (fcap m : Nat) (w : World) (hA : RdR w w.heap.size A a) (hB : RdR w w.heap.size B b) (hsa : ∀ t ∈ a, t.2.2.size ≤ 9223372036854775807) (hsb : ∀ t ∈ b, t.2.2.size ≤ 9223372036854775807) (hla : a.length ≤ 9223372036854775807) (hlb : b.length ≤ 9223372036854775807) (h : Hid (rowOk a 20 = false)) :
    Calls Try.prog 6 #[.slice A a.length ca, .slice B b.length cb, .slice F m fcap] w fun e w' => e = .returned (.bool true) ∧ Below w.heap.size w w' := by
  go_enter Try.func6, Try.ntmps6
  go_wp2_with (go_at_call 38; refine (right_any A ca a 20 _ hA (by omega) hsa hla).mono ?_; rintro e w1 ⟨rfl, hb⟩; rw [h.out]; have HX := Lib.hid hb; clear hb)
  refine (awake_any _).mono ?_
  rintro e w2 ⟨rfl, b2⟩
  go_wp2_with fail
  go_ret
  exact ⟨rfl, onB HX.out b2⟩
set_option maxRecDepth 100000 in
theorem order_no2 (A : Option Addr) (ca : Nat) (a : List Trip) (B : Option Addr) (cb : Nat) (b : List Trip) (F : Option Addr) (fcap m : Nat) (w : World) (hA : RdR w w.heap.size A a) (hB : RdR w w.heap.size B b) (hsa : ∀ t ∈ a, t.2.2.size ≤ 9223372036854775807) (hsb : ∀ t ∈ b, t.2.2.size ≤ 9223372036854775807) (hla : a.length ≤ 9223372036854775807) (hlb : b.length ≤ 9223372036854775807) (h : Hid (rowOk a 20 = true)) (h2 : Hid (rowOk b 20 = false)) :
    Calls Try.prog 6 #[.slice A a.length ca, .slice B b.length cb, .slice F m fcap] w fun e w' => e = .returned (.bool true) ∧ Below w.heap.size w w' := by
  go_enter Try.func6, Try.ntmps6
  go_wp2_with fail
  refine (right_any A ca a 20 _ hA (by omega) hsa hla).mono ?_
  rintro e w1 ⟨rfl, hb⟩
  rw [h.out]
  have HX := Lib.hid hb
  clear hb
  go_wp2_with fail
  refine (right_any B cb b 20 _ (hB.on HX.out) (by omega) hsb hlb).mono ?_
  rintro e w2 ⟨rfl, hb⟩
  rw [h2.out]
  have HX := Lib.hid (onB HX.out hb)
  clear hb
  go_wp2_with fail
  refine (awake_any _).mono ?_
  rintro e w3 ⟨rfl, b2⟩
  go_wp2_with fail
  go_ret
  exact ⟨rfl, onB HX.out b2⟩
set_option maxRecDepth 100000 in
set_option maxHeartbeats 2000000 in
theorem order_go (A : Option Addr) (ca : Nat) (a : List Trip) (B : Option Addr) (cb : Nat) (b : List Trip) (F : Option Addr) (fcap : Nat) (l : List Bool) (w : World) (hA : RdR w w.heap.size A a) (hB : RdR w w.heap.size B b) (hF : RdF w w.heap.size F l) (hfl : l.length ≤ 9223372036854775807)
    (hca : a.length ≤ ca) (hcb : b.length ≤ cb) (hca2 : ca ≤ 9223372036854775807) (hcb2 : cb ≤ 9223372036854775807)
    (hsa : ∀ t ∈ a, t.2.2.size ≤ 9223372036854775807) (hsb : ∀ t ∈ b, t.2.2.size ≤ 9223372036854775807) (h : Hid (rowOk a 20 = true)) (h2 : Hid (rowOk b 20 = true)) (ga : Hid (GoodR a)) (gb : Hid (GoodR b)) (hla : a.length ≤ 20) (hlb : b.length ≤ 20) (n : Nat) (hn : n = min a.length b.length) (x y : List UInt8) (c : Int)
    (hx : Hid (keyL (a.take n) (flagsL l n) = x)) (hy : Hid (keyL (b.take n) (flagsL l n) = y)) (hc : Hid (rowsC (a.take n) (b.take n) (flagsL l n) = c)) (hxy : Hid (Lib.compareBytes x y = c)) (hxl : x.length ≤ 1000000) (hyl : y.length ≤ 1000000) :
    Calls Try.prog 6 #[.slice A a.length ca, .slice B b.length cb, .slice F l.length fcap] w fun e w' => e = .returned (.bool true) ∧ Below w.heap.size w w' := by
  have HA := Lib.hid hA
  have HB := Lib.hid hB
  have HF := Lib.hid hF
  have hn1 : n ≤ a.length := by omega
  have hn2 : n ≤ b.length := by omega
  have hna : (a.take n).length = n := by rw [List.length_take]; omega
  have hnb : (b.take n).length = n := by rw [List.length_take]; omega
  have hk0 : (0 : Int) ≤ (n : Int) := by omega
  have hk1 : (n : Int) ≤ (a.length : Int) := by omega
  have hk2 : (n : Int) ≤ (ca : Int) := by omega
  have hk3 : (n : Int) ≤ (cb : Int) := by omega
  have hmin : min (a.length : Int) (b.length : Int) = (n : Int) := by omega
  go_enter Try.func6, Try.ntmps6
  go_wp2_with fail
  refine (right_any A ca a 20 _ hA (by omega) hsa (by omega)).mono ?_
  rintro e w1 ⟨rfl, hb⟩
  rw [h.out]
  have HX := Lib.hid hb
  clear hb
  go_wp2_with fail
  refine (right_any B cb b 20 _ (HB.out.on HX.out) (by omega) hsb (by omega)).mono ?_
  rintro e w2 ⟨rfl, hb⟩
  rw [h2.out]
  have HX := Lib.hid (onB HX.out hb)
  clear hb hA hB hF
  go_wp2_with fail
  rw [← hn]
  clear hn hmin
  refine (flags_any F fcap l n _ (HF.out.on HX.out) (by omega) hfl).mono ?_
  rintro e w3 ⟨g, rfl, hgb, hfa, hb⟩
  have HX := Lib.hid (onB HX.out hb)
  have HFl := Lib.hid (show RdF w3 w3.heap.size (some ⟨g, 0, none⟩) (flagsL l n) from hfa.rdf)
  clear hb hfa hgb
  go_wp2_with fail
  refine (key_good A ca n (a.take n) (some ⟨g, 0, none⟩) n n (flagsL l n) _ ((HA.out.on HX.out).pre n) HFl.out (by omega) (by rw [flagsL_length, hna]) (ga.out.take n) hna.symm hna.symm x hx.out).mono ?_
  rintro e w4 ⟨B1, c1, rfl, ho1, hb⟩
  have HO1 := Lib.hid (ho1.mono HX.out.size)
  have HFl := Lib.hid (HFl.out.on hb)
  have HX := Lib.hid (onB HX.out hb)
  clear hb ho1
  go_wp2_with fail
  refine (key_good B cb n (b.take n) (some ⟨g, 0, none⟩) n n (flagsL l n) _ ((HB.out.on HX.out).pre n) HFl.out (by omega) (by rw [flagsL_length, hnb]) (gb.out.take n) hnb.symm hnb.symm y hy.out).mono ?_
  rintro e w5 ⟨B2, c2, rfl, ho2, hb⟩
  have HO1 := Lib.hid (HO1.out.below hb)
  have HO2 := Lib.hid (ho2.mono HX.out.size)
  have HFl := Lib.hid (HFl.out.on hb)
  have HX := Lib.hid (onB HX.out hb)
  clear hb ho2
  have R1 := Lib.hid (fun (X : World) (h : Below w5.heap.size w5 X) => run_str ((own_rd HO1.out).on h) c1)
  have R2 := Lib.hid (fun (X : World) (h : Below w5.heap.size w5 X) => run_str ((own_rd HO2.out).on h) c2)
  have HRA := Lib.hid (fun (X : World) (h : Below w5.heap.size w5 X) => ((HA.out.on HX.out).on h).pre n)
  have HRB := Lib.hid (fun (X : World) (h : Below w5.heap.size w5 X) => ((HB.out.on HX.out).on h).pre n)
  have HRF := Lib.hid (fun (X : World) (h : Below w5.heap.size w5 X) => HFl.out.on h)
  have h0 := Lib.hid ((Below.refl w5.heap.size w5).drew)
  clear HO1 HO2 HFl
  go_wp2_with fail
  go_region_held3 (fun X => (convert 24 9 (.slice B1 x.length c1)).run Try.prog X = .ok (.string ⟨x.toArray⟩) X ∧ (convert 24 9 (.slice B2 y.length c2)).run Try.prog X = .ok (.string ⟨y.toArray⟩) X)
    (first | exact ⟨R1.out _ hcur2.out, R2.out _ hcur2.out⟩ | exact ⟨R1.out _ hcur.out, R2.out _ hcur.out⟩ | exact ⟨R1.out _ h0.out, R2.out _ h0.out⟩)
    (first
      | (go_at_call 40; refine (Try.strings_Compare _ _ _).mono ?_; rintro e wa ⟨rfl, rfl⟩)
      | (go_at_call 41; refine (rows_any A ca n (a.take n) B cb n (b.take n) (some ⟨g, 0, none⟩) n n (flagsL l n) _ (HRA.out _ h0.out) (HRB.out _ h0.out) (HRF.out _ h0.out) (by omega) (by omega) (by rw [flagsL_length, hna]) hna.symm hna.symm hna.symm c hc.out).mono ?_; rintro e wa ⟨rfl, ba⟩; have hcur := Lib.hid (h0.out.trans (ba.mono h0.out.size)))
      | (go_at_call 27; refine (awake_any _).mono ?_; rintro e wb ⟨rfl, bb⟩; have hcur2 := Lib.hid (hcur.out.trans (bb.mono hcur.out.size))))
  go_wp2_with fail
  go_ret
  exact ⟨rfl, onB HX.out hcur2.out⟩
/-- TWO ROWS' KEYS FALL AS THE ROWS DO -/
theorem order_walk (A : Option Addr) (ca : Nat) (a : List Trip) (B : Option Addr) (cb : Nat) (b : List Trip) (F : Option Addr) (fcap : Nat) (l : List Bool) (w : World) (hA : RdR w w.heap.size A a) (hB : RdR w w.heap.size B b) (hF : RdF w w.heap.size F l) (hca : a.length ≤ ca) (hcb : b.length ≤ cb) (hca2 : ca ≤ 9223372036854775807) (hcb2 : cb ≤ 9223372036854775807) (hfl : l.length ≤ 9223372036854775807)
    (hsa : ∀ t ∈ a, In64 t.2.1 ∧ t.2.2.size ≤ 9223372036854775807) (hsb : ∀ t ∈ b, In64 t.2.1 ∧ t.2.2.size ≤ 9223372036854775807) :
    Calls Try.prog 6 #[.slice A a.length ca, .slice B b.length cb, .slice F l.length fcap] w fun e w' => e = .returned (.bool true) ∧ Below w.heap.size w w' := by
  cases h : rowOk a 20
  · exact order_no A ca a B cb b F fcap l.length w hA hB (fun t ht => (hsa t ht).2) (fun t ht => (hsb t ht).2) (by omega) (by omega) (Lib.hid h)
  · cases h2 : rowOk b 20
    · exact order_no2 A ca a B cb b F fcap l.length w hA hB (fun t ht => (hsa t ht).2) (fun t ht => (hsb t ht).2) (by omega) (by omega) (Lib.hid h) (Lib.hid h2)
    · obtain ⟨ga, la⟩ := GoodR.of h (fun t ht => (hsa t ht).1)
      obtain ⟨gb, lb⟩ := GoodR.of h2 (fun t ht => (hsb t ht).1)
      have hna : (a.take (min a.length b.length)).length = min a.length b.length := by rw [List.length_take]; omega
      have hnb : (b.take (min a.length b.length)).length = min a.length b.length := by rw [List.length_take]; omega
      have g1 := ga.take (min a.length b.length)
      have g2 := gb.take (min a.length b.length)
      have hxl := keyL_good _ (flagsL l (min a.length b.length)) g1
      have hyl := keyL_good _ (flagsL l (min a.length b.length)) g2
      exact order_go A ca a B cb b F fcap l w hA hB hF hfl hca hcb hca2 hcb2 (fun t ht => (hsa t ht).2) (fun t ht => (hsb t ht).2) (Lib.hid h) (Lib.hid h2) (Lib.hid ga) (Lib.hid gb) la lb _ rfl _ _ _ (Lib.hid rfl) (Lib.hid rfl) (Lib.hid rfl)
        (Lib.hid (keys_order _ _ _ g1 g2 (by rw [hna, hnb]) (by rw [flagsL_length, hna]))) (by omega) (by omega)
end Go.Proofs.Ytgaeljiindpcmaa
