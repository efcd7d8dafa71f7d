/-
  RecordBack returns true for every two rows, flags and bytes: the walk. Conditions: numbers of 64 bits; sizes.
-/
import Derived.Test.YtcpmfagnnidodaaRBackS
namespace Go.Proofs.Ytcpmfagnnidodaa
open Go.ChangeShapes Go.WideShapes Go.ChangeAt Go.RowKit
set_option linter.unusedVariables false

/-- right values, as many as a row may have, whose bytes are not too many -/
def FineR (vs : List Trip) : Prop := ∀ v ∈ vs, Rt v.1 v.2.1 v.2.2 ∧ In64 v.2.1
theorem GoodR.fine {vs : List Trip} (h : GoodR vs) : FineR vs := fun v hv => ⟨(h v hv).1, (h v hv).2.2⟩
theorem FineR.bad {vs : List Trip} (h : FineR vs) : vs.any pBad = false := by
  rw [List.any_eq_false]
  intro t ht
  simp [pBad, (h t ht).1]
theorem put_all (A : Option Addr) (cap m : Nat) (vs : List Trip) (w : World) (hR : RdR w w.heap.size A vs) (hl : vs.length ≤ 200) (hg : FineR vs) (hm : m = vs.length) (l : List UInt8) (hl0 : putL vs = l) (hlen : l.length ≤ 1048576) :
    Calls Try.prog 19 #[.slice A m cap] w fun e w' => ∃ B c, e = .returned (.tuple #[.slice B l.length c, .int .i64 0]) ∧ Own w' w.heap.size (.slice B l.length c) l ∧ Below w.heap.size w w' := by
  subst hm hl0
  refine (Put_ok A cap vs w hR hl hg.bad (fun t ht => ⟨rt_size (hg t ht).1, (hg t ht).2⟩) (by rw [putL, List.length_append, bodies_len vs hg] at hlen; exact hlen)).mono ?_
  rintro e w' ⟨v, rfl, ho, hb⟩
  obtain ⟨B, c, rfl, m1, m2, _⟩ := ho.form
  clear m1 m2
  exact ⟨B, c, rfl, ho, hb⟩
theorem escL_count : ∀ l : List UInt8, (escL l).length = l.length + Lib.countByte l 0
  | [] => rfl
  | c :: l => by
    have ih := escL_count l
    unfold Lib.countByte at *
    have e : escL (c :: l) = esc c ++ escL l := rfl
    rw [e, List.length_append, ih, List.length_cons, List.count_cons]
    unfold esc
    by_cases h : c = 0
    · subst h; simp; omega
    · simp [h]; omega
theorem part_len (k n : Int) (s : ByteArray) (h : Rt k n s) : (partL k n s).length = partN k s := by
  have hl : s.data.toList.length = s.size := by rcases s with ⟨⟨l⟩⟩; rfl
  rcases h with ⟨rfl, rfl, h⟩ | ⟨rfl, h⟩ | ⟨hk, rfl, h⟩
  · rfl
  · show (2 :: beN (intN n) 8).length = 9
    rw [List.length_cons, beN_length]
  · rcases hk with rfl | rfl
    · show (3 :: (escL s.data.toList ++ [0, 0])).length = 1 + s.size + Lib.countByte s.data.toList 0 + 2
      rw [List.length_cons, List.length_append, escL_count, hl]
      simp; omega
    · show (4 :: (escL s.data.toList ++ [0, 0])).length = 1 + s.size + Lib.countByte s.data.toList 0 + 2
      rw [List.length_cons, List.length_append, escL_count, hl]
      simp; omega
theorem key_len : ∀ (vs : List Trip) (ds : List Bool), FineR vs → vs.length = ds.length → (keyL vs ds).length = sumP vs
  | [], [], _, _ => rfl
  | (k, n, s) :: vs, d :: ds, h, hl => by
    have ih := key_len vs ds (fun v hv => h v (List.mem_cons_of_mem _ hv)) (by simpa using hl)
    have e : sumP ((k, n, s) :: vs) = partN k s + sumP vs := by simp [sumP]
    rw [keyL, List.length_append, turnL_length, ih, e, part_len k n s (h _ List.mem_cons_self).1]
  | [], _ :: _, _, h => by simp at h
  | _ :: _, [], _, h => by simp at h
theorem key_all (A : Option Addr) (cap m : Nat) (vs : List Trip) (F : Option Addr) (fcap m' : Nat) (ds : List Bool) (w : World) (hR : RdR w w.heap.size A vs) (hF : RdF w w.heap.size F ds) (hl : vs.length ≤ 200) (hd : ds.length = vs.length) (hg : FineR vs) (hm : m = vs.length) (hm' : m' = ds.length) (l : List UInt8) (hl0 : keyL vs ds = l) (hlen : l.length ≤ 1048576) :
    Calls Try.prog 23 #[.slice A m cap, .slice F m' fcap] w fun e w' => ∃ B c, e = .returned (.tuple #[.slice B l.length c, .int .i64 0]) ∧ Own w' w.heap.size (.slice B l.length c) l ∧ Below w.heap.size w w' := by
  subst hm hm' hl0
  refine (Key_ok A cap vs F fcap ds w hR hF hl hd hg.bad (fun t ht => ⟨rt_size (hg t ht).1, (hg t ht).2⟩) (by rw [key_len vs ds hg hd.symm] at hlen; exact hlen)).mono ?_
  rintro e w' ⟨v, rfl, ho, hb⟩
  obtain ⟨B, c, rfl, m1, m2, _⟩ := ho.form
  clear m1 m2
  exact ⟨B, c, rfl, ho, hb⟩
theorem own_caps {w : World} {base : Nat} {B : Option Addr} {n c : Nat} {l : List UInt8} (h : Own w base (.slice B n c) l) : l.length ≤ c ∧ c ≤ 9223372036854775807 := by
  obtain ⟨B', c', e, h1, h2, _⟩ := h.form
  injection e with _ _ e3
  unfold maxLen at h2
  omega

set_option maxRecDepth 100000 in
theorem back_no (A : Option Addr) (ca : Nat) (a : List Trip) (B : Option Addr) (cb m1 : Nat) (F : Option Addr) (fcap m : Nat) (D : Option Addr) (cd md : Nat) (w : World) (hA : RdR w w.heap.size A a) (hsa : ∀ t ∈ a, t.2.2.size ≤ 9223372036854775807) (hla : a.length ≤ 9223372036854775807) (h : Hid (rowOk a 20 = false)) :
    Calls Try.prog 7 #[.slice A a.length ca, .slice B m1 cb, .slice F m fcap, .slice D md cd] w fun e w' => e = .returned (.bool true) ∧ Below w.heap.size w w' := by
  go_enter Try.func7, Try.ntmps7
  go_wp2_with (go_at_call 38; refine (right_any A ca a 20 _ hA (by omega) hsa hla).mono ?_; rintro e w1 ⟨rfl, hb⟩; rw [h.out]; have HX := Lib.hid hb; clear hb)
  refine (awake_any _).mono ?_
  rintro e w2 ⟨rfl, b2⟩
  go_wp2_with fail
  go_ret
  exact ⟨rfl, onB HX.out b2⟩
set_option maxRecDepth 100000 in
theorem back_no2 (A : Option Addr) (ca : Nat) (a : List Trip) (B : Option Addr) (cb : Nat) (b : List Trip) (F : Option Addr) (fcap m : Nat) (D : Option Addr) (cd md : Nat) (w : World) (hA : RdR w w.heap.size A a) (hB : RdR w w.heap.size B b) (hsa : ∀ t ∈ a, t.2.2.size ≤ 9223372036854775807) (hsb : ∀ t ∈ b, t.2.2.size ≤ 9223372036854775807) (hla : a.length ≤ 9223372036854775807) (hlb : b.length ≤ 9223372036854775807) (h : Hid (rowOk a 20 = true)) (h2 : Hid (rowOk b 20 = false)) :
    Calls Try.prog 7 #[.slice A a.length ca, .slice B b.length cb, .slice F m fcap, .slice D md cd] w fun e w' => e = .returned (.bool true) ∧ Below w.heap.size w w' := by
  go_enter Try.func7, Try.ntmps7
  go_wp2_with fail
  refine (right_any A ca a 20 _ hA (by omega) hsa hla).mono ?_
  rintro e w1 ⟨rfl, hb⟩
  rw [h.out]
  have HX := Lib.hid hb
  clear hb
  go_wp2_with fail
  refine (right_any B cb b 20 _ (hB.on HX.out) (by omega) hsb hlb).mono ?_
  rintro e w2 ⟨rfl, hb⟩
  rw [h2.out]
  have HX := Lib.hid (onB HX.out hb)
  clear hb
  go_wp2_with fail
  refine (awake_any _).mono ?_
  rintro e w3 ⟨rfl, b2⟩
  go_wp2_with fail
  go_ret
  exact ⟨rfl, onB HX.out b2⟩
set_option maxRecDepth 100000 in
theorem back_long (A : Option Addr) (ca : Nat) (a : List Trip) (B : Option Addr) (cb : Nat) (b : List Trip) (F : Option Addr) (fcap m : Nat) (D : Option Addr) (cd md : Nat) (w : World) (hA : RdR w w.heap.size A a) (hB : RdR w w.heap.size B b) (hsa : ∀ t ∈ a, t.2.2.size ≤ 9223372036854775807) (hsb : ∀ t ∈ b, t.2.2.size ≤ 9223372036854775807) (hla : a.length ≤ 9223372036854775807) (hlb : b.length ≤ 9223372036854775807) (h : Hid (rowOk a 20 = true)) (h2 : Hid (rowOk b 20 = true)) (hq : 2000 < md ∨ 30 < m) :
    Calls Try.prog 7 #[.slice A a.length ca, .slice B b.length cb, .slice F m fcap, .slice D md cd] w fun e w' => e = .returned (.bool true) ∧ Below w.heap.size w w' := by
  go_enter Try.func7, Try.ntmps7
  go_wp2_with fail
  refine (right_any A ca a 20 _ hA (by omega) hsa hla).mono ?_
  rintro e w1 ⟨rfl, hb⟩
  rw [h.out]
  have HX := Lib.hid hb
  clear hb
  go_wp2_with fail
  refine (right_any B cb b 20 _ (hB.on HX.out) (by omega) hsb hlb).mono ?_
  rintro e w2 ⟨rfl, hb⟩
  rw [h2.out]
  have HX := Lib.hid (onB HX.out hb)
  clear hb
  by_cases hd : 2000 < md
  · have hd1 : (2000 : Int) < (md : Int) := by omega
    go_wp2_with fail
    refine (awake_any _).mono ?_
    rintro e w3 ⟨rfl, b2⟩
    go_wp2_with fail
    go_ret
    exact ⟨rfl, onB HX.out b2⟩
  · have hd1 : ¬ (2000 : Int) < (md : Int) := by omega
    have hd2 : (30 : Int) < (m : Int) := by omega
    go_wp2_with fail
    refine (awake_any _).mono ?_
    rintro e w3 ⟨rfl, b2⟩
    go_wp2_with fail
    go_ret
    exact ⟨rfl, onB HX.out b2⟩
set_option maxRecDepth 100000 in
set_option maxHeartbeats 2000000 in
theorem back_go (A : Option Addr) (ca : Nat) (a : List Trip) (B : Option Addr) (cb : Nat) (b : List Trip) (F : Option Addr) (fcap : Nat) (l : List Bool) (D : Option Addr) (cd : Nat) (d : List UInt8) (w : World) (hA : RdR w w.heap.size A a) (hB : RdR w w.heap.size B b) (hF : RdF w w.heap.size F l) (hD : Rd w w.heap.size D d)
    (hcd : d.length ≤ cd) (hcd2 : cd ≤ 9223372036854775807)
    (hsa : ∀ t ∈ a, t.2.2.size ≤ 9223372036854775807) (hsb : ∀ t ∈ b, t.2.2.size ≤ 9223372036854775807) (h : Hid (rowOk a 20 = true)) (h2 : Hid (rowOk b 20 = true)) (ga : Hid (GoodR a)) (gb : Hid (GoodR b)) (hla : a.length ≤ 20) (hlb : b.length ≤ 20) (hfl : l.length ≤ 30) (hdl : d.length ≤ 2000)
    (x o z : List UInt8) (ds : List Bool) (hds : Hid (flagsL l a.length = ds)) (hdsl : ds.length = a.length) (hx : Hid (putL a = x)) (ho : Hid (putL b = o)) (hz : Hid (keyL a ds = z)) (gx : Hid (getN x = some a)) (gz : Hid (unkN ds z = some a)) (hxl : x.length ≤ 1048576) (hzl : z.length ≤ 1048576)
    (β : Bool) (hβ1 : Hid (decide (x = o) = β)) (hβ2 : decide (a = b) = β) (R1 R2 : Option (List Trip)) (hR1 : Hid (getN d = R1)) (hR2 : Hid (unkN l d = R2))
    (k1 : Hid (∀ vs, R1 = some vs → putL vs = d ∧ FineR vs ∧ vs.length ≤ 200)) (k2 : Hid (∀ vs, R2 = some vs → keyL vs l = d ∧ FineR vs ∧ vs.length = l.length)) :
    Calls Try.prog 7 #[.slice A a.length ca, .slice B b.length cb, .slice F l.length fcap, .slice D d.length cd] w fun e w' => e = .returned (.bool true) ∧ Below w.heap.size w w' := by
  have HA := Lib.hid hA
  have HB := Lib.hid hB
  have HF := Lib.hid hF
  have HD := Lib.hid hD
  have HB2 := Lib.hid hβ2
  have q1 : ¬ (2000 : Int) < (d.length : Int) := by omega
  have q2 : ¬ (30 : Int) < (l.length : Int) := by omega
  clear hβ2
  go_enter Try.func7, Try.ntmps7
  go_wp2_with fail
  refine (right_any A ca a 20 _ hA (by omega) hsa (by omega)).mono ?_
  rintro e w1 ⟨rfl, hb⟩
  rw [h.out]
  have HX := Lib.hid hb
  clear hb
  go_wp2_with fail
  refine (right_any B cb b 20 _ (HB.out.on HX.out) (by omega) hsb (by omega)).mono ?_
  rintro e w2 ⟨rfl, hb⟩
  rw [h2.out]
  have HX := Lib.hid (onB HX.out hb)
  clear hb hA hB hF hD
  go_wp2_with fail
  refine (flags_any F fcap l a.length _ (HF.out.on HX.out) (by omega) (by omega)).mono ?_
  rintro e w3 ⟨g, rfl, hgb, hfa, hb⟩
  have HX := Lib.hid (onB HX.out hb)
  have HFl := Lib.hid (show RdF w3 w3.heap.size (some ⟨g, 0, none⟩) ds from by rw [← hds.out]; exact hfa.rdf)
  clear hb hfa hgb
  go_wp2_with fail
  refine (put_all A ca a.length a _ (HA.out.on HX.out) (by omega) ga.out.fine rfl x hx.out hxl).mono ?_
  rintro e w4 ⟨B1, c1, rfl, ho1, hb⟩
  have HO1 := Lib.hid ho1
  have HFl := Lib.hid (HFl.out.on hb)
  have HX := Lib.hid (onB HX.out hb)
  clear hb ho1
  go_wp2_with fail
  refine (Get_any B1 x.length c1 x _ rfl (own_rd HO1.out) (own_caps HO1.out).1 (own_caps HO1.out).2).mono ?_
  rintro e w5 hp
  rw [gx.out] at hp
  obtain ⟨⟨v, rfl, hr⟩, hb⟩ := hp
  obtain ⟨A5, c5, rfl, m1, m2, hr5⟩ := hr.form
  clear m1 m2
  have HR5 := Lib.hid hr5
  have HO1 := Lib.hid (HO1.out.below hb)
  have HFl := Lib.hid (HFl.out.on hb)
  have HX := Lib.hid (onB HX.out hb)
  clear hb hr hr5
  go_wp2_with fail
  refine (key_all A ca a.length a (some ⟨g, 0, none⟩) a.length a.length ds _ (HA.out.on HX.out) HFl.out (by omega) hdsl ga.out.fine rfl hdsl.symm z hz.out hzl).mono ?_
  rintro e w6 ⟨B6, c6, rfl, ho6, hb⟩
  have HO6 := Lib.hid ho6
  have HO1 := Lib.hid (HO1.out.below hb)
  have HR5 := Lib.hid (HR5.out.on hb)
  have HFl := Lib.hid (HFl.out.on hb)
  have HX := Lib.hid (onB HX.out hb)
  clear hb ho6
  go_wp2_with fail
  refine (Unkey_any B6 z.length c6 z (some ⟨g, 0, none⟩) a.length a.length ds _ rfl hdsl.symm (own_rd HO6.out) HFl.out (own_caps HO6.out).1 (own_caps HO6.out).2).mono ?_
  rintro e w7 hp
  rw [gz.out] at hp
  obtain ⟨⟨v, rfl, hr⟩, hb⟩ := hp
  obtain ⟨A7, c7, rfl, m1, m2, hr7⟩ := hr.form
  clear m1 m2
  have HR7 := Lib.hid hr7
  have HO1 := Lib.hid (HO1.out.below hb)
  have HR5 := Lib.hid (HR5.out.on hb)
  have HX := Lib.hid (onB HX.out hb)
  clear hb hr hr7
  go_wp2_with fail
  refine (put_good B cb b.length b _ (HB.out.on HX.out) (by omega) gb.out rfl o ho.out).mono ?_
  rintro e w8 ⟨B8, c8, rfl, ho8, hb⟩
  have HO8 := Lib.hid ho8
  have HO1 := Lib.hid (HO1.out.below hb)
  have HR5 := Lib.hid (HR5.out.on hb)
  have HR7 := Lib.hid (HR7.out.on hb)
  have HX := Lib.hid (onB HX.out hb)
  clear hb ho8
  go_wp2_with fail
  refine (SameValues_any A5 c5 a.length a A ca a.length a _ HR5.out (HA.out.on HX.out) rfl rfl (by omega) true (by simp)).mono ?_
  rintro e w9 ⟨rfl, hb⟩
  have HO1 := Lib.hid (HO1.out.below hb)
  have HO8 := Lib.hid (HO8.out.below hb)
  have HR7 := Lib.hid (HR7.out.on hb)
  have HX := Lib.hid (onB HX.out hb)
  clear hb
  go_wp2_with fail
  refine (SameValues_any A7 c7 a.length a A ca a.length a _ HR7.out (HA.out.on HX.out) rfl rfl (by omega) true (by simp)).mono ?_
  rintro e w10 ⟨rfl, hb⟩
  have HO1 := Lib.hid (HO1.out.below hb)
  have HO8 := Lib.hid (HO8.out.below hb)
  have HX := Lib.hid (onB HX.out hb)
  clear hb HR5 HR7 HFl HO6
  go_wp2_with fail
  refine (SameBytes_any B1 c1 x B8 c8 o _ _ _ (own_rd HO1.out) (own_rd HO8.out)).mono ?_
  rintro e w11 ⟨rfl, rfl⟩
  rw [hβ1.out]
  clear HO1 HO8
  go_wp2_with fail
  refine (SameValues_any A ca a.length a B cb b.length b _ (HA.out.on HX.out) (HB.out.on HX.out) rfl rfl (by omega) β HB2.out).mono ?_
  rintro e w12 ⟨rfl, hb⟩
  have HX := Lib.hid (onB HX.out hb)
  clear hb
  go_wp2_with fail
  refine (Get_any D d.length cd d _ rfl (HD.out.on HX.out) hcd hcd2).mono ?_
  rintro e w13 hp
  rw [hR1.out] at hp
  rcases R1 with _ | r1
  · obtain ⟨rfl, hb⟩ := hp
    have HX := Lib.hid (onB HX.out hb)
    clear hb
    go_wp2_with fail
    refine (Unkey_any D d.length cd d F l.length fcap l _ rfl rfl (HD.out.on HX.out) (HF.out.on HX.out) hcd hcd2).mono ?_
    rintro e w16 hp
    rw [hR2.out] at hp
    rcases R2 with _ | r2
    · obtain ⟨rfl, hb⟩ := hp
      have HX := Lib.hid (onB HX.out hb)
      clear hb
      go_wp2_with fail
      refine (awake_any _).mono ?_
      rintro e w17 ⟨rfl, hb⟩
      go_wp2_with fail
      go_ret
      exact ⟨rfl, onB HX.out hb⟩
    · obtain ⟨⟨v, rfl, hr⟩, hb⟩ := hp
      obtain ⟨A10, c10, rfl, m1, m2, hr10⟩ := hr.form
      clear m1 m2
      obtain ⟨f1, f2, f3⟩ := k2.out r2 rfl
      have HX := Lib.hid (onB HX.out hb)
      have HR10 := Lib.hid hr10
      have HE3 := Lib.hid f1
      have HE4 := Lib.hid f2
      clear hb hr hr10 f1 f2
      go_wp2_with fail
      refine (key_all A10 c10 l.length r2 F fcap l.length l _ HR10.out (HF.out.on HX.out) (by omega) f3.symm HE4.out f3.symm rfl d HE3.out (by omega)).mono ?_
      rintro e w17 ⟨B10, c10', rfl, ho10, hb⟩
      have HO10 := Lib.hid ho10
      have HX := Lib.hid (onB HX.out hb)
      clear hb ho10
      go_wp2_with fail
      refine (SameBytes_any B10 c10' d D cd d _ _ _ (own_rd HO10.out) (HD.out.on HX.out)).mono ?_
      rintro e w18 ⟨rfl, rfl⟩
      rw [decide_eq_true (rfl : d = d)]
      clear HO10 HR10
      go_wp2_with fail
      refine (awake_any _).mono ?_
      rintro e w19 ⟨rfl, hb⟩
      go_wp2_with fail
      go_ret
      exact ⟨rfl, onB HX.out hb⟩
  · obtain ⟨⟨v, rfl, hr⟩, hb⟩ := hp
    obtain ⟨A9, c9, rfl, m1, m2, hr9⟩ := hr.form
    clear m1 m2
    obtain ⟨e1, e2, e3⟩ := k1.out r1 rfl
    have HX := Lib.hid (onB HX.out hb)
    have HR9 := Lib.hid hr9
    clear hb hr hr9
    have HE1 := Lib.hid e1
    have HE2 := Lib.hid e2
    clear e1 e2
    go_wp2_with fail
    refine (put_all A9 c9 r1.length r1 _ HR9.out e3 HE2.out rfl d HE1.out (by omega)).mono ?_
    rintro e w14 ⟨B9, c9', rfl, ho9, hb⟩
    have HO9 := Lib.hid ho9
    have HX := Lib.hid (onB HX.out hb)
    clear hb ho9
    go_wp2_with fail
    refine (SameBytes_any B9 c9' d D cd d _ _ _ (own_rd HO9.out) (HD.out.on HX.out)).mono ?_
    rintro e w15 ⟨rfl, rfl⟩
    rw [decide_eq_true (rfl : d = d)]
    clear HO9 HR9
    go_wp2_with fail
    refine (Unkey_any D d.length cd d F l.length fcap l _ rfl rfl (HD.out.on HX.out) (HF.out.on HX.out) hcd hcd2).mono ?_
    rintro e w16 hp
    rw [hR2.out] at hp
    rcases R2 with _ | r2
    · obtain ⟨rfl, hb⟩ := hp
      have HX := Lib.hid (onB HX.out hb)
      clear hb
      go_wp2_with fail
      refine (awake_any _).mono ?_
      rintro e w17 ⟨rfl, hb⟩
      go_wp2_with fail
      go_ret
      exact ⟨rfl, onB HX.out hb⟩
    · obtain ⟨⟨v, rfl, hr⟩, hb⟩ := hp
      obtain ⟨A10, c10, rfl, m1, m2, hr10⟩ := hr.form
      clear m1 m2
      obtain ⟨f1, f2, f3⟩ := k2.out r2 rfl
      have HX := Lib.hid (onB HX.out hb)
      have HR10 := Lib.hid hr10
      have HE3 := Lib.hid f1
      have HE4 := Lib.hid f2
      clear hb hr hr10 f1 f2
      go_wp2_with fail
      refine (key_all A10 c10 l.length r2 F fcap l.length l _ HR10.out (HF.out.on HX.out) (by omega) f3.symm HE4.out f3.symm rfl d HE3.out (by omega)).mono ?_
      rintro e w17 ⟨B10, c10', rfl, ho10, hb⟩
      have HO10 := Lib.hid ho10
      have HX := Lib.hid (onB HX.out hb)
      clear hb ho10
      go_wp2_with fail
      refine (SameBytes_any B10 c10' d D cd d _ _ _ (own_rd HO10.out) (HD.out.on HX.out)).mono ?_
      rintro e w18 ⟨rfl, rfl⟩
      rw [decide_eq_true (rfl : d = d)]
      clear HO10 HR10
      go_wp2_with fail
      refine (awake_any _).mono ?_
      rintro e w19 ⟨rfl, hb⟩
      go_wp2_with fail
      go_ret
      exact ⟨rfl, onB HX.out hb⟩
/-- WHAT IS PUT IS GOT, WHAT IS GOT IS PUT -/
theorem back_walk (A : Option Addr) (ca : Nat) (a : List Trip) (B : Option Addr) (cb : Nat) (b : List Trip) (F : Option Addr) (fcap : Nat) (l : List Bool) (D : Option Addr) (cd : Nat) (d : List UInt8) (w : World) (hA : RdR w w.heap.size A a) (hB : RdR w w.heap.size B b) (hF : RdF w w.heap.size F l) (hD : Rd w w.heap.size D d) (hla : a.length ≤ 9223372036854775807) (hlb : b.length ≤ 9223372036854775807) (hcd : d.length ≤ cd) (hcd2 : cd ≤ 9223372036854775807)
    (hsa : ∀ t ∈ a, In64 t.2.1 ∧ t.2.2.size ≤ 9223372036854775807) (hsb : ∀ t ∈ b, In64 t.2.1 ∧ t.2.2.size ≤ 9223372036854775807) :
    Calls Try.prog 7 #[.slice A a.length ca, .slice B b.length cb, .slice F l.length fcap, .slice D d.length cd] w fun e w' => e = .returned (.bool true) ∧ Below w.heap.size w w' := by
  cases h : rowOk a 20
  · exact back_no A ca a B cb b.length F fcap l.length D cd d.length w hA (fun t ht => (hsa t ht).2) hla (Lib.hid h)
  · cases h2 : rowOk b 20
    · exact back_no2 A ca a B cb b F fcap l.length D cd d.length w hA hB (fun t ht => (hsa t ht).2) (fun t ht => (hsb t ht).2) hla hlb (Lib.hid h) (Lib.hid h2)
    · by_cases hq : 2000 < d.length ∨ 30 < l.length
      · exact back_long A ca a B cb b F fcap l.length D cd d.length w hA hB (fun t ht => (hsa t ht).2) (fun t ht => (hsb t ht).2) hla hlb (Lib.hid h) (Lib.hid h2) hq
      · obtain ⟨ga, la⟩ := GoodR.of h (fun t ht => (hsa t ht).1)
        obtain ⟨gb, lb⟩ := GoodR.of h2 (fun t ht => (hsb t ht).1)
        have hxl : (putL a).length ≤ 1048576 := by
          have h1 := headL_len a (by omega) (fun t ht => by have := (ga t ht).2.1; omega)
          have h2 := sumB_good a ga
          rw [putL, List.length_append, bodies_len a ga.fine]
          omega
        have hol : (putL b).length ≤ 1048576 := by
          have h1 := headL_len b (by omega) (fun t ht => by have := (gb t ht).2.1; omega)
          have h2 := sumB_good b gb
          rw [putL, List.length_append, bodies_len b gb.fine]
          omega
        have hdl := flagsL_length l a.length
        have hzl : (keyL a (flagsL l a.length)).length ≤ 1048576 := by
          have h2 := sumP_good a ga
          rw [key_len a _ ga.fine hdl.symm]
          omega
        have gx : ∀ vs, FineR vs → vs.length ≤ 200 → (putL vs).length ≤ 1048576 → getN (putL vs) = some vs := fun vs h1 h2 h3 => by
          have := getN_put vs [] h1 h2 (by rw [List.append_nil]; exact h3)
          rw [List.append_nil] at this
          exact this
        have gz : unkN (flagsL l a.length) (keyL a (flagsL l a.length)) = some a := by
          have := getK_key a (flagsL l a.length) [] ga.fine hdl.symm
          rw [List.append_nil] at this
          rw [unkN, if_pos ⟨by omega, hzl⟩, this]
          rfl
        have hβ : decide (putL a = putL b) = decide (a = b) := by
          by_cases e : a = b
          · subst e; simp
          · have : putL a ≠ putL b := fun e2 => e (by
              have g1 := gx a ga.fine (by omega) hxl
              rw [e2, gx b gb.fine (by omega) hol] at g1
              exact (Option.some.inj g1).symm)
            simp [e, this]
        exact back_go A ca a B cb b F fcap l D cd d w hA hB hF hD hcd hcd2 (fun t ht => (hsa t ht).2) (fun t ht => (hsb t ht).2) (Lib.hid h) (Lib.hid h2) (Lib.hid ga) (Lib.hid gb) la lb (by omega) (by omega) _ _ _ _ (Lib.hid rfl) hdl (Lib.hid rfl) (Lib.hid rfl) (Lib.hid rfl)
          (Lib.hid (gx a ga.fine (by omega) hxl)) (Lib.hid gz) hxl hzl _ (Lib.hid hβ) rfl _ _ (Lib.hid rfl) (Lib.hid rfl)
          (Lib.hid fun vs e => by
            obtain ⟨g1, g2, g3, _⟩ := getN_inv e
            exact ⟨g1.symm, g2, g3⟩)
          (Lib.hid fun vs e => by
            rw [unkN, if_pos ⟨by omega, by omega⟩] at e
            obtain ⟨g1, g2, g3⟩ := getK_inv l d vs e
            exact ⟨g1.symm, g2, g3⟩)
end Go.Proofs.Ytcpmfagnnidodaa
