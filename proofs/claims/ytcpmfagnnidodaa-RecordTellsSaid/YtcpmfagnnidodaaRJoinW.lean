/-
  RecordJoin returns true for every row: the walk. Conditions: numbers of 64 bits; sizes.
-/
import Derived.Test.YtcpmfagnnidodaaRAwk
import Derived.Deep.RegionHeld3
import Derived.Deep.DeepCutAuto
namespace Go.Proofs.Ytcpmfagnnidodaa
open Go.ChangeShapes Go.WideShapes Go.ChangeAt Go.RowKit
set_option linter.unusedVariables false

theorem RdR.on {w w' : World} {A : Option Addr} {vs : List Trip} (h : RdR w w.heap.size A vs) (hb : Below w.heap.size w w') : RdR w' w'.heap.size A vs := by
  intro hp
  obtain ⟨ad, e, hlt, hc⟩ := (h.below hb) hp
  exact ⟨ad, e, Nat.lt_of_lt_of_le hlt hb.size, hc⟩
theorem RdF.on {w w' : World} {A : Option Addr} {ds : List Bool} (h : RdF w w.heap.size A ds) (hb : Below w.heap.size w w') : RdF w' w'.heap.size A ds := by
  intro hp
  obtain ⟨ad, e, hlt, hc⟩ := (h.below hb) hp
  exact ⟨ad, e, Nat.lt_of_lt_of_le hlt hb.size, hc⟩
/-- rows that the statements look at -/
def GoodR (vs : List Trip) : Prop := ∀ t ∈ vs, Rt t.1 t.2.1 t.2.2 ∧ t.2.2.size ≤ 100 ∧ In64 t.2.1
theorem GoodR.of {vs : List Trip} {most : Nat} (h : rowOk vs most = true) (hn : ∀ t ∈ vs, In64 t.2.1) : GoodR vs ∧ vs.length ≤ most := by
  obtain ⟨h1, h2⟩ := Bool.and_eq_true_iff.1 h
  obtain ⟨h3, h4⟩ := Bool.and_eq_true_iff.1 h1
  refine ⟨fun t ht => ⟨of_decide_eq_true (List.all_eq_true.1 h2 t ht), of_decide_eq_true (List.all_eq_true.1 h4 t ht), hn t ht⟩, of_decide_eq_true h3⟩
theorem GoodR.take {vs : List Trip} (h : GoodR vs) (k : Nat) : GoodR (vs.take k) := fun t ht => h t (List.mem_of_mem_take ht)
theorem GoodR.drop {vs : List Trip} (h : GoodR vs) (k : Nat) : GoodR (vs.drop k) := fun t ht => h t (List.mem_of_mem_drop ht)
theorem GoodR.bad {vs : List Trip} (h : GoodR vs) : vs.any pBad = false := by
  rw [List.any_eq_false]
  intro t ht
  simp [pBad, (h t ht).1]
theorem sumP_good : ∀ (vs : List Trip), GoodR vs → sumP vs ≤ 210 * vs.length
  | [], _ => by simp [sumP]
  | (k, n, s) :: vs, h => by
    have ih := sumP_good vs fun t ht => h t (List.mem_cons_of_mem _ ht)
    have h1 : s.size ≤ 100 := (h (k, n, s) List.mem_cons_self).2.1
    have h2 := count_le s 0
    have h0 : partN k s ≤ 210 := by
      unfold partN
      split
      · omega
      · split <;> omega
    simp only [sumP, List.map_cons, List.sum_cons, List.length_cons] at *
    omega
set_option maxRecDepth 100000 in
theorem key_good (A : Option Addr) (cap m : Nat) (vs : List Trip) (F : Option Addr) (fcap m' : Nat) (ds : List Bool) (w : World) (hR : RdR w w.heap.size A vs) (hF : RdF w w.heap.size F ds) (hl : vs.length ≤ 150) (hd : ds.length = vs.length) (hg : GoodR vs) (hm : m = vs.length) (hm' : m' = vs.length) (l : List UInt8) (hl0 : keyL vs ds = l) :
    Calls Try.prog 23 #[.slice A m cap, .slice F m' fcap] w fun e w' => ∃ B c, e = .returned (.tuple #[.slice B l.length c, .int .i64 0]) ∧ Own w' w.heap.size (.slice B l.length c) l ∧ Below w.heap.size w w' := by
  subst hm hl0
  have e1 : Value.slice F m' fcap = .slice F ds.length fcap := by rw [hm', hd]
  rw [e1]
  refine (Key_ok A cap vs F fcap ds w hR hF (by omega) hd hg.bad (fun t ht => ⟨by have := (hg t ht).2.1; omega, (hg t ht).2.2⟩) (by have := sumP_good vs hg; omega)).mono ?_
  rintro e w' ⟨v, rfl, ho, hb⟩
  obtain ⟨B, c, rfl, _, _, _⟩ := ho.form
  exact ⟨B, c, rfl, ho, hb⟩

theorem RdR.pre {w : World} {B : Nat} {A : Option Addr} {vs : List Trip} (h : RdR w B A vs) (k : Nat) : RdR w B A (vs.take k) := by
  intro hp
  obtain ⟨ad, e, hl, hc⟩ := h (by rw [List.length_take] at hp; omega)
  refine ⟨ad, e, hl, fun j a n s hj => hc j a n s ?_⟩
  rw [List.getElem?_take] at hj
  split at hj
  · exact hj
  · cases hj
theorem RdF.pre {w : World} {B : Nat} {A : Option Addr} {ds : List Bool} (h : RdF w B A ds) (k : Nat) : RdF w B A (ds.take k) := by
  intro hp
  obtain ⟨ad, e, hl, hc⟩ := h (by rw [List.length_take] at hp; omega)
  refine ⟨ad, e, hl, fun j d hj => hc j d ?_⟩
  rw [List.getElem?_take] at hj
  split at hj
  · exact hj
  · cases hj

theorem RdR.post {w : World} {B : Nat} {ad : Addr} {vs : List Trip} (h : RdR w B (some ad) vs) (k : Nat) : RdR w B (some (ad.add (k * 3))) (vs.drop k) := by
  intro hp
  obtain ⟨ad', e, hl, hc⟩ := h (by rw [List.length_drop] at hp; omega)
  injection e with e
  subst e
  refine ⟨_, rfl, by rw [blockAdd]; exact hl, fun j a n s hj => ?_⟩
  rw [List.getElem?_drop] at hj
  have := hc _ a n s hj
  rw [addAdd, show k * 3 + j * 3 = (k + j) * 3 by omega]
  exact this
theorem RdF.post {w : World} {B : Nat} {ad : Addr} {ds : List Bool} (h : RdF w B (some ad) ds) (k : Nat) : RdF w B (some (ad.add k)) (ds.drop k) := by
  intro hp
  obtain ⟨ad', e, hl, hc⟩ := h (by rw [List.length_drop] at hp; omega)
  injection e with e
  subst e
  refine ⟨_, rfl, by rw [blockAdd]; exact hl, fun j d hj => ?_⟩
  rw [List.getElem?_drop] at hj
  rw [addAdd]
  exact hc _ d hj
theorem RdR.post2 {w : World} {B : Nat} {ad : Addr} {vs : List Trip} (h : RdR w B (some ad) vs) (k cap : Nat) (hc : vs.length ≤ cap) : RdR w B (if cap = k then some ad else some (ad.add (k * 3))) (vs.drop k) := by
  by_cases e : cap = k
  · intro hp
    rw [List.length_drop] at hp
    omega
  · rw [if_neg e]
    exact h.post k
theorem RdF.post2 {w : World} {B g : Nat} {ds : List Bool} (h : RdF w B (some ⟨g, 0, none⟩) ds) (k n : Nat) (hn : ds.length = n) : RdF w B (if n = k then some ⟨g, 0, none⟩ else some ⟨g, k, none⟩) (ds.drop k) := by
  by_cases e : n = k
  · intro hp
    rw [List.length_drop] at hp
    omega
  · rw [if_neg e]
    have := h.post k
    have ha : ((⟨g, 0, none⟩ : Addr).add k) = ⟨g, k, none⟩ := by
      unfold Addr.add
      by_cases hj0 : k = 0 <;> simp [hj0]
    rw [ha] at this
    exact this
set_option maxRecDepth 100000 in
theorem join_no (A : Option Addr) (cap : Nat) (vs : List Trip) (F : Option Addr) (fcap m : Nat) (q : Int) (w : World) (hR : RdR w w.heap.size A vs) (hsz : ∀ t ∈ vs, t.2.2.size ≤ 9223372036854775807) (hcap : vs.length ≤ 9223372036854775807) (h : Hid (rowOk vs 20 = false)) :
    Calls Try.prog 9 #[.slice A vs.length cap, .slice F m fcap, .int .u8 q] w fun e w' => e = .returned (.bool true) ∧ Below w.heap.size w w' := by
  go_enter Try.func9, Try.ntmps9
  go_wp2_with (go_at_call 38; refine (right_any A cap vs 20 _ hR (by omega) hsz hcap).mono ?_; rintro e w1 ⟨rfl, hb⟩; rw [h.out]; have HX := Lib.hid hb; clear hb)
  refine (awake_any _).mono ?_
  rintro e w2 ⟨rfl, b2⟩
  go_wp2_with fail
  go_ret
  exact ⟨rfl, onB HX.out b2⟩

theorem wpList_unguard {P : Program} {ops : Array Oper} {rest : List Oper} {o : Oper} {a : Act} {w : World} {Q : Exit → Act → World → Prop} (hw : Region.wanted o (yielded ops a.tmps) = true) (h : wpList P ops Q ({ o with guard := none } :: rest) a w) : wpList P ops Q (o :: rest) a w := by
  unfold wpList at h ⊢
  rw [if_pos hw]
  rw [if_pos (by simp [Region.wanted])] at h
  exact h
theorem rdr_end (w : World) (B : Nat) (A : Option Addr) (vs : List Trip) : RdR w B A (vs.drop vs.length) := by
  intro hp
  simp at hp
theorem rdr_nil (w : World) (B : Nat) (A : Option Addr) : RdR w B A (([] : List Trip).drop 0) := fun hp => by simp at hp
theorem rdf_end (w : World) (B : Nat) (A : Option Addr) (l : List Bool) (n : Nat) : RdF w B A ((flagsL l n).drop n) := by
  intro hp
  rw [List.length_drop, flagsL_length] at hp
  omega
set_option maxRecDepth 100000 in
set_option maxHeartbeats 2000000 in
theorem join_go1 (ad : Addr) (cap : Nat) (vs : List Trip) (F : Option Addr) (fcap : Nat) (l : List Bool) (q : Nat) (w : World) (hR : RdR w w.heap.size (some ad) vs) (hF : RdF w w.heap.size F l) (hc1 : vs.length ≤ cap) (hc2 : cap ≤ 9223372036854775807) (hfl : l.length ≤ 9223372036854775807)
    (hsz : ∀ t ∈ vs, t.2.2.size ≤ 9223372036854775807) (h : Hid (rowOk vs 20 = true)) (hg : Hid (GoodR vs)) (hl : vs.length ≤ 20) (hq : q < 256) (k : Nat) (hk : Hid (q % (vs.length + 1) = k)) (hkl : k ≤ vs.length) (hn1 : ¬ cap = k) (hn2 : ¬ vs.length = k) (x y z : List UInt8)
    (hx : Hid (keyL vs (flagsL l vs.length) = x)) (hy : Hid (keyL (vs.take k) ((flagsL l vs.length).take k) = y)) (hz : Hid (keyL (vs.drop k) ((flagsL l vs.length).drop k) = z)) (hxyz : Hid (x = y ++ z)) (hxl : x.length ≤ 1000000) :
    Calls Try.prog 9 #[.slice (some ad) vs.length cap, .slice F l.length fcap, .int .u8 q] w fun e w' => e = .returned (.bool true) ∧ Below w.heap.size w w' := by
  have HR := Lib.hid hR
  have HF := Lib.hid hF
  have hyl : y.length ≤ 1000000 ∧ z.length ≤ 1000000 := by
    have := hxyz.out
    rw [this, List.length_append] at hxl
    omega
  go_enter Try.func9, Try.ntmps9
  go_wp2_with (go_at_call 38; refine (right_any (some ad) cap vs 20 _ hR (by omega) hsz (by omega)).mono ?_; rintro e w1 ⟨rfl, hb⟩; rw [h.out]; have HX := Lib.hid hb; clear hb)
  refine (flags_any F fcap l vs.length _ (hF.on HX.out) (by omega) hfl).mono ?_
  rintro e w2 ⟨g, rfl, hgb, hfa, hb⟩
  have HX := Lib.hid (onB HX.out hb)
  have HFl := Lib.hid (show RdF w2 w2.heap.size (some ⟨g, 0, none⟩) (flagsL l vs.length) from hfa.rdf)
  clear hb hfa hgb hF
  go_wp2_with fail
  rw [show (q : Int) % ((vs.length : Int) + 1) = (k : Int) by rw [← hk.out]; simp]
  refine (key_good (some ad) cap _ vs (some ⟨g, 0, none⟩) vs.length _ (flagsL l vs.length) _ (HR.out.on HX.out) HFl.out (by first | omega | simp) (flagsL_length _ _) hg.out rfl rfl x hx.out).mono ?_
  rintro e w3 ⟨B1, c1, rfl, ho1, hb⟩
  have HO1 := Lib.hid (ho1.mono HX.out.size)
  have HFl := Lib.hid (HFl.out.on hb)
  have HX := Lib.hid (onB HX.out hb)
  clear hb ho1 hR
  have hk0 : (0 : Int) ≤ (k : Int) := by omega
  have hk1 : (k : Int) ≤ (vs.length : Int) := by omega
  have hk2 : (k : Int) ≤ (cap : Int) := by omega
  have HRd := Lib.hid (show RdR w3.drew w3.drew.heap.size (some ad) vs from (HR.out.on HX.out : RdR w3 w3.heap.size (some ad) vs))
  have HFd := Lib.hid (show RdF w3.drew w3.drew.heap.size (some ⟨g, 0, none⟩) (flagsL l vs.length) from HFl.out)
  go_wp2_with fail
  go_region_held3 (fun X => True)
    (first | exact trivial)
    (first
      | (go_at_call 23; refine (key_good _ _ k (vs.take k) _ _ k ((flagsL l vs.length).take k) _ (HRd.out.pre k) (HFd.out.pre k) (by first | (rw [List.length_take]; omega) | simp) (by first | (rw [List.length_take, List.length_take, flagsL_length]; done) | simp) (hg.out.take k) (by first | (rw [List.length_take]; omega) | simp) (by first | (rw [List.length_take]; omega) | simp) y hy.out).mono ?_; rintro e w4 ⟨B2, c2, rfl, ho2, hb⟩; have HO2 := Lib.hid (ho2.mono (show w.heap.size ≤ w3.drew.heap.size from HX.out.size)); have HB2 := Lib.hid hb; clear hb ho2))
  have HB2 := Lib.hid (show Below w3.heap.size w3 w4 from ⟨HB2.out.os, HB2.out.tape, HB2.out.output, HB2.out.size, HB2.out.block⟩)
  have HFl := Lib.hid (HFl.out.on HB2.out)
  have HO1 := Lib.hid (HO1.out.below HB2.out)
  have HX := Lib.hid (onB HX.out HB2.out)
  clear HB2 HRd HFd
  have HRd := Lib.hid (show RdR w4.drew w4.drew.heap.size (some (ad.add (k * 3))) (vs.drop k) from ((HR.out.on HX.out : RdR w4 w4.heap.size (some ad) vs).post k))
  have HFd := Lib.hid (show RdF w4.drew w4.drew.heap.size (some ⟨g, k, none⟩) ((flagsL l vs.length).drop k) from by have := HFl.out.post2 k vs.length (flagsL_length _ _); rw [if_neg hn2] at this; exact this)
  go_wp2_with fail
  go_region_held3 (fun X => True)
    (first | exact trivial)
    (first
      | (go_at_call 23; refine (key_good _ _ _ (vs.drop k) _ _ _ ((flagsL l vs.length).drop k) _ HRd.out HFd.out (by first | (rw [List.length_drop]; omega) | simp) (by first | (rw [List.length_drop, List.length_drop, flagsL_length]; done) | simp [flagsL_length]) (hg.out.drop k) (by simp) (by simp) z hz.out).mono ?_; rintro e w5 ⟨B3, c3, rfl, ho3, hb⟩; have HO3 := Lib.hid (ho3.mono (show w.heap.size ≤ w4.drew.heap.size from HX.out.size)); have HB3 := Lib.hid hb; clear hb ho3))
  have HB3 := Lib.hid (show Below w4.heap.size w4 w5 from ⟨HB3.out.os, HB3.out.tape, HB3.out.output, HB3.out.size, HB3.out.block⟩)
  have HO1 := Lib.hid (HO1.out.below HB3.out)
  have HO2 := Lib.hid (HO2.out.below HB3.out)
  have HX := Lib.hid (onB HX.out HB3.out)
  clear HB3 HRd HFd HFl
  go_wp2_with fail
  refine (CopyBytes_any B2 c2 y _ (by omega) (own_rd HO2.out)).mono ?_
  rintro e w6 ⟨v6, rfl, ho6, hb⟩
  have HO3 := Lib.hid (HO3.out.below hb)
  have HO6 := Lib.hid ho6
  have HB6 := Lib.hid hb
  obtain ⟨B6, c6, rfl, _, _, _⟩ := ho6.form
  have hxs := hb.size
  clear hb ho6 HO2
  go_wp2_with (at_builtin; refine wpList_unguard (by rfl) ?_; refine wpList_appB rfl (.tmp 68) (.tmp 69) rfl w5.heap.size (.slice B6 y.length c6) y rfl HO6.out B3 c3 z z.length rfl rfl (own_rd HO3.out) (by omega) hxs ?_; intro v7 w7 ho7 hb7; have HO7 := Lib.hid ho7; have HB7 := Lib.hid (HB6.out.trans hb7); obtain ⟨B7, c7, rfl, _, _, _⟩ := ho7.form; clear ho7 hb7)
  have HO1 := Lib.hid (HO1.out.below HB7.out)
  have HX := Lib.hid (onB HX.out HB7.out)
  clear HB7 HB6 HO6 HO3
  rw [← List.length_append]
  refine (SameBytes_any B1 c1 x B7 c7 (y ++ z) w7 _ _ (own_rd HO1.out) (own_rd HO7.out)).mono ?_
  rintro e w8 ⟨rfl, hw8⟩
  rw [hw8, decide_eq_true hxyz.out]
  clear hw8
  go_wp2_with fail
  refine (awake_any _).mono ?_
  rintro e w9 ⟨rfl, hb⟩
  have HX := Lib.hid (onB HX.out hb)
  clear hb
  go_wp2_with fail
  go_ret
  exact ⟨rfl, HX.out⟩
set_option maxRecDepth 100000 in
set_option maxHeartbeats 2000000 in
theorem join_go2 (ad : Addr) (cap : Nat) (vs : List Trip) (F : Option Addr) (fcap : Nat) (l : List Bool) (q : Nat) (w : World) (hR : RdR w w.heap.size (some ad) vs) (hF : RdF w w.heap.size F l) (hc1 : vs.length ≤ cap) (hc2 : cap ≤ 9223372036854775807) (hfl : l.length ≤ 9223372036854775807)
    (hsz : ∀ t ∈ vs, t.2.2.size ≤ 9223372036854775807) (h : Hid (rowOk vs 20 = true)) (hg : Hid (GoodR vs)) (hl : vs.length ≤ 20) (hq : q < 256) (hk : Hid (q % (vs.length + 1) = vs.length)) (hkl : vs.length ≤ vs.length) (hn1 : ¬ cap = vs.length) (x y z : List UInt8)
    (hx : Hid (keyL vs (flagsL l vs.length) = x)) (hy : Hid (keyL (vs.take vs.length) ((flagsL l vs.length).take vs.length) = y)) (hz : Hid (keyL (vs.drop vs.length) ((flagsL l vs.length).drop vs.length) = z)) (hxyz : Hid (x = y ++ z)) (hxl : x.length ≤ 1000000) :
    Calls Try.prog 9 #[.slice (some ad) vs.length cap, .slice F l.length fcap, .int .u8 q] w fun e w' => e = .returned (.bool true) ∧ Below w.heap.size w w' := by
  have HR := Lib.hid hR
  have HF := Lib.hid hF
  have hyl : y.length ≤ 1000000 ∧ z.length ≤ 1000000 := by
    have := hxyz.out
    rw [this, List.length_append] at hxl
    omega
  go_enter Try.func9, Try.ntmps9
  go_wp2_with (go_at_call 38; refine (right_any (some ad) cap vs 20 _ hR (by omega) hsz (by omega)).mono ?_; rintro e w1 ⟨rfl, hb⟩; rw [h.out]; have HX := Lib.hid hb; clear hb)
  refine (flags_any F fcap l vs.length _ (hF.on HX.out) (by omega) hfl).mono ?_
  rintro e w2 ⟨g, rfl, hgb, hfa, hb⟩
  have HX := Lib.hid (onB HX.out hb)
  have HFl := Lib.hid (show RdF w2 w2.heap.size (some ⟨g, 0, none⟩) (flagsL l vs.length) from hfa.rdf)
  clear hb hfa hgb hF
  go_wp2_with fail
  rw [show (q : Int) % ((vs.length : Int) + 1) = ((q % (vs.length + 1) : Nat) : Int) by simp, hk.out]
  refine (key_good (some ad) cap _ vs (some ⟨g, 0, none⟩) vs.length _ (flagsL l vs.length) _ (HR.out.on HX.out) HFl.out (by first | omega | simp) (flagsL_length _ _) hg.out rfl rfl x hx.out).mono ?_
  rintro e w3 ⟨B1, c1, rfl, ho1, hb⟩
  have HO1 := Lib.hid (ho1.mono HX.out.size)
  have HFl := Lib.hid (HFl.out.on hb)
  have HX := Lib.hid (onB HX.out hb)
  clear hb ho1 hR
  have hk0 : (0 : Int) ≤ (vs.length : Int) := by omega
  have hk1 : (vs.length : Int) ≤ (vs.length : Int) := by omega
  have hk2 : (vs.length : Int) ≤ (cap : Int) := by omega
  have HRd := Lib.hid (show RdR w3.drew w3.drew.heap.size (some ad) vs from (HR.out.on HX.out : RdR w3 w3.heap.size (some ad) vs))
  have HFd := Lib.hid (show RdF w3.drew w3.drew.heap.size (some ⟨g, 0, none⟩) (flagsL l vs.length) from HFl.out)
  go_wp2_with fail
  go_region_held3 (fun X => True)
    (first | exact trivial)
    (first
      | (go_at_call 23; refine (key_good _ _ vs.length (vs.take vs.length) _ _ vs.length ((flagsL l vs.length).take vs.length) _ (HRd.out.pre vs.length) (HFd.out.pre vs.length) (by first | (rw [List.length_take]; omega) | simp) (by first | (rw [List.length_take, List.length_take, flagsL_length]; done) | simp) (hg.out.take vs.length) (by first | (rw [List.length_take]; omega) | simp) (by first | (rw [List.length_take]; omega) | simp) y hy.out).mono ?_; rintro e w4 ⟨B2, c2, rfl, ho2, hb⟩; have HO2 := Lib.hid (ho2.mono (show w.heap.size ≤ w3.drew.heap.size from HX.out.size)); have HB2 := Lib.hid hb; clear hb ho2))
  have HB2 := Lib.hid (show Below w3.heap.size w3 w4 from ⟨HB2.out.os, HB2.out.tape, HB2.out.output, HB2.out.size, HB2.out.block⟩)
  have HFl := Lib.hid (HFl.out.on HB2.out)
  have HO1 := Lib.hid (HO1.out.below HB2.out)
  have HX := Lib.hid (onB HX.out HB2.out)
  clear HB2 HRd HFd
  have HRd := Lib.hid (True.intro)
  have HFd := Lib.hid (True.intro)
  go_wp2_with fail
  go_region_held3 (fun X => True)
    (first | exact trivial)
    (first
      | (go_at_call 23; refine (key_good _ _ _ (vs.drop vs.length) _ _ _ ((flagsL l vs.length).drop vs.length) _ (rdr_end _ _ _ vs) (rdf_end _ _ _ l vs.length) (by first | (rw [List.length_drop]; omega) | simp) (by first | (rw [List.length_drop, List.length_drop, flagsL_length]; done) | simp [flagsL_length]) (hg.out.drop vs.length) (by simp) (by simp) z hz.out).mono ?_; rintro e w5 ⟨B3, c3, rfl, ho3, hb⟩; have HO3 := Lib.hid (ho3.mono (show w.heap.size ≤ w4.drew.heap.size from HX.out.size)); have HB3 := Lib.hid hb; clear hb ho3))
  have HB3 := Lib.hid (show Below w4.heap.size w4 w5 from ⟨HB3.out.os, HB3.out.tape, HB3.out.output, HB3.out.size, HB3.out.block⟩)
  have HO1 := Lib.hid (HO1.out.below HB3.out)
  have HO2 := Lib.hid (HO2.out.below HB3.out)
  have HX := Lib.hid (onB HX.out HB3.out)
  clear HB3 HRd HFd HFl
  go_wp2_with fail
  refine (CopyBytes_any B2 c2 y _ (by omega) (own_rd HO2.out)).mono ?_
  rintro e w6 ⟨v6, rfl, ho6, hb⟩
  have HO3 := Lib.hid (HO3.out.below hb)
  have HO6 := Lib.hid ho6
  have HB6 := Lib.hid hb
  obtain ⟨B6, c6, rfl, _, _, _⟩ := ho6.form
  have hxs := hb.size
  clear hb ho6 HO2
  go_wp2_with (at_builtin; refine wpList_unguard (by rfl) ?_; refine wpList_appB rfl (.tmp 68) (.tmp 69) rfl w5.heap.size (.slice B6 y.length c6) y rfl HO6.out B3 c3 z z.length rfl rfl (own_rd HO3.out) (by omega) hxs ?_; intro v7 w7 ho7 hb7; have HO7 := Lib.hid ho7; have HB7 := Lib.hid (HB6.out.trans hb7); obtain ⟨B7, c7, rfl, _, _, _⟩ := ho7.form; clear ho7 hb7)
  have HO1 := Lib.hid (HO1.out.below HB7.out)
  have HX := Lib.hid (onB HX.out HB7.out)
  clear HB7 HB6 HO6 HO3
  rw [← List.length_append]
  refine (SameBytes_any B1 c1 x B7 c7 (y ++ z) w7 _ _ (own_rd HO1.out) (own_rd HO7.out)).mono ?_
  rintro e w8 ⟨rfl, hw8⟩
  rw [hw8, decide_eq_true hxyz.out]
  clear hw8
  go_wp2_with fail
  refine (awake_any _).mono ?_
  rintro e w9 ⟨rfl, hb⟩
  have HX := Lib.hid (onB HX.out hb)
  clear hb
  go_wp2_with fail
  go_ret
  exact ⟨rfl, HX.out⟩
set_option maxRecDepth 100000 in
set_option maxHeartbeats 2000000 in
theorem join_go3 (ad : Addr) (vs : List Trip) (F : Option Addr) (fcap : Nat) (l : List Bool) (q : Nat) (w : World) (hR : RdR w w.heap.size (some ad) vs) (hF : RdF w w.heap.size F l) (hc1 : vs.length ≤ vs.length) (hc2 : vs.length ≤ 9223372036854775807) (hfl : l.length ≤ 9223372036854775807)
    (hsz : ∀ t ∈ vs, t.2.2.size ≤ 9223372036854775807) (h : Hid (rowOk vs 20 = true)) (hg : Hid (GoodR vs)) (hl : vs.length ≤ 20) (hq : q < 256) (hk : Hid (q % (vs.length + 1) = vs.length)) (hkl : vs.length ≤ vs.length) (x y z : List UInt8)
    (hx : Hid (keyL vs (flagsL l vs.length) = x)) (hy : Hid (keyL (vs.take vs.length) ((flagsL l vs.length).take vs.length) = y)) (hz : Hid (keyL (vs.drop vs.length) ((flagsL l vs.length).drop vs.length) = z)) (hxyz : Hid (x = y ++ z)) (hxl : x.length ≤ 1000000) :
    Calls Try.prog 9 #[.slice (some ad) vs.length vs.length, .slice F l.length fcap, .int .u8 q] w fun e w' => e = .returned (.bool true) ∧ Below w.heap.size w w' := by
  have HR := Lib.hid hR
  have HF := Lib.hid hF
  have hyl : y.length ≤ 1000000 ∧ z.length ≤ 1000000 := by
    have := hxyz.out
    rw [this, List.length_append] at hxl
    omega
  go_enter Try.func9, Try.ntmps9
  go_wp2_with (go_at_call 38; refine (right_any (some ad) vs.length vs 20 _ hR (by omega) hsz (by omega)).mono ?_; rintro e w1 ⟨rfl, hb⟩; rw [h.out]; have HX := Lib.hid hb; clear hb)
  refine (flags_any F fcap l vs.length _ (hF.on HX.out) (by omega) hfl).mono ?_
  rintro e w2 ⟨g, rfl, hgb, hfa, hb⟩
  have HX := Lib.hid (onB HX.out hb)
  have HFl := Lib.hid (show RdF w2 w2.heap.size (some ⟨g, 0, none⟩) (flagsL l vs.length) from hfa.rdf)
  clear hb hfa hgb hF
  go_wp2_with fail
  rw [show (q : Int) % ((vs.length : Int) + 1) = ((q % (vs.length + 1) : Nat) : Int) by simp, hk.out]
  refine (key_good (some ad) vs.length _ vs (some ⟨g, 0, none⟩) vs.length _ (flagsL l vs.length) _ (HR.out.on HX.out) HFl.out (by first | omega | simp) (flagsL_length _ _) hg.out rfl rfl x hx.out).mono ?_
  rintro e w3 ⟨B1, c1, rfl, ho1, hb⟩
  have HO1 := Lib.hid (ho1.mono HX.out.size)
  have HFl := Lib.hid (HFl.out.on hb)
  have HX := Lib.hid (onB HX.out hb)
  clear hb ho1 hR
  have hk0 : (0 : Int) ≤ (vs.length : Int) := by omega
  have hk1 : (vs.length : Int) ≤ (vs.length : Int) := by omega
  have hk2 : (vs.length : Int) ≤ (vs.length : Int) := by omega
  have HRd := Lib.hid (show RdR w3.drew w3.drew.heap.size (some ad) vs from (HR.out.on HX.out : RdR w3 w3.heap.size (some ad) vs))
  have HFd := Lib.hid (show RdF w3.drew w3.drew.heap.size (some ⟨g, 0, none⟩) (flagsL l vs.length) from HFl.out)
  go_wp2_with fail
  go_region_held3 (fun X => True)
    (first | exact trivial)
    (first
      | (go_at_call 23; refine (key_good _ _ vs.length (vs.take vs.length) _ _ vs.length ((flagsL l vs.length).take vs.length) _ (HRd.out.pre vs.length) (HFd.out.pre vs.length) (by first | (rw [List.length_take]; omega) | simp) (by first | (rw [List.length_take, List.length_take, flagsL_length]; done) | simp) (hg.out.take vs.length) (by first | (rw [List.length_take]; omega) | simp) (by first | (rw [List.length_take]; omega) | simp) y hy.out).mono ?_; rintro e w4 ⟨B2, c2, rfl, ho2, hb⟩; have HO2 := Lib.hid (ho2.mono (show w.heap.size ≤ w3.drew.heap.size from HX.out.size)); have HB2 := Lib.hid hb; clear hb ho2))
  have HB2 := Lib.hid (show Below w3.heap.size w3 w4 from ⟨HB2.out.os, HB2.out.tape, HB2.out.output, HB2.out.size, HB2.out.block⟩)
  have HFl := Lib.hid (HFl.out.on HB2.out)
  have HO1 := Lib.hid (HO1.out.below HB2.out)
  have HX := Lib.hid (onB HX.out HB2.out)
  clear HB2 HRd HFd
  have HRd := Lib.hid (True.intro)
  have HFd := Lib.hid (True.intro)
  go_wp2_with fail
  go_region_held3 (fun X => True)
    (first | exact trivial)
    (first
      | (go_at_call 23; refine (key_good _ _ _ (vs.drop vs.length) _ _ _ ((flagsL l vs.length).drop vs.length) _ (rdr_end _ _ _ vs) (rdf_end _ _ _ l vs.length) (by first | (rw [List.length_drop]; omega) | simp) (by first | (rw [List.length_drop, List.length_drop, flagsL_length]; done) | simp [flagsL_length]) (hg.out.drop vs.length) (by simp) (by simp) z hz.out).mono ?_; rintro e w5 ⟨B3, c3, rfl, ho3, hb⟩; have HO3 := Lib.hid (ho3.mono (show w.heap.size ≤ w4.drew.heap.size from HX.out.size)); have HB3 := Lib.hid hb; clear hb ho3))
  have HB3 := Lib.hid (show Below w4.heap.size w4 w5 from ⟨HB3.out.os, HB3.out.tape, HB3.out.output, HB3.out.size, HB3.out.block⟩)
  have HO1 := Lib.hid (HO1.out.below HB3.out)
  have HO2 := Lib.hid (HO2.out.below HB3.out)
  have HX := Lib.hid (onB HX.out HB3.out)
  clear HB3 HRd HFd HFl
  go_wp2_with fail
  refine (CopyBytes_any B2 c2 y _ (by omega) (own_rd HO2.out)).mono ?_
  rintro e w6 ⟨v6, rfl, ho6, hb⟩
  have HO3 := Lib.hid (HO3.out.below hb)
  have HO6 := Lib.hid ho6
  have HB6 := Lib.hid hb
  obtain ⟨B6, c6, rfl, _, _, _⟩ := ho6.form
  have hxs := hb.size
  clear hb ho6 HO2
  go_wp2_with (at_builtin; refine wpList_unguard (by rfl) ?_; refine wpList_appB rfl (.tmp 68) (.tmp 69) rfl w5.heap.size (.slice B6 y.length c6) y rfl HO6.out B3 c3 z z.length rfl rfl (own_rd HO3.out) (by omega) hxs ?_; intro v7 w7 ho7 hb7; have HO7 := Lib.hid ho7; have HB7 := Lib.hid (HB6.out.trans hb7); obtain ⟨B7, c7, rfl, _, _, _⟩ := ho7.form; clear ho7 hb7)
  have HO1 := Lib.hid (HO1.out.below HB7.out)
  have HX := Lib.hid (onB HX.out HB7.out)
  clear HB7 HB6 HO6 HO3
  rw [← List.length_append]
  refine (SameBytes_any B1 c1 x B7 c7 (y ++ z) w7 _ _ (own_rd HO1.out) (own_rd HO7.out)).mono ?_
  rintro e w8 ⟨rfl, hw8⟩
  rw [hw8, decide_eq_true hxyz.out]
  clear hw8
  go_wp2_with fail
  refine (awake_any _).mono ?_
  rintro e w9 ⟨rfl, hb⟩
  have HX := Lib.hid (onB HX.out hb)
  clear hb
  go_wp2_with fail
  go_ret
  exact ⟨rfl, HX.out⟩
set_option maxRecDepth 100000 in
set_option maxHeartbeats 2000000 in
theorem join_go4 (F : Option Addr) (fcap : Nat) (l : List Bool) (q : Nat) (w : World) (hR : RdR w w.heap.size none ([] : List Trip)) (hF : RdF w w.heap.size F l) (hc1 : 0 ≤ 0) (hc2 : 0 ≤ 9223372036854775807) (hfl : l.length ≤ 9223372036854775807)
    (hsz : ∀ t ∈ ([] : List Trip), t.2.2.size ≤ 9223372036854775807) (h : Hid (rowOk ([] : List Trip) 20 = true)) (hg : Hid (GoodR ([] : List Trip))) (hl : 0 ≤ 20) (hq : q < 256) (hk : Hid (q % (0 + 1) = 0)) (hkl : 0 ≤ 0) (x y z : List UInt8)
    (hx : Hid (keyL ([] : List Trip) (flagsL l 0) = x)) (hy : Hid (keyL (([] : List Trip).take 0) ((flagsL l 0).take 0) = y)) (hz : Hid (keyL (([] : List Trip).drop 0) ((flagsL l 0).drop 0) = z)) (hxyz : Hid (x = y ++ z)) (hxl : x.length ≤ 1000000) :
    Calls Try.prog 9 #[.slice none 0 0, .slice F l.length fcap, .int .u8 q] w fun e w' => e = .returned (.bool true) ∧ Below w.heap.size w w' := by
  have HR := Lib.hid hR
  have HF := Lib.hid hF
  have hyl : y.length ≤ 1000000 ∧ z.length ≤ 1000000 := by
    have := hxyz.out
    rw [this, List.length_append] at hxl
    omega
  go_enter Try.func9, Try.ntmps9
  go_wp2_with (go_at_call 38; refine (right_any none 0 ([] : List Trip) 20 _ hR (by omega) hsz (by omega)).mono ?_; rintro e w1 ⟨rfl, hb⟩; rw [h.out]; have HX := Lib.hid hb; clear hb)
  refine (flags_any F fcap l 0 _ (hF.on HX.out) (by omega) hfl).mono ?_
  rintro e w2 ⟨g, rfl, hgb, hfa, hb⟩
  have HX := Lib.hid (onB HX.out hb)
  have HFl := Lib.hid (show RdF w2 w2.heap.size (some ⟨g, 0, none⟩) (flagsL l 0) from hfa.rdf)
  clear hb hfa hgb hF
  go_wp2_with fail
  try rw [show (q : Int) % ((0 : Int) + 1) = 0 by omega]
  refine (key_good none 0 _ ([] : List Trip) (some ⟨g, 0, none⟩) 0 _ (flagsL l 0) _ (HR.out.on HX.out) HFl.out (by first | omega | simp) (flagsL_length _ _) hg.out rfl rfl x hx.out).mono ?_
  rintro e w3 ⟨B1, c1, rfl, ho1, hb⟩
  have HO1 := Lib.hid (ho1.mono HX.out.size)
  have HFl := Lib.hid (HFl.out.on hb)
  have HX := Lib.hid (onB HX.out hb)
  clear hb ho1 hR
  have hk0 : (0 : Int) ≤ (0 : Int) := by omega
  have hk1 : (0 : Int) ≤ (0 : Int) := by omega
  have hk2 : (0 : Int) ≤ (0 : Int) := by omega
  have HRd := Lib.hid (show RdR w3.drew w3.drew.heap.size none ([] : List Trip) from (HR.out.on HX.out : RdR w3 w3.heap.size none ([] : List Trip)))
  have HFd := Lib.hid (show RdF w3.drew w3.drew.heap.size (some ⟨g, 0, none⟩) (flagsL l 0) from HFl.out)
  go_wp2_with fail
  go_region_held3 (fun X => True)
    (first | exact trivial)
    (first
      | (go_at_call 23; refine (key_good _ _ 0 (([] : List Trip).take 0) _ _ 0 ((flagsL l 0).take 0) _ (HRd.out.pre 0) (HFd.out.pre 0) (by first | (rw [List.length_take]; omega) | simp) (by first | (rw [List.length_take, List.length_take, flagsL_length]; done) | simp) (hg.out.take 0) (by first | (rw [List.length_take]; omega) | simp) (by first | (rw [List.length_take]; omega) | simp) y hy.out).mono ?_; rintro e w4 ⟨B2, c2, rfl, ho2, hb⟩; have HO2 := Lib.hid (ho2.mono (show w.heap.size ≤ w3.drew.heap.size from HX.out.size)); have HB2 := Lib.hid hb; clear hb ho2))
  have HB2 := Lib.hid (show Below w3.heap.size w3 w4 from ⟨HB2.out.os, HB2.out.tape, HB2.out.output, HB2.out.size, HB2.out.block⟩)
  have HFl := Lib.hid (HFl.out.on HB2.out)
  have HO1 := Lib.hid (HO1.out.below HB2.out)
  have HX := Lib.hid (onB HX.out HB2.out)
  clear HB2 HRd HFd
  have HRd := Lib.hid (True.intro)
  have HFd := Lib.hid (True.intro)
  go_wp2_with fail
  go_region_held3 (fun X => True)
    (first | exact trivial)
    (first
      | (go_at_call 23; refine (key_good _ _ _ (([] : List Trip).drop 0) _ _ _ ((flagsL l 0).drop 0) _ (rdr_nil _ _ _) (rdf_end _ _ _ l 0) (by first | (rw [List.length_drop]; omega) | simp) (by first | (rw [List.length_drop, List.length_drop, flagsL_length]; done) | simp [flagsL_length]) (hg.out.drop 0) (by simp) (by simp) z hz.out).mono ?_; rintro e w5 ⟨B3, c3, rfl, ho3, hb⟩; have HO3 := Lib.hid (ho3.mono (show w.heap.size ≤ w4.drew.heap.size from HX.out.size)); have HB3 := Lib.hid hb; clear hb ho3))
  have HB3 := Lib.hid (show Below w4.heap.size w4 w5 from ⟨HB3.out.os, HB3.out.tape, HB3.out.output, HB3.out.size, HB3.out.block⟩)
  have HO1 := Lib.hid (HO1.out.below HB3.out)
  have HO2 := Lib.hid (HO2.out.below HB3.out)
  have HX := Lib.hid (onB HX.out HB3.out)
  clear HB3 HRd HFd HFl
  go_wp2_with fail
  refine (CopyBytes_any B2 c2 y _ (by omega) (own_rd HO2.out)).mono ?_
  rintro e w6 ⟨v6, rfl, ho6, hb⟩
  have HO3 := Lib.hid (HO3.out.below hb)
  have HO6 := Lib.hid ho6
  have HB6 := Lib.hid hb
  obtain ⟨B6, c6, rfl, _, _, _⟩ := ho6.form
  have hxs := hb.size
  clear hb ho6 HO2
  go_wp2_with (at_builtin; refine wpList_unguard (by rfl) ?_; refine wpList_appB rfl (.tmp 68) (.tmp 69) rfl w5.heap.size (.slice B6 y.length c6) y rfl HO6.out B3 c3 z z.length rfl rfl (own_rd HO3.out) (by omega) hxs ?_; intro v7 w7 ho7 hb7; have HO7 := Lib.hid ho7; have HB7 := Lib.hid (HB6.out.trans hb7); obtain ⟨B7, c7, rfl, _, _, _⟩ := ho7.form; clear ho7 hb7)
  have HO1 := Lib.hid (HO1.out.below HB7.out)
  have HX := Lib.hid (onB HX.out HB7.out)
  clear HB7 HB6 HO6 HO3
  rw [← List.length_append]
  refine (SameBytes_any B1 c1 x B7 c7 (y ++ z) w7 _ _ (own_rd HO1.out) (own_rd HO7.out)).mono ?_
  rintro e w8 ⟨rfl, hw8⟩
  rw [hw8, decide_eq_true hxyz.out]
  clear hw8
  go_wp2_with fail
  refine (awake_any _).mono ?_
  rintro e w9 ⟨rfl, hb⟩
  have HX := Lib.hid (onB HX.out hb)
  clear hb
  go_wp2_with fail
  go_ret
  exact ⟨rfl, HX.out⟩
end Go.Proofs.Ytcpmfagnnidodaa
