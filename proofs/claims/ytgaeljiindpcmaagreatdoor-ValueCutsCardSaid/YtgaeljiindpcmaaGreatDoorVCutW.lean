/-
  ValueCuts returns true for every two texts and every cut: the walk. Conditions: sizes; the library's variables are as its text lays them.
-/
import Derived.Test.YtgaeljiindpcmaaGreatDoorVCutI
import Derived.Test.YtgaeljiindpcmaaGreatDoorVCutS
import Derived.Test.YtgaeljiindpcmaaGreatDoorVCutU
import Derived.Deep.Cut
namespace Go.Proofs.YtgaeljiindpcmaaGreatDoor
open Go.ChangeShapes Go.WideShapes Go.ChangeAt Go.RowKit
set_option linter.unusedVariables false

theorem cat_on (w0 : World) (hW : Wd w0) (x y s : ByteArray) (h : x ++ y = s) (h1 : x.size ≤ 65536) (h2 : y.size ≤ 65536) (h3 : x.size + y.size ≤ 65536) : CatOn w0 x y s := fun W hb =>
  both_any ⟨#[124, 124]⟩ 2 0 x 2 0 y 2 0 s 0 W fun X hX => Op_cat 2 0 x 2 0 y X (.inr (.inr ⟨.inl rfl, rfl, h1⟩)) (.inr (.inr ⟨.inl rfl, rfl, h2⟩)) (by omega) (by omega) 2 0 s 0 fun V hV =>
    ofTwo_cat 2 0 x 2 0 y V (by decide) (by decide) (hW.on (hb.trans ((hX.trans (hV.mono hX.size)).mono hb.size))) h1 h2 h3 s h
theorem cont_on (w0 : World) (hW : Wd w0) (x y : ByteArray) (hs : x.size ≤ 65536) (b : Bool) (h : decide (0 ≤ Lib.index x.data.toList y.data.toList) = b) : ContOn w0 x y b := by
  intro W hb
  refine (Tryz.strings_Contains x y _ W (by omega) (hW.on hb).2.choose_spec).mono ?_
  rintro e w' ⟨rfl, rfl⟩
  exact ⟨by rw [← h]; rfl, Below.refl _ _⟩

set_option maxRecDepth 100000 in
theorem cuts_no (s t : ByteArray) (a : Int) (w : World) (hs : s.size ≤ 9223372036854775807) (ht : t.size ≤ 9223372036854775807) (h : 300 < s.size ∨ 300 < t.size) (HW : Hid (Wd w)) :
    Calls Tryz.prog 5 #[.string s, .string t, .int .u16 a] w fun e w' => e = .returned (.bool true) ∧ Below w.heap.size w w' := by
  by_cases h1 : 300 < s.size
  · have h1' : decide ((300 : Int) < s.size) = true := decide_eq_true (by omega)
    go_enter Tryz.func5, Tryz.ntmps5
    go_wp2_with fail
    refine (aw_is w HW.out _ (Below.refl _ _)).mono ?_
    rintro e w2 ⟨rfl, b2⟩
    go_wp2_with fail
    go_ret
    exact ⟨rfl, b2⟩
  · have h1' : decide ((300 : Int) < s.size) = false := decide_eq_false (by omega)
    have h2' : decide ((300 : Int) < t.size) = true := decide_eq_true (by omega)
    go_enter Tryz.func5, Tryz.ntmps5
    go_wp2_with fail
    refine (aw_is w HW.out _ (Below.refl _ _)).mono ?_
    rintro e w2 ⟨rfl, b2⟩
    go_wp2_with fail
    go_ret
    exact ⟨rfl, b2⟩

theorem onA {w x y : World} {o : Obj} (h : Below w.heap.size w x) (b : Below (x.alloc o).heap.size (x.alloc o) y) : Below w.heap.size w y :=
  (h.alloc h.size o).trans (b.mono (Nat.le_trans h.size (by simp)))
theorem onB {w x y : World} (h : Below w.heap.size w x) (b : Below x.heap.size x y) : Below w.heap.size w y := h.trans (b.mono h.size)
theorem onC {w x : World} (o : Obj) (h : Below w.heap.size w x) : Below w.heap.size w (x.alloc o) := h.alloc h.size o
theorem cbox_at {W X : World} {k n : Int} {s : ByteArray} (h : Below (W.alloc (box k n s)).heap.size (W.alloc (box k n s)) X) : BoxAt W.heap.size k n s X := by
  obtain ⟨hc, hf⟩ := bcell h
  refine ⟨?_, ?_, ?_⟩
  · rw [hc _ _ (by simp)]; simp [go_sem]
  · rw [hc _ _ (by simp)]; simp [go_sem]
  · rw [hc _ _ (by simp)]; simp [go_sem]
abbrev c2w (w : World) (sa sb : ByteArray) : World := (w.alloc (box 2 0 sa)).alloc (box 2 0 sb)
theorem c2_boxes (w : World) (sa sb : ByteArray) (X : World) (h : Below (c2w w sa sb).heap.size (c2w w sa sb) X) : BoxAt w.heap.size 2 0 sa X ∧ BoxAt (w.heap.size + 1) 2 0 sb X := by
  obtain ⟨hc, hf⟩ := bcell h
  have hs : (c2w w sa sb).heap.size = w.heap.size + 2 := by simp
  refine ⟨⟨?_, ?_, ?_⟩, ⟨?_, ?_, ?_⟩⟩ <;> (rw [hc _ _ (by rw [hs]; omega)]; simp [go_sem])

/-- region 9: instr finds it, or it doesn't -/
theorem cu9 {bb : Bool} {Q : Exit → Act → World → Prop} {a0 : Act} {w0 : World} (w1 : World) (s t u : ByteArray) (n : Int) (p11 : Nat) (zs : Hid (s.size ≤ 65536)) (i1 : Hid (In64 n)) (i2 : Hid (In64 (sz t))) (γ : Bool) (eg : Hid (decide (1 < n) = γ))
    (g1 : Hid (IntKind.i64.wrap (n - 2) = n - 2)) (g2 : Hid (IntKind.i64.wrap (n - 2 + sz t) = n - 2 + sz t)) (m0 : Hid (γ = true → 0 ≤ n - 2 + sz t)) (m1 : Hid (γ = true → n - 2 + sz t ≤ s.size)) (uu : Hid (s.extract 0 (n - 2 + sz t).toNat = u)) (cu : Hid (γ = true → ContOn w1 u t false))
    (R : (decide (0 < n) = true ∧ cutS s (min (fromP s.size n) (addW (fromP s.size n) (sz t))) (max (fromP s.size n) (addW (fromP s.size n) (sz t))) = t ∧ ContOn w1 s t true) ∨ (decide (0 < n) = false ∧ ContOn w1 s t false))
    (hb11 : BoxOn w0 p11 1 n ⟨#[]⟩) (hW : Wd w0) (hw1 : Below w1.heap.size w1 w0) (hx0 : a0.tmps.getD 0 undef = .string s) (hx1 : a0.tmps.getD 1 undef = .string t) (hx8 : a0.tmps.getD 8 undef = .func (.func 26) #[] #[]) (hx11 : a0.tmps.getD 11 undef = .pointer (some ⟨p11, 0, none⟩)) (hs : a0.tmps.size = 223)
    (hend : ∀ (V : Nat → Value) (X : World), Below w0.heap.size w0 X → V 42 = .bool false → Q .normal ⟨fillT cu9Ops a0.tmps V, a0.defers⟩ X) : (Code.region 9 cu9Ops bb).wp Tryz.prog Q a0 w0 := by
  rcases R with ⟨ea, c3, co⟩ | ⟨ea, co⟩
  · exact cu9T w1 s t u n p11 zs i1 i2 γ (Lib.hid ea) eg (Lib.hid c3) g1 g2 m0 m1 uu cu hb11 hW hw1 (fun W h => co W (onB hw1 h)) hx0 hx1 hx8 hx11 hs hend
  · exact cu9F w1 s t u n p11 zs i1 i2 γ (Lib.hid ea) eg g1 g2 m0 m1 uu cu hb11 hW hw1 (fun W h => co W (onB hw1 h)) hx0 hx1 hx8 hx11 hs hend

set_option maxRecDepth 100000 in
set_option maxHeartbeats 2000000 in
theorem cuts_go (s t : ByteArray) (a : Nat) (w : World) (hs : s.size ≤ 300) (ht : t.size ≤ 300) (ha : a < 65536) (HW : Hid (Wd w)) (k : Nat) (hk : Hid (a % (s.size + 1) = k)) (hks : k ≤ s.size) (x y z u d h v : ByteArray) (n : Int)
    (A1 : Hid (cutS s (min (fromP s.size 1) (addW (fromP s.size 1) k)) (max (fromP s.size 1) (addW (fromP s.size 1) k)) = x)) (A2 : Hid (cutS s (fromP s.size ((k : Int) + 1)) (s.size + 1) = y))
    (zx : Hid (x.size ≤ 65536)) (zy : Hid (y.size ≤ 65536)) (lx : Hid (sz x = k)) (ly : Hid (sz y = sz s - k)) (i1 : Hid (In64 (k - sz s))) (i3 : Hid (In64 (-(k : Int)))) (c2 : Hid (cutS s (fromP s.size (k - sz s)) (s.size + 1) = z))
    (c3 : Hid (cutS s (min (fromP s.size (k + 1)) (addW (fromP s.size (k + 1)) (-k))) (max (fromP s.size (k + 1)) (addW (fromP s.size (k + 1)) (-k))) = x)) (g1 : Hid (IntKind.i64.wrap (sz s - k) = sz s - k)) (g2 : Hid (IntKind.i64.wrap (k - sz s) = k - sz s)) (g3 : Hid (IntKind.i64.wrap ((k : Int) + 1) = k + 1)) (g4 : Hid (IntKind.i64.wrap (-(k : Int)) = -k))
    (β : Bool) (eb : Hid ((!sameV 2 0 z 2 0 y) = β)) (eg : Hid (β = true → decide ((k : Int) < sz s) = false)) (xy : Hid (x ++ y = s ∧ x.size + y.size ≤ 65536))
    (hn : Hid (Lib.index s.data.toList t.data.toList + 1 = n)) (j1 : Hid (In64 n)) (j2 : Hid (In64 (sz t))) (γ : Bool) (jg : Hid (decide (1 < n) = γ)) (q1 : Hid (IntKind.i64.wrap (n - 2) = n - 2)) (q2 : Hid (IntKind.i64.wrap (n - 2 + sz t) = n - 2 + sz t)) (m0 : Hid (γ = true → 0 ≤ n - 2 + sz t)) (m1 : Hid (γ = true → n - 2 + sz t ≤ s.size))
    (uu : Hid (s.extract 0 (n - 2 + sz t).toNat = v)) (cu : Hid (γ = true → ContOn w v t false))
    (R : Hid ((decide (0 < n) = true ∧ cutS s (min (fromP s.size n) (addW (fromP s.size n) (sz t))) (max (fromP s.size n) (addW (fromP s.size n) (sz t))) = t ∧ ContOn w s t true) ∨ (decide (0 < n) = false ∧ ContOn w s t false)))
    (hu : Hid (turnedS largeU s = u)) (hd : Hid (turnedS smallU s = d)) (hh : Hid ((⟨(hexL s.data.toList).toArray⟩ : ByteArray) = h))
    (zu : Hid (u.size ≤ 65536)) (zd : Hid (d.size ≤ 65536)) (zh : Hid (h.size ≤ 65536)) (qd : Hid (turnedS largeU d = u)) (qu : Hid (turnedS largeU u = u)) (qh : Hid (turnedS largeU h = h)) (ql : Hid (turnedS smallU u = d)) (e1 : Hid (sz h = 2 * sz s)) (e2 : Hid (sz u = sz s)) (e3 : Hid (IntKind.i64.wrap (2 * sz s) = 2 * sz s)) :
    Calls Tryz.prog 5 #[.string s, .string t, .int .u16 a] w fun e w' => e = .returned (.bool true) ∧ Below w.heap.size w w' := by
  have h1' : decide ((300 : Int) < s.size) = false := decide_eq_false (by omega)
  have h2' : decide ((300 : Int) < t.size) = false := decide_eq_false (by omega)
  have K1 := Lib.hid (show In64 (k : Int) by unfold In64; omega)
  have K2 := Lib.hid (show In64 ((k : Int) + 1) by unfold In64; omega)
  have S1 := Lib.hid (show s.size ≤ 65536 by omega)
  have S2 := Lib.hid (show 2 * s.size ≤ 65536 by omega)
  have T1 := Lib.hid (show t.size ≤ 65536 by omega)
  go_enter Tryz.func5, Tryz.ntmps5
  go_wp2_with fail
  rw [show (a : Int) % ((s.size : Int) + 1) = (k : Int) by rw [← hk.out]; simp]
  refine (text_any _ _).mono ?_
  rintro e x1 ⟨rfl, b1⟩
  go_wp2_with fail
  refine (num_any _ _).mono ?_
  rintro e x2 ⟨rfl, b2⟩
  go_wp2_with fail
  refine (num_any _ _).mono ?_
  rintro e x3 ⟨rfl, b3⟩
  have HX := Lib.hid (onB (onB b1 b2) b3)
  clear b1 b2 b3
  go_wp2_with (go_at_call 26; refine (cut_sub3 _ _ (HW.out.on (onC _ HX.out)) s S1.out 1 k (by decide) K1.out (rdv3 x3 2 0 s 1 1 ⟨#[]⟩ 1 k ⟨#[]⟩) x A1.out).mono ?_; rintro e x4 ⟨rfl, b4⟩)
  have HX := Lib.hid (onA HX.out b4)
  clear b4
  refine (text_any _ _).mono ?_
  rintro e x5 ⟨rfl, b5⟩
  go_wp2_with fail
  refine (num_any _ _).mono ?_
  rintro e x6 ⟨rfl, b6⟩
  have HX := Lib.hid (onB (onB HX.out b5) b6)
  clear b5 b6
  go_wp2_with (go_at_call 26; refine (cut_sub2 _ _ (HW.out.on (onC _ HX.out)) s S1.out ((k : Int) + 1) K2.out (rdv2 x6 2 0 s 1 ((k : Int) + 1) ⟨#[]⟩) y A2.out).mono ?_; rintro e x7 ⟨rfl, b7⟩)
  have HX := Lib.hid (onC (box 2 0 y) (onC (box 2 0 x) (onA HX.out b7)))
  clear b7
  go_upto_region 6 with (fail)
  refine region_as2 (ops' := cu6Ops) (by kernel_rfl) ?_
  refine cu6 s x y z k x7.heap.size (x7.heap.size + 1) S1 zx zy lx ly i1 K2 i3 c2 c3 g1 g2 g3 g4 β eb eg (fun W hb => (c2_boxes x7 x y W hb).1) (fun W hb => (c2_boxes x7 x y W hb).2) (HW.out.on HX.out) (cat_on _ (HW.out.on HX.out) x y s xy.out.1 zx.out zy.out xy.out.2) rfl rfl rfl rfl rfl rfl ?_
  intro V X hb hv
  have HX := Lib.hid (onB HX.out hb)
  rw [cu6_fill V, hv]
  clear hb hv
  go_wp2_with fail
  refine (text_any _ _).mono ?_
  rintro e x1 ⟨rfl, b1⟩
  go_wp2_with fail
  refine (text_any _ _).mono ?_
  rintro e x2 ⟨rfl, b2⟩
  have HX := Lib.hid (onB (onB HX.out b1) b2)
  clear b1 b2
  go_wp2_with (go_at_call 26; refine (cut_instr _ _ (HW.out.on (onC _ HX.out)) s t S1.out T1.out (rdv2 x2 2 0 s 2 0 t) n hn.out).mono ?_; rintro e x3 ⟨rfl, b3⟩)
  have HX := Lib.hid (onC (box 1 n ⟨#[]⟩) (onA HX.out b3))
  clear b3
  go_upto_region 9 with (fail)
  refine region_as2 (ops' := cu9Ops) (by kernel_rfl) ?_
  refine cu9 w s t v n x3.heap.size S1 j1 j2 γ jg q1 q2 m0 m1 uu cu R.out (fun W hb => cbox_at hb) (HW.out.on HX.out) HX.out rfl rfl rfl rfl rfl ?_
  intro V X hb hv
  have HX := Lib.hid (onB HX.out hb)
  rw [cu9_fill V, hv]
  clear hb hv
  go_wp2_with fail
  refine (text_any _ _).mono ?_
  rintro e x1 ⟨rfl, b1⟩
  have HX := Lib.hid (onB HX.out b1)
  clear b1
  go_wp2_with (go_at_call 26; refine (cut_upper _ _ (HW.out.on (onC _ HX.out)) s S1.out (rdv1 x1 2 0 s) u hu.out).mono ?_; rintro e x2 ⟨rfl, b2⟩)
  have HX := Lib.hid (onA HX.out b2)
  clear b2
  refine (text_any _ _).mono ?_
  rintro e x4 ⟨rfl, b4⟩
  have HX := Lib.hid (onB HX.out b4)
  clear b4
  go_wp2_with (go_at_call 26; refine (cut_lower _ _ (HW.out.on (onC _ HX.out)) s S1.out (rdv1 x4 2 0 s) d hd.out).mono ?_; rintro e x5 ⟨rfl, b5⟩)
  have HX := Lib.hid (onC (box 2 0 d) (onC (box 2 0 u) (onA HX.out b5)))
  have H12 := Lib.hid (Below.refl (c2w x5 u d).heap.size (c2w x5 u d))
  clear b5
  refine (text_any _ _).mono ?_
  rintro e x6 ⟨rfl, b6⟩
  have HX := Lib.hid (onB HX.out b6)
  have H12 := Lib.hid (onB H12.out b6)
  clear b6
  go_wp2_with (go_at_call 26; refine (cut_hex _ _ (HW.out.on (onC _ HX.out)) s S2.out (rdv1 x6 2 0 s) h hh.out).mono ?_; rintro e x7 ⟨rfl, b7⟩)
  have HX := Lib.hid (onC (box 2 0 h) (onA HX.out b7))
  have H12 := Lib.hid (onC (box 2 0 h) (onA H12.out b7))
  clear b7
  go_upto_region 13 with (fail)
  refine region_as2 (ops' := cu13Ops) (by kernel_rfl) ?_
  refine cu13 s u d h x5.heap.size (x5.heap.size + 1) x7.heap.size zu zd zh qd qu qh ql e1 e2 e3 (fun W hb => (c2_boxes x5 u d W (onB H12.out hb)).1) (fun W hb => (c2_boxes x5 u d W (onB H12.out hb)).2) (fun W hb => cbox_at hb) ((aw_is w HW.out).on HX.out) (HW.out.on HX.out) rfl rfl rfl rfl rfl rfl ?_
  intro V X hb hv
  have HX := Lib.hid (onB HX.out hb)
  rw [cu13_fill V, hv]
  clear hb hv
  go_wp2_with fail
  go_ret
  exact ⟨rfl, HX.out⟩

theorem ex_size (s : ByteArray) (i j : Nat) (h : j ≤ s.size) : (s.extract i j).size = j - i := by
  rw [ByteArray.size_extract]
  omega
theorem cuts_walk (s t : ByteArray) (a : Nat) (w : World) (hs : s.size ≤ 9223372036854775807) (ht : t.size ≤ 9223372036854775807) (ha : a < 65536) (hW : Wd w) :
    Calls Tryz.prog 5 #[.string s, .string t, .int .u16 a] w fun e w' => e = .returned (.bool true) ∧ Below w.heap.size w w' := by
  by_cases h : 300 < s.size ∨ 300 < t.size
  · exact cuts_no s t a w hs ht h (Lib.hid hW)
  · have hs3 : s.size ≤ 300 := by omega
    have ht3 : t.size ≤ 300 := by omega
    obtain ⟨k, hk⟩ : ∃ k, a % (s.size + 1) = k := ⟨_, rfl⟩
    have hks : k ≤ s.size := by
      have := Nat.mod_lt a (show 0 < s.size + 1 by omega)
      omega
    have wr : ∀ z : Int, -100000 ≤ z → z ≤ 100000 → IntKind.i64.wrap z = z := fun z h1 h2 => IntWalk.i64_in _ (by omega)
    have xs : (s.extract 0 k).size = k := by rw [ex_size _ _ _ hks]; omega
    have ys : (s.extract k s.size).size = s.size - k := ex_size _ _ _ (Nat.le_refl _)
    have zs : sz s = s.size := rfl
    have zt : sz t = t.size := rfl
    -- where it is
    have hge := Lib.index_ge s.data.toList t.data.toList
    have N : ∃ (n : Int) (γ : Bool) (v : ByteArray), Lib.index s.data.toList t.data.toList + 1 = n ∧ 0 ≤ n ∧ n ≤ 301 ∧ decide (1 < n) = γ ∧ (γ = true → 0 ≤ n - 2 + sz t) ∧ (γ = true → n - 2 + sz t ≤ s.size) ∧ s.extract 0 (n - 2 + sz t).toNat = v ∧ (γ = true → ContOn w v t false) ∧
        ((decide (0 < n) = true ∧ cutS s (min (fromP s.size n) (addW (fromP s.size n) (sz t))) (max (fromP s.size n) (addW (fromP s.size n) (sz t))) = t ∧ ContOn w s t true) ∨ (decide (0 < n) = false ∧ ContOn w s t false)) := by
      by_cases hm : Lib.index s.data.toList t.data.toList = -1
      · refine ⟨0, false, _, by omega, by omega, by omega, rfl, (fun e => by cases e), (fun e => by cases e), rfl, (fun e => by cases e), .inr ⟨rfl, cont_on w hW s t (by omega) false (by rw [hm]; rfl)⟩⟩
      · obtain ⟨i, hi⟩ : ∃ i : Nat, Lib.index s.data.toList t.data.toList = i := ⟨(Lib.index s.data.toList t.data.toList).toNat, by omega⟩
        obtain ⟨h1, h2, h3⟩ := index_spec _ _ _ hi
        have h1' : i ≤ s.size := h1
        obtain ⟨h4, h5⟩ := occ_extract s t i h1' h2
        refine ⟨(i : Int) + 1, decide (1 < (i : Int) + 1), _, by omega, by omega, by omega, rfl, (fun e => ?_), (fun e => ?_), rfl, (fun e => ?_), .inl ⟨decide_eq_true (by omega), ?_, cont_on w hW s t (by omega) true (by rw [hi]; exact decide_eq_true (by omega))⟩⟩
        · have := of_decide_eq_true e
          omega
        · have := of_decide_eq_true e
          omega
        · have h0 := of_decide_eq_true e
          obtain ⟨_, h7⟩ := index_ahead s t i (by omega) hi
          have e2 : ((i : Int) + 1 - 2 + sz t).toNat = i - 1 + t.size := by omega
          rw [e2]
          refine cont_on w hW _ t ?_ false (by rw [h7]; rfl)
          rw [ex_size _ _ _ (by omega)]
          omega
        · rw [zt, cut_at s i t.size h4 hs3, h5]
    obtain ⟨n, γ, v, n1, n2, n3, n4, n5, n6, n7, n8, n9⟩ := N
    have hz : ((!sameV 2 0 (cutS s (fromP s.size ((k : Int) - sz s)) (s.size + 1)) 2 0 (s.extract k s.size)) = true → decide ((k : Int) < sz s) = false) := by
      intro e
      by_cases hlt : k < s.size
      · rw [cut_neg s k hlt hs3, same_self] at e
        cases e
      · exact decide_eq_false (by omega)
    have hxz : ∀ c : ByteArray, c.size ≤ 600 → c.size ≤ 65536 := fun c h => by omega
    have us : (turnedS largeU s).size = s.size := turnedS_size _ _
    have ds : (turnedS smallU s).size = s.size := turnedS_size _ _
    have hhs : (⟨(hexL s.data.toList).toArray⟩ : ByteArray).size = 2 * s.size := hex_size s
    refine cuts_go s t a w hs3 ht3 ha (Lib.hid hW) k (Lib.hid hk) hks (s.extract 0 k) (s.extract k s.size) _ _ _ _ v n (Lib.hid (cut_first s k hks hs3)) (Lib.hid (cut_rest s k hks hs3)) (Lib.hid (by omega)) (Lib.hid (by omega)) (Lib.hid (by unfold sz; omega)) (Lib.hid (by unfold sz; omega))
      (Lib.hid (by unfold In64 sz; omega)) (Lib.hid (by unfold In64; omega)) (Lib.hid rfl) (Lib.hid (cut_back s k hks hs3)) (Lib.hid (wr _ (by omega) (by omega))) (Lib.hid (wr _ (by omega) (by omega))) (Lib.hid (wr _ (by omega) (by omega))) (Lib.hid (wr _ (by omega) (by omega)))
      _ (Lib.hid rfl) (Lib.hid hz) (Lib.hid ⟨extract_join s k hks, by omega⟩) (Lib.hid n1) (Lib.hid (by unfold In64; omega)) (Lib.hid (by unfold In64; omega)) γ (Lib.hid n4) (Lib.hid (wr _ (by omega) (by omega))) (Lib.hid (wr _ (by omega) (by omega))) (Lib.hid n5) (Lib.hid n6) (Lib.hid n7) (Lib.hid n8) (Lib.hid n9)
      (Lib.hid rfl) (Lib.hid rfl) (Lib.hid rfl) (Lib.hid (by omega)) (Lib.hid (by omega)) (Lib.hid (by omega)) (Lib.hid (upper_lower s)) (Lib.hid (upper_upper s)) (Lib.hid (upper_hex s)) (Lib.hid (lower_upper s)) (Lib.hid (by unfold sz; omega)) (Lib.hid (by unfold sz; omega)) (Lib.hid (wr _ (by omega) (by omega)))
end Go.Proofs.YtgaeljiindpcmaaGreatDoor
