/-
  Layer 13, eval: EvalIn, walked. Conditions: sizes; the library's variables are as its text lays them.
-/
import Derived.Test.YtbelhgdogafedaaGreatDoorEInA
import Derived.Deep.CutRange
import Derived.Test.YtbelhgdogafedaaGreatDoorEFew
import Derived.Test.YtbelhgdogafedaaGreatDoorEAwk
namespace Go.Proofs.YtbelhgdogafedaaGreatDoor
open Go.Maps Go.ChangeShapes Go.WideShapes Go.ChangeAt Go.RowKit
set_option linter.unusedVariables false
set_option linter.unusedSimpArgs false
set_option maxRecDepth 100000

def excl (p : Nat) (v : Value) : Nat → Prop := fun b => b = p ∨ v.ownBlock = some b
theorem PE.grown {p : Nat} {v v' : Value} {e : Ee} {w w' : World} (h : PE p (excl p v) e w) (hg : w.grownBy w' v.ownBlock) (hne : v.ownBlock ≠ some p) (hat : v'.ownBlock = v.ownBlock ∨ v'.ownBlock = some w.heap.size) : PE p (excl p v') e w' := by
  have hlt := h.lt
  obtain ⟨k, s, t, n, c, A, len, cap, ⟨c0, c1, c2, c3, c4, c5⟩, ⟨f0, f1, f2, f3, f4, f5⟩, hq⟩ := h
  have hb : w'.heap[p]? = w.heap[p]? := hg.block p hlt fun e => hne e.symm
  have hc : ∀ o, w'.cell? ⟨p, o, none⟩ = w.cell? ⟨p, o, none⟩ := fun o => World.cell?_of_block (a := ⟨p, o, none⟩) hb
  have hf : ∀ o, w'.frozen? ⟨p, o, none⟩ = w.frozen? ⟨p, o, none⟩ := fun o => World.frozen?_of_block (a := ⟨p, o, none⟩) hb
  refine ⟨k, s, t, n, c, A, len, cap, ⟨(hc _).trans c0, (hc _).trans c1, (hc _).trans c2, (hc _).trans c3, (hc _).trans c4, (hc _).trans c5⟩, ⟨(hf _).trans f0, (hf _).trans f1, (hf _).trans f2, (hf _).trans f3, (hf _).trans f4, (hf _).trans f5⟩, ?_⟩
  refine hq.change hg.size (fun b hb hn => hg.block b hb fun e => hn (.inr e.symm)) fun b hb hn => ?_
  rintro (e | e)
  · exact hn (.inl e)
  · rcases hat with h | h
    · exact hn (.inr (h ▸ e))
    · rw [h] at e
      have := Option.some.inj e
      omega
theorem PE.new (w : World) (q : Nat → Prop) : PE w.heap.size q (orE 0) (w.alloc (.cells #[.int .u8 2, .string ⟨#[]⟩, .string ⟨#[]⟩, .int .i64 0, .int .i64 0, .slice none 0 0] 25)) := by
  refine ⟨2, ⟨#[]⟩, ⟨#[]⟩, 0, 0, none, 0, 0, ecell_new _ _ _ _ _ _ _ _ _, ⟨?_, ?_, ?_, ?_, ?_, ?_⟩, isEq_leaf q 2 0 _⟩ <;> simp [go_sem]
def InRel (wd : World) (m p8 : Nat) (v7 v9 : Value) (wr : World) : Prop := ∃ j J : Nat, J = j + 1 ∧ J ≤ m ∧ v9 = .int .i64 (J : Int) ∧ OwnE wr wd.heap.size v7 J ∧ v7.ownBlock ≠ some p8 ∧ PE p8 (excl p8 v7) (orE j) wr ∧ Below wd.heap.size wd wr
theorem fit_kids (m : Nat) (hm : m ≤ 100) : ∀ e ∈ kidsE m, Fit e := by
  intro e he
  simp only [kidsE, List.mem_map, List.mem_range] at he
  obtain ⟨i, hi, rfl⟩ := he
  exact fit_lf 5 (i : Int) (by constructor <;> omega) (by decide)
theorem fit_in (n : Int) (hn : In64 n) (m : Nat) (hm : m ≤ 100) : Fit (.mk 9 ⟨#[]⟩ ⟨#[]⟩ n 0 (kidsE m)) := fit_mk _ _ _ _ _ hn (by decide) (by simp [kidsE]; omega) (fit_kids m hm)
theorem fit_or : ∀ j : Nat, j ≤ 100 → Fit (orE j)
  | 0, _ => fit_lf 2 0 (by decide) (by decide)
  | j + 1, h => by
    rw [orE]
    refine fit_mk _ _ _ _ _ (by decide) (by decide) (by simp) fun e he => ?_
    simp only [List.mem_cons, List.not_mem_nil, or_false] at he
    rcases he with rfl | rfl
    · exact fit_or j (by omega)
    · refine fit_mk _ _ _ _ _ (by decide) (by decide) (by simp) fun e he => ?_
      simp only [List.mem_cons, List.not_mem_nil, or_false] at he
      rcases he with rfl | rfl
      · exact fit_lf 5 0 (by decide) (by decide)
      · exact fit_lf 5 _ (by constructor <;> omega) (by decide)
theorem fit_not (j : Nat) (h : j ≤ 100) : Fit (.mk 7 sNot ⟨#[]⟩ 0 0 [orE j]) := fit_mk _ _ _ _ _ (by decide) (by decide) (by simp) fun e he => by
  simp only [List.mem_cons, List.not_mem_nil, or_false] at he
  subst he
  exact fit_or j h
theorem EnvW.on {w w' : World} {x : EnvM} {Ar : Option Addr} {cr : Nat} {Ak : Option Addr} {ck : Nat} {At : Option Addr} {ct : Nat} {Ab : Option Addr} {cb : Nat} (h : EnvW w x Ar cr Ak ck At ct Ab cb) (hb : Below w.heap.size w w') : EnvW w' x Ar cr Ak ck At ct Ab cb :=
  ⟨h.rows.on hb, h.keys.on hb, h.totals.on hb, h.binds.on hb, h.nil⟩
theorem few_b (B : List Trip) (A5 : Option Addr) (c5 : Nat) (w : World) (h : EnvW w ⟨[], [], [], B⟩ none 0 none 0 none 0 A5 c5) : Calls Tryz.prog 9 #[.agg #[.slice none 0 0, .slice none 0 0, .slice none 0 0, .slice A5 B.length c5]] w fun e w' => e = .returned (.bool (decide (fewX ⟨[], [], [], B⟩))) ∧ Below w.heap.size w w' :=
  few_any ⟨[], [], [], B⟩ none 0 none 0 none 0 A5 c5 w h
theorem right_b (B : List Trip) (A5 : Option Addr) (c5 : Nat) (w : World) (h : EnvW w ⟨[], [], [], B⟩ none 0 none 0 none 0 A5 c5) (hf : fewX ⟨[], [], [], B⟩) : Calls Tryz.prog 13 #[.agg #[.slice none 0 0, .slice none 0 0, .slice none 0 0, .slice A5 B.length c5]] w fun e w' => e = .returned (.bool (decide (rightX ⟨[], [], [], B⟩))) ∧ Below w.heap.size w w' :=
  right_any ⟨[], [], [], B⟩ none 0 none 0 none 0 A5 c5 w h hf
set_option maxHeartbeats 4000000 in
theorem in_walk (k n : Int) (s : ByteArray) (A : Option Addr) (c : Nat) (l : List Trip) (w : World) (hW : Wd w) (hn : In64 n) (hin : ∀ t ∈ l, In64 t.2.1) (hl : RdT w A l) (hlc : l.length ≤ c) :
    Calls Tryz.prog 4 #[vv k n s, .slice A l.length c] w fun e w' => e = .returned (.bool true) ∧ Below w.heap.size w w' := by
  have HL := Lib.hid hl
  have HW := Lib.hid hW
  obtain ⟨B, hB⟩ : ∃ B, (k, n, s) :: l.take 8 = B := ⟨_, rfl⟩
  clear hl hW
  go_enter Tryz.func4, Tryz.ntmps4
  go_upto_region 1 with (fail)
  obtain ⟨w1, hw1⟩ : ∃ X, w.alloc (.cells #[.int .u8 k, .int .i64 n, .string s] 38) = X := ⟨_, rfl⟩
  have hal1 : Below w.heap.size w w1 := by rw [← hw1]; exact (Below.refl _ _).alloc (Nat.le_refl _) _
  have hb2 : BoxF w.heap.size (k, n, s) w1 := by rw [← hw1]; exact BoxF.new w k n s
  rw [hw1]
  have HB1 := Lib.hid hal1
  refine region_asE (ops' := in1Ops) (by kernel_rfl) ?_
  refine in1 w.heap.size c (k, n, s) l A hb2 (HL.out.on hal1) hlc rfl rfl rfl ?_
  intro V1 p5 X1 hbX hV5 _ _ hP
  rw [in1_fill V1, hV5]
  rw [hB] at hP
  obtain ⟨A5, c5, hX4, hc5, hR5⟩ := hP
  have HX1 := Lib.hid (HB1.out.trans (hbX.mono HB1.out.size))
  clear hw1 hal1 hb2 hV5 hbX HB1 HL
  have hEW : EnvW X1 ⟨[], [], [], B⟩ none 0 none 0 none 0 A5 c5 := ⟨.inl rfl, .inl rfl, .inl rfl, hR5, fun _ => rfl⟩
  have HF := Lib.hid (few_b B A5 c5 X1 hEW)
  have HEW := Lib.hid hEW
  have HX4 := Lib.hid hX4
  obtain ⟨x0, x1, x2, x3⟩ := hX4
  clear hEW
  by_cases hfew : fewX ⟨[], [], [], B⟩
  · rw [decide_eq_true hfew] at HF
    have HFW := Lib.hid hfew
    by_cases hri : rightX ⟨[], [], [], B⟩
    · by_cases hl0 : l.length = 0
      · have q0 : ((l.length : Int) == 0) = true := by simp [hl0]
        go_wp2_with (first
          | (go_at_call 9; refine HF.out.mono ?_; rintro e wa ⟨rfl, ba⟩; obtain ⟨z0, z1, z2, z3⟩ := HX4.out.on ba; have HBA := Lib.hid (HX1.out.trans (ba.mono HX1.out.size)); have HRI := Lib.hid (right_b B A5 c5 wa (HEW.out.on ba) HFW.out); have HXA := Lib.hid (HX4.out.on ba); have HEA := Lib.hid (HEW.out.on ba); clear ba; rw [decide_eq_true hri] at HRI)
          | (go_at_call 13; refine HRI.out.mono ?_; rintro e wc ⟨rfl, bc⟩; have HBC := Lib.hid (HBA.out.trans (bc.mono HBA.out.size)); have HXC := Lib.hid (HXA.out.on bc); have HEC := Lib.hid (HEA.out.on bc); clear bc)
          | (go_at_call 10; refine (awake_any _ (HW.out.on HBC.out)).mono ?_; rintro e wb ⟨rfl, bb⟩; have HBB := Lib.hid (HBC.out.trans (bb.mono HBC.out.size)); clear bb))
        go_ret
        exact ⟨rfl, HBB.out⟩
      · have q0 : ((l.length : Int) == 0) = false := by simpa using hl0
        go_upto_region 8 with (first
          | (go_at_call 9; refine HF.out.mono ?_; rintro e wa ⟨rfl, ba⟩; obtain ⟨z0, z1, z2, z3⟩ := HX4.out.on ba; have HBA := Lib.hid (HX1.out.trans (ba.mono HX1.out.size)); have HRI := Lib.hid (right_b B A5 c5 wa (HEW.out.on ba) HFW.out); have HXA := Lib.hid (HX4.out.on ba); have HEA := Lib.hid (HEW.out.on ba); clear ba; rw [decide_eq_true hri] at HRI)
          | (go_at_call 13; refine HRI.out.mono ?_; rintro e wc ⟨rfl, bc⟩; have HBC := Lib.hid (HBA.out.trans (bc.mono HBA.out.size)); have HXC := Lib.hid (HXA.out.on bc); have HEC := Lib.hid (HEA.out.on bc); clear bc)
          | (go_at_call 14; refine (bind_any _ _).mono ?_; rintro e wd ⟨rfl, bd⟩; have HBD := Lib.hid bd; clear bd))
        have HXD := Lib.hid (HXC.out.on HBD.out)
        have HED := Lib.hid (HEC.out.on HBD.out)
        have HBW := Lib.hid (HBC.out.trans (HBD.out.mono HBC.out.size))
        have hB9 : B.length ≤ 9 := by rw [← hB]; simp only [List.length_cons, List.length_take]; omega
        have hB2 : 2 ≤ B.length := by rw [← hB]; simp only [List.length_cons, List.length_take]; omega
        have h5d : p5 < wd.heap.size := block_lt_of_cell HXD.out.1
        have HRX := Lib.hid hri
        have HIN : Hid (∀ t ∈ B, In64 t.2.1) := Lib.hid (by
          rw [← hB]
          intro t ht
          rcases List.mem_cons.1 ht with rfl | h
          · exact hn
          · exact hin t (List.mem_of_mem_take h))
        clear x0 x1 x2 x3 z0 z1 z2 z3 HF HEW HX4 HRI HBA HXA HEA HXC HEC HBD HX1 q0 hR5 hlc hc5 hri hfew
        go_loopw [7, 9] (fun v7 v9 wr => InRel wd B.length (wd.heap.size + 1) v7 v9 wr) (fun _ v9 _ => B.length - (intOf v9).toNat)
        case atStart =>
          have hsz : (wd.alloc (.cells #[.int .u8 5, .string ⟨#[]⟩, .string ⟨#[]⟩, .int .i64 0, .int .i64 0, .slice none 0 0] 25)).heap.size = wd.heap.size + 1 := by simp
          refine ⟨0, 1, rfl, by omega, rfl, World.ownsRow.alloc (OwnE.one wd _ (Nat.le_refl _)) _, by simp [Value.ownBlock], ?_, ((Below.refl _ _).alloc (Nat.le_refl _) _).alloc (by simp) _⟩
          rw [← hsz]
          exact PE.new _ _
        case round =>
          obtain ⟨j, J, hJ, hJm, rfl, hO, hne, hP, hb⟩ := hrel
          obtain ⟨p8, hp8⟩ : ∃ p8, wd.heap.size + 1 = p8 := ⟨_, rfl⟩
          rw [hp8] at hne hP ⊢
          obtain ⟨y0, y1, y2, y3⟩ := HXD.out.on hb
          have HO := Lib.hid hO
          have HP := Lib.hid hP
          have HB := Lib.hid hb
          have HNE := Lib.hid hne
          clear hO hP hb hne
          by_cases hlt : J < B.length
          · have q1 : (J : Int) < (B.length : Int) := by omega
            have HJ := Lib.hid hJ
            have HLT := Lib.hid hlt
            have hJ9 : J ≤ 9 := by omega
            clear hJ hlt hJm
            go_upto_region 11 with (first
              | (go_at_call 14; refine (bind_any _ _).mono ?_; rintro e we ⟨rfl, be⟩; have HBE := Lib.hid be; clear be)
              | (at_builtin; go_loud (refine wpList_appE rfl (.tmp 52) (.tmp 56) rfl wd.heap.size _ J rfl (World.ownsRow.alloc (HO.out.onB HBE.out) _) we.heap.size 1 rfl (fun j u hu => by rw [cell_of (heap_new _ _)]; simpa [cellsL] using hu) (by omega) (by have := HB.out.size; have := HBE.out.size; simp; omega) ?_; intro v7' wf HO2 HG HAT)))
            obtain ⟨wx, hwx⟩ : ∃ X, we.alloc (.cells #[.int .u8 5, .string ⟨#[]⟩, .string ⟨#[]⟩, .int .i64 (J : Int), .int .i64 0, .slice none 0 0] 25) = X := ⟨_, rfl⟩
            rw [hwx] at HG HAT
            have hbx : Below wr.heap.size wr wx := by rw [← hwx]; exact HBE.out.alloc HBE.out.size _
            have HBX := Lib.hid (HB.out.trans (hbx.mono HB.out.size))
            have HP1 := Lib.hid (HP.out.on hbx)
            have HOX := Lib.hid (HO.out.onB hbx)
            have HPF := Lib.hid (HP1.out.grown HG.out HNE.out HAT.out)
            have HNF : Hid (v7'.ownBlock ≠ some p8) := Lib.hid (by
              rcases HAT.out with h | h
              · rw [h]; exact HNE.out
              · rw [h]
                intro e
                have := Option.some.inj e
                have := HP1.out.lt
                omega)
            have HBF := Lib.hid (HBX.out.trans ((Below.refl wd.heap.size wx).grown HG.out HBX.out.size fun k hk => (World.ownsRow.lt HOX.out k hk).1))
            have hqn : ∀ b, wf.heap.size ≤ b → ¬ excl p8 v7' b := by
              intro b hb
              rintro (e | e)
              · have := HPF.out.lt
                omega
              · have := (World.ownsRow.lt HO2.out b e).2
                omega
            have hPF0 := HPF.out
            obtain ⟨kk, s8, t8, n8, c8, A8, len8, cap8, hc8, -, hq8⟩ := hPF0
            clear hwx hbx HBE HP HO HG HAT HP1 HBX HOX y0 y1 y2 y3
            refine region_asE (ops' := in11Ops) (by kernel_rfl) ?_
            refine in11 p8 j (excl p8 v7') kk n8 c8 s8 t8 A8 len8 cap8 hqn (.inl rfl) hc8 hq8 HPF.out rfl rfl (by rw [← HJ.out]; rfl) rfl ?_
            rintro V2 X2 ⟨w2, k2, s2, t2, n2, c2, A2, len2, cap2, hb2, hX2, hPE2⟩
            rw [in11_fill V2]
            have HO3 : Hid (OwnE X2 wd.heap.size v7' (J + 1)) := Lib.hid ((OwnE.onB HO2.out hb2).agree HNF.out fun b hb => by rw [hX2]; exact set6_other _ _ _ _ _ _ _ _ _ _ _ hb)
            have HB3 : Hid (Below wd.heap.size wd X2) := Lib.hid (by
              have hp : wd.heap.size ≤ p8 := by omega
              rw [hX2]
              exact ((((((HBF.out.trans (hb2.mono HBF.out.size)).setCell hp _).setCell hp _).setCell hp _).setCell hp _).setCell hp _).setCell hp _)
            have HP3 := Lib.hid hPE2
            clear hPE2 hX2 hb2 hq8 hc8 hqn HO2 HPF HBF
            go_wp2_with fail
            exact ⟨⟨j + 1, J + 1, by have := HJ.out; omega, HLT.out, rfl, HO3.out, HNF.out, HP3.out, HB3.out⟩, by have := HLT.out; simp [intOf]; omega⟩
          · have q1 : ¬ (J : Int) < (B.length : Int) := by omega
            obtain rfl : J = B.length := by omega
            clear hlt hJm
            go_upto_region 12 with (fail)
            clear y0 y1 y2 y3
            obtain ⟨A7, c7, rfl, hk7⟩ := OwnE.isK HO.out (by omega)
            have hj : j = (l.take 8).length := by rw [← hB] at hJ; simp only [List.length_cons] at hJ; omega
            have hbx : (⟨[], [], [], B⟩ : EnvM).binds = (k, n, s) :: l.take 8 := hB.symm
            have hr : ∀ t ∈ (⟨[], [], [], B⟩ : EnvM).binds, RtT t := fun t ht => HRX.out B (by simp [listsX]) t ht
            obtain ⟨⟨tk, tn, tss⟩, -, hor, hin1⟩ := in_is ⟨[], [], [], B⟩ (k, n, s) (l.take 8) hbx (by omega) hr
            obtain ⟨⟨uk, un, us⟩, hno, hin2⟩ := not_is ⟨[], [], [], B⟩ (k, n, s) (l.take 8) hbx (by omega) hr
            rw [← hj] at hor hno
            have hxo : EnvOk ⟨[], [], [], B⟩ := ⟨by simp, fun r hr => by simp at hr, by simp, by simp, by simp; omega⟩
            have hxt : EnvT ⟨[], [], [], B⟩ := ⟨fun r hr => by simp at hr, fun t ht => by simp at ht, fun t ht => by simp at ht, fun t ht => ⟨HIN.out t ht, by have := (HFW.out.2 B (by simp [listsX])).2 t ht; omega⟩⟩
            have HWr := Lib.hid (HW.out.on (HBW.out.trans (HB.out.mono HBW.out.size)))
            have HWD := Lib.hid (HBW.out.trans (HB.out.mono HBW.out.size))
            have HE1 := Lib.hid (evOn_of HWr.out hxo hxt (fit_in 0 (by decide) B.length (by omega)) hin1)
            have HE2 := Lib.hid (evOn_of HWr.out hxo hxt (fit_or j (by omega)) hor)
            have HE3 := Lib.hid (evOn_of HWr.out hxo hxt (fit_in 1 (by decide) B.length (by omega)) hin2)
            have HE4 := Lib.hid (evOn_of HWr.out hxo hxt (fit_not j (by omega)) hno)
            have HX4 := Lib.hid (HXD.out.on HB.out)
            have HXV : Hid (EnvV wr ⟨[], [], [], B⟩ (.agg #[.slice none 0 0, .slice none 0 0, .slice none 0 0, .slice A5 B.length c5])) := Lib.hid ⟨none, 0, none, 0, none, 0, A5, c5, rfl, .inl rfl, .inl rfl, .inl rfl, (HED.out.on HB.out).binds⟩
            have HK7 := Lib.hid hk7
            have hP0 := HP.out
            obtain ⟨kk, s8, t8, n8, c8, A8, len8, cap8, hc8, -, hq8⟩ := hP0
            have HC8 := Lib.hid hc8
            have HQ8 := Lib.hid hq8.now
            clear hk7 hor hin1 hno hin2 hr hxo hxt hc8 hq8 HO HP HNE HXD HED HWr hbx hB hj hJ
            refine region_asE (ops' := in12Ops) (by kernel_rfl) ?_
            refine in12 ⟨[], [], [], B⟩ p5 _ _ _ _ (kidsE B.length) A7 c7 (tk, tn, tss) HX4.out HXV.out HK7.out HE1.out rfl rfl rfl ?_
            intro V3 p10 X3 hb3 hV10 _ _ hx10 hV11
            rw [in12_fill V3, hV10, hV11]
            have HB3 := Lib.hid hb3
            have HP10 := Lib.hid hx10
            obtain ⟨y0, y1, y2, y3⟩ := HX4.out.on hb3
            obtain ⟨e0, e1, e2, e3, e4, e5⟩ := HC8.out.on hb3
            simp only [Nat.zero_add] at e0 e1 e2 e3 e4 e5
            have HEV := Lib.hid (HE2.out X3 _ _ HB3.out (HQ8.out.on HB3.out) (HXV.out.on HB3.out))
            clear hb3 hx10 hV10 hV11
            go_upto_region 14 with (go_at_call 12; go_loud (with_reducible refine HEV.out.mono ?_); rintro e wf ⟨rfl, bf⟩; have HBF := Lib.hid bf; clear bf)
            obtain ⟨X5, hX5⟩ : ∃ X, wf.alloc (.cells #[.int .u8 tk, .int .i64 tn, .string tss] 38) = X := ⟨_, rfl⟩
            have hb5 : Below X3.heap.size X3 X5 := by rw [← hX5]; exact HBF.out.alloc HBF.out.size _
            have hx12 : BoxF wf.heap.size (tk, tn, tss) X5 := by rw [← hX5]; exact BoxF.new wf tk tn tss
            rw [hX5]
            have HP10 := Lib.hid (HP10.out.on hb5)
            have HP12 := Lib.hid hx12
            have HB5 := Lib.hid (HB3.out.trans (hb5.mono HB3.out.size))
            clear hX5 hb5 hx12 HB3 HBF y0 y1 y2 y3 e0 e1 e2 e3 e4 e5
            generalize wf.heap.size = p12 at *
            have HX45 := Lib.hid (HX4.out.on HB5.out)
            have HXV5 := Lib.hid (HXV.out.on HB5.out)
            have HK75 := Lib.hid (mono_isK _ _ _ _ HK7.out HB5.out)
            have HE35 : Hid (EvOn X5 ⟨[], [], [], B⟩ (.mk 9 ⟨#[]⟩ ⟨#[]⟩ 1 0 (kidsE B.length)) ((uk, un, us), 0)) := Lib.hid fun w' v xv hb => HE3.out w' v xv (HB5.out.trans (hb.mono HB5.out.size))
            refine region_asE (ops' := in14Ops) (by kernel_rfl) ?_
            refine in14 ⟨[], [], [], B⟩ p5 _ _ _ _ (kidsE B.length) A7 c7 (uk, un, us) HX45.out HXV5.out HK75.out HE35.out rfl rfl rfl ?_
            intro V4 p14 X6 hb6 hV14 _ _ hx14 hV15
            rw [in14_fill V4, hV14, hV15]
            have HP10 := Lib.hid (HP10.out.on hb6)
            have HP12 := Lib.hid (HP12.out.on hb6)
            have HP14 := Lib.hid hx14
            have HB6 := Lib.hid (HB5.out.trans (hb6.mono HB5.out.size))
            clear hV14 hV15 hx14 hb6 HB5 HX45 HXV5 HK75 HE35
            go_upto_region 15 with (fail)
            have HX46 := Lib.hid (HX4.out.on HB6.out)
            have HXV6 := Lib.hid (HXV.out.on HB6.out)
            have HE46 : Hid (EvOn X6 ⟨[], [], [], B⟩ (.mk 7 sNot ⟨#[]⟩ 0 0 [orE j]) ((uk, un, us), 0)) := Lib.hid fun w' v xv hb => HE4.out w' v xv (HB6.out.trans (hb.mono HB6.out.size))
            refine region_asE (ops' := in15Ops) (by kernel_rfl) ?_
            refine in15 ⟨[], [], [], B⟩ p5 _ _ _ _ p8 (orE j) kk n8 c8 s8 t8 A8 len8 cap8 (uk, un, us) HX46.out HXV6.out (HC8.out.on HB6.out) (HQ8.out.on HB6.out) HE46.out rfl rfl rfl ?_
            intro V5 p16 X7 hb7 hV16 _ _ hx16 hV17
            rw [in15_fill V5, hV16, hV17]
            obtain ⟨⟨y0, y1, y2⟩, -⟩ := HP10.out.on hb7
            obtain ⟨⟨y3, y4, y5⟩, -⟩ := HP12.out.on hb7
            obtain ⟨⟨y6, y7, y8⟩, -⟩ := HP14.out.on hb7
            obtain ⟨⟨y9, ya, yb⟩, -⟩ := hx16
            have HB7 := Lib.hid (HWD.out.trans ((HB6.out.trans (hb7.mono HB6.out.size)).mono HWD.out.size))
            clear hV16 hV17 hb7 HB6 HP10 HP12 HP14 HX46 HXV6 HE46
            go_wp2_with (go_at_call 10; refine (awake_any _ (HW.out.on HB7.out)).mono ?_; rintro e wb ⟨rfl, bb⟩; have HBB := Lib.hid (HB7.out.trans (bb.mono HB7.out.size)); clear bb)
            go_ret
            exact ⟨rfl, HBB.out⟩
    · go_wp2_with (first
        | (go_at_call 9; refine HF.out.mono ?_; rintro e wa ⟨rfl, ba⟩; obtain ⟨z0, z1, z2, z3⟩ := HX4.out.on ba; have HBA := Lib.hid (HX1.out.trans (ba.mono HX1.out.size)); have HRI := Lib.hid (right_b B A5 c5 wa (HEW.out.on ba) HFW.out); have HXA := Lib.hid (HX4.out.on ba); have HEA := Lib.hid (HEW.out.on ba); clear ba; rw [decide_eq_false hri] at HRI)
        | (go_at_call 13; refine HRI.out.mono ?_; rintro e wc ⟨rfl, bc⟩; have HBC := Lib.hid (HBA.out.trans (bc.mono HBA.out.size)); have HXC := Lib.hid (HXA.out.on bc); have HEC := Lib.hid (HEA.out.on bc); clear bc)
        | (go_at_call 10; refine (awake_any _ (HW.out.on HBC.out)).mono ?_; rintro e wb ⟨rfl, bb⟩; have HBB := Lib.hid (HBC.out.trans (bb.mono HBC.out.size)); clear bb))
      go_ret
      exact ⟨rfl, HBB.out⟩
  · rw [decide_eq_false hfew] at HF
    go_wp2_with (first
      | (go_at_call 9; refine HF.out.mono ?_; rintro e wa ⟨rfl, ba⟩; have HBA := Lib.hid (HX1.out.trans (ba.mono HX1.out.size)); clear ba)
      | (go_at_call 10; refine (awake_any _ (HW.out.on HBA.out)).mono ?_; rintro e wb ⟨rfl, bb⟩; have HBB := Lib.hid (HBA.out.trans (bb.mono HBA.out.size)); clear bb))
    go_ret
    exact ⟨rfl, HBB.out⟩
end Go.Proofs.YtbelhgdogafedaaGreatDoor
