/-
  Layer 13, eval: the value of any expression. Conditions: sizes; calls come to something; the library's variables are as its text lays them.
-/
import Derived.Test.YteijijoiifbjlaaGreatDoorETab
namespace Go.Proofs.YteijijoiifbjlaaGreatDoor
open Go.ChangeShapes Go.WideShapes Go.ChangeAt Go.RowKit
set_option linter.unusedVariables false
set_option linter.unusedSimpArgs false
set_option maxRecDepth 100000

/-- a call of that name with so many values comes to something -/
def CallOk (g : ByteArray) (m : Nat) : Prop := ∀ ts : List Trip, ts.length = m → (∀ t ∈ ts, OkT t) → ∃ r, CallIs g ts r ∧ OkT r.1
mutual
/-- sizes that an expression has -/
def Fit : Ee → Prop
  | .mk k s t n a kids => In64 n ∧ kids.length ≤ 100000 ∧ (k = 10 → CallOk s kids.length) ∧ FitL kids
def FitL : List Ee → Prop
  | [] => True
  | e :: r => Fit e ∧ FitL r
end
theorem FitL.at : ∀ (l : List Ee) (i : Nat) (e : Ee), FitL l → l[i]? = some e → Fit e
  | [], i, e, _, h => by simp at h
  | u :: r, 0, e, hl, h => by
    obtain rfl := Option.some.inj h
    simp only [FitL] at hl
    exact hl.1
  | u :: r, i + 1, e, hl, h => by
    simp only [FitL] at hl
    exact FitL.at r i e hl.2 (by simpa using h)
/-- sizes that an Env's values have -/
def EnvT (x : EnvM) : Prop := (∀ r ∈ x.rows, ∀ t ∈ r, OkT t) ∧ (∀ t ∈ x.keys, OkT t) ∧ (∀ t ∈ x.totals, OkT t) ∧ (∀ t ∈ x.binds, OkT t)
theorem atR_ok {rs : List (List Trip)} (h : ∀ r ∈ rs, ∀ t ∈ r, OkT t) (a : Int) : ∀ t ∈ atR rs a, OkT t := by
  unfold atR
  split
  · intro t ht; cases ht
  · rw [List.getD_eq_getElem?_getD]
    cases hq : rs[a.toNat]? with
    | none => intro t ht; cases ht
    | some r => exact h r (List.mem_of_getElem? hq)
theorem getD_ok {ts : List Trip} (h : ∀ t ∈ ts, OkT t) (i : Nat) : OkT (ts.getD i nulT) := by
  rw [List.getD_eq_getElem?_getD]
  cases hq : ts[i]? with
  | none => exact okT_nul
  | some t => exact h t (List.mem_of_getElem? hq)
theorem amL_ok (a : Trip) (ha : OkT a) : ∀ (l : List Trip) (q : Trip), OkT q → (∀ t ∈ l, OkT t) → OkT (amL a q l).1
  | [], q, hq, _ => by simp only [amL]; exact hq
  | t :: r, q, hq, h => by
    simp only [amL]
    split
    · exact amL_ok a ha r _ (opX_ok _ hq (opX_ok _ ha (h t List.mem_cons_self))) fun u hu => h u (List.mem_cons_of_mem _ hu)
    · exact okT_nul
theorem toldX_ok (x : EnvM) (hx : EnvT x) (k : Int) (s : ByteArray) (n a : Int) (ts : List Trip) (hn : In64 n) (hk : (k = 3 ∨ k = 4) → s.size ≤ 65536) (h : ∀ t ∈ ts, OkT t) : OkT (toldX x k s n a ts).1 := by
  unfold toldX
  by_cases h1 : k = 1
  · rw [if_pos h1]; exact okT_nul
  rw [if_neg h1]
  by_cases h2 : k = 2
  · rw [if_pos h2]; exact okT_int hn
  rw [if_neg h2]
  by_cases h3 : k = 3
  · rw [if_pos h3]; exact ⟨show In64 0 by decide, hk (.inl h3)⟩
  rw [if_neg h3]
  by_cases h4 : k = 4
  · rw [if_pos h4]; exact ⟨show In64 0 by decide, hk (.inr h4)⟩
  rw [if_neg h4]
  by_cases h5 : k = 5
  · rw [if_pos h5]; exact atT_ok hx.2.2.2 n
  rw [if_neg h5]
  by_cases h6 : k = 15
  · rw [if_pos h6]; exact atT_ok hx.2.1 n
  rw [if_neg h6]
  by_cases h7 : k = 14
  · rw [if_pos h7]; exact atT_ok hx.2.2.1 n
  rw [if_neg h7]
  by_cases h8 : k = 13
  · rw [if_pos h8]; exact atT_ok (atR_ok hx.1 a) n
  rw [if_neg h8]
  by_cases h9 : k = 7
  · rw [if_pos h9]
    by_cases hl : ts.length = 1
    · rw [if_pos hl]; exact oneX_ok _ (getD_ok h 0)
    · rw [if_neg hl]; exact opX_ok _ (getD_ok h 0) (getD_ok h 1)
  rw [if_neg h9]
  by_cases h10 : k = 8
  · rw [if_pos h10]; exact okT_flag _
  rw [if_neg h10]
  by_cases h11 : k = 9
  · rw [if_pos h11]
    have h1 : OkT (amL (ts.getD 0 nulT) (flagT false) ts.tail).1 := amL_ok _ (getD_ok h 0) _ _ (okT_flag false) fun t ht => h t (List.mem_of_mem_tail ht)
    unfold amX
    generalize amL (ts.getD 0 nulT) (flagT false) ts.tail = q at h1
    show OkT (if q.2 = 0 then (if n = 1 then oneX sNot q.1 else q) else q).1
    by_cases e1 : q.2 = 0
    · rw [if_pos e1]
      by_cases e2 : n = 1
      · rw [if_pos e2]; exact oneX_ok _ h1
      · rw [if_neg e2]; exact h1
    · rw [if_neg e1]; exact h1
  rw [if_neg h11]
  by_cases h12 : k = 10
  · rw [if_pos h12]; exact callX_ok _ _
  · rw [if_neg h12]; exact castX_ok _ (getD_ok h 0)
theorem evL_ok_of (x : EnvM) : ∀ (l : List Ee), (∀ e ∈ l, OkT (evX x e).1) → ∀ t ∈ (evL x l).1, OkT t
  | [], _ => by simp [evL]
  | e :: r, h => by
    simp only [evL]
    split
    · intro t ht
      rcases List.mem_cons.1 ht with rfl | ht
      · exact h e List.mem_cons_self
      · exact evL_ok_of x r (fun u hu => h u (List.mem_cons_of_mem _ hu)) t ht
    · intro t ht; cases ht
theorem sizeOf_mem {e : Ee} : ∀ {l : List Ee}, e ∈ l → SizeOf.sizeOf e < SizeOf.sizeOf l := fun h => List.sizeOf_lt_of_mem h
theorem fit_mem : ∀ (l : List Ee), FitL l → ∀ e ∈ l, Fit e := fun l h e he => by
  obtain ⟨i, hi, rfl⟩ := List.mem_iff_getElem.1 he
  exact FitL.at l i _ h (List.getElem?_eq_getElem hi)
theorem evX_ok_n (x : EnvM) (hx : EnvT x) : ∀ (m : Nat) (e : Ee), SizeOf.sizeOf e ≤ m → Fit e → OkT (evX x e).1 := by
  intro m
  induction m with
  | zero => intro e he; cases e; simp at he
  | succ m ih =>
    intro e he hf
    obtain ⟨k, s, t, n, a, kids⟩ := e
    simp only [Fit] at hf
    obtain ⟨f1, f2, f3, f4⟩ := hf
    simp only [Ee.mk.sizeOf_spec] at he
    simp only [evX]
    split
    · rename_i hmb
      split
      · refine toldX_ok x hx k s n a _ f1 (fun h => ?_) (evL_ok_of x kids fun e hm => ih e (by have := sizeOf_mem hm; omega) (fit_mem kids f4 e hm))
        unfold mayB at hmb
        rw [if_neg (by omega), if_pos h] at hmb
        exact of_decide_eq_true hmb
      · exact okT_nul
    · exact okT_nul
theorem evX_ok {x : EnvM} (hx : EnvT x) {e : Ee} (hf : Fit e) : OkT (evX x e).1 := evX_ok_n x hx _ e (Nat.le_refl _) hf

/-- the closure that evaluates, in its box, beside the box of the kinds -/
def KE (x : EnvM) (W : World) (p1 p2 : Nat) : Prop :=
  W.cell? ⟨p1, 0, none⟩ = some (.func (.func 32) #[] #[.pointer (some ⟨p1, 0, none⟩), .pointer (some ⟨p2, 0, none⟩)]) ∧ ∃ M, W.cell? ⟨p2, 0, none⟩ = some (.map (some M)) ∧ KTab x W M
theorem KE.on {x : EnvM} {W W' : World} {p1 p2 : Nat} (h : KE x W p1 p2) (hb : Below W.heap.size W W') : KE x W' p1 p2 := by
  obtain ⟨h1, M, h2, h3⟩ := h
  exact ⟨(hb.cell (p := ⟨p1, 0, none⟩) (block_lt_of_cell h1)).trans h1, M, (hb.cell (p := ⟨p2, 0, none⟩) (block_lt_of_cell h2)).trans h2, h3.on hb⟩
/-- the closure tells the value -/
def EvIs (x : EnvM) (e : Ee) : Prop := ∀ (W : World) (p1 p2 : Nat) (v : Value), Wd W → KE x W p1 p2 → ExV W e v →
  Calls Tryz.prog 32 #[v, .pointer (some ⟨p1, 0, none⟩), .pointer (some ⟨p2, 0, none⟩)] W (RetV (vT (evX x e).1) (evX x e).2 W)
theorem enters_ev : ∀ (args : Array Value) (W : World), (callFunc 32 args).run Tryz.prog W = .ok (.enter 32 args) W := enters_of Tryz.func32 (by kernel_rfl) rfl
def EvRel (x : EnvM) (kids : List Ee) (w1 : World) (v6 v18 : Value) (wr : World) : Prop :=
  ∃ (i : Nat) (ts : List Trip), i ≤ kids.length ∧ v18 = .int .i64 (i : Int) ∧ evL x (kids.take i) = (ts, 0) ∧ OwnT wr w1.heap.size v6 ts ∧ Below w1.heap.size w1 wr ∧ w1.heap.size ≤ wr.heap.size
set_option maxHeartbeats 4000000 in
theorem ev_step (x : EnvM) (hxo : EnvOk x) (k : Int) (s t : ByteArray) (n a : Int) (kids : List Ee) (hf : Fit (.mk k s t n a kids)) (hxt : ∀ e ∈ kids, OkT (evX x e).1) (hk : ∀ e ∈ kids, EvIs x e) : EvIs x (.mk k s t n a kids) := by
  intro w p1 p2 v hW hKE hv
  simp only [ExV] at hv
  obtain ⟨A, cap, rfl, hcap, hE⟩ := hv
  simp only [Fit] at hf
  obtain ⟨f1, f2, f3, f4⟩ := hf
  obtain ⟨w1, hw1⟩ : ∃ X, wE w k s t n a A kids.length cap = X := ⟨_, rfl⟩
  have hCe : ∀ X, Below w1.heap.size w1 X → ECell X w.heap.size 0 k s t n a A kids.length cap := fun X h => by subst hw1; exact wE_cells w k s t n a A kids.length cap X h
  have hO : ∀ X, Below w1.heap.size w1 X → BoxF (w.heap.size + 1) nulT X := fun X h => by
    subst hw1
    obtain ⟨a0, a1, a2, a3, a4, a5⟩ := wE_out w k s t n a A kids.length cap X h
    exact ⟨⟨a0, a1, a2⟩, a3, a4, a5⟩
  have hB1 : Below w.heap.size w w1 := by subst hw1; exact wE_below w k s t n a A kids.length cap
  have hs1 : w1.heap.size = w.heap.size + 2 := by subst hw1; exact wE_size w k s t n a A kids.length cap
  obtain ⟨⟨⟨rk, rn, rs⟩, er⟩, hM⟩ : ∃ R, evX x (.mk k s t n a kids) = R := ⟨_, rfl⟩
  rw [hM]
  simp only [evX] at hM
  have HM := Lib.hid hM
  have HMB := Lib.hid (fun W => mayBe_any k s t n a A kids.length cap W)
  have HWD := Lib.hid hW
  have HKE := Lib.hid hKE
  have HE := Lib.hid hE
  have HCE := Lib.hid hCe
  have HO := Lib.hid hO
  have HB1 := Lib.hid hB1
  have HS1 := Lib.hid hs1
  have HF3 := Lib.hid f3
  have HFL := Lib.hid f4
  have HK := Lib.hid hk
  obtain ⟨c0, c1, c2, c3, c4, c5⟩ := hCe w1 (Below.refl _ _)
  simp only [Nat.zero_add] at c0 c1 c2 c3 c4 c5
  clear hM hW hKE hE hCe hO hB1 hs1 f3 f4 hk
  cases hmb : mayB k s n kids.length
  · have hm : ((0, 0, ⟨#[]⟩), 130) = (((rk, rn, rs), er) : Rv) := by rw [← HM.out, if_neg (by rw [hmb]; exact Bool.false_ne_true)]
    obtain ⟨h1, rfl⟩ := Prod.mk.inj hm
    obtain ⟨rfl, h2⟩ := Prod.mk.inj h1
    obtain ⟨rfl, rfl⟩ := Prod.mk.inj h2
    clear hm h1 h2
    go_enter Tryz.func32, Tryz.ntmps32
    go_wp2_with (go_at_call 24; refine (HMB.out _).mono ?_; rintro e wa ⟨rfl, ba⟩; rw [hmb]; have HBA := Lib.hid ba; obtain ⟨⟨z0, z1, z2⟩, g0, g1, g2⟩ := HO.out wa ba; have hz4 : w.heap.size + 1 < wa.heap.size := block_lt_of_cell z0; clear ba)
    exact bodyPost_ret (v := .tuple #[nul, .int .i64 130]) (by simp [results, Tryz.results32, go_sem, z0, z1, z2]) rfl ⟨rfl, (((HB1.out.trans (HBA.out.mono HB1.out.size)).setCell (by show w.heap.size ≤ w.heap.size + 1; omega) _).setCell (by show w.heap.size ≤ w.heap.size + 1; omega) _).setCell (by show w.heap.size ≤ w.heap.size + 1; omega) _⟩
  · have hm := HM.out
    rw [if_pos hmb] at hm
    have HM := Lib.hid hm
    have HMK := Lib.hid hmb
    clear hm
    go_enter Tryz.func32, Tryz.ntmps32
    go_wp2_with (go_at_call 24; refine (HMB.out _).mono ?_; rintro e wa ⟨rfl, ba⟩; rw [HMK.out]; have HBA := Lib.hid ba; clear c0 c1 c2 c3 c4 c5; obtain ⟨c0, c1, c2, c3, c4, c5⟩ := HCE.out wa ba; simp only [Nat.zero_add] at c0 c1 c2 c3 c4 c5; clear ba)
    clear c0 c1 c2 c3 c4 c5
    go_loopw [6, 18] (fun v6 v18 wr => EvRel x kids w1 v6 v18 wr) (fun _ v18 _ => kids.length - (intOf v18).toNat)
    case atStart => exact ⟨0, [], Nat.zero_le _, rfl, by simp [evL], OwnT.nil _ _, HBA.out, HBA.out.size⟩
    case round =>
      obtain ⟨i, ts, hi, rfl, hts, hown, hb, hz⟩ := hrel
      have HBW := Lib.hid (HB1.out.trans (hb.mono HB1.out.size))
      have HB := Lib.hid hb
      have HOW := Lib.hid hown
      have HTS := Lib.hid hts
      clear hb hown hts
      by_cases hlt : i < kids.length
      · obtain ⟨e0, he⟩ : ∃ e0, kids[i]? = some e0 := ⟨_, List.getElem?_eq_getElem hlt⟩
        have HEV := Lib.hid (HK.out e0 (List.mem_of_getElem? he))
        have HAT := Lib.hid (evL_at x kids i e0 he (by rw [HTS.out]))
        have HOKE := Lib.hid (hxt e0 (List.mem_of_getElem? he))
        obtain ⟨p, o, rfl, k', s', t', n', a', A', kids', cap', he0, hc, hcp, hkk⟩ := (HE.out.on HBW.out).at kids _ i e0 he
        obtain ⟨y0, y1, y2, y3, y4, y5⟩ := hc
        have HKK := Lib.hid hkk
        have HI := Lib.hid hlt
        have q1 : (i : Int) < (kids.length : Int) := by omega
        have q2 : (0 : Int) ≤ (i : Int) := by omega
        have q3 : kids.length ≤ 100000 := f2
        clear he hlt hkk
        go_upto_region 7 with (fail)
        obtain ⟨w3, hw3⟩ : ∃ X, wr.alloc (.cells #[.int .u8 k', .string s', .string t', .int .i64 n', .int .i64 a', .slice A' kids'.length cap'] 25) = X := ⟨_, rfl⟩
        have hal : Below wr.heap.size wr w3 := by rw [← hw3]; exact (Below.refl _ _).alloc (Nat.le_refl _) _
        have hc8 : ECell w3 wr.heap.size 0 k' s' t' n' a' A' kids'.length cap' := by
          rw [← hw3]
          refine ⟨?_, ?_, ?_, ?_, ?_, ?_⟩ <;> simp [go_sem]
        rw [hw3]
        have HB3 := Lib.hid (HBW.out.trans (hal.mono HBW.out.size))
        have HB13 := Lib.hid (HB.out.trans (hal.mono hz))
        have hke3 := HKE.out.on HB3.out
        have hg1 := hke3.1
        have HC := Lib.hid (HEV.out w3 p1 p2 (exprV k' s' t' n' a' A' kids'.length cap') (HWD.out.on HB3.out) hke3 (by rw [he0]; simp only [ExV]; exact ⟨A', cap', rfl, hcp, HKK.out.on hal⟩))
        obtain ⟨⟨⟨ek, en, es⟩, ee⟩, hr⟩ : ∃ r, evX x e0 = r := ⟨_, rfl⟩
        rw [hr] at HC HAT HOKE
        obtain ⟨d0, d1, d2, d3, d4, d5⟩ := hc8
        simp only [Nat.zero_add] at d0 d1 d2 d3 d4 d5
        have HOW3 := Lib.hid (HOW.out.onB hal)
        have hE3 := enters_ev
        clear hw3 hr hal hke3 HOW HKK HEV hcp he0 y0 y1 y2 y3 y4 y5
        by_cases h0 : ee = 0
        · subst h0
          rw [if_pos rfl] at HAT
          go_upto_region 10 with ((with_reducible refine HC.out.mono ?_); rintro e wb ⟨rfl, bb⟩; have HB4 := Lib.hid (HB3.out.trans (bb.mono HB3.out.size)); have HB14 := Lib.hid (HB13.out.trans (bb.mono HB13.out.size)); have HOW4 := Lib.hid (HOW3.out.onB bb); clear bb)
          obtain ⟨w4, hw4⟩ : ∃ X, wb.alloc (.cells #[.int .u8 ek, .int .i64 en, .string es] 38) = X := ⟨_, rfl⟩
          have hal4 : Below wb.heap.size wb w4 := by rw [← hw4]; exact (Below.refl _ _).alloc (Nat.le_refl _) _
          have hb9 : BoxF wb.heap.size (ek, en, es) w4 := by rw [← hw4]; exact BoxF.new wb ek en es
          rw [hw4]
          obtain ⟨⟨b0, b1, b2⟩, -⟩ := hb9
          have HB5 := Lib.hid (HB4.out.trans (hal4.mono HB4.out.size))
          have HB15 := Lib.hid (HB14.out.trans (hal4.mono HB14.out.size))
          have HOW5 := Lib.hid (HOW4.out.onB hal4)
          have HLN : Hid (ts.length ≤ i) := Lib.hid (by
            have := evL_len x (kids.take i) (by rw [HTS.out])
            rw [HTS.out, List.length_take] at this
            have h2 : ts.length = min i kids.length := this
            omega)
          have hz5 : w1.heap.size ≤ w4.heap.size := HB15.out.size
          clear hw4 hal4 HB4 HB14 HOW4 HC HOW3 HB3 HB13
          go_wp2_with (at_builtin; refine wpList_appT rfl (.tmp 32) (.tmp 34) rfl w1.heap.size _ _ [(ek, en, es)] rfl (HOW5.out.alloc _) ⟨w4.heap.size, 0, none⟩ 1 rfl (SrcT.one w4 (ek, en, es)) (by have := HLN.out; simp only [List.length_cons, List.length_nil]; omega) (Nat.le_trans hz5 (by simp)) ?_; intro v6 w6 HO6 HB6 HK6)
          have hsz6 : w4.heap.size ≤ w6.heap.size := by have := HB6.out.size; simp at this; omega
          have hrel2 : EvRel x kids w1 v6 (.int .i64 ((i : Int) + 1)) w6 :=
            ⟨i + 1, ts ++ [(ek, en, es)], HI.out, rfl, by rw [HAT.out, HTS.out], HO6.out, (HB15.out.trans ((Below.refl _ _).alloc hz5 _)).trans HB6.out, Nat.le_trans hz5 hsz6⟩
          exact ⟨hrel2, by
            have := HI.out
            simp [intOf]
            omega⟩
        · have e0 : (ee != 0) = true := by simpa using h0
          have e1 : (ee == 0) = false := by simpa using h0
          rw [if_neg h0] at HAT
          have hst := evL_stop x kids (i + 1) (by rw [HAT.out]; exact h0)
          rw [HAT.out] at hst
          have hm := HM.out
          rw [if_neg (by rw [hst]; exact h0), hst] at hm
          obtain ⟨h1, rfl⟩ := Prod.mk.inj hm
          obtain ⟨rfl, h2⟩ := Prod.mk.inj h1
          obtain ⟨rfl, rfl⟩ := Prod.mk.inj h2
          clear hm h1 h2 hst HM HAT h0
          go_upto_region 9 with ((with_reducible refine HC.out.mono ?_); rintro e wb ⟨rfl, bb⟩; have HB4 := Lib.hid (HB3.out.trans (bb.mono HB3.out.size)); have HB14 := Lib.hid (HB13.out.trans (bb.mono HB13.out.size)); clear bb)
          obtain ⟨w4, hw4⟩ : ∃ X, wb.alloc (.cells #[.int .u8 ek, .int .i64 en, .string es] 38) = X := ⟨_, rfl⟩
          have hal4 : Below wb.heap.size wb w4 := by rw [← hw4]; exact (Below.refl _ _).alloc (Nat.le_refl _) _
          rw [hw4]
          have HB5 := Lib.hid (HB4.out.trans (hal4.mono HB4.out.size))
          obtain ⟨⟨z0, z1, z2⟩, g0, g1, g2⟩ := HO.out w4 (HB14.out.trans (hal4.mono HB14.out.size))
          have hz4 : w.heap.size + 1 < w4.heap.size := block_lt_of_cell z0
          clear hw4 hal4 HB4 HB14
          go_wp2_with fail
          exact bodyPost_ret (v := .tuple #[nul, .int .i64 ee]) (by simp [results, Tryz.results32, go_sem, z0, z1, z2]) rfl ⟨rfl, ((HB5.out.setCell (by show w.heap.size ≤ w.heap.size + 1; omega) _).setCell (by show w.heap.size ≤ w.heap.size + 1; omega) _).setCell (by show w.heap.size ≤ w.heap.size + 1; omega) _⟩
      · obtain rfl : i = kids.length := by omega
        have hts2 := HTS.out
        rw [List.take_length] at hts2
        have hlen : ts.length = kids.length := by
          have := evL_len x kids (by rw [hts2])
          rw [hts2] at this
          exact this
        have hok : ∀ t ∈ ts, OkT t := by
          have := evL_ok_of x kids hxt
          rw [hts2] at this
          exact this
        have hm := HM.out
        rw [hts2, if_pos rfl] at hm
        obtain ⟨B, c, rfl, hc1, hc2, hR⟩ := HOW.out.form
        have hke := HKE.out.on HBW.out
        obtain ⟨hg1, M, hg2, hT⟩ := hke
        obtain ⟨es, ix, g, lb, hmM, hfi, hEn, hTell⟩ := kind_at hT s t n a A kids.length cap B c ts k (by rw [hlen]; exact HMK.out) hxo hR (by omega) hc1 hok (fun hk10 => callX_is (HF3.out hk10 ts hlen hok)) (HWD.out.on HBW.out)
        have hm' : toldX x k s n a ts = ((rk, rn, rs), er) := hm
        rw [hm'] at hTell
        unfold TellK at hTell
        rw [hlen] at hTell
        have HTL := Lib.hid hTell
        obtain ⟨c0, c1, c2, c3, c4, c5⟩ := HCE.out wr HB.out
        simp only [Nat.zero_add] at c0 c1 c2 c3 c4 c5
        have q1 : ¬ ((kids.length : Int) < (kids.length : Int)) := by omega
        clear hlt hts2 hok hm hm' hR hg1 hT hTell HM
        go_wp2_with (first
          | (refine wpList_lookK _ rfl _ _ rfl M es 13 k ix _ rfl rfl hmM hfi ?_)
          | ((with_reducible refine HTL.out.mono ?_); rintro e wb ⟨rfl, bb⟩; have HBB := Lib.hid bb; obtain ⟨⟨z0, z1, z2⟩, g0, g1, g2⟩ := HO.out wb (HB.out.trans (bb.mono HB.out.size)); have hz4 : w.heap.size + 1 < wb.heap.size := block_lt_of_cell z0; clear bb))
        exact bodyPost_ret (v := .tuple #[vv rk rn rs, .int .i64 er]) (by simp [results, Tryz.results32, go_sem, z0, z1, z2]) rfl ⟨rfl, (((HBW.out.trans (HBB.out.mono HBW.out.size)).setCell (by show w.heap.size ≤ w.heap.size + 1; omega) _).setCell (by show w.heap.size ≤ w.heap.size + 1; omega) _).setCell (by show w.heap.size ≤ w.heap.size + 1; omega) _⟩
/-- the closure tells the value of any expression -/
theorem ev_allP (x : EnvM) (hxo : EnvOk x) (P : Ee → Prop) (hP : ∀ k s t n a kids, P (.mk k s t n a kids) → ∀ e ∈ kids, P e ∧ OkT (evX x e).1) : ∀ (m : Nat) (e : Ee), SizeOf.sizeOf e ≤ m → Fit e → P e → EvIs x e := by
  intro m
  induction m with
  | zero => intro e he; cases e; simp at he
  | succ m ih =>
    intro e he hf hp
    obtain ⟨k, s, t, n, a, kids⟩ := e
    have hf' := hf
    simp only [Fit] at hf'
    simp only [Ee.mk.sizeOf_spec] at he
    exact ev_step x hxo k s t n a kids hf (fun e hm => (hP k s t n a kids hp e hm).2) fun e hm => ih e (by have := sizeOf_mem hm; omega) (fit_mem kids hf'.2.2.2 e hm) (hP k s t n a kids hp e hm).1
theorem ev_all (x : EnvM) (hxo : EnvOk x) (hxt : EnvT x) (m : Nat) (e : Ee) (he : SizeOf.sizeOf e ≤ m) (hf : Fit e) : EvIs x e :=
  ev_allP x hxo Fit (fun k s t n a kids h e hm => by
    simp only [Fit] at h
    have := fit_mem kids h.2.2.2 e hm
    exact ⟨this, evX_ok hxt this⟩) m e he hf hf
end Go.Proofs.YteijijoiifbjlaaGreatDoor
