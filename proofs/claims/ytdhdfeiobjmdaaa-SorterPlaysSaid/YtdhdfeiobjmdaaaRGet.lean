/-
  record.Get of any bytes: the row whose bytes they are, or ErrBytes. Conditions: sizes.
-/
import Derived.Test.YtdhdfeiobjmdaaaRHeadC
import Derived.Test.YtdhdfeiobjmdaaaRBackM
namespace Go.Proofs.Ytdhdfeiobjmdaaa
open Go.ChangeShapes Go.WideShapes Go.ChangeAt Go.RowKit
set_option linter.unusedVariables false

/-- the values of these sorts, one behind the other, and nothing behind them -/
def getBs : List Nat → List UInt8 → Option (List Trip)
  | [], b => if b = [] then some [] else none
  | z :: zs, b => (getB z b).bind fun p => (getBs zs p.2).map (p.1 :: ·)
theorem getBs_end {zs : List Nat} {b : List UInt8} {vs : List Trip} {i : Nat} (h : zs.length ≤ i) : addK vs (getBs (zs.drop i) b) = if b = [] then some vs else none := by
  rw [List.drop_eq_nil_of_le h, getBs]
  by_cases hb : b = []
  · simp [hb, addK]
  · simp [hb, addK]
theorem getBs_no {zs : List Nat} {b : List UInt8} {vs : List Trip} {i z : Nat} (h : zs[i]? = some z) (hp : getB z b = none) : addK vs (getBs (zs.drop i) b) = none := by
  rw [List.drop_eq_getElem_cons (List.getElem?_eq_some_iff.1 h).1, (List.getElem?_eq_some_iff.1 h).2, getBs, hp]
  rfl
theorem getBs_step {zs : List Nat} {b r : List UInt8} {vs : List Trip} {i z : Nat} {t : Trip} (h : zs[i]? = some z) (hp : getB z b = some (t, r)) : addK vs (getBs (zs.drop i) b) = addK (vs ++ [t]) (getBs (zs.drop (i + 1)) r) := by
  rw [List.drop_eq_getElem_cons (List.getElem?_eq_some_iff.1 h).1, (List.getElem?_eq_some_iff.1 h).2, getBs, hp]
  show addK vs ((getBs (zs.drop (i + 1)) r).map (t :: ·)) = _
  cases getBs (zs.drop (i + 1)) r <;> simp [addK]
theorem getHs_lt : ∀ (k : Nat) (l : List UInt8) (zs : List Nat) (r : List UInt8), getHs k l = some (zs, r) → (∀ z ∈ zs, z < 18446744073709551616) ∧ zs.length = k
  | 0, l, zs, r, h => by
    injection h with h
    injection h with h1 h2
    subst h1
    exact ⟨fun z hz => absurd hz (by simp), rfl⟩
  | k + 1, l, zs, r, h => by
    obtain ⟨⟨n1, k1, e1⟩, hd⟩ : ∃ q, decU 10 0 0 l = q := ⟨_, rfl⟩
    rw [getHs, hd] at h
    split at h
    · rename_i he
      simp only at he
      subst he
      cases hg : getHs k (l.drop k1) with
      | none => simp only at h; rw [hg] at h; cases h
      | some p =>
        simp only at h
        rw [hg] at h
        obtain ⟨ys, q⟩ := p
        injection h with h
        injection h with h1 h2
        subst h1
        obtain ⟨g1, g2⟩ := getHs_lt k _ ys q hg
        refine ⟨fun z hz => ?_, by simp [g2]⟩
        rcases List.mem_cons.1 hz with rfl | hz
        · exact (decU_len hd).2
        · exact g1 z hz
    · cases h
theorem ownU_cells {w : World} {base : Nat} {v : Value} {l : List Nat} (h : OwnU w base v l) : ∃ A c, v = .slice A l.length c ∧ l.length ≤ c ∧ c ≤ maxLen ∧ (0 < l.length → ∃ g, A = some ⟨g, 0, none⟩ ∧ g < w.heap.size ∧ ∀ (j z : Nat), l[j]? = some z → w.cell? ⟨g, j, none⟩ = some (.int .u64 (z : Int))) := by
  obtain ⟨h1, h2⟩ := h
  rcases h2 with ⟨rfl, h0⟩ | ⟨g, cap, cur, rfl, hg, hh, hc, hm, hs, ht⟩
  · exact ⟨none, 0, by rw [h0], by omega, by simp [maxLen], fun hp => by omega⟩
  · have hlt : g < w.heap.size := by
      rcases Nat.lt_or_ge g w.heap.size with hlt | hge
      · exact hlt
      · rw [Array.getElem?_eq_none hge] at hh; cases hh
    refine ⟨_, _, rfl, by omega, by omega, fun _ => ⟨g, rfl, hlt, fun j z hj => ?_⟩⟩
    have hx : (usL l)[j]? = some (.int .u64 (z : Int)) := by simp [usL, hj]
    rw [← ht] at hx
    have hjl : j < l.length := by
      rcases Nat.lt_or_ge j l.length with hlt | hge
      · exact hlt
      · rw [List.getElem?_eq_none hge] at hj; cases hj
    rw [List.getElem?_take, if_pos (by omega)] at hx
    simp only [World.cell?, hh]
    simpa using hx
theorem ownR_mono {w : World} {base base' : Nat} {v : Value} {l : List Trip} (h : OwnR w base v l) (hb : base' ≤ base) : OwnR w base' v l := by
  obtain ⟨h1, h2⟩ := h
  refine ⟨h1, ?_⟩
  rcases h2 with h2 | ⟨g, cap, cur, hv, hg, r⟩
  · exact .inl h2
  · exact .inr ⟨g, cap, cur, hv, Nat.le_trans hb hg, r⟩
def GetRelR (w : World) (A : Option Addr) (b : List UInt8) (cap : Nat) (zs : List Nat) (R : Option (List Trip)) (row rest i : Value) (wr : World) : Prop :=
  ∃ (k : Nat) (vs : List Trip) (r : List UInt8) (A1 : Option Addr) (c1 : Nat), i = .int .i64 k ∧ k ≤ zs.length ∧ vs.length = k ∧ rest = .slice A1 r.length c1 ∧ Tail A b A1 r ∧ r.length ≤ c1 ∧ c1 ≤ cap ∧ addK vs (getBs (zs.drop k) r) = R ∧ OwnR wr w.heap.size row vs ∧ Below w.heap.size w wr
set_option maxRecDepth 100000 in
set_option maxHeartbeats 1600000 in
theorem Get_none (A : Option Addr) (cap : Nat) (b : List UInt8) (w : World) (hR : Rd w w.heap.size A b) (hc : b.length ≤ cap) (hc2 : cap ≤ 9223372036854775807) (hb : b.length ≤ 1048576) (h : Hid (getH b = none)) :
    Calls Try.prog 42 #[.slice A b.length cap] w fun e w' => UnkPost w none e w' := by
  go_enter Try.func42, Try.ntmps42
  go_wp2_with fail
  refine (cutHead_any A b.length cap b w rfl hR hb hc hc2).mono ?_
  rintro e w1 hp
  rw [h.out] at hp
  obtain ⟨rfl, hb2⟩ := hp
  go_wp2_with fail
  go_ret2
  exact ⟨rfl, hb2⟩
set_option maxRecDepth 100000 in
set_option maxHeartbeats 1600000 in
theorem Get_go (A : Option Addr) (cap : Nat) (b : List UInt8) (w : World) (hR : Rd w w.heap.size A b) (hc : b.length ≤ cap) (hc2 : cap ≤ 9223372036854775807) (hb : b.length ≤ 1048576) (zs : List Nat) (r0 : List UInt8) (h : Hid (getH b = some (zs, r0))) (hz : Hid (∀ z ∈ zs, z < 18446744073709551616)) (hzl : zs.length ≤ 200) (R : Option (List Trip)) (hRR : Hid (getBs zs r0 = R)) :
    Calls Try.prog 42 #[.slice A b.length cap] w fun e w' => UnkPost w R e w' := by
  have HR := Lib.hid hR
  go_enter Try.func42, Try.ntmps42
  go_wp2_with fail
  refine (cutHead_any A b.length cap b w rfl hR hb hc hc2).mono ?_
  rintro e w1 hp
  rw [h.out] at hp
  obtain ⟨⟨v, A1, c1, rfl, ho, hx, ht⟩, hb2⟩ := hp
  obtain ⟨A2, c2, rfl, g1, g2, hcells⟩ := ownU_cells ho
  have HB1 := Lib.hid hb2
  have HT := Lib.hid ht
  have HX := Lib.hid hx
  have HC := Lib.hid hcells
  have hmk := run_makeR zs.length (by omega) w1
  have hsz1 := hb2.size
  have HB := Lib.hid (hb2.alloc hsz1 (.cells (madeCells (vv 0 0 ⟨#[]⟩).cells (zs.length * 3)) 29))
  have HO0 := Lib.hid (show OwnR (w1.alloc (.cells (madeCells (vv 0 0 ⟨#[]⟩).cells (zs.length * 3)) 29)) w1.heap.size (.slice (some ⟨w1.heap.size, 0, none⟩) 0 zs.length) [] from
    World.ownsRow_made w1 _ zs.length (Nat.le_refl _) (by simp only [maxLen]; omega) (by rw [size_madeCells]))
  have HW1 := Lib.hid ((Below.refl w1.heap.size w1).alloc (Nat.le_refl _) (.cells (madeCells (vv 0 0 ⟨#[]⟩).cells (zs.length * 3)) 29))
  clear ho hx ht hb2 hcells hR
  go_wp2_with fail
  clear hmk
  go_loopw [5, 7, 29] (fun rest row i wr => GetRelR w1 A b cap zs R row rest i wr) (fun _ _ i _ => zs.length - (intOf i).toNat)
  case atStart => exact ⟨0, [], r0, A1, c1, rfl, Nat.zero_le _, rfl, rfl, HT.out, HX.out.1, HX.out.2, by rw [← hRR.out]; simp [addK], HO0.out, HW1.out⟩
  case round =>
    obtain ⟨k, vs, r, A3, c3, rfl, hk, hvl, rfl, hta, hrc, hcc, hrel, ho, hw1⟩ := hrel
    obtain ⟨A4, c4, rfl, ho1, ho2, _⟩ := ho.form
    have HX := Lib.hid (onB HB1.out hw1)
    have HXw := Lib.hid hw1
    have HO := Lib.hid ho
    have HE := Lib.hid hrel
    have HT := Lib.hid hta
    have HV := Lib.hid hvl
    have hvs : vs.length ≤ 200 := by omega
    by_cases hlt : k < zs.length
    · obtain ⟨g, rfl, hg, hgs⟩ := HC.out (by omega)
      have hgk : zs[k]? = some zs[k] := List.getElem?_eq_getElem hlt
      have f0 := (hw1.cell (p := ⟨g, k, none⟩) hg).trans (hgs _ _ hgk)
      have HG := Lib.hid hgk
      have hzk := hz.out _ (List.mem_of_getElem? hgk)
      generalize zs[k] = z at *
      obtain ⟨Q, hQ⟩ : ∃ Q, getB z r = Q := ⟨_, rfl⟩
      have HQ := Lib.hid hQ
      clear hgs hgk hQ hta hrel ho hvl hw1
      go_wp2_with fail
      refine (cutBody_any A3 r.length c3 z r _ rfl (HT.out _ _ (HR.out.on HX.out)) hzk hrc (by omega) Q HQ).mono ?_
      rintro e w2 hp
      rcases Q with _ | ⟨⟨k1, n1, s1⟩, r1⟩
      · obtain ⟨rfl, hb2⟩ := hp
        have HN := Lib.hid (getBs_no (vs := vs) HG.out HQ.out)
        have HY := Lib.hid (onB HX.out hb2)
        have HZ := Lib.hid (fun o => HY.out.alloc (by have := HY.out.size; omega) o)
        clear hb2
        go_wp2_with fail
        go_ret2
        rw [← HE.out, HN.out]
        exact ⟨rfl, HZ.out _⟩
      · obtain ⟨⟨A5, c5, rfl, hx, ht⟩, hb2⟩ := hp
        have HN := Lib.hid (getBs_step (vs := vs) HG.out HQ.out)
        have HY := Lib.hid (onB HX.out hb2)
        have HYw := Lib.hid (onB HXw.out hb2)
        have HT3 := Lib.hid (HT.out.trans ht)
        have HX3 := Lib.hid hx
        have HO2 := Lib.hid (show OwnR w2 w1.heap.size (.slice A4 vs.length c4) vs from ownR_below HO.out hb2)
        have hsz3 : w1.heap.size ≤ w2.heap.size := HYw.out.size
        have HO3 := Lib.hid (show OwnR ((w2.alloc (cell3 k1 n1 s1)).alloc (cell3 k1 n1 s1)) w1.heap.size (.slice A4 vs.length c4) vs from ownR_below HO2.out (((Below.refl w2.heap.size w2).alloc (Nat.le_refl _) _).alloc (by simp) _))
        have HY3 := Lib.hid (show Below w1.heap.size w1 ((w2.alloc (cell3 k1 n1 s1)).alloc (cell3 k1 n1 s1)) from (HYw.out.alloc hsz3 _).alloc (by simp; omega) _)
        clear hb2 hx ht
        go_wp2_with (at_builtin; refine wpList_appR rfl (.tmp 42) (.tmp 44) rfl w1.heap.size (.slice A4 vs.length c4) vs rfl HO3.out ⟨w2.heap.size + 1, 0, none⟩ 1 [(k1, n1, s1)] 1 rfl rfl (row_cells w2 k1 n1 s1) (by simp; omega) (by simp; omega) ?_; intro v1 w3 ho3 hb3; have HO4 := Lib.hid ho3; have HY4 := Lib.hid (HY3.out.trans hb3); obtain ⟨A6, c6, rfl, _, _, _⟩ := ho3.form; clear ho3 hb3)
        go_roundw
        case rel => exact ⟨k + 1, vs ++ [(k1, n1, s1)], r1, A5, c5, by go_num, by omega, by simp [HV.out], rfl, HT3.out, HX3.out.1, by have := HX3.out.2; omega, by rw [← HN.out]; exact HE.out, by have h := HO4.out; rw [List.length_append] at h; exact h, HY4.out⟩
        case measure => simp [intOf]; omega
    · obtain rfl : k = zs.length := by omega
      have HN := Lib.hid (getBs_end (zs := zs) (b := r) (vs := vs) (Nat.le_refl _))
      clear hta hrel ho hvl hw1
      by_cases h0 : r = []
      · subst h0
        rw [if_pos rfl] at HN
        go_wp2_with fail
        go_ret2
        rw [← HE.out, HN.out]
        exact ⟨⟨_, rfl, ownR_mono HO.out HB1.out.size⟩, HX.out⟩
      · have hr0 : r.length ≠ 0 := fun e => h0 (List.eq_nil_of_length_eq_zero e)
        rw [if_neg h0] at HN
        go_wp2_with fail
        go_ret2
        rw [← HE.out, HN.out]
        exact ⟨rfl, HX.out⟩
set_option maxRecDepth 100000 in
theorem Get_long (A : Option Addr) (n cap : Nat) (w : World) (h : 1048576 < n) :
    Calls Try.prog 42 #[.slice A n cap] w fun e w' => UnkPost w none e w' := by
  go_enter Try.func42, Try.ntmps42
  go_wp2_with fail
  go_ret2
  exact ⟨rfl, Below.refl _ _⟩
/-- the row whose bytes these are -/
def getN (b : List UInt8) : Option (List Trip) := if b.length ≤ 1048576 then (getH b).bind fun p => getBs p.1 p.2 else none
theorem getH_lt {b : List UInt8} {zs : List Nat} {r : List UInt8} (h : getH b = some (zs, r)) : (∀ z ∈ zs, z < 18446744073709551616) ∧ zs.length ≤ 200 := by
  unfold getH at h
  split at h
  · rename_i hh
    obtain ⟨g1, g2⟩ := getHs_lt _ _ _ _ h
    exact ⟨g1, by omega⟩
  · cases h
theorem Get_any (A : Option Addr) (n cap : Nat) (b : List UInt8) (w : World) (hn : n = b.length) (hR : Rd w w.heap.size A b) (hc : b.length ≤ cap) (hc2 : cap ≤ 9223372036854775807) :
    Calls Try.prog 42 #[.slice A n cap] w fun e w' => UnkPost w (getN b) e w' := by
  subst hn
  by_cases hb : b.length ≤ 1048576
  · rw [getN, if_pos hb]
    cases hg : getH b with
    | none => exact Get_none A cap b w hR hc hc2 hb (Lib.hid hg)
    | some p =>
      obtain ⟨zs, r⟩ := p
      obtain ⟨g1, g2⟩ := getH_lt hg
      exact Get_go A cap b w hR hc hc2 hb zs r (Lib.hid hg) (Lib.hid g1) g2 _ (Lib.hid rfl)
  · rw [getN, if_neg hb]
    exact Get_long A b.length cap w (by omega)
end Go.Proofs.Ytdhdfeiobjmdaaa
