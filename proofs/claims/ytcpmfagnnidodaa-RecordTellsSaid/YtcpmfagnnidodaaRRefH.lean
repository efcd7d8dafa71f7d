/-
  The document's own Get (layer 3, record). Conditions: at most 3000 bytes.
-/
import Derived.Test.YtcpmfagnnidodaaRRefM
import Derived.Test.YtcpmfagnnidodaaRRefP
import Derived.StillTailTactics
import Derived.IntWalk
import Derived.Deep.RegionHeld3
namespace Go.Proofs.Ytcpmfagnnidodaa
open Go.ChangeShapes Go.WideShapes Go.ChangeAt Go.RowKit
set_option linter.unusedVariables false

/-- the loop over the sorts -/
def SortsRel (b : List UInt8) (n : Nat) (w : World) (p v i : Value) (wr : World) : Prop :=
  ∃ (zs : List Nat) (q : Nat), zs.length ≤ n ∧ i = .int .i64 zs.length ∧ p = .int .i64 q ∧ q ≤ b.length ∧ C1 b n zs q ∧ (∀ z ∈ zs, z ≤ 2 * b.length + 11) ∧ OwnU wr w.heap.size v zs ∧ Below w.heap.size w wr

theorem row_cells1 (X : World) (k n : Int) (s : ByteArray) : ∀ j u, (cellsL [(k, n, s)])[j]? = some u → (X.alloc (cell3 k n s)).cell? ((⟨X.heap.size, 0, none⟩ : Addr).add j) = some u := by
  intro j u h
  rcases j with _ | _ | _ | j
  · simp [cellsL] at h; subst h; simp [Addr.add, go_sem]
  · simp [cellsL] at h; subst h; simp [Addr.add, go_sem]
  · simp [cellsL] at h; subst h; simp [Addr.add, go_sem]
  · simp [cellsL] at h
theorem foldR_64 : ∀ (l : List UInt8) (a : Int), 0 < l.length → In64 (l.foldl stepR a)
  | [c], a, _ => by
    show In64 (stepR a c)
    exact wrap64_64 _
  | c :: d :: l, a, _ => by
    rw [List.foldl_cons]
    exact foldR_64 (d :: l) _ (by simp)
def goodT (t : Trip) : Prop := Rt t.1 t.2.1 t.2.2 ∧ In64 t.2.1 ∧ t.2.2.size ≤ 3000
theorem bodiesL_le : ∀ vs : List Trip, (∀ t ∈ vs, goodT t) → (bodiesL vs).length ≤ 3000 * vs.length
  | [], _ => by simp [bodiesL]
  | (k, n, s) :: vs, h => by
    have ih := bodiesL_le vs (fun t ht => h t (List.mem_cons_of_mem _ ht))
    have h1 := (h (k, n, s) List.mem_cons_self).2.2
    have h2 : (bodyL k n s).length ≤ 3000 := by
      unfold bodyL
      split
      · rw [beN_length]; have := (lenF_range 7 n).2; unfold lenI; omega
      · show s.data.toList.length ≤ 3000
        rw [Array.length_toList]
        exact h1
    simp only [bodiesL, List.length_append, List.length_cons]
    omega
/-- the loop over the values -/
def ValsRel (b : List UInt8) (zs : List Nat) (w : World) (p v i : Value) (wr : World) : Prop :=
  ∃ (rs : List Trip) (q : Nat), rs.length ≤ zs.length ∧ i = .int .i64 rs.length ∧ p = .int .i64 q ∧ q ≤ b.length ∧ C2 b zs rs q ∧ (∀ t ∈ rs, goodT t) ∧ OwnR wr w.heap.size v rs ∧ Below w.heap.size w wr
/-- the loop over the bytes of a number -/
def NumRelR (b : List UInt8) (q k : Nat) (w : World) (i : Value) (wr : World) : Prop :=
  ∃ j : Nat, j ≤ k ∧ i = .int .i64 j ∧ Below w.heap.size w wr ∧ w.heap.size < wr.heap.size ∧ wr.cell? ⟨w.heap.size, 0, none⟩ = some (.int .u8 1) ∧ wr.cell? ⟨w.heap.size, 1, none⟩ = some (.int .i64 (((b.drop q).take j).foldl stepR (startR (b.drop q)))) ∧ wr.cell? ⟨w.heap.size, 2, none⟩ = some (.string ⟨#[]⟩) ∧ wr.frozen? ⟨w.heap.size, 1, none⟩ = false

set_option maxRecDepth 100000 in
set_option maxHeartbeats 4000000 in
theorem refGet_any (A : Option Addr) (cap : Nat) (b : List UInt8) (w : World) (hR : Rd w w.heap.size A b) (hc : b.length ≤ cap) (hc2 : cap ≤ 9223372036854775807) (hb : b.length ≤ 3000) :
    Calls Try.prog 34 #[.slice A b.length cap] w fun e w' => UnkPost w (getN b) e w' := by
  have HU := Lib.hid (refGetUint_any A cap b 0 w (by omega) hR)
  obtain ⟨hu1, hu2, hu3⟩ := uintAt_lt b 0
  have HBAD := Lib.hid (fun h => none_of (first_bad (b := b) h))
  have hz := C1_zero (b := b) (n := (uintAt b 0).1) (p := (uintAt b 0).2.1)
  generalize hr : uintAt b 0 = r at *
  have HR := Lib.hid hr
  obtain ⟨n, p, e0⟩ := r
  simp only at hu1 hu2 hu3 hz
  clear hr
  by_cases hbad : e0 ≠ 0 ∨ 200 < n
  · have HN := Lib.hid (HBAD.out hbad)
    rw [HN.out]
    clear hz
    by_cases h0 : e0 = 0
    · subst h0
      have t1 : decide ((200 : Int) < n) = true := decide_eq_true (by omega)
      clear hbad
      go_enter Try.func34, Try.ntmps34
      go_wp2_with fail
      refine HU.out.mono ?_
      rintro e w1 ⟨rfl, hb1⟩
      go_wp2_with fail
      go_ret2
      exact ⟨rfl, hb1⟩
    · have hne := neqI e0 h0
      clear hbad
      go_enter Try.func34, Try.ntmps34
      go_wp2_with fail
      refine HU.out.mono ?_
      rintro e w1 ⟨rfl, hb1⟩
      go_wp2_with fail
      go_ret2
      exact ⟨rfl, hb1⟩
  · obtain rfl : e0 = 0 := by omega
    have hn : n ≤ 200 := by omega
    have t1 : decide ((200 : Int) < n) = false := decide_eq_false (by omega)
    have hlen : decide ((1048576 : Int) < b.length) = false := decide_eq_false (by omega)
    have HZ := Lib.hid (hz rfl)
    clear hz hbad HBAD hu1
    go_enter Try.func34, Try.ntmps34
    go_wp2_with fail
    refine HU.out.mono ?_
    rintro e w1 ⟨rfl, hb1⟩
    go_wp2_with fail
    go_loopw [5, 7, 8] (fun p v i wr => SortsRel b n w p v i wr) (fun _ _ i _ => n - (intOf i).toNat)
    case atStart => exact ⟨[], p, by simp, rfl, rfl, hu2, HZ.out, by simp, World.ownsRow_nil _ _ _ _, hb1⟩
    case round =>
      obtain ⟨zs, q, hzn, rfl, rfl, hq, hC, hzb, ho, hbw⟩ := hrel
      by_cases hlt : zs.length < n
      · have HU1 := Lib.hid (refGetUint_any A cap b q wr (by omega) ((hR.below hbw).more hbw.size))
        obtain ⟨hv1, hv2, hv3⟩ := uintAt_lt b q
        have HBAD := Lib.hid (fun h => none_of (C1_bad hC hlt h))
        have HST := Lib.hid (fun k q' h => C1_step (k := k) (q := q') hC hlt h)
        have HO := Lib.hid ho
        have HBW := Lib.hid hbw
        have HZB := Lib.hid hzb
        have hsw := hbw.size
        generalize hr : uintAt b q = r at *
        have HR1 := Lib.hid hr
        obtain ⟨k, q', e1⟩ := r
        simp only at hv1 hv2 hv3
        clear hr ho hbw hC hzb
        have hzi : (zs.length : Int) < n := by omega
        by_cases h0 : e1 = 0
        · subst h0
          by_cases hk : 2 * b.length + 11 < k
          · have HN := Lib.hid (HBAD.out (.inr hk))
            have t2 : decide ((2 * (b.length : Int) + 11) < k) = true := decide_eq_true (by omega)
            clear HBAD HST
            go_wp2_with fail
            refine HU1.out.mono ?_
            rintro e w2 ⟨rfl, hb2⟩
            go_wp2_with fail
            go_ret2
            rw [HN.out]
            exact ⟨rfl, HBW.out.trans (hb2.mono hsw)⟩
          · have t2 : decide ((2 * (b.length : Int) + 11) < k) = false := decide_eq_false (by omega)
            have HST2 := Lib.hid (HST.out k q' rfl)
            clear HBAD HST
            go_wp2_with fail
            refine HU1.out.mono ?_
            rintro e w2 ⟨rfl, hb2⟩
            have hs2 := hb2.size
            have HB2 := Lib.hid (HBW.out.trans (hb2.mono hsw))
            have HO2 := Lib.hid (show OwnU w2 w.heap.size u7 zs from by
              obtain ⟨h3, h4⟩ := HO.out
              refine ⟨h3, ?_⟩
              rcases h4 with h4 | ⟨g, cp, cur, hv, hg, hh, r⟩
              · exact .inl h4
              · have hlt : g < wr.heap.size := by
                  rcases Nat.lt_or_ge g wr.heap.size with hlt | hge
                  · exact hlt
                  · rw [Array.getElem?_eq_none hge] at hh; cases hh
                exact .inr ⟨g, cp, cur, hv, hg, (hb2.block g hlt).trans hh, r⟩)
            clear hb2
            go_wp2_with (at_builtin; refine wpList_appU rfl (.tmp 60) (.tmp 62) rfl w.heap.size u7 zs rfl HO2.out k rfl (by omega) (by omega) ?_; intro v3 w3 ho3 hb3; have HO3 := Lib.hid ho3; have HB3 := Lib.hid (HB2.out.trans hb3); clear ho3 hb3)
            go_roundw
            case rel => exact ⟨zs ++ [k], q', by simp; omega, by simp, rfl, hv2, HST2.out, by intro z hz; rcases List.mem_append.1 hz with hz | hz; exact HZB.out z hz; (have : z = k := by simpa using hz); omega, HO3.out, HB3.out⟩
            case measure => simp [intOf]; omega
        · have HN := Lib.hid (HBAD.out (.inl h0))
          have hne := neqI e1 h0
          clear HBAD HST
          go_wp2_with fail
          refine HU1.out.mono ?_
          rintro e w2 ⟨rfl, hb2⟩
          go_wp2_with fail
          go_ret2
          rw [HN.out]
          exact ⟨rfl, HBW.out.trans (hb2.mono hsw)⟩
      · have hzl : zs.length = n := by omega
        have HC2 := Lib.hid (C2_zero hC hzl)
        have hzl1 : zs.length ≤ n := by omega
        have hzl2 : n ≤ zs.length := by omega
        clear hzl
        obtain ⟨A7, c7, rfl, g1, g2, hcells⟩ := ownU_cells ho
        have HZB := Lib.hid hzb
        have HCL := Lib.hid hcells
        have HBW := Lib.hid hbw
        have hsw := hbw.size
        clear ho hC hzb hcells hbw
        go_wp2_with fail
        obtain ⟨wo, rfl⟩ : ∃ wo : World, wo = wr := ⟨_, rfl⟩
        go_loopw [5, 12, 13] (fun p v i wr => ValsRel b zs wo p v i wr) (fun _ _ i _ => zs.length - (intOf i).toNat)
        case atStart => exact ⟨[], q, by simp, rfl, rfl, hq, HC2.out, by simp, World.ownsRow_nil _ _ _ _, Below.refl _ _⟩
        case round =>
          clear hq HC2
          obtain ⟨rs, q, hrz, rfl, rfl, hq, hC, hgood, ho, hbv⟩ := hrel
          have hsv := hbv.size
          have HBV := Lib.hid hbv
          have HALL := Lib.hid (HBW.out.trans (hbv.mono hsw))
          by_cases hlt : rs.length < zs.length
          · obtain ⟨g, rfl, hg, hgs⟩ := HCL.out (by omega)
            have hgk : zs[rs.length]? = some zs[rs.length] := List.getElem?_eq_getElem hlt
            have f0 := (hbv.cell (p := ⟨g, rs.length, none⟩) hg).trans (hgs _ _ hgk)
            have hzk := HZB.out _ (List.mem_of_getElem? hgk)
            generalize zs[rs.length] = k at *
            have HST := Lib.hid (C2_step hC hgk)
            have HBAD := Lib.hid (fun h => none_of (C2_bad hC hgk h))
            have HO := Lib.hid ho
            have HGD := Lib.hid hgood
            have hRq := (hR.below (HALL.out))
            have HRQ := Lib.hid hRq
            have hri : (rs.length : Int) < zs.length := by omega
            obtain ⟨A12, c12, rfl, _, _, _⟩ := OwnR.form ho
            have hrs : rs.length ≤ 200 := by omega
            have hfin : ∀ (T : Trip) (v' : Value) (w' : World) (p' i' : Value), refVal k (b.drop q) = T → p' = .int .i64 ((q + bodyN k : Nat) : Int) → i' = .int .i64 ((rs.length + 1 : Nat) : Int) → q + bodyN k ≤ b.length → goodT T → OwnR w' wo.heap.size v' (rs ++ [T]) → Below wo.heap.size wo w' → ValsRel b zs wo p' v' i' w' := by
              intro T v' w' p' i' hT hp hi hl hg ho hb
              subst hT hp hi
              exact ⟨rs ++ [refVal k (b.drop q)], q + bodyN k, by simp; omega, by simp, rfl, hl, HST.out, by
                intro t ht
                rcases List.mem_append.1 ht with ht | ht
                · exact HGD.out t ht
                · have : t = refVal k (b.drop q) := by simpa using ht
                  rw [this]
                  exact hg, ho, hb⟩
            have HFIN := Lib.hid hfin
            have HRW := Lib.hid (show Rd wr wr.heap.size A b from hRq.more HALL.out.size)
            have HOA := Lib.hid (fun (o : Obj) (o2 : Obj) => show OwnR ((wr.alloc o).alloc o2) wo.heap.size (.slice A12 rs.length c12) rs from ownR_below ho (((Below.refl wr.heap.size wr).alloc (Nat.le_refl _) o).alloc (by simp) o2))
            have HBA := Lib.hid (fun (o : Obj) (o2 : Obj) => show Below wo.heap.size wo ((wr.alloc o).alloc o2) from (hbv.alloc hsv o).alloc (by simp; omega) o2)
            have HOW := Lib.hid (show OwnR wr wo.heap.size (.slice A12 rs.length c12) rs from ho)
            clear hfin hgs hgk hC hgood ho hbv hRq
            by_cases h9 : k = 9
            · subst h9
              have HN := Lib.hid (HBAD.out (.inl rfl))
              go_wp2_with fail
              go_ret2
              rw [HN.out]
              exact ⟨rfl, HALL.out⟩
            · have h9' : ((k : Int) == 9) = false := by simp; omega
              by_cases h10 : k < 10
              · have e10 : decide ((10 : Int) ≤ k) = false := decide_eq_false (by omega)
                have hbn : bodyN k = k := by unfold bodyN; rw [if_pos h10]
                by_cases hlong : b.length < q + k
                · have HN := Lib.hid (HBAD.out (.inr (by rw [hbn]; exact hlong)))
                  have e11 : decide ((b.length : Int) - q < k) = true := decide_eq_true (by omega)
                  clear hbn
                  go_wp2_with fail
                  go_ret2
                  rw [HN.out]
                  exact ⟨rfl, HALL.out⟩
                · have e11 : decide ((b.length : Int) - q < k) = false := decide_eq_false (by omega)
                  have HBN := Lib.hid hbn
                  clear hbn HBAD
                  by_cases hk0 : k = 0
                  · subst hk0
                    go_wp2_with (at_builtin; refine wpList_appR rfl (.tmp 138) (.tmp 140) rfl wo.heap.size (.slice A12 rs.length c12) rs rfl (HOA.out _ _) ⟨wr.heap.size + 1, 0, none⟩ 1 [(0, 0, ⟨#[]⟩)] 1 rfl rfl (row_cells wr 0 0 ⟨#[]⟩) (by simp; omega) (by simp; omega) ?_; intro v9 w9 ho9 hb9; have HO9 := Lib.hid ho9; have HB9 := Lib.hid hb9; clear ho9 hb9)
                    go_roundw
                    case rel => exact HFIN.out (0, 0, ⟨#[]⟩) _ w9 _ _ rfl (by rw [HBN.out]; rfl) (by go_num) (by rw [HBN.out]; omega) ⟨.inl ⟨rfl, rfl, rfl⟩, ⟨by decide, by decide⟩, by decide⟩ HO9.out ((HBA.out _ _).trans HB9.out)
                    case measure => simp [intOf]; omega
                  · have e12 : decide ((1 : Int) ≤ k) = true := decide_eq_true (by omega)
                    have e13 : decide ((k : Int) ≤ 8) = true := decide_eq_true (by omega)
                    have hqk : q + k ≤ b.length := by omega
                    obtain ⟨ad, u0, rfl, hadb, hget0, hcell0⟩ := HRW.out.cell (show q < b.length by omega)
                    unfold b8 at hcell0
                    have hcX := fun o => (World.cell?_alloc_lt wr o (ad.add q) (by rw [blockAdd]; exact hadb)).trans hcell0
                    have hqi : (q : Int) < b.length := by omega
                    have hdr : b.drop q = u0 :: b.drop (q + 1) := drop_cons hget0
                    have HSR := Lib.hid (show startR (b.drop q) = if 128 ≤ u0.toNat then -1 else 0 by rw [hdr]; rfl)
                    clear hget0 hdr
                    by_cases h128 : 128 ≤ u0.toNat
                    · have e14 : decide ((128 : Int) ≤ (u0.toNat : Int)) = true := decide_eq_true (by omega)
                      have HS := Lib.hid (show startR (b.drop q) = -1 by rw [HSR.out, if_pos h128])
                      clear HSR h128
                      go_wp2_with fail
                      obtain ⟨wb, hwb⟩ : ∃ wb, wb = wr.alloc (.cells #[.int .u8 1, .int .i64 (-1), .string ⟨#[]⟩] 44) := ⟨_, rfl⟩
                      rw [← hwb]
                      obtain ⟨wv, rfl⟩ : ∃ wv : World, wv = wr := ⟨_, rfl⟩
                      have HN0 := Lib.hid (show NumRelR b q k wv (.int .i64 0) wb by
                        refine ⟨0, by omega, rfl, by rw [hwb]; exact (Below.refl _ _).alloc (Nat.le_refl _) _, by rw [hwb]; simp, ?_, ?_, ?_, ?_⟩
                        · rw [hwb]; simp [go_sem]
                        · rw [hwb, HS.out]; simp [go_sem]
                        · rw [hwb]; simp [go_sem]
                        · rw [hwb]; simp [go_sem])
                      clear hwb
                      go_loopw [17] (fun i wr => NumRelR b q k wv i wr) (fun i _ => k - (intOf i).toNat)
                      case atStart => exact HN0.out
                      case round =>
                        obtain ⟨j, hj, rfl, hbj, hlb, hx0, hx1, hx2, hfz⟩ := hrel
                        have hsj := hbj.size
                        by_cases hjk : j < k
                        · obtain ⟨ad', uj, hade, _, hgetj, hcellj⟩ := (HRW.out.below hbj).cell (show q + j < b.length by omega)
                          injection hade with hade
                          subst hade
                          unfold b8 at hcellj
                          have hul := uj.toNat_lt
                          have HSTP := Lib.hid (show ((b.drop q).take (j + 1)).foldl stepR (startR (b.drop q)) = stepR (((b.drop q).take j).foldl stepR (startR (b.drop q))) uj by
                            rw [List.take_add_one, List.getElem?_drop, hgetj, List.foldl_append]
                            rfl)
                          generalize ((b.drop q).take j).foldl stepR (startR (b.drop q)) = m at *
                          have hji : (j : Int) < k := by omega
                          have hqj : (q : Int) + j < b.length := by omega
                          have hx1' : ({ heap := wr.heap, tape := wr.tape, drawn := wr.drawn + 1, os := wr.os, output := wr.output } : World).cell? ⟨wv.heap.size, 1, none⟩ = some (.int .i64 m) := hx1
                          have hcj' : ({ heap := wr.heap, tape := wr.tape, drawn := wr.drawn + 1, os := wr.os, output := wr.output } : World).cell? (ad.add (q + j)) = some (.int .u8 (uj.toNat : Int)) := hcellj
                          clear hgetj hcX hcell0
                          go_wp2_with fail
                          have k1 : IntKind.i64.wrap ((q : Int) + (j : Int)) = (q : Int) + (j : Int) := IntWalk.i64_in _ (by omega)
                          have k2 : (0 : Int) ≤ (q : Int) + (j : Int) := by omega
                          have k3 : ((q : Int) + (j : Int)).toNat = q + j := by omega
                          go_still_tail 12, (by kernel_rfl)
                          clear k1 k2 k3 hx1' hcj'
                          obtain ⟨wd, hwd⟩ : ∃ wd : World, wd = wr.drew := ⟨_, rfl⟩
                          change wpList _ _ _ _ _ wr.drew
                          rw [← hwd]
                          have hbd : Below wv.heap.size wv wd := by rw [hwd]; exact hbj.drew
                          have hy0 : wd.cell? ⟨wv.heap.size, 0, none⟩ = some (.int .u8 1) := by rw [hwd]; exact hx0
                          have hy1 : wd.cell? ⟨wv.heap.size, 1, none⟩ = some (.int .i64 m) := by rw [hwd]; exact hx1
                          have hy2 : wd.cell? ⟨wv.heap.size, 2, none⟩ = some (.string ⟨#[]⟩) := by rw [hwd]; exact hx2
                          have hyf : wd.frozen? ⟨wv.heap.size, 1, none⟩ = false := by rw [hwd]; exact hfz
                          have hyl : wv.heap.size < wd.heap.size := by rw [hwd]; exact hlb
                          clear hwd hx0 hx1 hx2 hfz hbj hlb hsj hcellj
                          go_wp2_with fail
                          go_roundw
                          case rel =>
                            refine ⟨j + 1, by omega, by go_num, hbd.setCell (Nat.le_refl _) _, by simpa using hyl, ?_, ?_, ?_, ?_⟩
                            · rw [World.cell?_setCell_other (h := by simp)]; exact hy0
                            · rw [World.cell?_setCell_same (h := hy1), HSTP.out]; simp only [stepR]
                            · rw [World.cell?_setCell_other (h := by simp)]; exact hy2
                            · rw [World.frozen?_setCell]; exact hyf
                          case measure => simp [intOf]; omega
                        · obtain rfl : j = k := by omega
                          obtain ⟨N, hN⟩ : ∃ N, N = ((b.drop q).take j).foldl stepR (startR (b.drop q)) := ⟨_, rfl⟩
                          rw [← hN] at hx1
                          have hst : startR (b.drop q) = startR ((b.drop q).take j) := by
                            cases hd : b.drop q with
                            | nil => simp
                            | cons c l =>
                              obtain ⟨j', rfl⟩ : ∃ j', j = j' + 1 := ⟨j - 1, by omega⟩
                              rfl
                          have HV := Lib.hid (show refVal j (b.drop q) = (1, N, ⟨#[]⟩) by
                            unfold refVal
                            rw [if_neg hk0, if_pos h10, hN, hst]
                            rfl)
                          have HN64 := Lib.hid (show In64 N by
                            rw [hN]
                            obtain ⟨j', rfl⟩ : ∃ j', j = j' + 1 := ⟨j - 1, by omega⟩
                            exact foldR_64 _ _ (by rw [List.length_take, List.length_drop]; omega))
                          have HOY := Lib.hid (fun (o : Obj) => show OwnR (wr.alloc o) wo.heap.size (.slice A12 rs.length c12) rs from ownR_below (ownR_below HOW.out hbj) ((Below.refl wr.heap.size wr).alloc (Nat.le_refl _) o))
                          have HBY := Lib.hid (fun (o : Obj) => show Below wo.heap.size wo (wr.alloc o) from (HBV.out.trans (hbj.mono hsv)).alloc (by omega) o)
                          clear hN hst
                          go_wp2_with (at_builtin; refine wpList_appR rfl (.tmp 138) (.tmp 140) rfl wo.heap.size (.slice A12 rs.length c12) rs rfl (HOY.out _) ⟨wr.heap.size, 0, none⟩ 1 [(1, N, ⟨#[]⟩)] 1 rfl rfl (row_cells1 wr 1 N ⟨#[]⟩) (by simp; omega) (by simp; omega) ?_; intro v9 w9 ho9 hb9; have HO9 := Lib.hid ho9; have HB9 := Lib.hid hb9; clear ho9 hb9)
                          go_roundw
                          case rel => exact HFIN.out (1, N, ⟨#[]⟩) _ w9 _ _ HV.out (by rw [HBN.out]; go_num) (by go_num) (by rw [HBN.out]; omega) ⟨.inr (.inl ⟨rfl, rfl⟩), HN64.out, show (⟨#[]⟩ : ByteArray).size ≤ 3000 by decide⟩ HO9.out ((HBY.out _).trans HB9.out)
                          case measure => simp [intOf]; omega
                    · have e14 : decide ((128 : Int) ≤ (u0.toNat : Int)) = false := decide_eq_false (by omega)
                      have HS := Lib.hid (show startR (b.drop q) = 0 by rw [HSR.out, if_neg h128])
                      clear HSR h128
                      go_wp2_with fail
                      obtain ⟨wb, hwb⟩ : ∃ wb, wb = wr.alloc (.cells #[.int .u8 1, .int .i64 0, .string ⟨#[]⟩] 44) := ⟨_, rfl⟩
                      rw [← hwb]
                      obtain ⟨wv, rfl⟩ : ∃ wv : World, wv = wr := ⟨_, rfl⟩
                      have HN0 := Lib.hid (show NumRelR b q k wv (.int .i64 0) wb by
                        refine ⟨0, by omega, rfl, by rw [hwb]; exact (Below.refl _ _).alloc (Nat.le_refl _) _, by rw [hwb]; simp, ?_, ?_, ?_, ?_⟩
                        · rw [hwb]; simp [go_sem]
                        · rw [hwb, HS.out]; simp [go_sem]
                        · rw [hwb]; simp [go_sem]
                        · rw [hwb]; simp [go_sem])
                      clear hwb
                      go_loopw [17] (fun i wr => NumRelR b q k wv i wr) (fun i _ => k - (intOf i).toNat)
                      case atStart => exact HN0.out
                      case round =>
                        obtain ⟨j, hj, rfl, hbj, hlb, hx0, hx1, hx2, hfz⟩ := hrel
                        have hsj := hbj.size
                        by_cases hjk : j < k
                        · obtain ⟨ad', uj, hade, _, hgetj, hcellj⟩ := (HRW.out.below hbj).cell (show q + j < b.length by omega)
                          injection hade with hade
                          subst hade
                          unfold b8 at hcellj
                          have hul := uj.toNat_lt
                          have HSTP := Lib.hid (show ((b.drop q).take (j + 1)).foldl stepR (startR (b.drop q)) = stepR (((b.drop q).take j).foldl stepR (startR (b.drop q))) uj by
                            rw [List.take_add_one, List.getElem?_drop, hgetj, List.foldl_append]
                            rfl)
                          generalize ((b.drop q).take j).foldl stepR (startR (b.drop q)) = m at *
                          have hji : (j : Int) < k := by omega
                          have hqj : (q : Int) + j < b.length := by omega
                          have hx1' : ({ heap := wr.heap, tape := wr.tape, drawn := wr.drawn + 1, os := wr.os, output := wr.output } : World).cell? ⟨wv.heap.size, 1, none⟩ = some (.int .i64 m) := hx1
                          have hcj' : ({ heap := wr.heap, tape := wr.tape, drawn := wr.drawn + 1, os := wr.os, output := wr.output } : World).cell? (ad.add (q + j)) = some (.int .u8 (uj.toNat : Int)) := hcellj
                          clear hgetj hcX hcell0
                          go_wp2_with fail
                          have k1 : IntKind.i64.wrap ((q : Int) + (j : Int)) = (q : Int) + (j : Int) := IntWalk.i64_in _ (by omega)
                          have k2 : (0 : Int) ≤ (q : Int) + (j : Int) := by omega
                          have k3 : ((q : Int) + (j : Int)).toNat = q + j := by omega
                          go_still_tail 12, (by kernel_rfl)
                          clear k1 k2 k3 hx1' hcj'
                          obtain ⟨wd, hwd⟩ : ∃ wd : World, wd = wr.drew := ⟨_, rfl⟩
                          change wpList _ _ _ _ _ wr.drew
                          rw [← hwd]
                          have hbd : Below wv.heap.size wv wd := by rw [hwd]; exact hbj.drew
                          have hy0 : wd.cell? ⟨wv.heap.size, 0, none⟩ = some (.int .u8 1) := by rw [hwd]; exact hx0
                          have hy1 : wd.cell? ⟨wv.heap.size, 1, none⟩ = some (.int .i64 m) := by rw [hwd]; exact hx1
                          have hy2 : wd.cell? ⟨wv.heap.size, 2, none⟩ = some (.string ⟨#[]⟩) := by rw [hwd]; exact hx2
                          have hyf : wd.frozen? ⟨wv.heap.size, 1, none⟩ = false := by rw [hwd]; exact hfz
                          have hyl : wv.heap.size < wd.heap.size := by rw [hwd]; exact hlb
                          clear hwd hx0 hx1 hx2 hfz hbj hlb hsj hcellj
                          go_wp2_with fail
                          go_roundw
                          case rel =>
                            refine ⟨j + 1, by omega, by go_num, hbd.setCell (Nat.le_refl _) _, by simpa using hyl, ?_, ?_, ?_, ?_⟩
                            · rw [World.cell?_setCell_other (h := by simp)]; exact hy0
                            · rw [World.cell?_setCell_same (h := hy1), HSTP.out]; simp only [stepR]
                            · rw [World.cell?_setCell_other (h := by simp)]; exact hy2
                            · rw [World.frozen?_setCell]; exact hyf
                          case measure => simp [intOf]; omega
                        · obtain rfl : j = k := by omega
                          obtain ⟨N, hN⟩ : ∃ N, N = ((b.drop q).take j).foldl stepR (startR (b.drop q)) := ⟨_, rfl⟩
                          rw [← hN] at hx1
                          have hst : startR (b.drop q) = startR ((b.drop q).take j) := by
                            cases hd : b.drop q with
                            | nil => simp
                            | cons c l =>
                              obtain ⟨j', rfl⟩ : ∃ j', j = j' + 1 := ⟨j - 1, by omega⟩
                              rfl
                          have HV := Lib.hid (show refVal j (b.drop q) = (1, N, ⟨#[]⟩) by
                            unfold refVal
                            rw [if_neg hk0, if_pos h10, hN, hst]
                            rfl)
                          have HN64 := Lib.hid (show In64 N by
                            rw [hN]
                            obtain ⟨j', rfl⟩ : ∃ j', j = j' + 1 := ⟨j - 1, by omega⟩
                            exact foldR_64 _ _ (by rw [List.length_take, List.length_drop]; omega))
                          have HOY := Lib.hid (fun (o : Obj) => show OwnR (wr.alloc o) wo.heap.size (.slice A12 rs.length c12) rs from ownR_below (ownR_below HOW.out hbj) ((Below.refl wr.heap.size wr).alloc (Nat.le_refl _) o))
                          have HBY := Lib.hid (fun (o : Obj) => show Below wo.heap.size wo (wr.alloc o) from (HBV.out.trans (hbj.mono hsv)).alloc (by omega) o)
                          clear hN hst
                          go_wp2_with (at_builtin; refine wpList_appR rfl (.tmp 138) (.tmp 140) rfl wo.heap.size (.slice A12 rs.length c12) rs rfl (HOY.out _) ⟨wr.heap.size, 0, none⟩ 1 [(1, N, ⟨#[]⟩)] 1 rfl rfl (row_cells1 wr 1 N ⟨#[]⟩) (by simp; omega) (by simp; omega) ?_; intro v9 w9 ho9 hb9; have HO9 := Lib.hid ho9; have HB9 := Lib.hid hb9; clear ho9 hb9)
                          go_roundw
                          case rel => exact HFIN.out (1, N, ⟨#[]⟩) _ w9 _ _ HV.out (by rw [HBN.out]; go_num) (by go_num) (by rw [HBN.out]; omega) ⟨.inr (.inl ⟨rfl, rfl⟩), HN64.out, show (⟨#[]⟩ : ByteArray).size ≤ 3000 by decide⟩ HO9.out ((HBY.out _).trans HB9.out)
                          case measure => simp [intOf]; omega
              · have e10 : decide ((10 : Int) ≤ k) = true := decide_eq_true (by omega)
                have e12 : decide ((1 : Int) ≤ k) = true := decide_eq_true (by omega)
                have e13 : decide ((k : Int) ≤ 8) = false := decide_eq_false (by omega)
                have hbn : bodyN k = (k - 10) / 2 := by unfold bodyN; rw [if_neg h10]
                obtain ⟨L, hL⟩ : ∃ L, L = (k - 10) / 2 := ⟨_, rfl⟩
                rw [← hL] at hbn
                have hdiv : ((k : Int) - 10) / 2 = (L : Int) := by omega
                have HBN := Lib.hid hbn
                have HL := Lib.hid hL
                clear hbn hL
                by_cases hlong : b.length < q + L
                · have HN := Lib.hid (HBAD.out (.inr (by rw [HBN.out]; exact hlong)))
                  have e11 : decide ((b.length : Int) - q < L) = true := decide_eq_true (by omega)
                  go_wp2_with fail
                  go_ret2
                  rw [HN.out]
                  exact ⟨rfl, HALL.out⟩
                · have e11 : decide ((b.length : Int) - q < L) = false := decide_eq_false (by omega)
                  have hqL : q + L ≤ b.length := by omega
                  have hqLi : (q : Int) + (L : Int) ≤ (b.length : Int) := by omega
                  have hpar : ((k : Int) % 2 == 1) = decide (k % 2 = 1) := by
                    by_cases h : k % 2 = 1
                    · simp [h]; omega
                    · simp [h]; omega
                  have hk0' : ¬ k = 0 := by omega
                  obtain ⟨ad, hAd, hadb⟩ : ∃ ad, A = some ad ∧ ad.block < wr.heap.size := by
                    have hb0 : 0 < b.length := by
                      rcases Nat.eq_zero_or_pos b.length with h | h
                      · have hbn : b = [] := List.eq_nil_of_length_eq_zero h
                        have := HR.out
                        rw [hbn] at this
                        exact absurd this (by intro h; have h2 := congrArg (fun x => x.2.2) h; have h3 : (uintAt [] 0).2.2 = 11 := by decide
                                              simp only [h3] at h2; omega)
                      · exact h
                    obtain ⟨ad, u0, e, h1, _⟩ := HRW.out.cell hb0
                    exact ⟨ad, e, h1⟩
                  subst hAd
                  have HT := Lib.hid (show ((b.drop q).take L).length = L by rw [List.length_take, List.length_drop]; omega)
                  have hcv : ∀ o : Obj, (convert 24 9 (.slice (if cap = q then some ad else some (ad.add q)) L (cap - q))).run Try.prog (wr.alloc o) = .ok (.string ⟨((b.drop q).take L).toArray⟩) (wr.alloc o) := by
                    intro o
                    have h := run_str (rd_cut (HRW.out.alloc o) q L cap hc) (cap - q)
                    rw [HT.out] at h
                    exact h
                  have HTS := Lib.hid (show (⟨((b.drop q).take L).toArray⟩ : ByteArray).size ≤ 3000 by show ((b.drop q).take L).toArray.size ≤ 3000; rw [List.size_toArray, HT.out]; omega)
                  have HVT := Lib.hid (show ∀ kk : Int, (kk = if k % 2 = 1 then 2 else 3) → refVal k (b.drop q) = (kk, 0, ⟨((b.drop q).take L).toArray⟩) by
                    intro kk hkk
                    unfold refVal
                    rw [if_neg hk0', if_neg h10, HL.out, hkk])
                  generalize hT : (⟨((b.drop q).take L).toArray⟩ : ByteArray) = T at *
                  clear hT
                  by_cases h2 : k % 2 = 1
                  · rw [decide_eq_true h2] at hpar
                    by_cases hcq : cap = q
                    · subst hcq
                      rw [if_pos rfl, Nat.sub_self] at hcv
                      have hcv1 := hcv (.cells #[.int .u8 2, .int .i64 0, .string ⟨#[]⟩] 44)
                      clear hcv
                      go_wp2_with (at_builtin; refine wpList_appR rfl (.tmp 138) (.tmp 140) rfl wo.heap.size (.slice A12 rs.length c12) rs rfl (HOA.out _ _) ⟨wr.heap.size + 1, 0, none⟩ 1 [(2, 0, T)] 1 rfl rfl (row_cells wr 2 0 T) (by simp; omega) (by simp; omega) ?_; intro v9 w9 ho9 hb9; have HO9 := Lib.hid ho9; have HB9 := Lib.hid hb9; clear ho9 hb9)
                      go_roundw
                      case rel => exact HFIN.out (2, 0, T) _ w9 _ _ (HVT.out _ (by rw [if_pos h2])) (by rw [HBN.out]; go_num) (by go_num) (by rw [HBN.out]; omega) ⟨.inr (.inr ⟨.inl rfl, rfl, show T.size ≤ 65536 by have := HTS.out; omega⟩), show In64 0 from ⟨by decide, by decide⟩, HTS.out⟩ HO9.out ((HBA.out _ _).trans HB9.out)
                      case measure => simp [intOf]; omega
                    · rw [if_neg hcq] at hcv
                      have hcv1 := hcv (.cells #[.int .u8 2, .int .i64 0, .string ⟨#[]⟩] 44)
                      clear hcv
                      go_wp2_with (at_builtin; refine wpList_appR rfl (.tmp 138) (.tmp 140) rfl wo.heap.size (.slice A12 rs.length c12) rs rfl (HOA.out _ _) ⟨wr.heap.size + 1, 0, none⟩ 1 [(2, 0, T)] 1 rfl rfl (row_cells wr 2 0 T) (by simp; omega) (by simp; omega) ?_; intro v9 w9 ho9 hb9; have HO9 := Lib.hid ho9; have HB9 := Lib.hid hb9; clear ho9 hb9)
                      go_roundw
                      case rel => exact HFIN.out (2, 0, T) _ w9 _ _ (HVT.out _ (by rw [if_pos h2])) (by rw [HBN.out]; go_num) (by go_num) (by rw [HBN.out]; omega) ⟨.inr (.inr ⟨.inl rfl, rfl, show T.size ≤ 65536 by have := HTS.out; omega⟩), show In64 0 from ⟨by decide, by decide⟩, HTS.out⟩ HO9.out ((HBA.out _ _).trans HB9.out)
                      case measure => simp [intOf]; omega
                  · rw [decide_eq_false h2] at hpar
                    by_cases hcq : cap = q
                    · subst hcq
                      rw [if_pos rfl, Nat.sub_self] at hcv
                      have hcv1 := hcv (.cells #[.int .u8 3, .int .i64 0, .string ⟨#[]⟩] 44)
                      clear hcv
                      go_wp2_with (at_builtin; refine wpList_appR rfl (.tmp 138) (.tmp 140) rfl wo.heap.size (.slice A12 rs.length c12) rs rfl (HOA.out _ _) ⟨wr.heap.size + 1, 0, none⟩ 1 [(3, 0, T)] 1 rfl rfl (row_cells wr 3 0 T) (by simp; omega) (by simp; omega) ?_; intro v9 w9 ho9 hb9; have HO9 := Lib.hid ho9; have HB9 := Lib.hid hb9; clear ho9 hb9)
                      go_roundw
                      case rel => exact HFIN.out (3, 0, T) _ w9 _ _ (HVT.out _ (by rw [if_neg h2])) (by rw [HBN.out]; go_num) (by go_num) (by rw [HBN.out]; omega) ⟨.inr (.inr ⟨.inr rfl, rfl, show T.size ≤ 65536 by have := HTS.out; omega⟩), show In64 0 from ⟨by decide, by decide⟩, HTS.out⟩ HO9.out ((HBA.out _ _).trans HB9.out)
                      case measure => simp [intOf]; omega
                    · rw [if_neg hcq] at hcv
                      have hcv1 := hcv (.cells #[.int .u8 3, .int .i64 0, .string ⟨#[]⟩] 44)
                      clear hcv
                      go_wp2_with (at_builtin; refine wpList_appR rfl (.tmp 138) (.tmp 140) rfl wo.heap.size (.slice A12 rs.length c12) rs rfl (HOA.out _ _) ⟨wr.heap.size + 1, 0, none⟩ 1 [(3, 0, T)] 1 rfl rfl (row_cells wr 3 0 T) (by simp; omega) (by simp; omega) ?_; intro v9 w9 ho9 hb9; have HO9 := Lib.hid ho9; have HB9 := Lib.hid hb9; clear ho9 hb9)
                      go_roundw
                      case rel => exact HFIN.out (3, 0, T) _ w9 _ _ (HVT.out _ (by rw [if_neg h2])) (by rw [HBN.out]; go_num) (by go_num) (by rw [HBN.out]; omega) ⟨.inr (.inr ⟨.inr rfl, rfl, show T.size ≤ 65536 by have := HTS.out; omega⟩), show In64 0 from ⟨by decide, by decide⟩, HTS.out⟩ HO9.out ((HBA.out _ _).trans HB9.out)
                      case measure => simp [intOf]; omega
          · have hl : rs.length = zs.length := by omega
            have hrs : rs.length ≤ 200 := by omega
            have hfine : FineR rs := fun t ht => ⟨(hgood t ht).1, (hgood t ht).2.1⟩
            have hpl : (putL rs).length ≤ 1048576 := by
              have h1 := sortsL_len rs (fun t ht => by have := (hgood t ht).2.2; omega)
              have h2 := bodiesL_le rs hgood
              have h3 := Lib.uvarint_length64 (x := rs.length) (by omega)
              have h4 : putL rs = (Lib.uvarint rs.length ++ sortsL rs) ++ bodiesL rs := rfl
              rw [h4, List.length_append, List.length_append]
              omega
            have HP := Lib.hid (fun A c X hX => refPut_ok A c rs X hX hrs hfine hpl)
            have HSO := Lib.hid (fun h : putL rs = b => some_of ⟨hfine, hrs, h.symm⟩ (by omega))
            have HNO := Lib.hid (fun h : ¬ putL rs = b => none_of (b := b) (fun vs hf => h (by have := C2_end hC hl hf; subst this; exact hf.2.2.symm)))
            have HO := Lib.hid (ownR_mono ho hsw)
            obtain ⟨A12, c12, rfl, _, _, hrr⟩ := OwnR.form ho
            have HRR := Lib.hid hrr
            have HRB := Lib.hid ((hR.below HALL.out).more HALL.out.size)
            have HPL := Lib.hid hpl
            clear hC hgood ho hbv hfine hrr hpl hl
            go_wp2_with fail
            refine (HP.out A12 c12 wr HRR.out).mono ?_
            rintro e w8 ⟨v8, rfl, ho8, hb8⟩
            obtain ⟨A8, c8, rfl, _, _, hr8⟩ := ho8.form
            have HR8 := Lib.hid hr8
            have HB8 := Lib.hid hb8
            have hs8 := hb8.size
            have HSM := fun β hβ => Lib.hid (refSame_any A8 c8 (putL rs) A cap b w8 (by have := HPL.out; omega) (by omega) HR8.out (HRB.out.on HB8.out) β hβ)
            have HWB := Lib.hid (HALL.out.trans (hb8.mono HALL.out.size))
            have HO8 := Lib.hid (ownR_below HO.out hb8)
            have hlp := HPL.out
            clear ho8 hr8 hb8
            by_cases hq : putL rs = b
            · have HM := HSM true (decide_eq_true hq)
              have HN := Lib.hid (HSO.out hq)
              generalize (putL rs).length = L at *
              clear HSM hq
              go_wp2_with fail
              refine HM.out.mono ?_
              rintro e w9 ⟨rfl, hb9⟩
              go_wp2_with fail
              go_ret2
              rw [HN.out]
              exact ⟨⟨_, rfl, ownR_below HO8.out hb9⟩, HWB.out.trans (hb9.mono HWB.out.size)⟩
            · have HM := HSM false (decide_eq_false hq)
              have HN := Lib.hid (HNO.out hq)
              generalize (putL rs).length = L at *
              clear HSM hq
              go_wp2_with fail
              refine HM.out.mono ?_
              rintro e w9 ⟨rfl, hb9⟩
              go_wp2_with fail
              go_ret2
              rw [HN.out]
              exact ⟨rfl, HWB.out.trans (hb9.mono HWB.out.size)⟩
end Go.Proofs.Ytcpmfagnnidodaa
