/-
  Layer 8: AggOrder's walk. Conditions: sizes.
-/
import Derived.Test.YtfoepciempoakaaGreatDoorATrn
import Derived.Test.YtfoepciempoakaaGreatDoorAPrm
import Derived.Test.YtfoepciempoakaaGreatDoorANoD
import Derived.Test.YtfoepciempoakaaGreatDoorARgt
import Derived.Test.YtfoepciempoakaaGreatDoorACom
import Derived.Test.YtfoepciempoakaaGreatDoorAAwk
namespace Go.Proofs.YtfoepciempoakaaGreatDoor
open Go.ChangeShapes Go.WideShapes Go.ChangeAt Go.RowKit Go.Maps Go.Sort Go.Shelf Go.ChangeMaps Go.Lib
set_option linter.unusedVariables false
set_option linter.unusedSimpArgs false

/-- what a total tells of any order of its values -/
def OfIs (name : ByteArray) (d : Bool) (vs : List Trip) (t : Trip) (r : Int) : Prop := ∀ out : List Trip, out.Perm vs → ∀ (w : World) (A : Option Addr) (c : Nat), Wd w → RdT w A out → vs.length ≤ c →
  Calls Tryz.prog 42 #[.string name, .bool d, .slice A vs.length c] w fun e w' => e = .returned (.tuple #[vvT t, .int .i64 r]) ∧ Below w.heap.size w w'
def PermFin (all : Bool) (fin : Bool → List Trip → Trip × Int) : Prop := ∀ (d : Bool) (L L' : List Trip), L.Perm L' → (∀ t ∈ L, GoodT t ∧ (all = false → t.1 ≠ 0)) → fin d L = fin d L'
theorem of_same {name : ByteArray} {all : Bool} {fin : Bool → List Trip → Trip × Int} (hn : Named name all fin) (hp : PermFin all fin) (d : Bool) (vs : List Trip) (hg : ∀ t ∈ vs, GoodT t) (hl : vs.length ≤ 60) : ∃ t r, OfIs name d vs t r := by
  cases had : (all && d)
  · refine ⟨(fin d (valsOf all vs)).1, (fin d (valsOf all vs)).2, fun out hpm w A c hW hR hc => ?_⟩
    have h := of_any hn had w hW A c out hR (fun t ht => hg t (hpm.mem_iff.1 ht)) (by rw [hpm.length_eq]; omega) (by rw [hpm.length_eq]; exact hc)
    rw [hpm.length_eq, hp d (valsOf all out) (valsOf all vs) (by rw [valsOf_filter, valsOf_filter]; exact hpm.filter _) (fun t ht => by
      rw [valsOf_filter, List.mem_filter] at ht
      refine ⟨hg t (hpm.mem_iff.1 ht.1), fun ha => ?_⟩
      have h2 := ht.2
      rw [ha] at h2
      simpa using h2)] at h
    exact h
  · obtain ⟨rfl, rfl⟩ : all = true ∧ d = true := by simpa using had
    exact ⟨(0, 0, ⟨#[]⟩), 2, fun out hpm w A c hW hR hc => of_dis hn w _⟩
theorem named_at (i : Nat) (hi : i < 7) : ∃ name all fin, namesL[i]? = some name ∧ Named name all fin ∧ PermFin all fin := by
  match i, hi with
  | 0, _ => exact ⟨_, _, _, rfl, named_count, fun d L L' h _ => finCnt_perm (dsel_perm d h)⟩
  | 1, _ => exact ⟨_, _, _, rfl, named_countAll, fun d L L' h _ => finCnt_perm (dsel_perm d h)⟩
  | 2, _ => exact ⟨_, _, _, rfl, named_sum, fun d L L' h _ => finSum_perm _ (dsel_perm d h)⟩
  | 3, _ => exact ⟨_, _, _, rfl, named_total, fun d L L' h _ => finSum_perm _ (dsel_perm d h)⟩
  | 4, _ => exact ⟨_, _, _, rfl, named_min, fun d L L' h hg => by rw [bestMn_perm h fun t ht => ⟨(hg t ht).1, (hg t ht).2 rfl⟩]⟩
  | 5, _ => exact ⟨_, _, _, rfl, named_max, fun d L L' h hg => by rw [bestMx_perm h fun t ht => ⟨(hg t ht).1, (hg t ht).2 rfl⟩]⟩
  | 6, _ => exact ⟨_, _, _, rfl, named_join, fun d L L' h _ => finJoin_perm d h⟩
theorem names_at (w : World) : Calls Tryz.prog 41 #[] w fun e w' => e = .returned (.slice (some ⟨w.heap.size, 0, none⟩) 7 7) ∧ (∀ i name, namesL[i]? = some name → w'.cell? ⟨w.heap.size, i, none⟩ = some (.string name)) ∧ Below w.heap.size w w' := by
  refine (names_any w).mono ?_
  rintro e w' ⟨rfl, rfl⟩
  refine ⟨rfl, fun i name h => ?_, (Below.refl _ _).alloc (Nat.le_refl _) _⟩
  have h2 := World.alloc_heap_new w (.cells (namesL.map Value.string).toArray 9)
  simp only [World.cell?, h2]
  simp [h]
theorem cellsT_at : ∀ (l : List Trip) (i : Nat) (k z : Int) (s : ByteArray), l[i]? = some (k, z, s) → (cellsT l)[i * 3]? = some (.int .u8 k) ∧ (cellsT l)[i * 3 + 1]? = some (.int .i64 z) ∧ (cellsT l)[i * 3 + 2]? = some (.string s)
  | [], i, k, z, s, h => by simp at h
  | t :: r, 0, k, z, s, h => by
    obtain rfl : t = (k, z, s) := by simpa using h
    simp [cellsT]
  | t :: r, i + 1, k, z, s, h => by
    have h2 := cellsT_at r i k z s (by simpa using h)
    rw [show (i + 1) * 3 = i * 3 + 1 + 1 + 1 by omega]
    simpa only [cellsT, List.getElem?_cons_succ] using h2
theorem rdT_src {w : World} {A : Option Addr} {l : List Trip} (h : SrcT w A l) (hA : ∀ ad, A = some ad → ∃ g, ad = ⟨g, 0, none⟩) : RdT w A l := by
  rcases h with rfl | ⟨ad, rfl, hb, hc⟩
  · exact .inl rfl
  · obtain ⟨g, rfl⟩ := hA ad rfl
    refine .inr ⟨g, 0, rfl, hb, fun j k z s hj => ?_⟩
    obtain ⟨h0, h1, h2⟩ := cellsT_at l j k z s hj
    have ha : ∀ (o : Nat), ((⟨g, 0, none⟩ : Addr).add o) = ⟨g, o, none⟩ := by
      intro o
      unfold Addr.add
      by_cases ho : o = 0 <;> simp [ho]
    have e0 := hc _ _ h0
    have e1 := hc _ _ h1
    have e2 := hc _ _ h2
    rw [ha] at e0 e1 e2
    rw [Nat.zero_add]
    exact ⟨e0, e1, e2⟩
theorem good_of {vs : List Trip} (h : rightA vs = true) (h64 : ∀ t ∈ vs, In64 t.2.1) : vs.length ≤ 60 ∧ ∀ t ∈ vs, GoodT t := by
  unfold rightA smallA at h
  simp only [Bool.and_eq_true, decide_eq_true_eq, List.all_eq_true] at h
  exact ⟨h.1.1, fun t ht => ⟨h.2 t ht, h64 t ht⟩⟩
set_option maxRecDepth 100000 in
set_option maxHeartbeats 4000000 in
theorem order_walk (q : Int) (d : Bool) (A : Option Addr) (c : Nat) (vs : List Trip) (B : Option Addr) (cb : Nat) (zs : List Int) (w : World) (hW : Wd w) (hq : 0 ≤ q ∧ q ≤ 255) (hR : RdT w A vs) (hZ : RdZ w B zs) (hzr : ∀ z ∈ zs, 0 ≤ z ∧ z ≤ 255)
    (hsz : ∀ t ∈ vs, t.2.2.size ≤ 9223372036854775807) (hcap : vs.length ≤ 9223372036854775807) (hc : vs.length ≤ c) (h64 : ∀ t ∈ vs, In64 t.2.1) (hzl : zs.length ≤ 9223372036854775807) :
    Calls Tryz.prog 6 #[.int .u8 q, .bool d, .slice A vs.length c, .slice B zs.length cb] w fun e w' => e = .returned (.bool true) ∧ Below w.heap.size w w' := by
  have HRG := Lib.hid (right8 A c vs w hR hsz hcap)
  cases h : rightA vs
  · rw [h] at HRG
    clear hR hZ hzr hsz h64
    go_enter Tryz.func6, Tryz.ntmps6
    go_wp2_with fail
    refine HRG.out.mono ?_
    rintro e w1 ⟨rfl, hb⟩
    go_wp2_with fail
    refine (awake_any w1 (hW.on hb)).mono ?_
    rintro e w2 ⟨rfl, hb2⟩
    go_wp2_with fail
    go_ret
    exact ⟨rfl, hb.trans (hb2.mono hb.size)⟩
  · rw [h] at HRG
    obtain ⟨hl, hgd⟩ := good_of h h64
    have hq7 := Int.emod_nonneg q (show (7 : Int) ≠ 0 by decide)
    have hq7' := Int.emod_lt_of_pos q (show (0 : Int) < 7 by decide)
    obtain ⟨i, hi⟩ : ∃ i : Nat, q % 7 = (i : Int) := ⟨(q % 7).toNat, by omega⟩
    have hi7 : i < 7 := by omega
    have hi2 : q.tmod 7 = (i : Int) := by rw [Int.tmod_eq_emod_of_nonneg hq.1]; exact hi
    obtain ⟨name, all, fin, hnm, hN, hP⟩ := named_at i hi7
    obtain ⟨⟨k, z, s⟩, r, hof⟩ := of_same hN hP d vs hgd hl
    have HOF := Lib.hid hof
    have HNM := Lib.hid hnm
    have HR := Lib.hid hR
    have HZ := Lib.hid hZ
    have HZR := Lib.hid hzr
    have HW := Lib.hid hW
    have hi7z : (i : Int) < 7 := by omega
    clear hN hP hof hnm hR hZ hzr hW hsz h64 hgd h hq7 hq7'
    obtain ⟨hq0, hq1⟩ := hq
    go_enter Tryz.func6, Tryz.ntmps6
    go_wp2_with fail
    refine HRG.out.mono ?_
    rintro e w1 ⟨rfl, hb1⟩
    have HB1 := Lib.hid hb1
    clear hb1
    go_wp2_with (go_at_call 41; refine (names_at _).mono ?_; rintro e w2 ⟨rfl, hc2, hb2⟩; have hcell := hc2 _ _ HNM.out; have HB2 := Lib.hid hb2; clear hb2 hc2)
    have HB3 := Lib.hid (HB1.out.trans (HB2.out.mono HB1.out.size))
    refine (HOF.out vs (List.Perm.refl _) w2 A c (HW.out.on HB3.out) (HR.out.on HB3.out) hc).mono ?_
    rintro e w3 ⟨rfl, hb3⟩
    have HB4 := Lib.hid (HB3.out.trans (hb3.mono HB3.out.size))
    clear hb3 hcell
    go_upto_region 5 with (fail)
    obtain ⟨w4, hw4⟩ : ∃ w4, w3.alloc (.cells #[.int .u8 k, .int .i64 z, .string s] 24) = w4 := ⟨_, rfl⟩
    rw [hw4]
    have hal4 : Below w3.heap.size w3 w4 := by rw [← hw4]; exact (Below.refl _ _).alloc (Nat.le_refl _) _
    have b4 : BoxT w4 w3.heap.size (k, z, s) := by rw [← hw4]; exact BoxT.new w3 (k, z, s)
    clear hw4
    have HB5 := Lib.hid (HB4.out.trans (hal4.mono HB4.out.size))
    have HX := Lib.hid b4
    clear hal4 b4
    generalize w3.heap.size = g10 at *
    go_wp2_with fail
    refine (turned8 A c vs B cb zs w4 (HR.out.on HB5.out) (HZ.out.on HB5.out) HZR.out hl hc hzl).mono ?_
    rintro e w5 ⟨A2, c2, out, rfl, hpm, hc2, hs2, hg2, hb5⟩
    have HB6 := Lib.hid (HB5.out.trans (hb5.mono HB5.out.size))
    have HX5 := Lib.hid (HX.out.on hb5)
    have HK := Lib.hid (HOF.out out hpm w5 A2 c2 (HW.out.on HB6.out) (rdT_src hs2 hg2) hc2)
    clear hpm hc2 hs2 hg2 hb5
    go_wp2_with fail
    refine HK.out.mono ?_
    rintro e w6 ⟨rfl, hb6⟩
    have HB7 := Lib.hid (HB6.out.trans (hb6.mono HB6.out.size))
    have HX6 := Lib.hid (HX5.out.on hb6)
    clear hb6
    go_upto_region 6 with (fail)
    obtain ⟨w7, hw7⟩ : ∃ w7, w6.alloc (.cells #[.int .u8 k, .int .i64 z, .string s] 24) = w7 := ⟨_, rfl⟩
    rw [hw7]
    have hal7 : Below w6.heap.size w6 w7 := by rw [← hw7]; exact (Below.refl _ _).alloc (Nat.le_refl _) _
    have b7 : BoxT w7 w6.heap.size (k, z, s) := by rw [← hw7]; exact BoxT.new w6 (k, z, s)
    clear hw7
    have HB8 := Lib.hid (HB7.out.trans (hal7.mono HB7.out.size))
    obtain ⟨x0, x1, x2⟩ := (HX6.out.on hal7).cells
    obtain ⟨y0, y1, y2⟩ := b7.cells
    dsimp only at x0 x1 x2 y0 y1 y2
    clear hal7 b7
    generalize w6.heap.size = g12 at *
    go_wp2_with (go_at_call 35; refine (awake_any _ (HW.out.on HB8.out)).mono ?_; rintro e w8 ⟨rfl, hb8⟩; have HB9 := Lib.hid (HB8.out.trans (hb8.mono HB8.out.size)); clear hb8)
    go_ret
    exact ⟨rfl, HB9.out⟩
end Go.Proofs.YtfoepciempoakaaGreatDoor
