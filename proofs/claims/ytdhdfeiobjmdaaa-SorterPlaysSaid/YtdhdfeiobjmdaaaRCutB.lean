/-
  record.cutBody: the value of that sort whose bytes b begins with, and what is behind them. Conditions: sizes.
-/
import Derived.Test.YtdhdfeiobjmdaaaRSig
namespace Go.Proofs.Ytdhdfeiobjmdaaa
open Go.ChangeShapes Go.WideShapes Go.ChangeAt Go.RowKit
set_option linter.unusedVariables false

theorem bodyLen_all (z : Nat) (w : World) (hz : z < 18446744073709551616) :
    Calls Try.prog 54 #[.int .u64 z] w fun e w' => e = .returned (.int .u64 (bodyN z)) ∧ w' = w := by
  by_cases h : z < 10
  · exact bodyLen_any z w (by omega)
  · have HP := Lib.hid (show ((z : Int) - 10) / 2 = (bodyN z : Int) by simp [bodyN, h]; omega)
    go_enter Try.func54, Try.ntmps54
    go_wp2_with fail
    go_ret
    exact ⟨by rw [← HP.out]; rfl, rfl⟩
/-- the value of that sort that has these bytes -/
def valN (z : Nat) (l : List UInt8) : Trip := if z = 0 then (0, 0, ⟨#[]⟩) else if z < 10 then (match l with | c :: m => (1, sigN c m, ⟨#[]⟩) | [] => (0, 0, ⟨#[]⟩)) else ((if z % 2 = 0 then 3 else 2), 0, ⟨l.toArray⟩)
theorem valueOf_any (A : Option Addr) (n cap z : Nat) (l : List UInt8) (w : World) (hn : n = l.length) (hz : n = bodyN z) (hR : Rd w w.heap.size A l) (hcp : n ≤ cap) (hcp2 : cap ≤ 9223372036854775807) :
    Calls Try.prog 85 #[.int .u64 z, .slice A n cap] w fun e w' => e = .returned (vv (valN z l).1 (valN z l).2.1 (valN z l).2.2) ∧ Below w.heap.size w w' := by
  by_cases h0 : z = 0
  · subst h0
    exact valueOf_null A n cap w
  · by_cases h1 : z < 10
    · cases l with
      | nil => simp [bodyN, h1] at hz hn; omega
      | cons c m =>
        have e : valN z (c :: m) = (1, sigN c m, ⟨#[]⟩) := by unfold valN; rw [if_neg h0, if_pos h1]
        rw [e]
        exact valueOf_int A n cap z c m w hn hR hcp hcp2 (by omega) h1
    · have e : valN z l = ((if z % 2 = 0 then 3 else 2), 0, ⟨l.toArray⟩) := by unfold valN; rw [if_neg h0, if_neg h1]
      rw [e]
      exact valueOf_str A n cap z l w hn hR (by omega)
theorem wrap64_64 (n : Int) : In64 (wrap64 n) := by
  unfold wrap64 In64
  omega
theorem sigN_64 (c : UInt8) (l : List UInt8) : In64 (sigN c l) := by
  have h : ∀ (l : List UInt8) (n : Int), In64 n → In64 (l.foldl (fun n d => wrap64 (n * 256) + (d.toNat : Int)) n) := by
    intro l
    induction l with
    | nil => intro n h; exact h
    | cons d l ih =>
      intro n h
      refine ih _ ?_
      have hd := d.toNat_lt
      show In64 (wrap64 (n * 256) + (d.toNat : Int))
      unfold wrap64 In64
      omega
  exact h l _ (wrap64_64 _)
theorem valN_64 (z : Nat) (l : List UInt8) : In64 (valN z l).2.1 := by
  unfold valN
  split
  · unfold In64; simp
  · split
    · split
      · exact sigN_64 _ _
      · unfold In64; simp
    · unfold In64; simp
theorem valN_size (z : Nat) (l : List UInt8) : (valN z l).2.2.size ≤ l.length := by
  unfold valN
  split
  · exact Nat.zero_le _
  · split
    · split <;> exact Nat.zero_le _
    · exact Nat.le_of_eq rfl
theorem rd_take {w : World} {B : Nat} {A : Option Addr} {l : List UInt8} (h : Rd w B A l) (n : Nat) : Rd w B A (l.take n) := by
  intro hp
  rw [List.length_take] at hp
  obtain ⟨ad, rfl, hb, hcell⟩ := h (by omega)
  refine ⟨ad, rfl, hb, fun j u hu => ?_⟩
  rw [List.getElem?_take] at hu
  split at hu
  · exact hcell _ u hu
  · cases hu
def getB (z : Nat) (b : List UInt8) : Option (Trip × List UInt8) :=
  if b.length < bodyN z then none
  else if Rt (valN z (b.take (bodyN z))).1 (valN z (b.take (bodyN z))).2.1 (valN z (b.take (bodyN z))).2.2 ∧ sortN (valN z (b.take (bodyN z))).1 (valN z (b.take (bodyN z))).2.1 (valN z (b.take (bodyN z))).2.2 = z then some (valN z (b.take (bodyN z)), b.drop (bodyN z)) else none
theorem getB_eq {z S : Nat} {b : List UInt8} {k1 n1 : Int} {s1 : ByteArray} (hS : bodyN z = S) (hb : S ≤ b.length) (hV : valN z (b.take S) = (k1, n1, s1)) : getB z b = if Rt k1 n1 s1 ∧ sortN k1 n1 s1 = z then some ((k1, n1, s1), b.drop S) else none := by
  subst hS
  unfold getB
  rw [if_neg (by omega), hV]
theorem box_cells (w1 : World) (k n : Int) (s : ByteArray) {wx : World} (hb : Below (w1.alloc (cell3 k n s)).heap.size (w1.alloc (cell3 k n s)) wx) :
    wx.cell? ⟨w1.heap.size, 0, none⟩ = some (.int .u8 k) ∧ wx.cell? ⟨w1.heap.size, 1, none⟩ = some (.int .i64 n) ∧ wx.cell? ⟨w1.heap.size, 2, none⟩ = some (.string s) := by
  have h : w1.heap.size < (w1.alloc (cell3 k n s)).heap.size := by simp
  refine ⟨(hb.cell (p := ⟨w1.heap.size, 0, none⟩) h).trans ?_, (hb.cell (p := ⟨w1.heap.size, 1, none⟩) h).trans ?_, (hb.cell (p := ⟨w1.heap.size, 2, none⟩) h).trans ?_⟩ <;> simp [go_sem]
abbrev Cells3 (X : World) (h : Nat) (k n : Int) (s : ByteArray) : Prop := X.cell? ⟨h, 0, none⟩ = some (.int .u8 k) ∧ X.cell? ⟨h, 1, none⟩ = some (.int .i64 n) ∧ X.cell? ⟨h, 2, none⟩ = some (.string s)
theorem cell_past {X : World} {g h o o2 : Nat} (hne : g < h) (x : Value) : (X.setCell ⟨g, o, none⟩ x).cell? ⟨h, o2, none⟩ = X.cell? ⟨h, o2, none⟩ :=
  World.cell?_setCell_other _ _ _ _ (by intro e; injection e; omega)
theorem kept3 {X : World} {g h : Nat} (hne : g < h) {k n : Int} {s : ByteArray} (hc : Cells3 X h k n s) (x y z : Value) : Cells3 (((X.setCell ⟨g, 0, none⟩ x).setCell ⟨g, 1, none⟩ y).setCell ⟨g, 2, none⟩ z) h k n s := by
  obtain ⟨h0, h1, h2⟩ := hc
  refine ⟨?_, ?_, ?_⟩ <;> rw [cell_past hne, cell_past hne, cell_past hne] <;> assumption
set_option maxRecDepth 100000 in
theorem cutBody_short (A : Option Addr) (cap z : Nat) (b : List UInt8) (w : World) (hz : z < 18446744073709551616) (hcp : b.length ≤ cap) (hcp2 : cap ≤ 9223372036854775807) (h : Hid (b.length < bodyN z)) :
    Calls Try.prog 67 #[.slice A b.length cap, .int .u64 z] w fun e w' => PartPost w A b cap none e w' := by
  have HX := Lib.hid (fun o => ((Below.refl w.heap.size w).alloc (Nat.le_refl _) o))
  go_enter Try.func67, Try.ntmps67
  go_wp2_with fail
  refine (bodyLen_all z _ hz).mono ?_
  rintro e w1 ⟨rfl, rfl⟩
  have h1 := h.out
  generalize bodyN z = S at *
  have h2 : (b.length : Int) < (S : Int) := by omega
  go_wp2_with fail
  exact bodyPost_ret (v := .tuple #[vv 0 0 ⟨#[]⟩, .slice none 0 0, .bool false]) (by simp [results, Try.results67, go_sem]) rfl ⟨rfl, HX.out _⟩
set_option maxRecDepth 100000 in
set_option maxHeartbeats 1600000 in
theorem cutBody_go (A : Option Addr) (cap z : Nat) (b : List UInt8) (w : World) (hR : Rd w w.heap.size A b) (hz : z < 18446744073709551616) (hcp : b.length ≤ cap) (hcp2 : cap ≤ 9223372036854775807) (S : Nat) (hS : Hid (bodyN z = S)) (hSb : S ≤ b.length) (R : Option (Trip × List UInt8)) (hRR : Hid (getB z b = R)) (hce : ¬ cap = S) :
    Calls Try.prog 67 #[.slice A b.length cap, .int .u64 z] w fun e w' => PartPost w A b cap R e w' := by
  have HX := Lib.hid (fun o => ((Below.refl w.heap.size w).alloc (Nat.le_refl _) o))
  have hb0 : (0 : Int) ≤ (S : Int) := by omega
  have hb1 : (S : Int) ≤ (b.length : Int) := by omega
  have hb2 : (S : Int) ≤ (cap : Int) := by omega
  have HR := Lib.hid hR
  clear hR
  go_enter Try.func67, Try.ntmps67
  go_wp2_with fail
  refine (bodyLen_all z _ hz).mono ?_
  rintro e w1 ⟨rfl, rfl⟩
  rw [hS.out]
  obtain ⟨⟨k1, n1, s1⟩, hV⟩ : ∃ t, valN z (b.take S) = t := ⟨_, rfl⟩
  have hlen : (b.take S).length = S := by rw [List.length_take]; omega
  have HV := Lib.hid (valueOf_any A S cap z (b.take S) (boxC w) hlen.symm hS.out.symm (rd_take (HR.out.on (HX.out _)) S) (by omega) hcp2)
  have h64 := valN_64 z (b.take S)
  have hsz := valN_size z (b.take S)
  rw [hV] at HV h64 hsz
  have HQ := Lib.hid hV
  have H64 := Lib.hid h64
  have hs1 : s1.size ≤ 9223372036854775807 := by simp only at hsz; omega
  clear hV h64 hsz hlen
  go_wp2_with fail
  refine HV.out.mono ?_
  rintro e w1 ⟨rfl, hb⟩
  have hW1 := hb.size
  have HW := Lib.hid (show Below (boxC w).heap.size (boxC w) (w1.alloc (cell3 k1 n1 s1)) from hb.alloc hb.size _)
  clear hb
  have HG := Lib.hid (getB_eq hS.out hSb HQ.out)
  rw [hRR.out] at HG
  go_wp2_with fail
  refine (Right_any k1 n1 s1 _ hs1).mono ?_
  rintro e w2 ⟨rfl, hb⟩
  by_cases hr : Rt k1 n1 s1
  · rw [decide_eq_true hr]
    have hs2 : s1.size ≤ 65536 := by unfold Rt at hr; omega
    have HRt := Lib.hid hr
    clear hr
    have HB2 := Lib.hid hb
    have hv := box_cells w1 k1 n1 s1 hb
    have hsz2 := hb.size
    clear hb
    go_wp2_with fail
    refine (sortOf_any k1 n1 s1 _ hs2 H64.out).mono ?_
    rintro e w3 ⟨rfl, hb⟩
    have HB3 := Lib.hid (HB2.out.trans (hb.mono hsz2))
    clear hv
    have hv := box_cells w1 k1 n1 s1 HB3.out
    have HB4 := Lib.hid (HW.out.trans (HB3.out.mono HW.out.size))
    obtain ⟨hcl, hfz⟩ := bcell HB4.out
    have hsz3 := HB4.out.size
    have HS3 := Lib.hid (fun (x y z : Value) => cut_end w w3 HB4.out x y z)
    clear hb
    by_cases hq : sortN k1 n1 s1 = z
    · rw [hq]
      have HK := Lib.hid hq
      clear hq
      have HN := Lib.hid (HG.out.trans (if_pos ⟨HRt.out, HK.out⟩))
      have HC := Lib.hid hv
      obtain ⟨hv0, hv1, hv2⟩ := hv
      have hne : w.heap.size < w1.heap.size := by have h := hW1; simp at h; omega
      have HC2 := Lib.hid (fun (x y z : Value) => kept3 hne HC.out x y z)
      go_wp2_with fail
      go_region_held3 (fun X => X.cell? ⟨w1.heap.size, 0, none⟩ = some (.int .u8 k1) ∧ X.cell? ⟨w1.heap.size, 1, none⟩ = some (.int .i64 n1) ∧ X.cell? ⟨w1.heap.size, 2, none⟩ = some (.string s1)) (first | exact HC.out | exact HC2.out _ _ _) (fail)
      go_wp2_with fail
      refine bodyPost_ret (v := .tuple #[vv k1 n1 s1, .slice (A.map (·.add S)) (b.length - S) (cap - S), .bool true]) (by simp [results, Try.results67, go_sem, hcl]) rfl ?_
      rw [HN.out]
      have hlen : (b.drop S).length = b.length - S := List.length_drop
      exact ⟨⟨A.map (·.add S), cap - S, by rw [hlen], ⟨by omega, by omega⟩, Tail.cut hcp hce⟩, (HS3.out _ _ _).drew⟩
    · have hqi : ¬ (sortN k1 n1 s1 : Int) = (z : Int) := by omega
      have HN := Lib.hid (HG.out.trans (if_neg fun h => hq h.2))
      generalize sortN k1 n1 s1 = q at *
      go_wp2_with fail
      refine bodyPost_ret (v := .tuple #[vv 0 0 ⟨#[]⟩, .slice none 0 0, .bool false]) (by simp [results, Try.results67, go_sem, hcl]) rfl ?_
      rw [HN.out]
      exact ⟨rfl, HS3.out _ _ _⟩
  · rw [decide_eq_false hr]
    have HN := Lib.hid (HG.out.trans (if_neg fun h => hr h.1))
    have HB4 := Lib.hid (HW.out.trans (hb.mono HW.out.size))
    obtain ⟨hcl, hfz⟩ := bcell HB4.out
    have hsz3 := HB4.out.size
    have HS3 := Lib.hid (fun (x y z : Value) => cut_end w w2 HB4.out x y z)
    clear hb hr
    go_wp2_with fail
    refine bodyPost_ret (v := .tuple #[vv 0 0 ⟨#[]⟩, .slice none 0 0, .bool false]) (by simp [results, Try.results67, go_sem, hcl]) rfl ?_
    rw [HN.out]
    exact ⟨rfl, HS3.out _ _ _⟩
set_option maxRecDepth 100000 in
set_option maxHeartbeats 1600000 in
theorem cutBody_last (A : Option Addr) (S z : Nat) (b : List UInt8) (w : World) (hR : Rd w w.heap.size A b) (hz : z < 18446744073709551616) (hcp : b.length ≤ S) (hcp2 : S ≤ 9223372036854775807) (hS : Hid (bodyN z = S)) (hSb : S ≤ b.length) (R : Option (Trip × List UInt8)) (hRR : Hid (getB z b = R)) :
    Calls Try.prog 67 #[.slice A b.length S, .int .u64 z] w fun e w' => PartPost w A b S R e w' := by
  have HX := Lib.hid (fun o => ((Below.refl w.heap.size w).alloc (Nat.le_refl _) o))
  have hb0 : (0 : Int) ≤ (S : Int) := by omega
  have hb1 : (S : Int) ≤ (b.length : Int) := by omega
  have hb2 : (S : Int) ≤ (S : Int) := by omega
  have HR := Lib.hid hR
  clear hR
  go_enter Try.func67, Try.ntmps67
  go_wp2_with fail
  refine (bodyLen_all z _ hz).mono ?_
  rintro e w1 ⟨rfl, rfl⟩
  rw [hS.out]
  obtain ⟨⟨k1, n1, s1⟩, hV⟩ : ∃ t, valN z (b.take S) = t := ⟨_, rfl⟩
  have hlen : (b.take S).length = S := by rw [List.length_take]; omega
  have HV := Lib.hid (valueOf_any A S S z (b.take S) (boxC w) hlen.symm hS.out.symm (rd_take (HR.out.on (HX.out _)) S) (by omega) hcp2)
  have h64 := valN_64 z (b.take S)
  have hsz := valN_size z (b.take S)
  rw [hV] at HV h64 hsz
  have HQ := Lib.hid hV
  have H64 := Lib.hid h64
  have hs1 : s1.size ≤ 9223372036854775807 := by simp only at hsz; omega
  clear hV h64 hsz hlen
  go_wp2_with fail
  refine HV.out.mono ?_
  rintro e w1 ⟨rfl, hb⟩
  have hW1 := hb.size
  have HW := Lib.hid (show Below (boxC w).heap.size (boxC w) (w1.alloc (cell3 k1 n1 s1)) from hb.alloc hb.size _)
  clear hb
  have HG := Lib.hid (getB_eq hS.out hSb HQ.out)
  rw [hRR.out] at HG
  go_wp2_with fail
  refine (Right_any k1 n1 s1 _ hs1).mono ?_
  rintro e w2 ⟨rfl, hb⟩
  by_cases hr : Rt k1 n1 s1
  · rw [decide_eq_true hr]
    have hs2 : s1.size ≤ 65536 := by unfold Rt at hr; omega
    have HRt := Lib.hid hr
    clear hr
    have HB2 := Lib.hid hb
    have hv := box_cells w1 k1 n1 s1 hb
    have hsz2 := hb.size
    clear hb
    go_wp2_with fail
    refine (sortOf_any k1 n1 s1 _ hs2 H64.out).mono ?_
    rintro e w3 ⟨rfl, hb⟩
    have HB3 := Lib.hid (HB2.out.trans (hb.mono hsz2))
    clear hv
    have hv := box_cells w1 k1 n1 s1 HB3.out
    have HB4 := Lib.hid (HW.out.trans (HB3.out.mono HW.out.size))
    obtain ⟨hcl, hfz⟩ := bcell HB4.out
    have hsz3 := HB4.out.size
    have HS3 := Lib.hid (fun (x y z : Value) => cut_end w w3 HB4.out x y z)
    clear hb
    by_cases hq : sortN k1 n1 s1 = z
    · rw [hq]
      have HK := Lib.hid hq
      clear hq
      have HN := Lib.hid (HG.out.trans (if_pos ⟨HRt.out, HK.out⟩))
      have HC := Lib.hid hv
      obtain ⟨hv0, hv1, hv2⟩ := hv
      have hne : w.heap.size < w1.heap.size := by have h := hW1; simp at h; omega
      have HC2 := Lib.hid (fun (x y z : Value) => kept3 hne HC.out x y z)
      go_wp2_with fail
      go_region_held3 (fun X => X.cell? ⟨w1.heap.size, 0, none⟩ = some (.int .u8 k1) ∧ X.cell? ⟨w1.heap.size, 1, none⟩ = some (.int .i64 n1) ∧ X.cell? ⟨w1.heap.size, 2, none⟩ = some (.string s1)) (first | exact HC.out | exact HC2.out _ _ _) (fail)
      go_wp2_with fail
      refine bodyPost_ret (v := .tuple #[vv k1 n1 s1, .slice A 0 0, .bool true]) (by simp [results, Try.results67, go_sem, hcl]) rfl ?_
      rw [HN.out]
      have hlen : (b.drop S).length = 0 := by rw [List.length_drop]; omega
      exact ⟨⟨A, 0, by rw [hlen], ⟨by omega, by omega⟩, by rw [List.drop_eq_nil_of_le (by omega)]; exact Tail.nil⟩, (HS3.out _ _ _).drew⟩
    · have hqi : ¬ (sortN k1 n1 s1 : Int) = (z : Int) := by omega
      have HN := Lib.hid (HG.out.trans (if_neg fun h => hq h.2))
      generalize sortN k1 n1 s1 = q at *
      go_wp2_with fail
      refine bodyPost_ret (v := .tuple #[vv 0 0 ⟨#[]⟩, .slice none 0 0, .bool false]) (by simp [results, Try.results67, go_sem, hcl]) rfl ?_
      rw [HN.out]
      exact ⟨rfl, HS3.out _ _ _⟩
  · rw [decide_eq_false hr]
    have HN := Lib.hid (HG.out.trans (if_neg fun h => hr h.1))
    have HB4 := Lib.hid (HW.out.trans (hb.mono HW.out.size))
    obtain ⟨hcl, hfz⟩ := bcell HB4.out
    have hsz3 := HB4.out.size
    have HS3 := Lib.hid (fun (x y z : Value) => cut_end w w2 HB4.out x y z)
    clear hb hr
    go_wp2_with fail
    refine bodyPost_ret (v := .tuple #[vv 0 0 ⟨#[]⟩, .slice none 0 0, .bool false]) (by simp [results, Try.results67, go_sem, hcl]) rfl ?_
    rw [HN.out]
    exact ⟨rfl, HS3.out _ _ _⟩
theorem cutBody_any (A : Option Addr) (n cap z : Nat) (b : List UInt8) (w : World) (hn : n = b.length) (hR : Rd w w.heap.size A b) (hz : z < 18446744073709551616) (hcp : b.length ≤ cap) (hcp2 : cap ≤ 9223372036854775807) (R : Option (Trip × List UInt8)) (hRR : Hid (getB z b = R)) :
    Calls Try.prog 67 #[.slice A n cap, .int .u64 z] w fun e w' => PartPost w A b cap R e w' := by
  subst hn
  by_cases h : b.length < bodyN z
  · have e := hRR.out
    unfold getB at e
    rw [if_pos h] at e
    subst e
    exact cutBody_short A cap z b w hz hcp hcp2 (Lib.hid h)
  · by_cases hce : cap = bodyN z
    · subst hce
      exact cutBody_last A (bodyN z) z b w hR hz hcp hcp2 (Lib.hid rfl) (by omega) R hRR
    · exact cutBody_go A cap z b w hR hz hcp hcp2 _ (Lib.hid rfl) (by omega) R hRR hce
end Go.Proofs.Ytdhdfeiobjmdaaa
