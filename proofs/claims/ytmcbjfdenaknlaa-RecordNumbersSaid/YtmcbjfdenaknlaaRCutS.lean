/-
  record.cutString: the text or blob whose bytes b begins with, and what is behind its end. Conditions: sizes.
-/
import Derived.Test.YtmcbjfdenaknlaaRCut
namespace Go.Proofs.Ytmcbjfdenaknlaa
open Go.ChangeShapes Go.WideShapes Go.ChangeAt Go.RowKit
set_option linter.unusedVariables false

/-- the string that begins here, when so many bytes of it are told, and what is behind its end -/
def getS (t : UInt8) : List UInt8 → Nat → Option (List UInt8 × List UInt8)
  | c :: d :: l, n => if 65536 < n then none else if (c ^^^ t).toNat ≠ 0 then (getS t (d :: l) (n + 1)).map (fun p => ((c ^^^ t) :: p.1, p.2))
      else if (d ^^^ t).toNat = 255 then (getS t l (n + 1)).map (fun p => (0 :: p.1, p.2))
      else if (d ^^^ t).toNat = 0 then some ([], l) else none
  | _, _ => none
def addS (xs : List UInt8) (o : Option (List UInt8 × List UInt8)) : Option (List UInt8 × List UInt8) := o.map fun p => (xs ++ p.1, p.2)
theorem getS_long (t : UInt8) (l : List UInt8) (n : Nat) (h : 65536 < n) : getS t l n = none := by
  rcases l with _ | ⟨c, _ | ⟨d, l⟩⟩
  · rfl
  · rfl
  · rw [getS, if_pos h]
theorem addS_push (xs : List UInt8) (c : UInt8) (o : Option (List UInt8 × List UInt8)) : addS xs (o.map fun p => (c :: p.1, p.2)) = addS (xs ++ [c]) o := by
  cases o <;> simp [addS]
theorem getS_other {t : UInt8} {b xs : List UInt8} {k : Nat} {c : UInt8} (h : b[k]? = some c) (hn : xs.length ≤ 65536) (h0 : (c ^^^ t).toNat ≠ 0) :
    addS xs (getS t (b.drop k) xs.length) = addS (xs ++ [c ^^^ t]) (getS t (b.drop (k + 1)) (xs ++ [c ^^^ t]).length) := by
  have e : b.drop k = c :: b.drop (k + 1) := by
    rw [List.drop_eq_getElem_cons (List.getElem?_eq_some_iff.1 h).1, (List.getElem?_eq_some_iff.1 h).2]
  rw [e, List.length_append]
  cases h2 : b.drop (k + 1) with
  | nil => simp [getS, addS]
  | cons d l =>
    rw [getS, if_neg (by omega), if_pos h0, addS_push]
    rfl
theorem getS_zero {t : UInt8} {b xs : List UInt8} {k : Nat} {c d : UInt8} (h : b[k]? = some c) (h2 : b[k + 1]? = some d) (hn : xs.length ≤ 65536) (h0 : (c ^^^ t).toNat = 0) (hd : (d ^^^ t).toNat = 255) :
    addS xs (getS t (b.drop k) xs.length) = addS (xs ++ [0]) (getS t (b.drop (k + 2)) (xs ++ [0]).length) := by
  have e : b.drop k = c :: b.drop (k + 1) := by
    rw [List.drop_eq_getElem_cons (List.getElem?_eq_some_iff.1 h).1, (List.getElem?_eq_some_iff.1 h).2]
  have e2 : b.drop (k + 1) = d :: b.drop (k + 2) := by
    rw [List.drop_eq_getElem_cons (List.getElem?_eq_some_iff.1 h2).1, (List.getElem?_eq_some_iff.1 h2).2]
  rw [e, e2, getS, if_neg (by omega), if_neg (by omega), if_pos hd, addS_push, List.length_append]
  rfl
theorem getS_end {t : UInt8} {b xs : List UInt8} {k : Nat} {c d : UInt8} (h : b[k]? = some c) (h2 : b[k + 1]? = some d) (hn : xs.length ≤ 65536) (h0 : (c ^^^ t).toNat = 0) (hd : (d ^^^ t).toNat = 0) :
    addS xs (getS t (b.drop k) xs.length) = some (xs, b.drop (k + 2)) := by
  have e : b.drop k = c :: b.drop (k + 1) := by
    rw [List.drop_eq_getElem_cons (List.getElem?_eq_some_iff.1 h).1, (List.getElem?_eq_some_iff.1 h).2]
  have e2 : b.drop (k + 1) = d :: b.drop (k + 2) := by
    rw [List.drop_eq_getElem_cons (List.getElem?_eq_some_iff.1 h2).1, (List.getElem?_eq_some_iff.1 h2).2]
  rw [e, e2, getS, if_neg (by omega), if_neg (by omega), if_neg (by omega), if_pos hd]
  simp [addS]
theorem getS_wrong {t : UInt8} {b xs : List UInt8} {k : Nat} {c d : UInt8} (h : b[k]? = some c) (h2 : b[k + 1]? = some d) (hn : xs.length ≤ 65536) (h0 : (c ^^^ t).toNat = 0) (hd : (d ^^^ t).toNat ≠ 255) (hd0 : (d ^^^ t).toNat ≠ 0) :
    addS xs (getS t (b.drop k) xs.length) = none := by
  have e : b.drop k = c :: b.drop (k + 1) := by
    rw [List.drop_eq_getElem_cons (List.getElem?_eq_some_iff.1 h).1, (List.getElem?_eq_some_iff.1 h).2]
  have e2 : b.drop (k + 1) = d :: b.drop (k + 2) := by
    rw [List.drop_eq_getElem_cons (List.getElem?_eq_some_iff.1 h2).1, (List.getElem?_eq_some_iff.1 h2).2]
  rw [e, e2, getS, if_neg (by omega), if_neg (by omega), if_neg hd, if_neg hd0]
  rfl
theorem getS_cut {t : UInt8} {b xs : List UInt8} {k : Nat} (h : b.length ≤ k + 1) : addS xs (getS t (b.drop k) xs.length) = none := by
  have hl : (b.drop k).length ≤ 1 := by rw [List.length_drop]; omega
  generalize b.drop k = l at *
  rcases l with _ | ⟨c, _ | ⟨d, l⟩⟩
  · rfl
  · rfl
  · exact absurd hl (by simp)

/-- what is told of a string's bytes: the value, what is behind it, and whether it is one -/
def CutPost (w : World) (A : Option Addr) (b : List UInt8) (kd : Int) (cap : Nat) (o : Option (List UInt8 × List UInt8)) (e : Ending) (w' : World) : Prop :=
  (match o with
    | none => e = .returned (.tuple #[vv 0 0 ⟨#[]⟩, .slice none 0 0, .bool false])
    | some (x, r) => ∃ A' c', e = .returned (.tuple #[vv kd 0 ⟨x.toArray⟩, .slice A' r.length c', .bool true]) ∧ (r.length ≤ c' ∧ c' ≤ cap) ∧ Tail A b A' r) ∧ Below w.heap.size w w'

abbrev boxC (w : World) : World := w.alloc (.cells #[.int .u8 0, .int .i64 0, .string ⟨#[]⟩] 30)
theorem cut_end (w wx : World) (hb : Below (boxC w).heap.size (boxC w) wx) (x y z : Value) :
    Below w.heap.size w (((wx.setCell ⟨w.heap.size, 0, none⟩ x).setCell ⟨w.heap.size, 1, none⟩ y).setCell ⟨w.heap.size, 2, none⟩ z) := by
  have h0 : Below w.heap.size w (boxC w) := (Below.refl w.heap.size w).alloc (Nat.le_refl _) _
  have h1 : Below w.heap.size w wx := h0.trans (hb.mono (by simp))
  exact ((h1.setCell (by simp) x).setCell (by simp) y).setCell (by simp) z
theorem cut_kept (w wx : World) {A1 : Option Addr} {n c1 : Nat} {xs : List UInt8} (h : Own wx (boxC w).heap.size (.slice A1 n c1) xs) (x y z : Value) :
    Own (((wx.setCell ⟨w.heap.size, 0, none⟩ x).setCell ⟨w.heap.size, 1, none⟩ y).setCell ⟨w.heap.size, 2, none⟩ z) (boxC w).heap.size (.slice A1 n c1) xs :=
  ownsRow_setCell_below (ownsRow_setCell_below (ownsRow_setCell_below h (by simp) x) (by simp) y) (by simp) z
def CutRel (w : World) (t : UInt8) (b : List UInt8) (R : Option (List UInt8 × List UInt8)) (s i : Value) (wr : World) : Prop :=
  ∃ (k : Nat) (xs : List UInt8), i = .int .i64 k ∧ k ≤ b.length ∧ addS xs (getS t (b.drop k) xs.length) = R ∧ Own wr (boxC w).heap.size s xs ∧ Below (boxC w).heap.size (boxC w) wr
set_option maxRecDepth 100000 in
set_option maxHeartbeats 1600000 in
theorem cutString_any (A : Option Addr) (cap : Nat) (b : List UInt8) (t : UInt8) (kd : Int) (w : World) (hR : Rd w w.heap.size A b) (hcp : b.length ≤ cap) (hcp2 : cap ≤ 9223372036854775807) (R : Option (List UInt8 × List UInt8)) (hRR : Hid (getS t b 0 = R)) :
    Calls Try.prog 51 #[.slice A b.length cap, b8 t, .int .u8 kd] w fun e w' => CutPost w A b kd cap R e w' := by
  have HB := Lib.hid ((Below.refl w.heap.size w).alloc (Nat.le_refl _) (.cells #[.int .u8 0, .int .i64 0, .string ⟨#[]⟩] 30))
  have HR := Lib.hid hR
  have HK := Lib.hid hcp
  have hbl : b.length ≤ 9223372036854775807 := by omega
  clear hR
  go_enter Try.func51, Try.ntmps51
  go_wp2_with fail
  go_loopw [9, 10] (fun s i wr => CutRel w t b R s i wr) (fun _ i _ => b.length - (intOf i).toNat)
  case atStart => exact ⟨0, [], rfl, Nat.zero_le _, by rw [← hRR.out]; simp [addS], World.ownsRow_nil _ _ _ _, Below.refl _ _⟩
  case round =>
    obtain ⟨k, xs, rfl, hk, hrel, ho, hb⟩ := hrel
    obtain ⟨hcl, hfz⟩ := bcell hb
    have hsz := hb.size
    simp only [boxC] at hsz hcl hfz
    obtain ⟨A1, c1, rfl, h1, h2, hrd⟩ := ho.form
    have HO := Lib.hid ho
    have HW := Lib.hid hb
    have HE := Lib.hid hrel
    have HRr := Lib.hid ((HR.out.on HB.out).on hb)
    have HS := Lib.hid (fun (x y z : Value) => cut_end w wr hb x y z)
    clear ho hb hrel hrd
    by_cases hlt : k < b.length
    · by_cases hle : xs.length ≤ 65536
      · obtain ⟨fd, c, rfl, hbl2, hgc, hcell⟩ := HRr.out.cell hlt
        have hc1 : c.toNat < 256 := c.toNat_lt
        have ht1 : t.toNat < 256 := t.toNat_lt
        have hz : bits .xor .u8 (c.toNat : Int) (t.toNat : Int) = ((c ^^^ t).toNat : Int) := by rw [u8_xor_nat _ _ hc1 ht1, UInt8.toNat_xor]
        unfold b8 at *
        by_cases h0 : (c ^^^ t).toNat = 0
        · rw [h0] at hz
          by_cases hk1 : k + 1 = b.length
          · have HN := Lib.hid (getS_cut (t := t) (xs := xs) (show b.length ≤ k + 1 by omega))
            clear hgc
            go_wp2_with fail
            refine bodyPost_ret (v := .tuple #[vv 0 0 ⟨#[]⟩, .slice none 0 0, .bool false]) (by simp [results, Try.results51, go_sem, hcl]) rfl ?_
            rw [← HE.out, HN.out]
            exact ⟨rfl, HS.out _ _ _⟩
          · obtain ⟨fd2, d, e2, _, hgd, hcell2⟩ := HRr.out.cell (k := k + 1) (by omega)
            obtain rfl := Option.some.inj e2
            clear e2
            have hd1 : d.toNat < 256 := d.toNat_lt
            have hz2 : bits .xor .u8 (d.toNat : Int) (t.toNat : Int) = ((d ^^^ t).toNat : Int) := by rw [u8_xor_nat _ _ hd1 ht1, UInt8.toNat_xor]
            unfold b8 at *
            have hcell3 : wr.cell? ⟨fd.block, fd.off + (k + 1), none⟩ = some (.int .u8 (d.toNat : Int)) := by simpa [Addr.add] using hcell2
            clear hcell2
            by_cases h255 : (d ^^^ t).toNat = 255
            · have HP := Lib.hid (getS_zero (t := t) hgc hgd hle h0 h255)
              rw [h255] at hz2
              clear hgc hgd h0 h255
              go_wp2_with (at_builtin; with_reducible refine wpList_app1 rfl (.tmp 50) (.tmp 51) rfl (boxC w).heap.size _ xs rfl HO.out _ 0 rfl rfl (by omega) (by simpa using hsz) ?_; intro v1 w1 ho1 hb1)
              go_roundw
              case rel => exact ⟨k + 2, xs ++ [0], by go_num, by omega, by rw [← HP.out]; exact HE.out, ho1, HW.out.trans hb1⟩
              case measure => simp [intOf]; omega
            · by_cases hd0 : (d ^^^ t).toNat = 0
              · have HP := Lib.hid (getS_end (t := t) hgc hgd hle h0 hd0)
                rw [hd0] at hz2
                clear hgc hgd h0 h255 hd0
                go_wp2_with fail
                have HC := Lib.hid (run_str (own_rd HO.out.drew) c1)
                have HC2 := Lib.hid (fun (x y z : Value) => run_str (own_rd (cut_kept w wr.drew HO.out.drew x y z)) c1)
                have hb0 : (0 : Int) ≤ (k : Int) + 1 + 1 := by omega
                have hb1 : (k : Int) + 1 + 1 ≤ (b.length : Int) := by omega
                have hb2 : (k : Int) + 1 + 1 ≤ (cap : Int) := by omega
                have hb3 : IntKind.i64.wrap ((k : Int) + 1 + 1) = (k : Int) + 1 + 1 := by rw [IntKind.wrap_i64]; omega
                have hb4 : ((k : Int) + 1 + 1).toNat = k + 2 := by omega
                by_cases hce : cap = k + 2
                · go_region_held3 (fun X => (convert 24 9 (.slice A1 xs.length c1)).run Try.prog X = .ok (.string ⟨xs.toArray⟩) X) (first | exact HC.out | exact HC2.out _ _ _) (fail)
                  go_wp2_with fail
                  refine bodyPost_ret (v := .tuple #[vv kd 0 ⟨xs.toArray⟩, .slice (some fd) (b.length - (k + 2)) 0, .bool true]) (by simp [results, Try.results51, go_sem, hcl]) rfl ?_
                  rw [← HE.out, HP.out]
                  have hlen : (b.drop (k + 2)).length = b.length - (k + 2) := List.length_drop
                  have hnil : b.drop (k + 2) = [] := List.drop_eq_nil_of_le (by omega)
                  refine ⟨⟨some fd, 0, by rw [hlen], ⟨by omega, by omega⟩, ?_⟩, (HS.out _ _ _).drew⟩
                  rw [hnil]
                  exact Tail.nil
                · go_region_held3 (fun X => (convert 24 9 (.slice A1 xs.length c1)).run Try.prog X = .ok (.string ⟨xs.toArray⟩) X) (first | exact HC.out | exact HC2.out _ _ _) (fail)
                  go_wp2_with fail
                  refine bodyPost_ret (v := .tuple #[vv kd 0 ⟨xs.toArray⟩, .slice (some ⟨fd.block, fd.off + (k + 1 + 1), none⟩) (b.length - (k + 2)) (cap - (k + 2)), .bool true]) (by simp [results, Try.results51, go_sem, hcl]) rfl ?_
                  rw [← HE.out, HP.out]
                  have hlen : (b.drop (k + 2)).length = b.length - (k + 2) := List.length_drop
                  refine ⟨⟨some ⟨fd.block, fd.off + (k + 1 + 1), none⟩, cap - (k + 2), by rw [hlen], ⟨by omega, by omega⟩, ?_⟩, (HS.out _ _ _).drew⟩
                  have h : Tail (some fd) b _ _ := Tail.cut hcp hce
                  have e : (some fd : Option Addr).map (·.add (k + 2)) = some ⟨fd.block, fd.off + (k + 1 + 1), none⟩ := by simp [Addr.add]
                  rw [e] at h
                  exact h
              · have HN := Lib.hid (getS_wrong (t := t) hgc hgd hle h0 h255 hd0)
                clear hgc hgd h0
                generalize d ^^^ t = q at *
                go_wp2_with fail
                refine bodyPost_ret (v := .tuple #[vv 0 0 ⟨#[]⟩, .slice none 0 0, .bool false]) (by simp [results, Try.results51, go_sem, hcl]) rfl ?_
                rw [← HE.out, HN.out]
                exact ⟨rfl, HS.out _ _ _⟩
        · have HP := Lib.hid (getS_other (t := t) hgc hle h0)
          clear hgc
          generalize c ^^^ t = q at *
          go_wp2_with (at_builtin; with_reducible refine wpList_app1 rfl (.tmp 31) (.tmp 33) rfl (boxC w).heap.size _ xs rfl HO.out _ q rfl rfl (by omega) (by simpa using hsz) ?_; intro v1 w1 ho1 hb1)
          go_roundw
          case rel => exact ⟨k + 1, xs ++ [q], by go_num, by omega, by rw [← HP.out]; exact HE.out, ho1, HW.out.trans hb1⟩
          case measure => simp [intOf]; omega
      · have HN := Lib.hid (getS_long t (b.drop k) xs.length (by omega))
        go_wp2_with fail
        refine bodyPost_ret (v := .tuple #[vv 0 0 ⟨#[]⟩, .slice none 0 0, .bool false]) (by simp [results, Try.results51, go_sem, hcl]) rfl ?_
        rw [← HE.out, HN.out]
        exact ⟨rfl, HS.out _ _ _⟩
    · have HN := Lib.hid (getS_cut (t := t) (xs := xs) (show b.length ≤ k + 1 by omega))
      go_wp2_with fail
      refine bodyPost_ret (v := .tuple #[vv 0 0 ⟨#[]⟩, .slice none 0 0, .bool false]) (by simp [results, Try.results51, go_sem, hcl]) rfl ?_
      rw [← HE.out, HN.out]
      exact ⟨rfl, HS.out _ _ _⟩
end Go.Proofs.Ytmcbjfdenaknlaa
