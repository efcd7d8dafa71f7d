/-
  Layer 8: a total: Step, Final. Conditions: right values.
-/
import Derived.Test.YtceknmibopnmhaaGreatDoorAAcc
import Derived.BigQuiet
namespace Go.Proofs.YtceknmibopnmhaaGreatDoor
open Go.ChangeShapes Go.WideShapes Go.ChangeAt Go.RowKit Go.Maps Go.Sort Go.Shelf Go.ChangeMaps Go.Lib
set_option linter.unusedVariables false

/-- a total's values, one more -/
def oneMore (all : Bool) (L : List Trip) (t : Trip) : List Trip := if all = true ∨ t.1 ≠ 0 then L ++ [t] else L
set_option maxRecDepth 100000 in
set_option maxHeartbeats 1000000 in
theorem Step_ok {B a : Nat} {all d : Bool} {fin : Bool → List Trip → Trip × Int} {w : World} {L : List Trip} (h : AccAt B a all d fin w L) (t : Trip) (ht : GoodT t) (hL : L.length < 100000) (hwd : WdB B w) :
    Calls Tryz.prog 29 #[.pointer (some ⟨a, 0, none⟩), vvT t] w fun e w' => e = .returned (.int .i64 0) ∧ AccAt B a all d fin w' (oneMore all L t) ∧ Keep (fun k => a < k) w w' := by
  obtain ⟨gb, cb, sf, ff, bs, rs, hb, hp, htal, hbs, hrs⟩ := h
  obtain ⟨sg, scb, fg, fcb, St, rfl, rfl, e1, e2, tst, tfi, tsb, ts0⟩ := htal
  obtain ⟨k, z, s⟩ := t
  have hlt := hb.lt
  obtain ⟨w1, hw1⟩ : ∃ w1, w.alloc (.cells #[.int .u8 k, .int .i64 z, .string s] 24) = w1 := ⟨_, rfl⟩
  have hal : Below w.heap.size w w1 := by rw [← hw1]; exact (Below.refl _ _).alloc (Nat.le_refl _) _
  have bv : BoxT w1 w.heap.size (k, z, s) := by rw [← hw1]; exact BoxT.new w (k, z, s)
  have hb1 := hb.on (hal.block a)
  obtain ⟨x0, x1, x2, x3, x4, x5⟩ := hb1.cells
  obtain ⟨y0, y1, y2⟩ := bv.cells
  dsimp only at y0 y1 y2
  have HB := Lib.hid hb1
  have HP := Lib.hid (hp.on (w' := w1) fun b h1 h2 => hal.block b h2)
  have HS := Lib.hid tst
  have HT := Lib.hid (And.intro tfi (And.intro tsb (tsb w w1 L ts0 fun b _ h => hal.block b h)))
  have HAL := Lib.hid hal
  have HBV := Lib.hid bv
  have HWD := Lib.hid (hwd.on hal)
  have HBS := Lib.hid hbs
  have HRS := Lib.hid (show ∀ b ∈ rs, b < w1.heap.size ∧ b ≠ a from fun b hm => ⟨Nat.lt_of_lt_of_le (hrs b hm).1 hal.size, (hrs b hm).2⟩)
  have HG := Lib.hid ht
  have hR : Rt k z s := ht.1
  have HSAME := Lib.hid (show ∀ X : World, Below w1.heap.size w1 X → AccAt B a all d fin X L ∧ St X L from fun X hX =>
    ⟨⟨gb, cb, _, _, bs, rs, HB.out.on (hX.block a), HP.out.on fun b _ h2 => hX.block b h2, ⟨sg, scb, fg, fcb, St, rfl, rfl, e1, e2, HS.out, HT.out.1, HT.out.2.1, HT.out.2.1 w1 X L HT.out.2.2 fun b _ h => hX.block b h⟩, HBS.out, fun b hm => ⟨Nat.lt_of_lt_of_le (HRS.out b hm).1 hX.size, (HRS.out b hm).2⟩⟩, HT.out.2.1 w1 X L HT.out.2.2 fun b _ h => hX.block b h⟩)
  clear hb hb1 hp tst tfi tsb ts0 hal hwd hbs hrs ht bv
  show Calls Tryz.prog 29 #[.pointer (some ⟨a, 0, none⟩), vv k z s] w _
  go_enter Tryz.func29, Tryz.ntmps29
  go_wp2_with fail
  refine (isMade_yes a w1 x0).mono ?_
  rintro e w2 ⟨rfl, rfl⟩
  go_wp2_with fail
  refine (Right_any k z s _ (Nat.le_trans (GoodT.size HG.out) (by decide))).mono ?_
  rintro e w3 ⟨rfl, hb3⟩
  rw [decide_eq_true hR]
  have hA3 := HB.out.on (hb3.block a)
  obtain ⟨x0, x1, x2, x3, x4, x5⟩ := hA3.cells
  obtain ⟨y0, y1, y2⟩ := (HBV.out.on hb3).cells
  dsimp only at y0 y1 y2
  have HS3 := Lib.hid (HSAME.out w3 hb3)
  have HB3 := Lib.hid hb3
  have HA3 := Lib.hid hA3
  clear hb3 hA3
  -- nothing is done
  have HNO := Lib.hid (show all = false → k = 0 → AccAt B a all d fin w3 (oneMore all L (k, z, s)) ∧ Keep (fun k => a < k) w w3 from fun h1 h2 => by
    rw [show oneMore all L (k, z, s) = L from if_neg (by rw [h1]; simp [h2])]
    exact ⟨HS3.out.1, (Keep.of_below HAL.out).trans (Keep.of_below HB3.out)⟩)
  -- it is handed on
  have HYES := Lib.hid (show (all = true ∨ k ≠ 0) → Calls Tryz.prog sg (#[vvT (k, z, s)] ++ scb) w3.drew fun e w' => e = .returned (.tuple #[]) ∧ AccAt B a all d fin w' (oneMore all L (k, z, s)) ∧ Keep (fun k => a < k) w w' from fun h1 => by
    have hd : Below w2.heap.size w2 w3.drew := drewR HB3.out
    refine (HS.out w3.drew L (k, z, s) HG.out hL (HWD.out.on hd) (HSAME.out w3.drew hd).2).mono ?_
    rintro e w4 ⟨rfl, hs4, hk4⟩
    rw [show oneMore all L (k, z, s) = L ++ [(k, z, s)] from if_pos h1]
    have hne : ∀ b, b ≤ a → ¬ b ∈ bs := fun b hb hm => by have := HBS.out b hm; omega
    have hdr : w3.drew.heap = w3.heap := rfl
    refine ⟨rfl, ⟨gb, cb, _, _, bs, rs, HA3.out.on fun hl => hk4.block a hl (hne a (Nat.le_refl _)), (HP.out.on (w' := w3) fun b _ h2 => HB3.out.block b h2).on fun b h2 h3 => hk4.block b h3 (hne b (Nat.le_of_lt h2)), ⟨sg, scb, fg, fcb, St, rfl, rfl, e1, e2, HS.out, HT.out.1, HT.out.2.1, hs4⟩, HBS.out, fun b hm => ⟨Nat.lt_of_lt_of_le (HRS.out b hm).1 (Nat.le_trans HB3.out.size hk4.size), (HRS.out b hm).2⟩⟩, ?_⟩
    exact (Keep.of_below HAL.out).trans ((Keep.of_below hd).trans (hk4.imp fun b hm => HBS.out b hm)))
  clear x5
  cases all with
  | true =>
    have HY := Lib.hid (HYES.out (.inl rfl))
    go_wp2_with fail
    go_region_law (first
      | (go_simp; refine HY.out.mono ?_; rintro e w4 ⟨rfl, hac, hkk⟩; have HAC := Lib.hid hac; have HKK := Lib.hid hkk; clear hac hkk))
    all_goals
      go_wp2_with fail
      go_ret
      exact ⟨rfl, HAC.out, HKK.out⟩
  | false =>
    by_cases hk0 : k = 0
    · subst hk0
      have HN := Lib.hid (HNO.out rfl rfl)
      go_wp2_with fail
      go_ret
      exact ⟨rfl, HN.out.1, HN.out.2⟩
    · have HY := Lib.hid (HYES.out (.inr hk0))
      have hkd : decide (k = 0) = false := decide_eq_false hk0
      go_wp2_with fail
      go_region_law (first
        | (go_simp; refine HY.out.mono ?_; rintro e w4 ⟨rfl, hac, hkk⟩; have HAC := Lib.hid hac; have HKK := Lib.hid hkk; clear hac hkk))
      all_goals
        go_wp2_with fail
        go_ret
        exact ⟨rfl, HAC.out, HKK.out⟩
end Go.Proofs.YtceknmibopnmhaaGreatDoor
