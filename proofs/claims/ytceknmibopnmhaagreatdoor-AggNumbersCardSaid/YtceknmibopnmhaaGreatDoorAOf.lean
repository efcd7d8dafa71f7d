/-
  Layer 8: what a total of values comes to: of. Conditions: right values, a known name.
-/
import Derived.Test.YtceknmibopnmhaaGreatDoorAStp
import Derived.Test.YtceknmibopnmhaaGreatDoorANew
namespace Go.Proofs.YtceknmibopnmhaaGreatDoor
open Go.ChangeShapes Go.WideShapes Go.ChangeAt Go.RowKit Go.Maps Go.Sort Go.Shelf Go.ChangeMaps Go.Lib
set_option linter.unusedVariables false

/-- the values that a total has -/
def valsOf (all : Bool) (vs : List Trip) : List Trip := vs.foldl (oneMore all) []
theorem valsOf_snoc (all : Bool) (vs : List Trip) (t : Trip) : valsOf all (vs ++ [t]) = oneMore all (valsOf all vs) t := by
  unfold valsOf
  rw [List.foldl_append]
  rfl
theorem valsOf_filter (all : Bool) (vs : List Trip) : valsOf all vs = vs.filter fun t => all || decide (t.1 ≠ 0) := by
  have h : ∀ (vs acc : List Trip), vs.foldl (oneMore all) acc = acc ++ vs.filter fun t => all || decide (t.1 ≠ 0) := by
    intro vs
    induction vs with
    | nil => intro acc; simp
    | cons t r ih =>
      intro acc
      rw [List.foldl_cons, ih, List.filter_cons]
      unfold oneMore
      cases all with
      | true => simp
      | false =>
        by_cases h : t.1 = 0 <;> simp [h]
  have := h vs []
  rw [List.nil_append] at this
  exact this
theorem valsOf_len (all : Bool) (vs : List Trip) : (valsOf all vs).length ≤ vs.length := by
  rw [valsOf_filter]
  exact List.length_filter_le _ _
/-- a slice of values -/
def RdT (w : World) (A : Option Addr) (vs : List Trip) : Prop := vs = [] ∨ ∃ b o, A = some ⟨b, o, none⟩ ∧ RdV w b o vs
theorem RdT.on {w w' : World} {A : Option Addr} {vs : List Trip} (h : RdT w A vs) (hb : Below w.heap.size w w') : RdT w' A vs := by
  rcases h with h | ⟨b, o, h1, h2⟩
  · exact .inl h
  · exact .inr ⟨b, o, h1, h2.on hb⟩
def OfRel (w1 : World) (B a : Nat) (all d : Bool) (fin : Bool → List Trip → Trip × Int) (vs : List Trip) (v10 : Value) (wr : World) : Prop :=
  ∃ i : Nat, i ≤ vs.length ∧ v10 = .int .i64 (i : Int) ∧ AccAt B a all d fin wr (valsOf all (vs.take i)) ∧ Below w1.heap.size w1 wr
set_option maxRecDepth 100000 in
set_option maxHeartbeats 1000000 in
theorem of_any {name : ByteArray} {all d : Bool} {fin : Bool → List Trip → Trip × Int} (hn : Named name all fin) (had : (all && d) = false) (w : World) (hW : Wd w) (A : Option Addr) (c : Nat) (vs : List Trip) (hvs : RdT w A vs) (hg : ∀ t ∈ vs, GoodT t) (hl : vs.length ≤ 1000) (hc : vs.length ≤ c) :
    Calls Tryz.prog 40 #[.string name, .bool d, .slice A vs.length c] w fun e w' => e = .returned (.tuple #[vvT (fin d (valsOf all vs)).1, .int .i64 (fin d (valsOf all vs)).2]) ∧ Below w.heap.size w w' := by
  obtain ⟨w1, hw1⟩ : ∃ w1, w.alloc (.cells #[.int .u8 0, .int .i64 0, .string ⟨#[]⟩] 24) = w1 := ⟨_, rfl⟩
  have hal : Below w.heap.size w w1 := by rw [← hw1]; exact (Below.refl _ _).alloc (Nat.le_refl _) _
  have hres : BoxT w1 w.heap.size (0, 0, ⟨#[]⟩) := by rw [← hw1]; exact BoxT.new w (0, 0, ⟨#[]⟩)
  have HWD := Lib.hid (show WdB w.heap.size w1 from ⟨w, hW, Nat.le_refl _, hal⟩)
  have HNEW := Lib.hid (New_ok (B := w.heap.size) hn had w1 hal.size)
  have HAL := Lib.hid hal
  have HRES := Lib.hid hres
  have HRD := Lib.hid (hvs.on hal)
  have HG := Lib.hid hg
  clear hal hres hvs hg hn hW
  go_enter Tryz.func40, Tryz.ntmps40
  go_wp2_with fail
  refine HNEW.out.mono ?_
  rintro e w2 ⟨a, rfl, hat, ha, hb2⟩
  have HAT := Lib.hid hat
  have HA := Lib.hid ha
  have HB2 := Lib.hid hb2
  clear hat ha hb2
  go_wp2_with fail
  go_loopw [10] (fun v10 wr => OfRel w1 w.heap.size a all d fin vs v10 wr) (fun v10 _ => vs.length - (intOf v10).toNat)
  case atStart => exact ⟨0, Nat.zero_le _, rfl, HAT.out, HB2.out⟩
  case round =>
    obtain ⟨i, hi, rfl, hac, hb⟩ := hrel
    by_cases hlt : i < vs.length
    · obtain ⟨⟨k, z, s⟩, ht⟩ : ∃ t, vs[i]? = some t := ⟨_, List.getElem?_eq_getElem hlt⟩
      rcases HRD.out with hrd | ⟨b, o, rfl, hrd⟩
      · subst hrd
        simp at hlt
      have hrd' := hrd.on hb
      obtain ⟨y0, y1, y2⟩ := hrd'.2 i k z s ht
      have q1 : (i : Int) < (vs.length : Int) := by omega
      have q2 : (0 : Int) ≤ (i : Int) := by omega
      have hlen : (valsOf all (vs.take i)).length < 100000 := by
        have h1 := valsOf_len all (vs.take i)
        rw [List.length_take] at h1
        omega
      have HST := Lib.hid (Step_ok hac (k, z, s) (HG.out _ (List.mem_of_getElem? ht)) hlen (HWD.out.on hb))
      have HSN := Lib.hid (show valsOf all (vs.take (i + 1)) = oneMore all (valsOf all (vs.take i)) (k, z, s) by
        rw [List.take_add_one, ht, Option.toList_some, valsOf_snoc])
      have HB := Lib.hid hb
      have HI := Lib.hid (show i + 1 ≤ vs.length from hlt)
      clear hac hb hrd hrd' ht hlen
      go_wp2_with fail
      refine HST.out.mono ?_
      rintro e w4 ⟨rfl, hac, hk⟩
      have HAC := Lib.hid hac
      have HK := Lib.hid hk
      clear hac hk
      go_wp2_with fail
      refine ⟨⟨i + 1, HI.out, by go_num, by rw [HSN.out]; exact HAC.out, HB.out.trans (HK.out.below HB.out.size fun k hk => by have := HA.out; omega)⟩, by have := HI.out; simp [intOf]; omega⟩
    · obtain rfl : i = vs.length := by omega
      rw [List.take_length] at hac
      have q1 : ¬ ((vs.length : Int) < (vs.length : Int)) := by omega
      have HF := Lib.hid (Final_ok hac (by have := valsOf_len all vs; omega) (HWD.out.on hb))
      have HB := Lib.hid hb
      clear hac hb
      go_wp2_with fail
      refine HF.out.mono ?_
      rintro e w4 ⟨rfl, hb4⟩
      have hbb := HB.out.trans (hb4.mono HB.out.size)
      obtain ⟨y0, y1, y2⟩ := (HRES.out.on hbb).cells
      obtain ⟨f0, f1, f2⟩ := (HRES.out.on hbb).frz
      dsimp only at y0 y1 y2
      have HBB := Lib.hid (HAL.out.trans (hbb.mono HAL.out.size))
      obtain ⟨⟨⟨k, z, s⟩, r⟩, ht⟩ : ∃ t, fin d (valsOf all vs) = t := ⟨_, rfl⟩
      rw [ht]
      clear hb4 hbb
      go_wp2_with fail
      refine bodyPost_ret (v := .tuple #[vv k z s, .int .i64 r]) (by simp [results, Tryz.results40, go_sem, y0, y1, y2]) rfl ⟨by rw [ht], ?_⟩
      exact ((HBB.out.setCell (p := ⟨w.heap.size, 0, none⟩) (Nat.le_refl _) _).setCell (p := ⟨w.heap.size, 1, none⟩) (Nat.le_refl _) _).setCell (p := ⟨w.heap.size, 2, none⟩) (Nat.le_refl _) _
end Go.Proofs.YtceknmibopnmhaaGreatDoor
