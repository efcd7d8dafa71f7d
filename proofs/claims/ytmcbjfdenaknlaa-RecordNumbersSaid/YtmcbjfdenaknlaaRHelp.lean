/-
  The statements' helpers of layer 3: makers of values, SameBytes, CopyBytes, Small, right. Conditions: sizes.
-/
import Derived.Test.YtmcbjfdenaknlaaRPutR
import Derived.Laws.IdiomStrings
import Derived.Laws.BytesArg
namespace Go.Proofs.Ytmcbjfdenaknlaa
open Go.ChangeShapes Go.WideShapes Go.ChangeAt Go.RowKit
set_option linter.unusedVariables false

/-- the world with a place for the answer -/
abbrev w1 (w : World) : World := w.alloc (box 0 0 ⟨#[]⟩)
theorem w1_below (w : World) : Below w.heap.size w (w1 w) := (Below.refl _ _).alloc (Nat.le_refl _) _
theorem w1_size (w : World) : (w1 w).heap.size = w.heap.size + 1 := by simp
theorem w1_out (w : World) (X : World) (h : Below (w1 w).heap.size (w1 w) X) :
    X.cell? ⟨w.heap.size, 0, none⟩ = some (.int .u8 0) ∧ X.cell? ⟨w.heap.size, 1, none⟩ = some (.int .i64 0) ∧ X.cell? ⟨w.heap.size, 2, none⟩ = some (.string ⟨#[]⟩) ∧
    X.frozen? ⟨w.heap.size, 0, none⟩ = false ∧ X.frozen? ⟨w.heap.size, 1, none⟩ = false ∧ X.frozen? ⟨w.heap.size, 2, none⟩ = false := by
  obtain ⟨hc, hf⟩ := bcell h
  refine ⟨?_, ?_, ?_, ?_, ?_, ?_⟩
  · rw [hc _ _ (by rw [w1_size]; omega)]; simp [go_sem]
  · rw [hc _ _ (by rw [w1_size]; omega)]; simp [go_sem]
  · rw [hc _ _ (by rw [w1_size]; omega)]; simp [go_sem]
  · rw [hf _ _ (by rw [w1_size]; omega)]; simp [go_sem]
  · rw [hf _ _ (by rw [w1_size]; omega)]; simp [go_sem]
  · rw [hf _ _ (by rw [w1_size]; omega)]; simp [go_sem]
theorem w1_end (w : World) (X : World) (h : Below (w1 w).heap.size (w1 w) X) (a b c : Value) :
    Below w.heap.size w (((X.setCell ⟨w.heap.size, 0, none⟩ a).setCell ⟨w.heap.size, 1, none⟩ b).setCell ⟨w.heap.size, 2, none⟩ c) :=
  ((((w1_below w).trans (h.mono (by rw [w1_size]; omega))).setCell (Nat.le_refl _) _).setCell (Nat.le_refl _) _).setCell (Nat.le_refl _) _

theorem lowNum (n : Int) (w : World) :
    Calls Try.prog 20 #[.int .i64 n] w fun e w' => e = .returned (vv 1 n ⟨#[]⟩) ∧ Below w.heap.size w w' := by
  go_enter Try.func20, Try.ntmps20
  go_wp2
  exact bodyPost_ret (v := vv 1 n ⟨#[]⟩) (by simp [results, Try.results20, go_sem]) rfl ⟨rfl, (Below.refl _ _).alloc (Nat.le_refl _) _⟩
theorem num_any (n : Int) (w : World) :
    Calls Try.prog 5 #[.int .i64 n] w fun e w' => e = .returned (vv 1 n ⟨#[]⟩) ∧ Below w.heap.size w w' := by
  go_enter Try.func5, Try.ntmps5
  go_wp2_with (go_at_call 20; refine (lowNum _ _).mono ?_; rintro e wb ⟨rfl, bb⟩; obtain ⟨u0, u1, u2, v0, v1, v2⟩ := w1_out w _ bb; have hz : w.heap.size < wb.heap.size := (by have := bb.size; simp at this; omega))
  exact bodyPost_ret (v := vv 1 n ⟨#[]⟩) (by simp [results, Try.results5, go_sem, u0, u1, u2]) rfl ⟨rfl, w1_end _ _ bb _ _ _⟩
theorem lowText (s : ByteArray) (w : World) :
    Calls Try.prog 21 #[.string s] w fun e w' => e = .returned (vv 2 0 s) ∧ Below w.heap.size w w' := by
  go_enter Try.func21, Try.ntmps21
  go_wp2
  exact bodyPost_ret (v := vv 2 0 s) (by simp [results, Try.results21, go_sem]) rfl ⟨rfl, (Below.refl _ _).alloc (Nat.le_refl _) _⟩
theorem text_any (s : ByteArray) (w : World) :
    Calls Try.prog 6 #[.string s] w fun e w' => e = .returned (vv 2 0 s) ∧ Below w.heap.size w w' := by
  go_enter Try.func6, Try.ntmps6
  go_wp2_with (go_at_call 21; refine (lowText _ _).mono ?_; rintro e wb ⟨rfl, bb⟩; obtain ⟨u0, u1, u2, v0, v1, v2⟩ := w1_out w _ bb; have hz : w.heap.size < wb.heap.size := (by have := bb.size; simp at this; omega))
  exact bodyPost_ret (v := vv 2 0 s) (by simp [results, Try.results6, go_sem, u0, u1, u2]) rfl ⟨rfl, w1_end _ _ bb _ _ _⟩
theorem lowBlob (s : ByteArray) (w : World) :
    Calls Try.prog 54 #[.string s] w fun e w' => e = .returned (vv 3 0 s) ∧ Below w.heap.size w w' := by
  go_enter Try.func54, Try.ntmps54
  go_wp2
  exact bodyPost_ret (v := vv 3 0 s) (by simp [results, Try.results54, go_sem]) rfl ⟨rfl, (Below.refl _ _).alloc (Nat.le_refl _) _⟩
theorem blob_any (s : ByteArray) (w : World) :
    Calls Try.prog 35 #[.string s] w fun e w' => e = .returned (vv 3 0 s) ∧ Below w.heap.size w w' := by
  go_enter Try.func35, Try.ntmps35
  go_wp2_with (go_at_call 54; refine (lowBlob _ _).mono ?_; rintro e wb ⟨rfl, bb⟩; obtain ⟨u0, u1, u2, v0, v1, v2⟩ := w1_out w _ bb; have hz : w.heap.size < wb.heap.size := (by have := bb.size; simp at this; omega))
  exact bodyPost_ret (v := vv 3 0 s) (by simp [results, Try.results35, go_sem, u0, u1, u2]) rfl ⟨rfl, w1_end _ _ bb _ _ _⟩

/-- string(b) -/
theorem run_str {w : World} {B : Nat} {A : Option Addr} {l : List UInt8} (h : Rd w B A l) (c : Nat) :
    (convert 24 9 (.slice A l.length c)).run Try.prog w = .ok (.string ⟨l.toArray⟩) w := by
  rcases Nat.eq_zero_or_pos l.length with h0 | h0
  · have hl : l = [] := List.eq_nil_of_length_eq_zero h0
    subst hl
    show (convert 24 9 (.slice A 0 c)).run Try.prog w = _
    rw [run_convert_bytes_string w 24 9 5 A 0 c Try.underlying24 Try.underlying5 Try.underlying9]
    cases A <;> simp [Conv.bytesToString, loadCells]
    all_goals rfl
  · obtain ⟨ad, rfl, _, hc⟩ := h h0
    exact run_convert_bytes_back w 24 9 5 ad c l Try.underlying24 Try.underlying5 Try.underlying9 fun j hj => hc j _ (List.getElem?_eq_getElem hj)
theorem list_beq (l m : List UInt8) : ((⟨l.toArray⟩ : ByteArray).toList == (⟨m.toArray⟩ : ByteArray).toList) = decide (l = m) := by
  rw [Bool.eq_iff_iff]
  simp [ByteArray.toList_eq]
theorem SameBytes_any (A : Option Addr) (c : Nat) (l : List UInt8) (A' : Option Addr) (c' : Nat) (m : List UInt8) (w : World) (B B' : Nat) (h : Rd w B A l) (h' : Rd w B' A' m) :
    Calls Try.prog 36 #[.slice A l.length c, .slice A' m.length c'] w fun e w' => e = .returned (.bool (decide (l = m))) ∧ w' = w := by
  have r1 := run_str h c
  have r2 := run_str h' c'
  go_enter Try.func36, Try.ntmps36
  go_wp2_with fail
  go_ret
  refine ⟨?_, rfl⟩
  show Ending.returned (.bool (l == m)) = _
  rw [show (l == m) = decide (l = m) by rw [Bool.eq_iff_iff]; simp]
set_option maxRecDepth 100000 in
theorem CopyBytes_any (A : Option Addr) (c : Nat) (l : List UInt8) (w : World) (hl : l.length ≤ 1099511627776) (hA : Rd w w.heap.size A l) :
    Calls Try.prog 34 #[.slice A l.length c] w (RetOwn l w) := by
  obtain ⟨i0, hi, hz0, hz1, hz2⟩ := info_parts Try.info_u8
  have hmk : (Instr.makeSlice 24 (.int .i64 (l.length : Int)) (.int .i64 (l.length : Int))).run Try.prog w = .ok (.slice (some ⟨w.heap.size, 0, none⟩) l.length l.length) (w.alloc (.cells (madeCells #[.int .u8 0] l.length) 5)) := by
    have h := run_make (P := Try.prog) w 24 5 i0 (.int .u8 0) Try.underlying24 hi hz0 .i64 .i64 (l.length : Int) (l.length : Int) (by omega) (by omega) (by rw [hz2]; omega) (by omega)
    rw [h, hz1]
    have e1 : ((l.length : Int)).toNat = l.length := by omega
    rw [e1, Nat.mul_one]
    rfl
  have hsz : (Try.prog.info? 5).map (·.size) = some 1 := by rw [hi]; simp [hz1]
  have hmc : (madeCells #[.int .u8 0] l.length).size = l.length := size_madeCells _ _
  have hg : (w.alloc (.cells (madeCells #[.int .u8 0] l.length) 5)).heap[w.heap.size]? = some (.cells (madeCells #[.int .u8 0] l.length).toList.toArray 5 (0, 0)) := by
    rw [heap_alloc_new]
  have hpos : 0 < (bs l).length → (some ⟨w.heap.size, 0, none⟩ : Option Addr) = some ⟨w.heap.size, 0, none⟩ ∧ ∃ ad, A = some ad ∧ ∀ j v, (bs l)[j]? = some v → (w.alloc (.cells (madeCells #[.int .u8 0] l.length) 5)).cell? (ad.add j) = some v := by
    intro hp
    rw [bs_length] at hp
    obtain ⟨ad, e, hb, hc⟩ := hA hp
    refine ⟨rfl, ad, e, fun j v hv => ?_⟩
    rw [bs_getElem?] at hv
    obtain ⟨u, hu, rfl⟩ := Option.map_eq_some_iff.1 hv
    rw [World.cell?_alloc_lt w _ _ (by rw [blockAdd]; exact hb)]
    exact hc j u hu
  have hfit : 0 + (bs l).length ≤ (madeCells #[.int .u8 0] l.length).toList.length := by
    have e : (madeCells #[.int .u8 0] l.length).toList.length = l.length := hmc
    rw [bs_length, e]; omega
  have HG := Lib.hid hg
  have HP := Lib.hid hpos
  have HF := Lib.hid hfit
  have HM := Lib.hid hmc
  clear hg hpos hfit hmc
  go_enter Try.func34, Try.ntmps34
  go_wp2_with (with_reducible refine wpList_copy_splice rfl (.tmp 7) (.tmp 8) 24 24 rfl 5 Try.underlying24 hsz (some ⟨w.heap.size, 0, none⟩) A l.length l.length l.length c rfl rfl w.heap.size 0 (madeCells #[.int .u8 0] l.length).toList 5 HG.out (bs l) (by rw [bs_length]; simp) HP.out HF.out (bs_one l) w.heap.size w ((Below.refl _ _).alloc (Nat.le_refl _) _) (Nat.le_refl _) ?_; intro w1 hg1 hb1)
  go_ret
  have hm := HM.out
  refine ⟨_, rfl, ⟨by rw [bs_length, Nat.mul_one], .inr ⟨w.heap.size, l.length, _, rfl, Nat.le_refl _, hg1.out, by omega, by simp only [maxLen]; omega, ?_, ?_⟩⟩, hb1⟩
  · have e : (madeCells #[.int .u8 0] l.length).toList.length = l.length := hm
    rw [List.size_toArray, length_splice _ _ _ HF.out, e, Nat.mul_one]
  · simp only [splice, List.take_zero, List.nil_append, Nat.mul_one]
    rw [List.take_append_of_le_length (by rw [bs_length]; exact Nat.le_refl _), List.take_of_length_le (by rw [bs_length]; exact Nat.le_refl _)]

def SmallRel (w : World) (vs : List Trip) (long : Nat) (i : Value) (wr : World) : Prop :=
  ∃ k : Nat, k ≤ vs.length ∧ i = .int .i64 k ∧ (vs.take k).all (fun t => decide (t.2.2.size ≤ long)) = true ∧ wr = w
theorem all_take_succ {vs : List Trip} {p : Trip → Bool} {k : Nat} {t : Trip} (h : vs[k]? = some t) (h0 : (vs.take k).all p = true) : (vs.take (k + 1)).all p = p t := by
  rw [List.take_add_one, h]
  simp [h0]
theorem all_not_at {vs : List Trip} {p : Trip → Bool} {k : Nat} {t : Trip} (h : vs[k]? = some t) (hp : p t = false) : vs.all p = false := by
  cases he : vs.all p
  · rfl
  · have := List.all_eq_true.1 he t (List.mem_of_getElem? h)
    rw [hp] at this
    cases this
/-- is a row a short one? -/
def smallV (vs : List Trip) (most long : Nat) : Bool := decide (vs.length ≤ most) && vs.all (fun t => decide (t.2.2.size ≤ long))
/-- is a row one that is looked at? -/
def rowOk (vs : List Trip) (most : Nat) : Bool := smallV vs most 100 && vs.all (fun t => decide (Rt t.1 t.2.1 t.2.2))
def RightRel (w : World) (vs : List Trip) (i : Value) (wr : World) : Prop :=
  ∃ k : Nat, k ≤ vs.length ∧ i = .int .i64 k ∧ (vs.take k).all (fun t => decide (Rt t.1 t.2.1 t.2.2)) = true ∧ Below w.heap.size w wr
end Go.Proofs.Ytmcbjfdenaknlaa
