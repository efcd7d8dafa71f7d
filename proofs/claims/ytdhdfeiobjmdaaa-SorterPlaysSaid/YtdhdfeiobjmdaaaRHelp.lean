/-
  The statements' helpers of layer 3: makers of values, SameBytes, CopyBytes, Small, right. Conditions: sizes.
-/
import Derived.Test.YtdhdfeiobjmdaaaRPutR
import Derived.Laws.IdiomStrings
import Derived.Laws.BytesArg
namespace Go.Proofs.Ytdhdfeiobjmdaaa
open Go.ChangeShapes Go.WideShapes Go.ChangeAt Go.RowKit
set_option linter.unusedVariables false

/-- the world with a place for the answer -/
abbrev w1 (w : World) : World := w.alloc (box 0 0 ⟨#[]⟩)
theorem w1_below (w : World) : Below w.heap.size w (w1 w) := (Below.refl _ _).alloc (Nat.le_refl _) _
theorem w1_size (w : World) : (w1 w).heap.size = w.heap.size + 1 := by simp
theorem w1_out (w : World) (X : World) (h : Below (w1 w).heap.size (w1 w) X) :
    X.cell? ⟨w.heap.size, 0, none⟩ = some (.int .u8 0) ∧ X.cell? ⟨w.heap.size, 1, none⟩ = some (.int .i64 0) ∧ X.cell? ⟨w.heap.size, 2, none⟩ = some (.string ⟨#[]⟩) ∧
    X.frozen? ⟨w.heap.size, 0, none⟩ = false ∧ X.frozen? ⟨w.heap.size, 1, none⟩ = false ∧ X.frozen? ⟨w.heap.size, 2, none⟩ = false := by
  obtain ⟨hc, hf⟩ := bcell h
  refine ⟨?_, ?_, ?_, ?_, ?_, ?_⟩
  · rw [hc _ _ (by rw [w1_size]; omega)]; simp [go_sem]
  · rw [hc _ _ (by rw [w1_size]; omega)]; simp [go_sem]
  · rw [hc _ _ (by rw [w1_size]; omega)]; simp [go_sem]
  · rw [hf _ _ (by rw [w1_size]; omega)]; simp [go_sem]
  · rw [hf _ _ (by rw [w1_size]; omega)]; simp [go_sem]
  · rw [hf _ _ (by rw [w1_size]; omega)]; simp [go_sem]
theorem w1_end (w : World) (X : World) (h : Below (w1 w).heap.size (w1 w) X) (a b c : Value) :
    Below w.heap.size w (((X.setCell ⟨w.heap.size, 0, none⟩ a).setCell ⟨w.heap.size, 1, none⟩ b).setCell ⟨w.heap.size, 2, none⟩ c) :=
  ((((w1_below w).trans (h.mono (by rw [w1_size]; omega))).setCell (Nat.le_refl _) _).setCell (Nat.le_refl _) _).setCell (Nat.le_refl _) _

theorem lowNum (n : Int) (w : World) :
    Calls Try.prog 24 #[.int .i64 n] w fun e w' => e = .returned (vv 1 n ⟨#[]⟩) ∧ Below w.heap.size w w' := by
  go_enter Try.func24, Try.ntmps24
  go_wp2
  exact bodyPost_ret (v := vv 1 n ⟨#[]⟩) (by simp [results, Try.results24, go_sem]) rfl ⟨rfl, (Below.refl _ _).alloc (Nat.le_refl _) _⟩
theorem lowText (s : ByteArray) (w : World) :
    Calls Try.prog 28 #[.string s] w fun e w' => e = .returned (vv 2 0 s) ∧ Below w.heap.size w w' := by
  go_enter Try.func28, Try.ntmps28
  go_wp2
  exact bodyPost_ret (v := vv 2 0 s) (by simp [results, Try.results28, go_sem]) rfl ⟨rfl, (Below.refl _ _).alloc (Nat.le_refl _) _⟩
/-- string(b) -/
theorem run_str {w : World} {B : Nat} {A : Option Addr} {l : List UInt8} (h : Rd w B A l) (c : Nat) :
    (convert 62 9 (.slice A l.length c)).run Try.prog w = .ok (.string ⟨l.toArray⟩) w := by
  rcases Nat.eq_zero_or_pos l.length with h0 | h0
  · have hl : l = [] := List.eq_nil_of_length_eq_zero h0
    subst hl
    show (convert 62 9 (.slice A 0 c)).run Try.prog w = _
    rw [run_convert_bytes_string w 62 9 5 A 0 c Try.underlying62 Try.underlying5 Try.underlying9]
    cases A <;> simp [Conv.bytesToString, loadCells]
    all_goals rfl
  · obtain ⟨ad, rfl, _, hc⟩ := h h0
    exact run_convert_bytes_back w 62 9 5 ad c l Try.underlying62 Try.underlying5 Try.underlying9 fun j hj => hc j _ (List.getElem?_eq_getElem hj)
theorem list_beq (l m : List UInt8) : ((⟨l.toArray⟩ : ByteArray).toList == (⟨m.toArray⟩ : ByteArray).toList) = decide (l = m) := by
  rw [Bool.eq_iff_iff]
  simp [ByteArray.toList_eq]
def SmallRel (w : World) (vs : List Trip) (long : Nat) (i : Value) (wr : World) : Prop :=
  ∃ k : Nat, k ≤ vs.length ∧ i = .int .i64 k ∧ (vs.take k).all (fun t => decide (t.2.2.size ≤ long)) = true ∧ wr = w
theorem all_take_succ {vs : List Trip} {p : Trip → Bool} {k : Nat} {t : Trip} (h : vs[k]? = some t) (h0 : (vs.take k).all p = true) : (vs.take (k + 1)).all p = p t := by
  rw [List.take_add_one, h]
  simp [h0]
theorem all_not_at {vs : List Trip} {p : Trip → Bool} {k : Nat} {t : Trip} (h : vs[k]? = some t) (hp : p t = false) : vs.all p = false := by
  cases he : vs.all p
  · rfl
  · have := List.all_eq_true.1 he t (List.mem_of_getElem? h)
    rw [hp] at this
    cases this
/-- is a row a short one? -/
def smallV (vs : List Trip) (most long : Nat) : Bool := decide (vs.length ≤ most) && vs.all (fun t => decide (t.2.2.size ≤ long))
set_option maxRecDepth 100000 in
theorem Small_any (A : Option Addr) (cap : Nat) (vs : List Trip) (most long : Nat) (w : World) (hR : RdR w w.heap.size A vs) (hm : most ≤ 1000000) (hln : long ≤ 1000000) (hsz : ∀ t ∈ vs, t.2.2.size ≤ 9223372036854775807) (hcap : vs.length ≤ 9223372036854775807) :
    Calls Try.prog 16 #[.slice A vs.length cap, .int .i64 most, .int .i64 long] w fun e w' => e = .returned (.bool (smallV vs most long)) ∧ w' = w := by
  by_cases h : most < vs.length
  · have h1 : decide ((most : Int) < vs.length) = true := decide_eq_true (by omega)
    have HP := Lib.hid (show false = smallV vs most long by simp [smallV]; omega)
    go_enter Try.func16, Try.ntmps16
    go_wp2_with fail
    go_ret
    exact ⟨by rw [← HP.out]; rfl, rfl⟩
  · have h1 : decide ((most : Int) < vs.length) = false := decide_eq_false (by omega)
    have HM := Lib.hid (show decide (vs.length ≤ most) = true from decide_eq_true (by omega))
    have hl : vs.length ≤ 1000000 := by omega
    have HSZ := Lib.hid hsz
    clear hcap hsz
    go_enter Try.func16, Try.ntmps16
    go_wp2_with fail
    go_loopw [7] (fun i wr => SmallRel w vs long i wr) (fun i _ => vs.length - (intOf i).toNat)
    case atStart => exact ⟨0, Nat.zero_le _, rfl, by simp, rfl⟩
    case round =>
      obtain ⟨k, hk, rfl, h0, rfl⟩ := hrel
      by_cases hlt : k < vs.length
      · obtain ⟨⟨kk, n, s⟩, hget⟩ : ∃ t, vs[k]? = some t := ⟨vs[k], List.getElem?_eq_getElem hlt⟩
        obtain ⟨ad, rfl, hal, hcs⟩ := hR (by omega)
        obtain ⟨c0, c1, c2⟩ := hcs k kk n s hget
        have hs8 := HSZ.out _ (List.mem_of_getElem? hget)
        have hall := all_take_succ (p := fun t => decide (t.2.2.size ≤ long)) hget h0
        have hnot := all_not_at (p := fun t => decide (t.2.2.size ≤ long)) hget
        have HA := Lib.hid hall
        have HN := Lib.hid hnot
        clear hcs hget h0 hall hnot
        by_cases hs : s.size ≤ long
        · have hs1 : decide ((long : Int) < s.size) = false := decide_eq_false (by omega)
          have HS := Lib.hid (decide_eq_true hs)
          have hs2 : ¬ long < s.size := by omega
          clear hs
          go_wp2_with fail
          go_roundw
          case rel => exact ⟨k + 1, by omega, by go_num, by rw [HA.out]; exact HS.out, rfl⟩
          case measure => simp [intOf]; omega
        · have hs1 : decide ((long : Int) < s.size) = true := decide_eq_true (by omega)
          have HS := Lib.hid (decide_eq_false hs)
          have hs2 : long < s.size := by omega
          clear hs
          go_wp2_with fail
          go_ret
          exact ⟨by rw [smallV, HN.out HS.out, Bool.and_false]; rfl, rfl⟩
      · have e1 : vs.take k = vs := by rw [show k = vs.length by omega]; exact List.take_length
        rw [e1] at h0
        have HP := Lib.hid (show true = smallV vs most long by rw [smallV, HM.out, h0]; rfl)
        go_wp2_with fail
        go_ret
        exact ⟨by rw [← HP.out]; rfl, rfl⟩

/-- is a row one that is looked at? -/
def rowOk (vs : List Trip) (most : Nat) : Bool := smallV vs most 100 && vs.all (fun t => decide (Rt t.1 t.2.1 t.2.2))
def RightRel (w : World) (vs : List Trip) (i : Value) (wr : World) : Prop :=
  ∃ k : Nat, k ≤ vs.length ∧ i = .int .i64 k ∧ (vs.take k).all (fun t => decide (Rt t.1 t.2.1 t.2.2)) = true ∧ Below w.heap.size w wr
end Go.Proofs.Ytdhdfeiobjmdaaa
