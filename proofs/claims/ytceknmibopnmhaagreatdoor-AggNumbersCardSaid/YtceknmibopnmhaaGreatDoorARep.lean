/-
  slices.Repeat of one text. Conditions: how often.
-/
import Derived.Test.YtceknmibopnmhaaGreatDoorABeg
import Derived.Test.YtceknmibopnmhaaGreatDoorAShelf
import Derived.Laws.CopyOwn
namespace Go.Proofs.YtceknmibopnmhaaGreatDoor
open Go.ChangeShapes Go.WideShapes Go.ChangeAt Go.RowKit Go.Maps Go.Sort Go.Shelf Go.ChangeMaps Go.Lib
set_option linter.unusedVariables false

theorem Tryz.info_str : (Tryz.prog.info? 9).map (fun i => (i.zero, i.size, i.bytes)) = some (some (.string ⟨#[]⟩), 1, 16) := by kernel_rfl
/-- texts in memory of the call's own -/
def OwnS (w : World) (base : Nat) (v : Value) (l : List ByteArray) : Prop := w.ownsRow base 9 1 v l.length (l.map .string)
/-- k of c are filled -/
def stR (x : ByteArray) (c k : Nat) : List Value := List.replicate k (.string x) ++ List.replicate (c - k) (.string ⟨#[]⟩)
theorem stR_length (x : ByteArray) {c k : Nat} (h : k ≤ c) : (stR x c k).length = c := by simp [stR]; omega
theorem stR_splice (x : ByteArray) {c k m : Nat} (h : k + m ≤ c) : splice (stR x c k) k (List.replicate m (.string x)) = stR x c (k + m) := by
  unfold splice stR
  rw [List.length_replicate, List.take_append_of_le_length (by simp), List.take_of_length_le (by simp), List.drop_append, List.drop_of_length_le (by simp), List.nil_append, List.length_replicate, List.drop_replicate,
    ← List.append_assoc, List.replicate_append_replicate]
  congr 2
  omega
theorem stR_get (x : ByteArray) {c k j : Nat} (h : j < k) : (stR x c k)[j]? = some (.string x) := by
  unfold stR
  rw [List.getElem?_append_left (by simpa using h), List.getElem?_replicate_of_lt h]
def RepRel (w : World) (g : Nat) (x : ByteArray) (c : Nat) (v8 : Value) (wr : World) : Prop :=
  ∃ k : Nat, 1 ≤ k ∧ k ≤ c ∧ v8 = .int .i64 (k : Int) ∧ wr.heap[g]? = some (.cells (stR x c k).toArray 9 (0, 0)) ∧ Below g w wr
set_option maxRecDepth 100000 in
set_option maxHeartbeats 1000000 in
theorem Repeat_one (b : Nat) (x : ByteArray) (c : Nat) (w : World) (hx : Boxed w b 9 (.string x)) (h1 : 1 ≤ c) (hc : c ≤ 100000) :
    Calls Tryz.prog 165 #[.slice (some ⟨b, 0, none⟩) 1 1, .int .i64 (c : Int)] w fun e w' => ∃ v, e = .returned v ∧ OwnS w' w.heap.size v (List.replicate c x) ∧ Below w.heap.size w w' := by
  have HMUL := Lib.hid (show ∀ W, Calls Tryz.prog 45 #[.int .u64 1, .int .u64 (c : Int)] W fun e w' => e = .returned (.tuple #[.int .u64 0, .int .u64 (c : Int)]) ∧ w' = W from fun W => by
    have h := Tryz.bits_Mul 1 c (by omega) (by omega) W
    rw [show 1 * c / 18446744073709551616 = 0 by omega, show 1 * c % 18446744073709551616 = c by omega] at h
    exact h)
  obtain ⟨i0, hi, hz0, hz1, hz2⟩ := info_parts Tryz.info_str
  have hsz : (Tryz.prog.info? 9).map (·.size) = some 1 := by rw [hi]; exact congrArg some hz1
  have hmk : (Instr.makeSlice 41 (.int .i64 (c : Int)) (.int .i64 (c : Int))).run Tryz.prog w = .ok (.slice (some ⟨w.heap.size, 0, none⟩) c c) (w.alloc (.cells (stR x c 0).toArray 9)) := by
    have h := run_make (P := Tryz.prog) w 41 9 i0 (.string ⟨#[]⟩) Tryz.underlying41 hi hz0 .i64 .i64 (c : Int) (c : Int) (by omega) (by omega) (by rw [hz2]; omega) (by omega)
    rw [h, hz1]
    have e : (madeCells (Value.string ⟨#[]⟩).cells ((c : Int).toNat * 1)) = (stR x c 0).toArray := by
      rw [Int.toNat_natCast, Nat.mul_one]
      apply Array.ext
      · simp [size_madeCells, stR_length x (Nat.zero_le c)]
      · intro i h3 h4
        simp [madeCells, stR, Value.cells, Nat.mod_one]
    rw [e, Int.toNat_natCast]
  obtain ⟨w1, hw1⟩ : ∃ w1, w.alloc (.cells (stR x c 0).toArray 9) = w1 := ⟨_, rfl⟩
  rw [hw1] at hmk
  have HG1 := Lib.hid (show w1.heap[w.heap.size]? = some (.cells (stR x c 0).toArray 9 (0, 0)) by rw [← hw1]; exact World.alloc_heap_new w _)
  have HB1 := Lib.hid (show Below w.heap.size w w1 by rw [← hw1]; exact (Below.refl _ w).alloc (Nat.le_refl _) _)
  have hbl := hx.lt
  have HP := Lib.hid (show ∀ (j : Nat) v, [Value.string x][j]? = some v → w1.cell? ((⟨b, 0, none⟩ : Addr).add j) = some v from fun j v hv => by
    match j, hv with
    | 0, hv =>
      obtain rfl := Option.some.inj hv
      have h : Boxed w1 b 9 (.string x) := (HB1.out.block b hbl).trans hx
      simpa [Addr.add] using h.cell
    | j + 1, hv => simp at hv)
  have q1 : (0 : Int) ≤ (c : Int) := by omega
  have q2 : decide ((c : Int) < 0) = false := decide_eq_false (by omega)
  go_enter Tryz.func165, Tryz.ntmps165
  go_wp2_with fail
  refine (HMUL.out _).mono ?_
  rintro e w2 ⟨rfl, rfl⟩
  have HN := Lib.hid (show [Value.string x].length = Nat.min 1 c by show (1 : Nat) = min 1 c; omega)
  have HF := Lib.hid (show 0 + [Value.string x].length ≤ (stR x c 0).length by rw [stR_length x (Nat.zero_le _)]; exact h1)
  have HO := Lib.hid (show ∀ v ∈ [Value.string x], v.oneCell' = true by intro v hv; simp at hv; rw [hv]; rfl)
  go_wp2_with (with_reducible refine wpList_copy_splice rfl (.tmp 31) (.tmp 32) 41 41 rfl 9 Tryz.underlying41 hsz (some ⟨w2.heap.size, 0, none⟩) (some ⟨b, 0, none⟩) c c 1 1 rfl rfl w2.heap.size 0 (stR x c 0) 9 HG1.out [.string x] HN.out (fun _ => ⟨rfl, _, rfl, HP.out⟩) HF.out HO.out w2.heap.size w2 HB1.out (Nat.le_refl _) ?_; intro w3 hg3 hb3)
  have HG3 := Lib.hid (show w3.heap[w2.heap.size]? = some (.cells (stR x c 1).toArray 9 (0, 0)) by
    rw [hg3.out]
    have h := stR_splice x (c := c) (k := 0) (m := 1) (by omega)
    rw [show [Value.string x] = List.replicate 1 (.string x) from rfl, h])
  have HB3 := Lib.hid hb3
  clear hg3 hb3 HF HO HN HP HG1 HB1 hmk hw1
  generalize hg : w2.heap.size = g at *
  have HG := Lib.hid hg
  clear hg
  go_loopw [8] (fun v8 wr => RepRel w2 g x c v8 wr) (fun v8 _ => c - (intOf v8).toNat)
  case atStart => exact ⟨1, Nat.le_refl _, h1, rfl, HG3.out, HB3.out⟩
  case round =>
    obtain ⟨k, hk1, hk2, rfl, hg, hb⟩ := hrel
    by_cases hlt : k < c
    · obtain ⟨m, hm⟩ : ∃ m, Nat.min k (c - k) = m := ⟨_, rfl⟩
      have hm' : min k (c - k) = m := hm
      have hm1 : 1 ≤ m := by omega
      have hm2 : k + m ≤ c := by omega
      have hm3 : m ≤ k := by omega
      have q3 : (k : Int) < (c : Int) := by omega
      have q4 : ¬ c = k := by omega
      obtain ⟨wx, hcp, HGx, HBx⟩ : ∃ wx, (Builtin.copy_ #[41, 41] 3 #[.slice (some ⟨g, k, none⟩) (c - k) (c - k), .slice (some ⟨g, 0, none⟩) k c]).run Tryz.prog wr.drew = .ok (.int .i64 (m : Int)) wx ∧ Hid (wx.heap[g]? = some (.cells (stR x c (k + m)).toArray 9 (0, 0))) ∧ Hid (Below g w2 wx) := by
        have hgd : wr.drew.heap[g]? = some (.cells (stR x c k).toArray 9 (0, 0)) := hg
        have h := run_copy_row (P := Tryz.prog) wr.drew 41 41 3 9 g k (c - k) (c - k) ⟨g, 0, none⟩ k c (stR x c k).toArray 9 (List.replicate m (.string x)) Tryz.underlying41 hsz hgd
          (by rw [hm, List.length_replicate])
          (fun j v hv => by
            have hj : j < m := by
              have := (List.getElem?_eq_some_iff.mp hv).1
              simpa using this
            rw [List.getElem?_replicate_of_lt hj] at hv
            rw [show ((⟨g, 0, none⟩ : Addr).add j) = ⟨g, j, none⟩ by simp [Addr.add]; intro h; exact h.symm, cell_of_row wr.drew g j _ _ _ hgd, ← hv]
            simpa using stR_get x (c := c) (show j < k by omega))
          (by simp [stR_length x hk2]; exact hm2)
          (by intro v hv; rw [List.eq_of_mem_replicate hv]; rfl)
        refine ⟨_, by rw [h, List.length_replicate]; rfl, Lib.hid ?_, Lib.hid ?_⟩
        · rw [setRow_heap wr.drew g _ _ _ _ hgd]
          have e := stR_splice x hm2
          rw [← e]
          simp [splice]
        · exact below_setRow (Below.drew hb) (Nat.le_refl _) _
      have HM := Lib.hid (show k + m ≤ c from hm2)
      have HM1 := Lib.hid hm1
      clear hm hm' hg hb
      go_wp2_with fail
      go_region
      all_goals go_wp2_with fail
      refine ⟨⟨k + m, by omega, HM.out, by go_num, HGx.out, HBx.out⟩, by have := HM1.out; simp [intOf]; omega⟩
    · obtain rfl : k = c := by omega
      have q3 : ¬ (k : Int) < (k : Int) := by omega
      have HGr := Lib.hid hg
      have HBr := Lib.hid hb
      clear hg hb
      go_wp2_with fail
      go_ret
      rw [HG.out]
      refine ⟨.slice (some ⟨g, 0, none⟩) k k, rfl, ?_, HBr.out⟩
      show World.ownsRow wr g 9 1 (.slice (some ⟨g, 0, none⟩) k k) (List.replicate k x).length _
      rw [List.length_replicate]
      exact ⟨by simp, .inr ⟨g, k, (stR x k k).toArray, rfl, Nat.le_refl _, HGr.out, Nat.le_refl _, Nat.le_trans hc (by decide), by simp [stR_length x (Nat.le_refl k)], by simp [stR]⟩⟩
end Go.Proofs.YtceknmibopnmhaaGreatDoor
