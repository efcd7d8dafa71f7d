/-
  The contract of the law's own helper fits: of numbers and their digits it answers true. Conditions: sizes as stated.
-/
import Derived.Test.YtlichbiioejpiaaSame
import Derived.Deep.RegionHeld3
namespace Go.Proofs.Ytlichbiioejpiaa
open Go.ChangeShapes Go.WideShapes Go.ChangeAt Go.RowKit
set_option linter.unusedVariables false

/-- cards: numbers, each with its digits -/
def RdC (w : World) (g : Nat) (cs : List Nat) : Prop :=
  ∀ (j n : Nat), cs[j]? = some n → w.cell? ⟨g, j * 2, none⟩ = some (.int .u64 n) ∧ w.cell? ⟨g, j * 2 + 1, none⟩ = some (.string ⟨(Lib.uvarint n).toArray⟩)

def FitsRel (cs : List Nat) (w : World) (i : Value) (wr : World) : Prop := ∃ k : Nat, k ≤ cs.length ∧ i = .int .i64 k ∧ Below w.heap.size w wr

theorem fits_any (g c : Nat) (cs : List Nat) (w : World) (hl : cs.length ≤ 1099511627776) (hcs : ∀ n ∈ cs, n < 18446744073709551616) (hg : g < w.heap.size) (h : RdC w g cs) :
    Calls Try.prog 43 #[.slice (some ⟨g, 0, none⟩) cs.length c] w fun e w' => e = .returned (.bool true) ∧ Below w.heap.size w w' := by
  have kb := run_bytes
  go_enter Try.func43, Try.ntmps43
  go_wp2_with fail
  go_loopw [4, 5, 6, 7, 8, 9, 10, 13] (fun x4 x5 x6 x7 x8 x9 x10 i wr => FitsRel cs w i wr) (fun _ _ _ _ _ _ _ i _ => cs.length - (intOf i).toNat)
  case atStart => exact ⟨0, Nat.zero_le _, rfl, Below.refl _ _⟩
  case round =>
    obtain ⟨k, hk, rfl, hb⟩ := hrel
    have hsz := hb.size
    by_cases hlt : k < cs.length
    · obtain ⟨n, hn⟩ : ∃ n, cs[k]? = some n := ⟨_, List.getElem?_eq_getElem hlt⟩
      obtain ⟨hc1', hc2'⟩ := h k n hn
      have hc1 := (hb.cell (p := ⟨g, k * 2, none⟩) hg).trans hc1'
      have hc2 := (hb.cell (p := ⟨g, k * 2 + 1, none⟩) hg).trans hc2'
      have hn64 := hcs n (mem_of_get hn)
      clear h hn hcs hc1' hc2'
      have hD1 := Lib.uvarint_pos n
      have hD2 := Lib.uvarint_length64 hn64
      have HW := Lib.hid (uintAt_whole n hn64)
      have HX := Lib.hid (uintAt_cut n hn64)
      have HR := Rd.bytes (wr.alloc (Obj.cells #[Value.int IntKind.u64 n, Value.string { data := (Lib.uvarint n).toArray }] 75)) (Lib.uvarint n)
      rw [show (wr.alloc (Obj.cells #[Value.int IntKind.u64 n, Value.string { data := (Lib.uvarint n).toArray }] 75)).heap.size = wr.heap.size + 1 from by simp] at HR
      go_wp2_with fail
      refine (GetUint_any _ _ (Lib.uvarint n) 0 _ (by omega) HR).mono ?_
      rintro e w1 ⟨rfl, hw1⟩
      rw [HW.out]
      have hb1 : Below w.heap.size w w1 := by
        rw [← hw1]
        exact (hb.alloc hsz _).trans ((below_bytes _ _ _).mono (by simp; omega))
      have hs1 : wr.heap.size < w1.heap.size := by rw [← hw1, Lib.bytesWorld_size]; simp; omega
      have hd1 : w1.cell? ⟨wr.heap.size, 0, none⟩ = some (.int .u64 n) := by
        rw [← hw1, Lib.bytesWorld_old _ _ _ _ (by simp)]
        rw [World.cell?_alloc_mark]; rfl
      have hd2 : w1.cell? ⟨wr.heap.size, 1, none⟩ = some (.string { data := (Lib.uvarint n).toArray }) := by
        rw [← hw1, Lib.bytesWorld_old _ _ _ _ (by simp)]
        rw [World.cell?_alloc_mark]; rfl
      have hgc := grownCap_ge w1 (Lib.uvarint n).length 0 5
      have hd2' : (Lib.bytesWorld w1 5 ⟨(Lib.uvarint n).toArray⟩).cell? ⟨wr.heap.size, 1, none⟩ = some (.string { data := (Lib.uvarint n).toArray }) :=
        (Lib.bytesWorld_old _ _ _ _ hs1).trans hd2
      have hr2 := (Rd.bytes w1 (Lib.uvarint n)).take ((Lib.uvarint n).length - 1)
      have hlt1 : ((Lib.uvarint n).take ((Lib.uvarint n).length - 1)).length = (Lib.uvarint n).length - 1 := by rw [List.length_take]; omega
      have hg2 := GetUint_any (some ⟨w1.heap.size, 0, none⟩) (grownCap w1 (Lib.uvarint n).length 0 5) _ 0 _ (by omega) hr2
      rw [HX.out, hlt1] at hg2
      have HG2 := Lib.hid hg2
      clear hw1 HR hc1 hc2 hr2 hlt1 hg2
      go_wp2_with fail
      refine HG2.out.mono ?_
      rintro e w2 ⟨rfl, hw2⟩
      have hb2 : Below w.heap.size w w2 := by
        rw [← hw2]
        exact hb1.trans ((below_bytes _ _ _).mono hb1.size)
      have hs2 : wr.heap.size < w2.heap.size := by rw [← hw2, Lib.bytesWorld_size]; omega
      have he1 : w2.cell? ⟨wr.heap.size, 0, none⟩ = some (.int .u64 n) := by
        rw [← hw2, Lib.bytesWorld_old _ _ _ _ hs1]; exact hd1
      have he2 : w2.cell? ⟨wr.heap.size, 1, none⟩ = some (.string { data := (Lib.uvarint n).toArray }) := by
        rw [← hw2]; exact hd2'
      have hsz2 := hb2.size
      clear hw2 hd1 hd2 hd2' HG2 hgc
      go_wp2_with fail
      go_region_held (fun W => W.cell? ⟨wr.heap.size, 0, none⟩ = some (.int .u64 n) ∧ W.cell? ⟨wr.heap.size, 1, none⟩ = some (.string { data := (Lib.uvarint n).toArray }))
        (first | go_keep | exact ⟨(hb3.cell hs2).trans he1, (hb3.cell hs2).trans he2⟩)
        (first | (go_at_call 15; refine (Uint_any none 0 [] n _ (by simp) hn64 Rd.nil).mono ?_; rintro e w3 ⟨v3, rfl, ho3, hb3⟩; rw [List.nil_append] at ho3; obtain ⟨A3, c3, rfl, hx1, hx2, hrd3⟩ := ho3.form; have r3 := run_str hrd3 c3; have r3' := run_strN hrd3 c3))
      go_wp2_with fail
      go_roundw
      case rel => exact ⟨k + 1, by omega, by go_num, hb2.drew.trans (hb3.mono hsz2)⟩
      case measure => simp [intOf]; omega
    · go_wp2_with fail
      go_ret
      exact ⟨rfl, hb⟩
end Go.Proofs.Ytlichbiioejpiaa
