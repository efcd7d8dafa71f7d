/-
  ValueLikes returns true, whatever the four texts are: also where one is too long. Conditions: the library's variables as its text lays them.
-/
import Derived.Test.YtifnhdnmohlfiaaGreatDoorVLikeW
import Derived.Test.YtifnhdnmohlfiaaGreatDoorVClose
import Derived.Lib.LaidU8T
namespace Go.Proofs.YtifnhdnmohlfiaaGreatDoor
open Go.ChangeShapes Go.WideShapes Go.ChangeAt Go.RowKit
set_option linter.unusedVariables false

set_option maxRecDepth 100000 in
theorem likes_no (s t p q : ByteArray) (w : World) (hs : s.size ≤ 9223372036854775807) (ht : t.size ≤ 9223372036854775807) (hp : p.size ≤ 9223372036854775807) (hq : q.size ≤ 9223372036854775807) (h : 60 < s.size ∨ 60 < t.size ∨ 60 < p.size ∨ 60 < q.size) (HW : Hid (Wd w)) :
    Calls Tryz.prog 4 #[.string s, .string t, .string p, .string q] w fun e w' => e = .returned (.bool true) ∧ Below w.heap.size w w' := by
  by_cases h1 : 60 < s.size
  · have h1' : decide ((60 : Int) < s.size) = true := decide_eq_true (by omega)
    clear h
    go_enter Tryz.func4, Tryz.ntmps4
    go_wp2_with fail
    refine (awake_any w HW.out).mono ?_
    rintro e w2 ⟨rfl, b2⟩
    go_wp2_with fail
    go_ret
    exact ⟨rfl, b2⟩
  · have h1' : decide ((60 : Int) < s.size) = false := decide_eq_false (by omega)
    by_cases h2 : 60 < t.size
    · have h2' : decide ((60 : Int) < t.size) = true := decide_eq_true (by omega)
      clear h
      go_enter Tryz.func4, Tryz.ntmps4
      go_wp2_with fail
      refine (awake_any w HW.out).mono ?_
      rintro e w2 ⟨rfl, b2⟩
      go_wp2_with fail
      go_ret
      exact ⟨rfl, b2⟩
    · have h2' : decide ((60 : Int) < t.size) = false := decide_eq_false (by omega)
      by_cases h3 : 60 < p.size
      · have h3' : decide ((60 : Int) < p.size) = true := decide_eq_true (by omega)
        clear h
        go_enter Tryz.func4, Tryz.ntmps4
        go_wp2_with fail
        refine (awake_any w HW.out).mono ?_
        rintro e w2 ⟨rfl, b2⟩
        go_wp2_with fail
        go_ret
        exact ⟨rfl, b2⟩
      · have h3' : decide ((60 : Int) < p.size) = false := decide_eq_false (by omega)
        have h4' : decide ((60 : Int) < q.size) = true := decide_eq_true (by omega)
        clear h
        go_enter Tryz.func4, Tryz.ntmps4
        go_wp2_with fail
        refine (awake_any w HW.out).mono ?_
        rintro e w2 ⟨rfl, b2⟩
        go_wp2_with fail
        go_ret
        exact ⟨rfl, b2⟩
theorem likes_walk (s t p q : ByteArray) (w : World) (hs : s.size ≤ 9223372036854775807) (ht : t.size ≤ 9223372036854775807) (hp : p.size ≤ 9223372036854775807) (hq : q.size ≤ 9223372036854775807) (hW : Wd w) (hT : Lib.Utf8Tabs 0 1 w) :
    Calls Tryz.prog 4 #[.string s, .string t, .string p, .string q] w fun e w' => e = .returned (.bool true) ∧ Below w.heap.size w w' := by
  by_cases h : 60 < s.size ∨ 60 < t.size ∨ 60 < p.size ∨ 60 < q.size
  · exact likes_no s t p q w hs ht hp hq h (Lib.hid hW)
  · exact likes_go s t p q w (by omega) (by omega) (by omega) (by omega) (Lib.hid hW) (Lib.hid hT)

def rhoU : Go.Shelf.Ren := ⟨fun n => n, fun | 5 => 5 | 119 => 124 | 138 => 126 | 139 => 127 | n => n, fun | 3 => 0 | 4 => 1 | n => n⟩
theorem u8_of_laid {W : World} (h : laidMetH Tryz.prog laidL W) : Lib.Utf8Tabs 0 1 W := by
  rw [MakeChecks.laidMetH_plain _ _ _ (by kernel_rfl)] at h
  obtain ⟨ps, h, _⟩ := h
  have r1 := Go.Lib.LaidVars_reads h "unicode/utf8.first" Rows.laid_unicode_utf8_first (by simp)
  have r2 := Go.Lib.LaidVars_reads h "unicode/utf8.acceptRanges" Rows.laid_unicode_utf8_acceptRanges (by simp)
  rw [show Rows.laid_unicode_utf8_first = Go.Lib.firstData by kernel_rfl] at r1
  rw [show Rows.laid_unicode_utf8_acceptRanges = Go.Lib.acceptData by kernel_rfl] at r2
  exact Go.Proofs.utf8Tabs_of_readsT (ρ := rhoU) ⟨by kernel_rfl, by kernel_rfl, by kernel_rfl, by kernel_rfl⟩ ⟨by kernel_rfl, by kernel_rfl, by kernel_rfl, by kernel_rfl, by kernel_rfl, by kernel_rfl, by kernel_rfl⟩ r1 r2
end Go.Proofs.YtifnhdnmohlfiaaGreatDoor
