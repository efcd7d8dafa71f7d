/-
  The statement's plain text: a text whose signs % and _ are x, of valid runes. Conditions: at most 60 bytes; the library's tables lie as they are laid.
-/
import Derived.Test.YtifnhdnmohlfiaaGreatDoorVValid
import Derived.Test.YtifnhdnmohlfiaaGreatDoorVLikeM
namespace Go.Proofs.YtifnhdnmohlfiaaGreatDoor
open Go.ChangeShapes Go.WideShapes Go.ChangeAt Go.RowKit
set_option linter.unusedVariables false

/-- what the closure makes of a rune -/
def signX (x : Int) : Int := if x = 37 ∨ x = 95 then 120 else x
set_option maxRecDepth 100000 in
theorem sign_any (x : Nat) (w : World) (hx : x ≤ 1114111) :
    Calls Tryz.prog 21 #[.int .i32 (x : Int)] w fun e w' => e = .returned (.int .i32 (signX x)) ∧ w' = w := by
  by_cases h1 : x = 37
  · subst h1
    go_enter Tryz.func21, Tryz.ntmps21
    go_wp2_with fail
    go_ret
    exact ⟨rfl, rfl⟩
  · by_cases h2 : x = 95
    · subst h2
      go_enter Tryz.func21, Tryz.ntmps21
      go_wp2_with fail
      go_ret
      exact ⟨rfl, rfl⟩
    · have HS := Lib.hid (show signX (x : Int) = (x : Int) by unfold signX; rw [if_neg (by omega)])
      have e1 : ((x : Int) == 37) = false := by simp; omega
      have e2 : ((x : Int) == 95) = false := by simp; omega
      clear h1 h2
      go_enter Tryz.func21, Tryz.ntmps21
      go_wp2_with fail
      go_ret
      exact ⟨by rw [HS.out]; rfl, rfl⟩
theorem plain_any (q : ByteArray) (w : World) (hq : q.size ≤ 60) (hT : Lib.Utf8Tabs 0 1 w) :
    Calls Tryz.prog 20 #[.func (.func 21) #[] #[], .string q] w fun e w' => (∃ x : ByteArray, e = .returned (.string x) ∧ Plain x.data.toList ∧ x.size ≤ 240) ∧ Below w.heap.size w w' := by
  refine (Tryz.strings_Map_runes 21 #[] (enters_of Tryz.func21 (by kernel_rfl) rfl) signX q w (by omega) ?_ ?_ hT).mono ?_
  · intro W x hx hb
    exact (sign_any x W hx).mono fun e w' h => ⟨h.1, 0, h.2⟩
  · intro x hx
    unfold signX
    split <;> omega
  · rintro e w' ⟨rfl, hb⟩
    obtain ⟨h1, h2⟩ := map_plain signX (fun x => by unfold signX; split <;> omega) q.data.toList
    refine ⟨⟨_, rfl, h1, ?_⟩, hb⟩
    show (Lib.mapD signX q.data.toList).toArray.size ≤ 240
    have e : q.data.toList.length = q.size := by rw [Array.length_toList]; rfl
    rw [List.size_toArray]
    omega
/-- Like tells what the document says, by whichever Bool is just as true -/
theorem Like_is (s p : ByteArray) (b : Bool) (w : World) (hs : s.size ≤ 1000000) (hp : p.size ≤ 1000000) (h : b = true ↔ LikeP p.data.toList s.data.toList) :
    Calls Tryz.prog 23 #[.string s, .string p] w fun e w' => e = .returned (.bool b) ∧ Below w.heap.size w w' := by
  obtain ⟨n, R, h1, h2⟩ := like_ex s p
  obtain rfl : R = b := by rw [Bool.eq_iff_iff, h2, h]
  exact Like_any s p R n w (by omega) (by omega) h1
/-- the document's answer, as a Bool -/
noncomputable def likeB (s p : ByteArray) : Bool := @decide (LikeP p.data.toList s.data.toList) (Classical.propDecidable _)
theorem likeB_iff (s p : ByteArray) : likeB s p = true ↔ LikeP p.data.toList s.data.toList := by
  unfold likeB
  exact @decide_eq_true_iff _ (Classical.propDecidable _)
theorem Like_b (s p : ByteArray) (w : World) (hs : s.size ≤ 1000000) (hp : p.size ≤ 1000000) :
    Calls Tryz.prog 23 #[.string s, .string p] w fun e w' => e = .returned (.bool (likeB s p)) ∧ Below w.heap.size w w' := Like_is s p _ w hs hp (likeB_iff s p)
theorem likeB_true {s p : ByteArray} (h : LikeP p.data.toList s.data.toList) : likeB s p = true := (likeB_iff s p).2 h
theorem likeB_eq {s p s' p' : ByteArray} (h : LikeP p.data.toList s.data.toList ↔ LikeP p'.data.toList s'.data.toList) : likeB s p = likeB s' p' := by rw [Bool.eq_iff_iff, likeB_iff, likeB_iff, h]
theorem likeB_cat {s p t q s' p' : ByteArray} (h1 : likeB s p = true) (h2 : likeB t q = true) (hs : s'.data.toList = s.data.toList ++ t.data.toList) (hp : p'.data.toList = p.data.toList ++ q.data.toList) : likeB s' p' = true := by
  rw [likeB_iff] at *
  rw [hs, hp]
  exact like_cat h1 h2
end Go.Proofs.YtifnhdnmohlfiaaGreatDoor
