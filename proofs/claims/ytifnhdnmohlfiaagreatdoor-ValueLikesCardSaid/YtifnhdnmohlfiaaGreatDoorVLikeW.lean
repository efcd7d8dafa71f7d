/-
  ValueLikes returns true: the walk. Conditions: at most 60 bytes each; the library's variables as its text lays them.
-/
import Derived.Test.YtifnhdnmohlfiaaGreatDoorVPlain
import Derived.Test.YtifnhdnmohlfiaaGreatDoorVLikeD
import Derived.Test.YtifnhdnmohlfiaaGreatDoorVCutC
import Derived.Test.YtifnhdnmohlfiaaGreatDoorVAwW
namespace Go.Proofs.YtifnhdnmohlfiaaGreatDoor
open Go.ChangeShapes Go.WideShapes Go.ChangeAt Go.RowKit
set_option linter.unusedVariables false

theorem lk_upper (X W : World) (hW : Wd X) (s : ByteArray) (hs : s.size ≤ 65536) (hWW : W = X.alloc (box 2 0 s)) :
    Calls Tryz.prog 11 #[.string ⟨#[117, 112, 112, 101, 114]⟩, .slice (some ⟨X.heap.size, 0, none⟩) 1 1] W fun e w' => e = .returned (.tuple #[vv 2 0 (turnedS largeU s), .int .i64 0]) ∧ Below X.heap.size X w' := by
  subst hWW
  have hR := rdv1 X 2 0 s
  have hb0 := (Below.refl X.heap.size X).alloc (Nat.le_refl _) (box 2 0 s)
  have hW' : Wd (X.alloc (box 2 0 s)) := hW.on hb0
  refine (Call_fn _ 1 1 false _ _ named_upper X.heap.size 0 1 [(2, 0, s)] _ ?_ (by simp) hR (by simp) (by simp) (by simp [bad_text hs]) (.inr (by simp [pNul])) 2 0 (turnedS largeU s) 0 (enters_of Tryz.func114 (by kernel_rfl) rfl) ?_).mono ?_
  · intro t ht
    simp only [List.mem_cons, List.mem_nil_iff, or_false] at ht
    subst ht
    show s.size ≤ _; omega
  · intro V c1 c2 hV hB
    exact upperCall X.heap.size 0 c1 2 0 s V (by unfold In64; omega) (hW'.on hV) (hR.on hV) hB.1 s rfl (by omega)
  · rintro e w' ⟨rfl, hb⟩
    exact ⟨rfl, hb0.trans (hb.mono (by simp))⟩
theorem lk_lower (X W : World) (hW : Wd X) (s : ByteArray) (hs : s.size ≤ 65536) (hWW : W = X.alloc (box 2 0 s)) :
    Calls Tryz.prog 11 #[.string ⟨#[108, 111, 119, 101, 114]⟩, .slice (some ⟨X.heap.size, 0, none⟩) 1 1] W fun e w' => e = .returned (.tuple #[vv 2 0 (turnedS smallU s), .int .i64 0]) ∧ Below X.heap.size X w' := by
  subst hWW
  have hR := rdv1 X 2 0 s
  have hb0 := (Below.refl X.heap.size X).alloc (Nat.le_refl _) (box 2 0 s)
  have hW' : Wd (X.alloc (box 2 0 s)) := hW.on hb0
  refine (Call_fn _ 1 1 false _ _ named_lower X.heap.size 0 1 [(2, 0, s)] _ ?_ (by simp) hR (by simp) (by simp) (by simp [bad_text hs]) (.inr (by simp [pNul])) 2 0 (turnedS smallU s) 0 (enters_of Tryz.func114 (by kernel_rfl) rfl) ?_).mono ?_
  · intro t ht
    simp only [List.mem_cons, List.mem_nil_iff, or_false] at ht
    subst ht
    show s.size ≤ _; omega
  · intro V c1 c2 hV hB
    exact lowerCall X.heap.size 0 c2 2 0 s V (by unfold In64; omega) (hW'.on hV) (hR.on hV) hB.2 s rfl (by omega)
  · rintro e w' ⟨rfl, hb⟩
    exact ⟨rfl, hb0.trans (hb.mono (by simp))⟩
theorem small_37 (c : UInt8) (h : ¬ c.toNat = 37) : ¬ (smallU c).toNat = 37 := by
  rw [smallU_n]; unfold smallN; split <;> omega
theorem large_37 (c : UInt8) (h : ¬ c.toNat = 37) : ¬ (largeU c).toNat = 37 := by
  rw [largeU_n]; unfold largeN; split <;> omega
theorem small_large (c : UInt8) : smallN (smallU c).toNat = smallN (largeU c).toNat := by
  rw [smallU_n, largeU_n]; unfold smallN largeN
  split <;> split <;> (try split) <;> (try split) <;> omega
theorem like_up (s : ByteArray) (h : Plain s.data.toList) : LikeP (turnedS smallU s).data.toList (turnedS largeU s).data.toList := by
  simp only [turnedS]
  exact like_map smallU largeU small_37 (fun c => by unfold stands; rw [small_large]; simp) _ h
theorem like_down (s : ByteArray) (h : Plain s.data.toList) : LikeP (turnedS largeU s).data.toList (turnedS smallU s).data.toList := by
  simp only [turnedS]
  exact like_map largeU smallU large_37 (fun c => by unfold stands; rw [small_large]; simp) _ h
theorem turned_size (F : UInt8 → UInt8) (s : ByteArray) : (turnedS F s).size = s.size := by
  show ((s.data.toList.map F).toArray).size = s.data.size
  simp
theorem lk_within (x s t : ByteArray) (h : Plain x.data.toList) : LikeP ((⟨#[37]⟩ : ByteArray) ++ x ++ ⟨#[37]⟩).data.toList (t ++ x ++ s).data.toList := by
  have e1 : ((⟨#[37]⟩ : ByteArray) ++ x ++ ⟨#[37]⟩).data.toList = [37] ++ x.data.toList ++ [37] := by simp [ByteArray.data_append]
  have e2 : (t ++ x ++ s).data.toList = t.data.toList ++ x.data.toList ++ s.data.toList := by simp [ByteArray.data_append]
  rw [e1, e2]
  exact like_within _ _ _ h
theorem lk_sz (x : ByteArray) (n : Nat) (h : x.size ≤ n) : ((⟨#[37]⟩ : ByteArray) ++ x ++ ⟨#[37]⟩).size ≤ n + 2 := by
  rw [ByteArray.size_append, ByteArray.size_append]
  have e : (⟨#[37]⟩ : ByteArray).size = 1 := rfl
  omega
theorem lk_sz3 (x s t : ByteArray) (n : Nat) (h1 : x.size ≤ n) (h2 : s.size ≤ n) (h3 : t.size ≤ n) : (t ++ x ++ s).size ≤ 3 * n := by
  rw [ByteArray.size_append, ByteArray.size_append]
  omega
theorem lk_empty (s : ByteArray) : decide (s.size = 0) = true ↔ LikeP (⟨#[]⟩ : ByteArray).data.toList s.data.toList := by
  have e : s.data.toList.length = s.size := by rw [Array.length_toList]; rfl
  rw [decide_eq_true_iff, show (⟨#[]⟩ : ByteArray).data.toList = [] from rfl, like_nil, ← List.length_eq_zero_iff, e]
theorem lk_e0 (s : ByteArray) : (!decide (s = ByteArray.empty) == s.toList.isEmpty) = false := by
  have e : s.toList = s.data.toList := ByteArray.toList_eq s
  have h : decide (s = ByteArray.empty) = s.data.toList.isEmpty := by
    by_cases h : s = ByteArray.empty
    · subst h; rfl
    · rw [decide_eq_false h]
      cases hl : s.data.toList with
      | nil => exact absurd (Go.WideShapes.bytes_inj (a := s) (b := ByteArray.empty) hl) h
      | cons a l => rfl
  rw [e, h]
  simp
theorem lk_len (s : ByteArray) : s.data.toList.length = s.size := by rw [Array.length_toList]; rfl
theorem lk_un (n : Nat) (s : ByteArray) : LikeP (⟨(Lib.repeatL (⟨#[95]⟩ : ByteArray).data.toList n).toArray⟩ : ByteArray).data.toList s.data.toList ↔ s.size = n := by
  show LikeP (Lib.repeatL [95] n).toArray.toList _ ↔ _
  rw [List.toList_toArray, rep_unders, like_unders, lk_len]
theorem lk_un1 (s : ByteArray) : LikeP (⟨(Lib.repeatL (⟨#[95]⟩ : ByteArray).data.toList s.size).toArray⟩ : ByteArray).data.toList s.data.toList := (lk_un _ s).2 rfl
theorem lk_un2 (s : ByteArray) : ¬ LikeP (⟨(Lib.repeatL (⟨#[95]⟩ : ByteArray).data.toList (s.size + 1)).toArray⟩ : ByteArray).data.toList s.data.toList := fun h => by
  have := (lk_un _ s).1 h
  omega
theorem lk_uns (n : Nat) : (⟨(Lib.repeatL (⟨#[95]⟩ : ByteArray).data.toList n).toArray⟩ : ByteArray).size = n := by
  show (Lib.repeatL [95] n).toArray.size = n
  rw [List.size_toArray, rep_unders, List.length_replicate]
theorem lk_iff {s p : ByteArray} {B : Bool} (h : likeB s p = B) : B = true ↔ LikeP p.data.toList s.data.toList := by
  subst h
  exact likeB_iff s p
theorem lk_cnt (p : ByteArray) (h : p.size ≤ 60) : p.size + Lib.countB p ⟨#[37]⟩ * (⟨#[37, 37]⟩ : ByteArray).size ≤ 140737488355328 := by
  have h1 := Lib.countB_mul_le ⟨#[37]⟩ (by show 1 ≤ 1; omega) p.size p (Nat.le_refl _)
  have e1 : (⟨#[37]⟩ : ByteArray).size = 1 := rfl
  have e2 : (⟨#[37, 37]⟩ : ByteArray).size = 2 := rfl
  rw [e1] at h1
  rw [e2]
  omega
theorem lk_dbl (s p : ByteArray) : LikeP (⟨(Lib.replaceAll p.data.toList (⟨#[37]⟩ : ByteArray).data.toList (⟨#[37, 37]⟩ : ByteArray).data.toList).toArray⟩ : ByteArray).data.toList s.data.toList ↔ LikeP p.data.toList s.data.toList := by
  show LikeP (Lib.replaceAll p.data.toList [37] [37, 37]).toArray.toList _ ↔ _
  rw [List.toList_toArray, repAll_dblP, like_dbl]
theorem lk_dbls (p : ByteArray) : (⟨(Lib.replaceAll p.data.toList (⟨#[37]⟩ : ByteArray).data.toList (⟨#[37, 37]⟩ : ByteArray).data.toList).toArray⟩ : ByteArray).size ≤ 2 * p.size := by
  show (Lib.replaceAll p.data.toList [37] [37, 37]).toArray.size ≤ _
  rw [List.size_toArray, repAll_dblP, ← lk_len p]
  exact dblL_len _
theorem lk_lastx (s p : ByteArray) : LikeP (p ++ (⟨#[95]⟩ : ByteArray)).data.toList (s ++ (⟨#[120]⟩ : ByteArray)).data.toList ↔ LikeP p.data.toList s.data.toList := by
  rw [ByteArray.data_append, ByteArray.data_append, Array.toList_append, Array.toList_append]
  exact like_last _ _ 120
theorem onA {w x y : World} {o : Obj} (h : Below w.heap.size w x) (b : Below (x.alloc o).heap.size (x.alloc o) y) : Below w.heap.size w y :=
  (h.alloc h.size o).trans (b.mono (Nat.le_trans h.size (by simp)))
theorem onB {w x y : World} (h : Below w.heap.size w x) (b : Below x.heap.size x y) : Below w.heap.size w y := h.trans (b.mono h.size)
set_option maxRecDepth 100000 in
set_option maxHeartbeats 1600000 in
theorem likes_go (s t p q : ByteArray) (w : World) (hs : s.size ≤ 60) (ht : t.size ≤ 60) (hp : p.size ≤ 60) (hq : q.size ≤ 60) (HW : Hid (Wd w)) (HT : Hid (Lib.Utf8Tabs 0 1 w)) :
    Calls Tryz.prog 4 #[.string s, .string t, .string p, .string q] w fun e w' => e = .returned (.bool true) ∧ Below w.heap.size w w' := by
  have e1 : decide ((60 : Int) < s.size) = false := decide_eq_false (by omega)
  have e2 : decide ((60 : Int) < t.size) = false := decide_eq_false (by omega)
  have e3 : decide ((60 : Int) < p.size) = false := decide_eq_false (by omega)
  have e4 : decide ((60 : Int) < q.size) = false := decide_eq_false (by omega)
  go_enter Tryz.func4, Tryz.ntmps4
  go_wp2_with fail
  refine (valid_any s _ hs HT.out).mono ?_
  rintro e w1 ⟨⟨q1, rfl, hq1⟩, b1⟩
  have HX := Lib.hid b1
  clear b1 e1 e2 e3 e4
  go_wp2_with fail
  refine (plain_any q1 w1 hq1 (Utf8Tabs_below HT.out HX.out)).mono ?_
  rintro e w2 ⟨⟨x, rfl, hx, hxs⟩, b2⟩
  have HP := Lib.hid hx
  have HX := Lib.hid (onB HX.out b2)
  clear b2 hx
  go_wp2_with fail
  refine (text_any x _).mono ?_
  rintro e w3 ⟨rfl, b3⟩
  have HX := Lib.hid (onB HX.out b3)
  clear b3
  go_wp2_with fail
  refine (lk_upper w3 _ (HW.out.on HX.out) x (by omega) rfl).mono ?_
  rintro e w4 ⟨rfl, b4⟩
  have HX := Lib.hid (onB HX.out b4)
  clear b4
  obtain ⟨U, hU⟩ : ∃ U, turnedS largeU x = U := ⟨_, rfl⟩
  have hUs : U.size ≤ 240 := by rw [← hU, turned_size]; exact hxs
  rw [hU]
  have HU := Lib.hid hU
  clear hU
  go_wp2_with fail
  refine (text_any x _).mono ?_
  rintro e w5 ⟨rfl, b5⟩
  have D1 := Lib.hid (show w5.cell? ⟨w4.heap.size, 2, none⟩ = some (.string U) from (b5.cell (p := ⟨w4.heap.size, 2, none⟩) (by simp)).trans (by simp [go_sem]))
  have hz5 : w4.heap.size < w5.heap.size := by have := b5.size; simp at this; omega
  have HX := Lib.hid (onA HX.out b5)
  clear b5
  go_wp2_with fail
  refine (lk_lower w5 _ (HW.out.on HX.out) x (by omega) rfl).mono ?_
  rintro e w6 ⟨rfl, b6⟩
  have D1 := Lib.hid ((b6.cell (p := ⟨w4.heap.size, 2, none⟩) hz5).trans D1.out)
  have hz6 : w4.heap.size < w6.heap.size := by have := b6.size; omega
  have HX := Lib.hid (onB HX.out b6)
  clear b6
  obtain ⟨L, hL⟩ : ∃ L, turnedS smallU x = L := ⟨_, rfl⟩
  have hLs : L.size ≤ 240 := by rw [← hL, turned_size]; exact hxs
  rw [hL]
  have HL := Lib.hid hL
  clear hL
  have D1 := Lib.hid (show (w6.alloc (box 2 0 L)).cell? ⟨w4.heap.size, 2, none⟩ = some (.string U) from (World.cell?_alloc_lt w6 _ _ hz6).trans D1.out)
  have D2 := Lib.hid (show (w6.alloc (box 2 0 L)).cell? ⟨w6.heap.size, 2, none⟩ = some (.string L) by simp [go_sem])
  have HX := Lib.hid ((HX.out.alloc HX.out.size (box 2 0 L)))
  have hz7 : w4.heap.size < (w6.alloc (box 2 0 L)).heap.size := by simp; omega
  have hz8 : w6.heap.size < (w6.alloc (box 2 0 L)).heap.size := by simp
  go_wp2_with fail
  refine (Like_is x x true _ (by omega) (by omega) (iff_of_true rfl (like_self _ HP.out))).mono ?_
  rintro e c1 ⟨rfl, b1⟩
  have D1 := Lib.hid ((b1.cell (p := ⟨w4.heap.size, 2, none⟩) hz7).trans D1.out)
  have D2 := Lib.hid ((b1.cell (p := ⟨w6.heap.size, 2, none⟩) hz8).trans D2.out)
  have hz7 : w4.heap.size < c1.heap.size := Nat.lt_of_lt_of_le hz7 b1.size
  have hz8 : w6.heap.size < c1.heap.size := Nat.lt_of_lt_of_le hz8 b1.size
  have HX := Lib.hid (onB HX.out b1)
  have d1 := D1.out
  have d2 := D2.out
  clear b1
  go_wp2_with fail
  refine (Like_is U L true _ (by omega) (by omega) (iff_of_true rfl (by rw [← HU.out, ← HL.out]; exact like_up x HP.out))).mono ?_
  rintro e c2 ⟨rfl, b1⟩
  have D1 := Lib.hid ((b1.cell (p := ⟨w4.heap.size, 2, none⟩) hz7).trans D1.out)
  have D2 := Lib.hid ((b1.cell (p := ⟨w6.heap.size, 2, none⟩) hz8).trans D2.out)
  have hz7 : w4.heap.size < c2.heap.size := Nat.lt_of_lt_of_le hz7 b1.size
  have hz8 : w6.heap.size < c2.heap.size := Nat.lt_of_lt_of_le hz8 b1.size
  clear d1 d2
  have d1 := D1.out
  have d2 := D2.out
  have HX := Lib.hid (onB HX.out b1)
  clear b1
  go_wp2_with fail
  refine (Like_is L U true _ (by omega) (by omega) (iff_of_true rfl (by rw [← HU.out, ← HL.out]; exact like_down x HP.out))).mono ?_
  rintro e c3 ⟨rfl, b1⟩
  have D1 := Lib.hid ((b1.cell (p := ⟨w4.heap.size, 2, none⟩) hz7).trans D1.out)
  have D2 := Lib.hid ((b1.cell (p := ⟨w6.heap.size, 2, none⟩) hz8).trans D2.out)
  have hz7 : w4.heap.size < c3.heap.size := Nat.lt_of_lt_of_le hz7 b1.size
  have hz8 : w6.heap.size < c3.heap.size := Nat.lt_of_lt_of_le hz8 b1.size
  clear d1 d2
  have d1 := D1.out
  have d2 := D2.out
  have HX := Lib.hid (onB HX.out b1)
  clear b1
  clear d1 d2
  go_wp2_with fail
  refine (Like_is s ⟨#[37]⟩ true _ (by omega) (by show 1 ≤ 1000000; omega) (iff_of_true rfl (like_all _))).mono ?_
  rintro e c4 ⟨rfl, b1⟩
  have HX := Lib.hid (onB HX.out b1)
  clear b1
  go_wp2_with fail
  obtain ⟨y, hy⟩ : ∃ y, t ++ x ++ s = y := ⟨_, rfl⟩
  obtain ⟨z, hz⟩ : ∃ z, (⟨#[37]⟩ : ByteArray) ++ x ++ ⟨#[37]⟩ = z := ⟨_, rfl⟩
  have HYZ := Lib.hid (show LikeP z.data.toList y.data.toList by rw [← hy, ← hz]; exact lk_within x s t HP.out)
  have hys : y.size ≤ 720 := by rw [← hy]; exact lk_sz3 x s t 240 hxs (by omega) (by omega)
  have hzs : z.size ≤ 242 := by rw [← hz]; exact lk_sz x 240 hxs
  rw [hy, hz]
  clear hy hz
  refine (Like_is y z true _ (by omega) (by omega) (iff_of_true rfl (HYZ.out))).mono ?_
  rintro e c5 ⟨rfl, b1⟩
  have HX := Lib.hid (onB HX.out b1)
  clear b1
  go_wp2_with fail
  refine (Like_is s ⟨#[]⟩ (decide (s.size = 0)) _ (by omega) (by show 0 ≤ 1000000; omega) (lk_empty s)).mono ?_
  rintro e c6 ⟨rfl, b1⟩
  have HX := Lib.hid (onB HX.out b1)
  clear b1
  have e0 := lk_e0 s
  go_wp2_with fail
  clear e0
  refine (Like_b s p _ (by omega) (by omega)).mono ?_
  rintro e z21 ⟨rfl, b1⟩
  have HX := Lib.hid (onB HX.out b1)
  clear b1
  obtain ⟨B, hB⟩ : ∃ B, likeB s p = B := ⟨_, rfl⟩
  rw [hB]
  have HB1 := Lib.hid hB
  clear hB
  cases B with
  | false =>
    go_wp2_with fail
    refine (Tryz.strings_Repeat ⟨#[95]⟩ s.size _ (by omega) (by show 1 * _ ≤ _; omega)).mono ?_
    rintro e z22 ⟨rfl, b1⟩
    have HX := Lib.hid (onB HX.out b1)
    clear b1
    have hu1 := lk_un1 s
    have hv1 := lk_uns s.size
    obtain ⟨y1, hy1⟩ : ∃ y, (⟨(Lib.repeatL (⟨#[95]⟩ : ByteArray).data.toList s.size).toArray⟩ : ByteArray) = y := ⟨_, rfl⟩
    rw [hy1] at hu1 hv1 ⊢
    have HU1 := Lib.hid hu1
    clear hy1 hu1
    go_wp2_with fail
    refine (Like_is s y1 true _ (by omega) (by omega) (iff_of_true rfl HU1.out)).mono ?_
    rintro e z23 ⟨rfl, b1⟩
    have HX := Lib.hid (onB HX.out b1)
    clear b1
    go_wp2_with fail
    refine (Tryz.strings_Repeat ⟨#[95]⟩ (s.size + 1) _ (by omega) (by show 1 * _ ≤ _; omega)).mono ?_
    rintro e z24 ⟨rfl, b1⟩
    have HX := Lib.hid (onB HX.out b1)
    clear b1
    have hu2 := lk_un2 s
    have hv2 := lk_uns (s.size + 1)
    obtain ⟨y2, hy2⟩ : ∃ y, (⟨(Lib.repeatL (⟨#[95]⟩ : ByteArray).data.toList (s.size + 1)).toArray⟩ : ByteArray) = y := ⟨_, rfl⟩
    rw [hy2] at hu2 hv2 ⊢
    have HU2 := Lib.hid hu2
    clear hy2 hu2
    go_wp2_with fail
    refine (Like_is s y2 false _ (by omega) (by omega) (iff_of_false (by simp) HU2.out)).mono ?_
    rintro e z25 ⟨rfl, b1⟩
    have HX := Lib.hid (onB HX.out b1)
    clear b1
    go_wp2_with fail
    obtain ⟨_, m, hm⟩ := HW.out.on HX.out
    refine (Tryz.strings_ReplaceAll p ⟨#[37]⟩ ⟨#[37, 37]⟩ m _ (by omega) hm (by show 1 ≤ 1; omega) (lk_cnt p (by omega))).mono ?_
    rintro e z26 ⟨rfl, b1⟩
    have HX := Lib.hid (onB HX.out b1)
    clear b1 hm
    have hr := lk_dbl s p
    have hrs := lk_dbls p
    obtain ⟨r, hr0⟩ : ∃ r, (⟨(Lib.replaceAll p.data.toList (⟨#[37]⟩ : ByteArray).data.toList (⟨#[37, 37]⟩ : ByteArray).data.toList).toArray⟩ : ByteArray) = r := ⟨_, rfl⟩
    rw [hr0] at hr hrs ⊢
    have HR := Lib.hid hr
    clear hr0 hr
    go_wp2_with fail
    refine (Like_is s r false _ (by omega) (by omega) ((lk_iff HB1.out).trans HR.out.symm)).mono ?_
    rintro e z27 ⟨rfl, b1⟩
    have HX := Lib.hid (onB HX.out b1)
    clear b1
    go_wp2_with fail
    refine (Like_is s p false _ (by omega) (by omega) (lk_iff HB1.out)).mono ?_
    rintro e z28 ⟨rfl, b1⟩
    have HX := Lib.hid (onB HX.out b1)
    clear b1
    go_wp2_with fail
    obtain ⟨sx, hsx⟩ : ∃ y, s ++ (⟨#[120]⟩ : ByteArray) = y := ⟨_, rfl⟩
    obtain ⟨px, hpx⟩ : ∃ y, p ++ (⟨#[95]⟩ : ByteArray) = y := ⟨_, rfl⟩
    have HLX := Lib.hid (show LikeP px.data.toList sx.data.toList ↔ LikeP p.data.toList s.data.toList by rw [← hsx, ← hpx]; exact lk_lastx s p)
    have hsxs : sx.size ≤ 1000 := by rw [← hsx, ByteArray.size_append]; show s.size + 1 ≤ 1000; omega
    have hpxs : px.size ≤ 1000 := by rw [← hpx, ByteArray.size_append]; show p.size + 1 ≤ 1000; omega
    rw [hsx, hpx]
    clear hsx hpx
    refine (Like_is sx px false _ (by omega) (by omega) ((lk_iff HB1.out).trans HLX.out.symm)).mono ?_
    rintro e z29 ⟨rfl, b1⟩
    have HX := Lib.hid (onB HX.out b1)
    clear b1
    go_wp2_with fail
    refine (Like_is s p false _ (by omega) (by omega) (lk_iff HB1.out)).mono ?_
    rintro e z30 ⟨rfl, b1⟩
    have HX := Lib.hid (onB HX.out b1)
    clear b1
    go_wp2_with fail
    refine (awake_any _ (HW.out.on HX.out)).mono ?_
    rintro e z31 ⟨rfl, b1⟩
    have HX := Lib.hid (onB HX.out b1)
    clear b1
    go_wp2_with fail
    go_ret
    exact ⟨rfl, HX.out⟩
  | true =>
    go_wp2_with fail
    refine (Like_b t q _ (by omega) (by omega)).mono ?_
    rintro e z32 ⟨rfl, b1⟩
    have HX := Lib.hid (onB HX.out b1)
    clear b1
    obtain ⟨C, hC⟩ : ∃ C, likeB t q = C := ⟨_, rfl⟩
    rw [hC]
    have HC1 := Lib.hid hC
    clear hC
    cases C with
    | false =>
      go_wp2_with fail
      refine (Tryz.strings_Repeat ⟨#[95]⟩ s.size _ (by omega) (by show 1 * _ ≤ _; omega)).mono ?_
      rintro e z33 ⟨rfl, b1⟩
      have HX := Lib.hid (onB HX.out b1)
      clear b1
      have hu1 := lk_un1 s
      have hv1 := lk_uns s.size
      obtain ⟨y1, hy1⟩ : ∃ y, (⟨(Lib.repeatL (⟨#[95]⟩ : ByteArray).data.toList s.size).toArray⟩ : ByteArray) = y := ⟨_, rfl⟩
      rw [hy1] at hu1 hv1 ⊢
      have HU1 := Lib.hid hu1
      clear hy1 hu1
      go_wp2_with fail
      refine (Like_is s y1 true _ (by omega) (by omega) (iff_of_true rfl HU1.out)).mono ?_
      rintro e z34 ⟨rfl, b1⟩
      have HX := Lib.hid (onB HX.out b1)
      clear b1
      go_wp2_with fail
      refine (Tryz.strings_Repeat ⟨#[95]⟩ (s.size + 1) _ (by omega) (by show 1 * _ ≤ _; omega)).mono ?_
      rintro e z35 ⟨rfl, b1⟩
      have HX := Lib.hid (onB HX.out b1)
      clear b1
      have hu2 := lk_un2 s
      have hv2 := lk_uns (s.size + 1)
      obtain ⟨y2, hy2⟩ : ∃ y, (⟨(Lib.repeatL (⟨#[95]⟩ : ByteArray).data.toList (s.size + 1)).toArray⟩ : ByteArray) = y := ⟨_, rfl⟩
      rw [hy2] at hu2 hv2 ⊢
      have HU2 := Lib.hid hu2
      clear hy2 hu2
      go_wp2_with fail
      refine (Like_is s y2 false _ (by omega) (by omega) (iff_of_false (by simp) HU2.out)).mono ?_
      rintro e z36 ⟨rfl, b1⟩
      have HX := Lib.hid (onB HX.out b1)
      clear b1
      go_wp2_with fail
      obtain ⟨_, m, hm⟩ := HW.out.on HX.out
      refine (Tryz.strings_ReplaceAll p ⟨#[37]⟩ ⟨#[37, 37]⟩ m _ (by omega) hm (by show 1 ≤ 1; omega) (lk_cnt p (by omega))).mono ?_
      rintro e z37 ⟨rfl, b1⟩
      have HX := Lib.hid (onB HX.out b1)
      clear b1 hm
      have hr := lk_dbl s p
      have hrs := lk_dbls p
      obtain ⟨r, hr0⟩ : ∃ r, (⟨(Lib.replaceAll p.data.toList (⟨#[37]⟩ : ByteArray).data.toList (⟨#[37, 37]⟩ : ByteArray).data.toList).toArray⟩ : ByteArray) = r := ⟨_, rfl⟩
      rw [hr0] at hr hrs ⊢
      have HR := Lib.hid hr
      clear hr0 hr
      go_wp2_with fail
      refine (Like_is s r true _ (by omega) (by omega) ((lk_iff HB1.out).trans HR.out.symm)).mono ?_
      rintro e z38 ⟨rfl, b1⟩
      have HX := Lib.hid (onB HX.out b1)
      clear b1
      go_wp2_with fail
      refine (Like_is s p true _ (by omega) (by omega) (lk_iff HB1.out)).mono ?_
      rintro e z39 ⟨rfl, b1⟩
      have HX := Lib.hid (onB HX.out b1)
      clear b1
      go_wp2_with fail
      obtain ⟨sx, hsx⟩ : ∃ y, s ++ (⟨#[120]⟩ : ByteArray) = y := ⟨_, rfl⟩
      obtain ⟨px, hpx⟩ : ∃ y, p ++ (⟨#[95]⟩ : ByteArray) = y := ⟨_, rfl⟩
      have HLX := Lib.hid (show LikeP px.data.toList sx.data.toList ↔ LikeP p.data.toList s.data.toList by rw [← hsx, ← hpx]; exact lk_lastx s p)
      have hsxs : sx.size ≤ 1000 := by rw [← hsx, ByteArray.size_append]; show s.size + 1 ≤ 1000; omega
      have hpxs : px.size ≤ 1000 := by rw [← hpx, ByteArray.size_append]; show p.size + 1 ≤ 1000; omega
      rw [hsx, hpx]
      clear hsx hpx
      refine (Like_is sx px true _ (by omega) (by omega) ((lk_iff HB1.out).trans HLX.out.symm)).mono ?_
      rintro e z40 ⟨rfl, b1⟩
      have HX := Lib.hid (onB HX.out b1)
      clear b1
      go_wp2_with fail
      refine (Like_is s p true _ (by omega) (by omega) (lk_iff HB1.out)).mono ?_
      rintro e z41 ⟨rfl, b1⟩
      have HX := Lib.hid (onB HX.out b1)
      clear b1
      go_wp2_with fail
      refine (awake_any _ (HW.out.on HX.out)).mono ?_
      rintro e z42 ⟨rfl, b1⟩
      have HX := Lib.hid (onB HX.out b1)
      clear b1
      go_wp2_with fail
      go_ret
      exact ⟨rfl, HX.out⟩
    | true =>
      go_wp2_with fail
      obtain ⟨st, hst⟩ : ∃ y, s ++ t = y := ⟨_, rfl⟩
      obtain ⟨pq, hpq⟩ : ∃ y, p ++ q = y := ⟨_, rfl⟩
      have HCAT := Lib.hid ((likeB_iff st pq).1 (likeB_cat HB1.out HC1.out (by rw [← hst, ByteArray.data_append, Array.toList_append]) (by rw [← hpq, ByteArray.data_append, Array.toList_append])))
      have hsts : st.size ≤ 120 := by rw [← hst, ByteArray.size_append]; omega
      have hpqs : pq.size ≤ 120 := by rw [← hpq, ByteArray.size_append]; omega
      rw [hst, hpq]
      clear hst hpq
      refine (Like_is st pq true _ (by omega) (by omega) (iff_of_true rfl HCAT.out)).mono ?_
      rintro e z44 ⟨rfl, b1⟩
      have HX := Lib.hid (onB HX.out b1)
      clear b1
      go_wp2_with fail
      refine (Tryz.strings_Repeat ⟨#[95]⟩ s.size _ (by omega) (by show 1 * _ ≤ _; omega)).mono ?_
      rintro e z45 ⟨rfl, b1⟩
      have HX := Lib.hid (onB HX.out b1)
      clear b1
      have hu1 := lk_un1 s
      have hv1 := lk_uns s.size
      obtain ⟨y1, hy1⟩ : ∃ y, (⟨(Lib.repeatL (⟨#[95]⟩ : ByteArray).data.toList s.size).toArray⟩ : ByteArray) = y := ⟨_, rfl⟩
      rw [hy1] at hu1 hv1 ⊢
      have HU1 := Lib.hid hu1
      clear hy1 hu1
      go_wp2_with fail
      refine (Like_is s y1 true _ (by omega) (by omega) (iff_of_true rfl HU1.out)).mono ?_
      rintro e z46 ⟨rfl, b1⟩
      have HX := Lib.hid (onB HX.out b1)
      clear b1
      go_wp2_with fail
      refine (Tryz.strings_Repeat ⟨#[95]⟩ (s.size + 1) _ (by omega) (by show 1 * _ ≤ _; omega)).mono ?_
      rintro e z47 ⟨rfl, b1⟩
      have HX := Lib.hid (onB HX.out b1)
      clear b1
      have hu2 := lk_un2 s
      have hv2 := lk_uns (s.size + 1)
      obtain ⟨y2, hy2⟩ : ∃ y, (⟨(Lib.repeatL (⟨#[95]⟩ : ByteArray).data.toList (s.size + 1)).toArray⟩ : ByteArray) = y := ⟨_, rfl⟩
      rw [hy2] at hu2 hv2 ⊢
      have HU2 := Lib.hid hu2
      clear hy2 hu2
      go_wp2_with fail
      refine (Like_is s y2 false _ (by omega) (by omega) (iff_of_false (by simp) HU2.out)).mono ?_
      rintro e z48 ⟨rfl, b1⟩
      have HX := Lib.hid (onB HX.out b1)
      clear b1
      go_wp2_with fail
      obtain ⟨_, m, hm⟩ := HW.out.on HX.out
      refine (Tryz.strings_ReplaceAll p ⟨#[37]⟩ ⟨#[37, 37]⟩ m _ (by omega) hm (by show 1 ≤ 1; omega) (lk_cnt p (by omega))).mono ?_
      rintro e z49 ⟨rfl, b1⟩
      have HX := Lib.hid (onB HX.out b1)
      clear b1 hm
      have hr := lk_dbl s p
      have hrs := lk_dbls p
      obtain ⟨r, hr0⟩ : ∃ r, (⟨(Lib.replaceAll p.data.toList (⟨#[37]⟩ : ByteArray).data.toList (⟨#[37, 37]⟩ : ByteArray).data.toList).toArray⟩ : ByteArray) = r := ⟨_, rfl⟩
      rw [hr0] at hr hrs ⊢
      have HR := Lib.hid hr
      clear hr0 hr
      go_wp2_with fail
      refine (Like_is s r true _ (by omega) (by omega) ((lk_iff HB1.out).trans HR.out.symm)).mono ?_
      rintro e z50 ⟨rfl, b1⟩
      have HX := Lib.hid (onB HX.out b1)
      clear b1
      go_wp2_with fail
      refine (Like_is s p true _ (by omega) (by omega) (lk_iff HB1.out)).mono ?_
      rintro e z51 ⟨rfl, b1⟩
      have HX := Lib.hid (onB HX.out b1)
      clear b1
      go_wp2_with fail
      obtain ⟨sx, hsx⟩ : ∃ y, s ++ (⟨#[120]⟩ : ByteArray) = y := ⟨_, rfl⟩
      obtain ⟨px, hpx⟩ : ∃ y, p ++ (⟨#[95]⟩ : ByteArray) = y := ⟨_, rfl⟩
      have HLX := Lib.hid (show LikeP px.data.toList sx.data.toList ↔ LikeP p.data.toList s.data.toList by rw [← hsx, ← hpx]; exact lk_lastx s p)
      have hsxs : sx.size ≤ 1000 := by rw [← hsx, ByteArray.size_append]; show s.size + 1 ≤ 1000; omega
      have hpxs : px.size ≤ 1000 := by rw [← hpx, ByteArray.size_append]; show p.size + 1 ≤ 1000; omega
      rw [hsx, hpx]
      clear hsx hpx
      refine (Like_is sx px true _ (by omega) (by omega) ((lk_iff HB1.out).trans HLX.out.symm)).mono ?_
      rintro e z52 ⟨rfl, b1⟩
      have HX := Lib.hid (onB HX.out b1)
      clear b1
      go_wp2_with fail
      refine (Like_is s p true _ (by omega) (by omega) (lk_iff HB1.out)).mono ?_
      rintro e z53 ⟨rfl, b1⟩
      have HX := Lib.hid (onB HX.out b1)
      clear b1
      go_wp2_with fail
      refine (awake_any _ (HW.out.on HX.out)).mono ?_
      rintro e z54 ⟨rfl, b1⟩
      have HX := Lib.hid (onB HX.out b1)
      clear b1
      go_wp2_with fail
      go_ret
      exact ⟨rfl, HX.out⟩
end Go.Proofs.YtifnhdnmohlfiaaGreatDoor
