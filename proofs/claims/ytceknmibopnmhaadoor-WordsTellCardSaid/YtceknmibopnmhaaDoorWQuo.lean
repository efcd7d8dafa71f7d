/-
  Layer 9: one token: texts in quotes. Conditions: sizes.
-/
import Derived.Test.YtceknmibopnmhaaDoorWBld
namespace Go.Proofs.YtceknmibopnmhaaDoor
open Go.ChangeShapes Go.WideShapes Go.ChangeAt Go.RowKit
set_option linter.unusedVariables false

theorem Box5.onB {X Y : World} {b B : Nat} {k : Int} {S : ByteArray} {N a e : Int} (h : Box5 X b k S N a e) (hb : Below B X Y) (hlt : b < B) : Box5 Y b k S N a e := (hb.block b hlt).trans h
theorem ext_mid (s : ByteArray) (k n : Nat) : (s.extract k (k + n)).data.toList = (s.data.toList.drop k).take n := by
  rw [ByteArray.data_extract, Array.toList_extract, List.extract_eq_take_drop]
  congr 1
  omega
namespace M
theorem qt_run : ∀ l : List UInt8, qt l = (qt (l.drop (l.takeWhile (· != 39)).length)).map fun x => (l.takeWhile (· != 39) ++ x.1, (l.takeWhile (· != 39)).length + x.2)
  | [] => rfl
  | [c] => by
    by_cases h : c = 39
    · subst h; rfl
    · have h' : (c != 39) = true := by simpa using h
      simp [qt, h]
  | c :: d :: r => by
    by_cases h : c = 39
    · subst h
      rw [List.takeWhile_cons_of_neg (by simp)]
      simp
    · have h' : (c != 39) = true := by simpa using h
      rw [List.takeWhile_cons_of_pos (by exact h'), List.length_cons, List.drop_succ_cons]
      have ih := qt_run (d :: r)
      have e : qt (c :: d :: r) = (qt (d :: r)).map (fun x => (c :: x.1, x.2 + 1)) := by simp only [qt, if_neg h]
      rw [e, ih, Option.map_map]
      congr 1
      funext x
      simp only [Function.comp_apply, List.cons_append, Prod.mk.injEq, true_and]
      omega
theorem qt_two (r : List UInt8) : qt (39 :: 39 :: r) = (qt r).map fun x => (39 :: x.1, x.2 + 2) := by simp [qt]
theorem qt_end {r : List UInt8} (h : r.head? ≠ some 39) : qt (39 :: r) = some ([], 1) := by
  cases r with
  | nil => rfl
  | cons d r =>
    have : d ≠ 39 := fun e => h (by rw [e]; rfl)
    simp [qt, this]
/-- what is told of a text whose begin was read already -/
def qtK (acc : List UInt8) (k : Nat) (l : List UInt8) : Tk := match qt l with | some (s, n) => (4, acc ++ s, 0, k + n) | none => no
theorem qtT_K (r : List UInt8) : qtT r = qtK [] 1 r := by
  unfold qtT qtK
  cases qt r with
  | none => rfl
  | some x => simp [Nat.add_comm]
end M
def QuoRel (s : ByteArray) (T : M.Tk) (b : Nat) (w2 : World) (t : Value) (wr : World) : Prop :=
  ∃ (k : Nat) (acc : List UInt8), k ≤ s.size ∧ t = .int .i64 (k : Int) ∧ acc.length ≤ k ∧ Bld wr b acc ∧ Below b w2 wr ∧ M.qtK acc k (s.data.toList.drop k) = T
set_option maxRecDepth 100000 in
set_option maxHeartbeats 2000000 in
theorem quoted_any (s : ByteArray) (r : List UInt8) (w : World) (hs : s.size ≤ 65536) (hr : s.data.toList = 39 :: r) : Calls Tryd.prog 30 #[.string s] w (RetTk (M.qtT r) w) := by
  obtain ⟨w1, hw1, HB5, HB⟩ := w5_named w
  obtain ⟨w2, hw2, HL2, HB2⟩ : ∃ w2, w1.alloc (.cells #[.pointer none, .slice none 0 0] 42) = w2 ∧ Hid (Bld w2 w1.heap.size []) ∧ Hid (Below w1.heap.size w1 w2) := ⟨_, rfl, Lib.hid (Bld.new w1), Lib.hid ((Below.refl _ _).alloc (Nat.le_refl _) _)⟩
  have h1s : 1 ≤ s.size := by
    have : s.data.toList.length = s.size := by simp
    rw [hr] at this
    simp at this
    omega
  have HQ : Hid (QuoRel s (M.qtT r) w1.heap.size w2 (.int .i64 1) w2) := Lib.hid ⟨1, [], h1s, rfl, Nat.zero_le _, HL2.out, Below.refl _ _, by rw [hr, M.qtT_K]; rfl⟩
  have HBW := Lib.hid (HB5.out.on HB2.out)
  have hltb : w.heap.size < w1.heap.size := HB5.out.lt
  have HLB := Lib.hid hltb
  generalize M.qtT r = T at HQ ⊢
  clear hr
  go_enter Tryd.func30, Tryd.ntmps30
  go_wp2_with fail
  clear hw1 hw2
  generalize hbz : w1.heap.size = b at *
  go_loopw [6] (fun t wr => QuoRel s T b w2 t wr) (fun t _ => s.size - (intOf t).toNat)
  case atStart => exact HQ.out
  case round =>
    obtain ⟨k, acc, hk, rfl, hacc, hbl, hb, hT⟩ := hrel
    obtain ⟨n, HN⟩ : ∃ n, Hid (((s.extract k s.size).data.toList.takeWhile (· != 39)).length = n) := ⟨_, Lib.hid rfl⟩
    have hN := HN.out
    rw [ext_drop] at hN
    have hn : n ≤ s.size - k := by
      have := M.tw_le (p := (· != 39)) (s.data.toList.drop k)
      rw [hN, List.length_drop] at this
      simpa using this
    have hmid : (s.extract k (k + n)).data.toList = (s.data.toList.drop k).takeWhile (· != 39) := by rw [ext_mid, ← hN, M.tw_take]
    have hT2 : M.qtK (acc ++ (s.extract k (k + n)).data.toList) (k + n) (s.data.toList.drop (k + n)) = T := by
      rw [← hT, hmid]
      unfold M.qtK
      rw [M.qt_run (s.data.toList.drop k), hN, List.drop_drop]
      cases M.qt (s.data.toList.drop (k + n)) with
      | none => rfl
      | some x => simp [Nat.add_assoc]
    have hacc2 : (acc ++ (s.extract k (k + n)).data.toList).length ≤ k + n := by
      rw [List.length_append, hmid, hN]
      omega
    have hstop : ∀ c, (s.data.toList.drop (k + n)).head? = some c → c = 39 := by
      intro c hc
      rw [← List.drop_drop, ← hN, M.tw_drop] at hc
      have := List.head?_dropWhile_not (· != 39) (s.data.toList.drop k)
      rw [hc] at this
      simpa using this
    obtain ⟨k1, hk1⟩ : ∃ k1, k + n = k1 := ⟨_, rfl⟩
    have hadd : (k : Int) + (n : Int) = (k1 : Int) := by omega
    have hk1s : k1 ≤ s.size := by omega
    have hkk1 : k ≤ k1 := by omega
    rw [hk1] at hT2 hacc2 hstop
    have HS := Lib.hid (show (s.extract k s.size).size ≤ 281474976710656 by rw [ext_size]; omega)
    have hsz1 : (s.extract k k1).size ≤ 1000000 := by simp; omega
    have HX1 := Lib.hid (show (s.extract k k1).size ≤ 1000000 from hsz1)
    have hacc3 : acc.length ≤ 1000000 := by omega
    have HACC := Lib.hid hacc3
    have HBL := Lib.hid hbl
    have HBB := Lib.hid hb
    have HT2 := Lib.hid hT2
    have HA2 := Lib.hid hacc2
    have HST := Lib.hid hstop
    clear hbl hb hT2 hacc2 hstop hT hmid hN hacc hacc3 hsz1 hk1
    go_wp2_with fail
    go_region_law (first
      | (go_simp; go_at_call 23; refine (but_any _ _).mono ?_; rintro e w5 ⟨b5, rfl, hc5, hb5⟩; have HB5' := Lib.hid ((drewR HBB.out).trans (hb5.mono (Nat.le_of_lt HBL.out.lt))); have HL5 := Lib.hid (HBL.out.drew.on hb5); clear hb5)
      | (go_simp; go_at_call 20; refine (run_but 39 _ b5 _ HS.out hc5).mono ?_; rintro e w6 ⟨rfl, rfl⟩; rw [HN.out]))
    go_wp2_with fail
    refine (bldWS HL5.out _ HACC.out HX1.out).mono ?_
    rintro e w7 ⟨rfl, hl7, hb7⟩
    have HL7 := Lib.hid hl7
    have HB7 := Lib.hid (HB5'.out.trans hb7)
    clear hl7 hb7
    by_cases hend : k1 = s.size
    · have hend' : ((k1 : Int) == (s.size : Int)) = true := by simp [hend]
      have HT3 := Lib.hid (show T = M.no by
        rw [← HT2.out, hend, List.drop_of_length_le (by simp)]
        rfl)
      have HBO := Lib.hid (HB.out.trans ((HB2.out.trans (HB7.out.mono (Nat.le_refl _))).mono (Nat.le_of_lt HLB.out)))
      obtain ⟨c0, c1, c2, c3, c4⟩ := (HBW.out.onB HB7.out HLB.out).cells
      obtain ⟨f0, f1, f2, f3, f4⟩ := (HBW.out.onB HB7.out HLB.out).frz
      clear hend
      go_wp2_with fail
      refine bodyPost_ret (v := .tuple #[wd 0 nb 0 0 0, .int .i64 0, .bool false]) (by simp [results, Tryd.results30, go_sem, c0, c1, c2, c3, c4]) rfl ⟨?_, end5 HBO.out _ _ _ _ _⟩
      rw [HT3.out]
      rfl
    · have hend' : ((k1 : Int) == (s.size : Int)) = false := beq_eq_false_iff_ne.2 (by omega)
      have hlt : k1 < s.size := by omega
      obtain ⟨r, hr⟩ : ∃ r, s.data.toList.drop k1 = 39 :: r := by
        cases hd : s.data.toList.drop k1 with
        | nil =>
          have := congrArg List.length hd
          simp at this
          omega
        | cons c r =>
          rw [hd] at HST
          rw [HST.out c rfl]
          exact ⟨r, rfl⟩
      have HX := Lib.hid (show (s.extract k1 s.size).data.toList = 39 :: r by rw [ext_drop]; exact hr)
      rw [hr] at HT2
      have hd1 : s.data.toList.drop (k1 + 2) = r.drop 1 := by rw [← List.drop_drop, hr]; rfl
      clear hend hr HST
      go_wp2_with fail
      refine (Tryd.strings_HasPrefix _ _ _).mono ?_
      rintro e w8 ⟨rfl, hw⟩
      subst hw
      rw [HX.out]
      by_cases hq : r.head? = some 39
      · obtain ⟨r', rfl⟩ : ∃ r', r = 39 :: r' := by
          cases r with
          | nil => cases hq
          | cons d r' => exact ⟨r', by rw [Option.some.inj hq]⟩
        have HH := Lib.hid (show Lib.hasPrefix (39 :: 39 :: r') [39, 39] = true by simp [Lib.hasPrefix, List.isPrefixOf])
        have h2 : k1 + 2 ≤ s.size := by
          have := congrArg List.length HX.out
          rw [ext_drop] at this
          simp at this
          omega
        have hr2 : s.data.toList.drop (k1 + 2) = r' := by rw [hd1]; rfl
        have HT3 := Lib.hid (show M.qtK ((acc ++ (s.extract k k1).data.toList) ++ [39]) (k1 + 2) (s.data.toList.drop (k1 + 2)) = T by
          rw [hr2, ← HT2.out]
          unfold M.qtK
          rw [M.qt_two]
          cases M.qt r' with
          | none => rfl
          | some x => simp [Nat.add_assoc, Nat.add_comm 2])
        have HK2 := Lib.hid h2
        clear hq hd1 hr2 h2
        rw [HH.out]
        generalize acc ++ (s.extract k k1).data.toList = A at HL7 HT3 HA2
        have hA : A.length ≤ 1000000 := by have := HA2.out; omega
        go_wp2_with fail
        refine (bldWS HL7.out ⟨#[39]⟩ hA (by show 1 ≤ 1000000; omega)).mono ?_
        rintro e w9 ⟨rfl, hl9, hb9⟩
        have HL9 := Lib.hid hl9
        have HB9 := Lib.hid (HB7.out.trans hb9)
        have HFIN := Lib.hid (show QuoRel s T b w2 (.int .i64 ((k1 + 2 : Nat) : Int)) w9 from ⟨k1 + 2, A ++ [39], HK2.out, rfl, by rw [List.length_append]; have := HA2.out; simp; omega, HL9.out, HB9.out, HT3.out⟩)
        clear hl9 hb9
        go_wp2_with fail
        refine ⟨by have := HFIN.out; simpa using this, ?_⟩
        simp [intOf]
        omega
      · have HH := Lib.hid (show Lib.hasPrefix (39 :: r) [39, 39] = false by
          cases r with
          | nil => rfl
          | cons d r =>
            have : d ≠ 39 := fun e => hq (by rw [e]; rfl)
            simp [Lib.hasPrefix, List.isPrefixOf, Ne.symm this])
        have HT3 := Lib.hid (show T = (4, acc ++ (s.extract k k1).data.toList, 0, k1 + 1) by
          rw [← HT2.out]
          unfold M.qtK
          rw [M.qt_end hq]
          simp)
        clear hq hd1
        rw [HH.out]
        generalize acc ++ (s.extract k k1).data.toList = A at HL7 HT3 HA2
        go_wp2_with fail
        refine (bldSt HL7.out).mono ?_
        rintro e w9 ⟨rfl, hb9⟩
        have HB9 := Lib.hid (HB7.out.trans hb9)
        have HBO := Lib.hid (HB.out.trans ((HB2.out.trans (HB9.out.mono (Nat.le_refl _))).mono (Nat.le_of_lt HLB.out)))
        obtain ⟨c0, c1, c2, c3, c4⟩ := (HBW.out.onB HB9.out HLB.out).cells
        obtain ⟨f0, f1, f2, f3, f4⟩ := (HBW.out.onB HB9.out HLB.out).frz
        clear hb9
        go_wp2_with fail
        refine bodyPost_ret (v := .tuple #[wd 4 ⟨A.toArray⟩ 0 0 0, .int .i64 (k1 + 1), .bool true]) (by simp [results, Tryd.results30, go_sem, c0, c1, c2, c3, c4]) rfl ⟨?_, end5 HBO.out _ _ _ _ _⟩
        rw [HT3.out]
        rfl
end Go.Proofs.YtceknmibopnmhaaDoor
