/-
  Layer 9: WordsLocal's walk. Conditions: sizes; the library's variables are as its text lays them.
-/
import Derived.Test.YtfoepciempoakaaDoorWAw
namespace Go.Proofs.YtfoepciempoakaaDoor
open Go.ChangeShapes Go.WideShapes Go.ChangeAt Go.RowKit
set_option linter.unusedVariables false

def InRange (m : Nat) (w : World) (e : Ending) (w' : World) : Prop := ∃ r : Nat, r < m ∧ e = .returned (.int .i64 (r : Int)) ∧ w = w'
theorem Pick_any (n : Int) (m : Nat) (w : World) (hm : 1 ≤ m) (hm2 : m ≤ 1000000) (hn : -9223372036854775808 ≤ n ∧ n ≤ 9223372036854775807) : Calls Tryd.prog 14 #[.int .i64 n, .int .i64 (m : Int)] w (InRange m w) := by
  have h1 : n.tmod m < m := Int.tmod_lt_of_pos n (by omega)
  have h2 : -(m : Int) < n.tmod m := Int.lt_tmod_of_pos n (by omega)
  have hb := hn.1
  have hb2 := hn.2
  generalize hr : n.tmod m = r at h1 h2
  have hw : IntKind.i64.wrap r = r := IntWalk.i64_in _ (by omega)
  have hw2 : IntKind.i64.wrap (r + m) = r + m := IntWalk.i64_in _ (by omega)
  have hm0 : ¬ (m : Int) = 0 := by omega
  by_cases h0 : r < 0
  · have HR : Hid (InRange m w (.returned (.int .i64 (r + m))) w) := Lib.hid ⟨(r + m).toNat, by omega, by congr 2; omega, rfl⟩
    clear hn
    go_enter Tryd.func14, Tryd.ntmps14
    go_wp2_with fail
    go_ret
    exact HR.out
  · have HR : Hid (InRange m w (.returned (.int .i64 r)) w) := Lib.hid ⟨r.toNat, by omega, by congr 2; omega, rfl⟩
    clear hn
    go_enter Tryd.func14, Tryd.ntmps14
    go_wp2_with fail
    go_ret
    exact HR.out
/-- what is told at a place is what is told of the rest by itself, so much further -/
theorem nx_local (l : List UInt8) (k : Nat) (T : M.Tk) (p : Nat) (h : NxOf l k = (T, p)) : ∃ q, q + k = p ∧ NxOf (l.drop k) 0 = (T, q) := by
  have h1 : k + M.pass (l.drop k) false = p := congrArg Prod.snd h
  have h2 : M.tok keysW (l.drop (k + M.pass (l.drop k) false)) = T := congrArg Prod.fst h
  refine ⟨M.pass (l.drop k) false, by omega, ?_⟩
  unfold NxOf
  rw [List.drop_zero, Nat.zero_add, List.drop_drop, h2]
theorem nx_le {l : List UInt8} {k : Nat} {T : M.Tk} {p : Nat} (h : NxOf l k = (T, p)) (hk : k ≤ l.length) : k ≤ p ∧ p + T.2.2.2 ≤ l.length := by
  have h1 : k + M.pass (l.drop k) false = p := congrArg Prod.snd h
  have h2 : M.tok keysW (l.drop (k + M.pass (l.drop k) false)) = T := congrArg Prod.fst h
  have h3 := M.pass_le (l.drop k) false
  rw [List.length_drop] at h3
  rw [h1] at h2
  have h4 := tok_le keysW (l.drop p)
  rw [h2, List.length_drop] at h4
  omega
set_option maxRecDepth 100000 in
set_option maxHeartbeats 4000000 in
theorem local_walk (s : ByteArray) (at_ : Int) (w : World) (hs : s.size ≤ 9223372036854775807) (hat : -9223372036854775808 ≤ at_ ∧ at_ ≤ 9223372036854775807) (hW : Wv w) :
    Calls Tryd.prog 5 #[.string s, .int .i64 at_] w fun e w' => e = .returned (.bool true) ∧ Below w.heap.size w w' := by
  by_cases hlen : 2000 < s.size
  · have hl : decide ((2000 : Int) < (s.size : Int)) = true := decide_eq_true (by omega)
    have HA := Lib.hid (awake_any w hW)
    clear hW hlen
    go_enter Tryd.func5, Tryd.ntmps5
    go_wp2_with fail
    refine HA.out.mono ?_
    rintro e w1 ⟨rfl, hb⟩
    go_wp2_with fail
    go_ret
    exact ⟨rfl, hb⟩
  · have hl : decide ((2000 : Int) < (s.size : Int)) = false := decide_eq_false (by omega)
    have hl2 : s.size ≤ 2000 := by omega
    have HW0 := Lib.hid hW
    have hsum : (s.size : Int) + 1 = ((s.size + 1 : Nat) : Int) := by omega
    obtain ⟨m, hm⟩ : ∃ m, s.size + 1 = m := ⟨_, rfl⟩
    rw [hm] at hsum
    have HPK := Lib.hid (Pick_any at_ m w (by omega) (by omega) hat)
    have HM := Lib.hid hm
    clear hW hlen hs hat hm
    go_enter Tryd.func5, Tryd.ntmps5
    go_wp2_with fail
    refine HPK.out.mono ?_
    rintro e w1 ⟨j, hj, rfl, rfl⟩
    have hjs : j ≤ s.size := by have := HM.out; omega
    obtain ⟨⟨⟨k, S, N, n⟩, p⟩, hnx⟩ : ∃ T, NxOf s.data.toList j = T := ⟨_, rfl⟩
    obtain ⟨q, hq, hnx2⟩ := nx_local _ _ _ _ hnx
    rw [← ext_drop] at hnx2
    have HQ := Lib.hid hq
    have hple := nx_le hnx (by simpa using hjs)
    dsimp only at hple
    have hp2 : p + n ≤ 2000 := by
      have h1 : s.data.toList.length = s.size := by simp
      omega
    clear hsum hj hple
    by_cases hk : k = 0
    · subst hk
      have HN1 := Lib.hid (Next_no s j w (by omega) hjs HW0.out S N n p hnx)
      have HN2 := Lib.hid (fun (X : World) (h : Wv X) => Next_no (s.extract j s.size) 0 X (by rw [ext_size]; omega) (Nat.zero_le _) h S N n q hnx2)
      clear hnx hnx2 hq
      go_wp2_with fail
      refine HN1.out.mono ?_
      rintro e x0 ⟨rfl, hb0⟩
      have hbh0 := Lib.hid hb0
      clear hb0
      go_wp2_with fail
      obtain ⟨y0, hy0, HP0, HQ0, HY0⟩ := nx_boxes x0 0 nb 0 0 0 100 p
      rw [hy0]
      clear hy0
      have HB1 := Lib.hid (hbh0.out.trans (HY0.out.mono hbh0.out.size))
      have HW1 := Lib.hid (HW0.out.on HB1.out)
      refine (HN2.out _ HW1.out).mono ?_
      rintro e x1 ⟨rfl, hb1⟩
      have hbh1 := Lib.hid hb1
      clear hb1
      go_upto_region 6 with (fail)
      obtain ⟨y1, hy1, HP1, HQ1, HY1⟩ := nx_boxes x1 0 nb 0 0 0 100 q
      rw [hy1]
      clear hy1
      have HZ1 := Lib.hid (hbh1.out.trans (HY1.out.mono hbh1.out.size))
      have HB2 := Lib.hid (HB1.out.trans (HZ1.out.mono HB1.out.size))
      have HW2 := Lib.hid (HW1.out.on HZ1.out)
      obtain ⟨d0, d1⟩ := (HQ0.out.on HZ1.out).cells
      obtain ⟨e0, e1⟩ := HQ1.out.cells
      have hqp : (q : Int) + (j : Int) = (p : Int) := by have := HQ.out; omega
      go_wp2_with fail
      refine (awake_any _ HW2.out).mono ?_
      rintro e z ⟨rfl, hz⟩
      go_wp2_with fail
      go_ret
      exact ⟨rfl, HB2.out.trans (hz.mono HB2.out.size)⟩
    · obtain ⟨m2, hm2⟩ : ∃ m2, p + n = m2 := ⟨_, rfl⟩
      obtain ⟨m3, hm3⟩ : ∃ m3, q + n = m3 := ⟨_, rfl⟩
      have HM2 := Lib.hid hm2
      have HM3 := Lib.hid hm3
      have HN1 := Lib.hid (Next_yes s j w (by omega) hjs HW0.out k S N n p hk hnx m2 hm2)
      have HN2 := Lib.hid (fun (X : World) (h : Wv X) => Next_yes (s.extract j s.size) 0 X (by rw [ext_size]; omega) (Nat.zero_le _) h k S N n q hk hnx2 m3 hm3)
      obtain ⟨S', HS⟩ : ∃ S', Hid ((⟨S.toArray⟩ : ByteArray) = S') := ⟨_, Lib.hid rfl⟩
      rw [HS.out] at HN1 HN2
      clear hnx hnx2 hq hm2 hm3
      go_wp2_with fail
      refine HN1.out.mono ?_
      rintro e x0 ⟨rfl, hb0⟩
      have hbh0 := Lib.hid hb0
      clear hb0
      go_wp2_with fail
      obtain ⟨y0, hy0, HP0, HQ0, HY0⟩ := nx_boxes x0 k S' N p m2 0 0
      rw [hy0]
      clear hy0
      have HB1 := Lib.hid (hbh0.out.trans (HY0.out.mono hbh0.out.size))
      have HW1 := Lib.hid (HW0.out.on HB1.out)
      refine (HN2.out _ HW1.out).mono ?_
      rintro e x1 ⟨rfl, hb1⟩
      have hbh1 := Lib.hid hb1
      clear hb1
      go_upto_region 6 with (fail)
      obtain ⟨y1, hy1, HP1, HQ1, HY1⟩ := nx_boxes x1 k S' N q m3 0 0
      rw [hy1]
      clear hy1
      have HZ1 := Lib.hid (hbh1.out.trans (HY1.out.mono hbh1.out.size))
      have HB2 := Lib.hid (HB1.out.trans (HZ1.out.mono HB1.out.size))
      have HW2 := Lib.hid (HW1.out.on HZ1.out)
      obtain ⟨d0, d1⟩ := (HQ0.out.on HZ1.out).cells
      obtain ⟨e0, e1⟩ := HQ1.out.cells
      obtain ⟨a0, a1, a2, a3, a4⟩ := (HP0.out.on HZ1.out).cells
      obtain ⟨b0, b1, b2, b3, b4⟩ := HP1.out.cells
      have hqp : (q : Int) + (j : Int) = (p : Int) := by have := HQ.out; omega
      have hmm : (m3 : Int) + (j : Int) = (m2 : Int) := by
        have h1 := HQ.out
        have h2 := HM2.out
        have h3 := HM3.out
        omega
      have hm2b : m2 ≤ 2000 := by have := HM2.out; omega
      go_wp2_with fail
      refine (awake_any _ HW2.out).mono ?_
      rintro e z ⟨rfl, hz⟩
      go_wp2_with fail
      go_ret
      exact ⟨rfl, HB2.out.trans (hz.mono HB2.out.size)⟩
end Go.Proofs.YtfoepciempoakaaDoor
