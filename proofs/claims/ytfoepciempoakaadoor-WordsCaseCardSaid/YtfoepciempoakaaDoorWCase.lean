/-
  Layer 9: WordsCase's walk. Conditions: sizes; the library's variables are as its text lays them.
-/
import Derived.Test.YtfoepciempoakaaDoorWTrn
import Derived.Laws.RangeAny
namespace Go.Proofs.YtfoepciempoakaaDoor
open Go.ChangeShapes Go.WideShapes Go.ChangeAt Go.RowKit
set_option linter.unusedVariables false

theorem get_bang (s : ByteArray) (i : Nat) (c : UInt8) (h : s.data.toList[i]? = some c) : s.get! i = c := by
  have h2 : s.data[i]? = some c := by simpa using h
  simp [ByteArray.get!, getElem!_def, h2]
/-- behind the first byte of a rune there are great bytes alone -/
theorem decode_more (s : ByteArray) (pos k : Nat) (h1 : 1 ≤ k) (h2 : k < (Utf8.decode s pos).2) (c : UInt8) (hc : s.data.toList[pos + k]? = some c) : 128 ≤ c.toNat := by
  have hg := get_bang s (pos + k) c hc
  have key : ∀ j, k = j → (decide (pos + j < s.size) && (s.get! (pos + j)).toNat / 64 == 2) = true → 128 ≤ c.toNat := by
    intro j hj h
    subst hj
    rw [hg] at h
    simp only [Bool.and_eq_true, beq_iff_eq] at h
    omega
  unfold Utf8.decode at h2
  simp only at h2
  split at h2
  · simp at h2; omega
  · split at h2
    · next hx =>
      simp only [Bool.and_eq_true] at hx
      have h3 : k = 1 := by
        split at h2 <;> simp at h2 <;> omega
      exact key 1 h3 (by simpa using hx.2)
    · split at h2
      · next hx =>
        simp only [Bool.and_eq_true] at hx
        have h3 : k = 1 ∨ k = 2 := by
          split at h2 <;> simp at h2 <;> omega
        rcases h3 with h3 | h3
        · exact key 1 h3 (by simpa using hx.1.2)
        · exact key 2 h3 (by simpa using hx.2)
      · split at h2
        · next hx =>
          simp only [Bool.and_eq_true] at hx
          have h3 : k = 1 ∨ k = 2 ∨ k = 3 := by
            split at h2 <;> simp at h2 <;> omega
          rcases h3 with h3 | h3 | h3
          · exact key 1 h3 (by simpa using hx.1.1.2)
          · exact key 2 h3 (by simpa using hx.1.2)
          · exact key 3 h3 (by simpa using hx.2)
        · simp at h2; omega
theorem width_pos (s : ByteArray) (pos : Nat) (h : pos < s.size) : 1 ≤ (Utf8.decode s pos).2 := by
  by_cases ha : (s[pos]'h).toNat < 128
  · rw [decode_ascii s pos h ha]
    exact Nat.le_refl _
  · exact (decode_high s pos h (by omega)).2
/-- no two dashes side by side, of which the second one lies ahead of a place -/
def NoDash (l : List UInt8) (pos : Nat) : Prop := ∀ j, 0 < j → j < pos → ¬ (l[j]? = some 45 ∧ l[j - 1]? = some 45)
theorem NoDash.more {s : ByteArray} {pos : Nat} (h : NoDash s.data.toList pos) (h0 : pos < s.size) (hn : pos = 0 ∨ ¬ (s.data.toList[pos]? = some 45 ∧ s.data.toList[pos - 1]? = some 45)) : NoDash s.data.toList (pos + (Utf8.decode s pos).2) := by
  intro j hj0 hj hd
  rcases Nat.lt_trichotomy j pos with h1 | h1 | h1
  · exact h j hj0 h1 hd
  · subst h1
    rcases hn with hn | hn
    · omega
    · exact hn hd
  · have := decode_more s pos (j - pos) (by omega) (by omega) 45 (by rw [show pos + (j - pos) = j by omega]; exact hd.1)
    exact absurd this (by decide)
theorem NoDash.all {l : List UInt8} {pos : Nat} (h : NoDash l pos) (hp : l.length ≤ pos) : M.noRem l := by
  intro i hi
  have : i + 1 < l.length := by
    rcases Nat.lt_or_ge (i + 1) l.length with h1 | h1
    · exact h1
    · rw [List.getElem?_eq_none h1] at hi; cases hi.2
  exact h (i + 1) (by omega) (by omega) ⟨hi.2, by simpa using hi.1⟩
/-- two texts that are told alike at a place -/
theorem sim_next {l m : List UInt8} {k : Nat} (h : M.Sim false (l.drop k) (m.drop k)) (hr : M.noRem l) (T : M.Tk) (p : Nat) (hN : NxOf l k = (T, p)) :
    NxOf m k = (T, p) ∧ (T.1 ≠ 0 → T.1 ≠ 7 → M.Sim false (l.drop (p + T.2.2.2)) (m.drop (p + T.2.2.2)) ∧ 0 < T.2.2.2) := by
  obtain ⟨p1, p2⟩ := h.pass (hr.drop k)
  have h1 : k + M.pass (l.drop k) false = p := congrArg Prod.snd hN
  have h2 : M.tok keysW (l.drop (k + M.pass (l.drop k) false)) = T := congrArg Prod.fst hN
  rw [← p1, List.drop_drop, List.drop_drop, h1] at p2
  rw [h1] at h2
  obtain ⟨t1, t2⟩ := p2.tok keysW
  rw [h2] at t1 t2
  refine ⟨?_, fun h0 h7 => ?_⟩
  · unfold NxOf
    rw [← p1, h1, ← t1]
  · obtain ⟨k', S, N, n⟩ := T
    have h3 := t2 k' S N n rfl h0 h7
    rw [List.drop_drop, List.drop_drop] at h3
    exact ⟨h3, (M.tok_again keysW _ k' S N n [] h2 h0 h7).1⟩
def RuneRel (s : ByteArray) (w wr : World) : Prop := ∃ pos, wr = w.iter s pos ∧ NoDash s.data.toList pos
def CaseRel (l m : List UInt8) (w : World) (t : Value) (wr : World) : Prop := ∃ k : Nat, k ≤ l.length ∧ t = .int .i64 (k : Int) ∧ M.Sim false (l.drop k) (m.drop k) ∧ Below w.heap.size w wr
set_option maxRecDepth 100000 in
set_option maxHeartbeats 8000000 in
theorem case_walk (s : ByteArray) (A : Option Addr) (F : List Bool) (cap : Nat) (w : World) (hs : s.size ≤ 9223372036854775807) (hF : RdF w w.heap.size A F) (hFl : F.length ≤ 9223372036854775807) (hW : Wv w) :
    Calls Tryd.prog 6 #[.string s, .slice A F.length cap] w fun e w' => e = .returned (.bool true) ∧ Below w.heap.size w w' := by
  by_cases hlen : 500 < s.size
  · have hl : decide ((500 : Int) < (s.size : Int)) = true := decide_eq_true (by omega)
    have HA := Lib.hid (awake_any w hW)
    clear hW hlen hF
    go_enter Tryd.func6, Tryd.ntmps6
    go_wp2_with fail
    refine HA.out.mono ?_
    rintro e w1 ⟨rfl, hb⟩
    go_wp2_with fail
    go_ret
    exact ⟨rfl, hb⟩
  · have hl : decide ((500 : Int) < (s.size : Int)) = false := decide_eq_false (by omega)
    have hl2 : s.size ≤ 500 := by omega
    have HW0 := Lib.hid hW
    have HF := Lib.hid hF
    have HAW : Hid (∀ X : World, Below w.heap.size w X → Calls Tryd.prog 13 #[] X fun e w' => e = .returned (.bool true) ∧ Below w.heap.size w w') := Lib.hid fun X hX => (awake_any X (hW.on hX)).mono fun e w' ⟨h1, h2⟩ => ⟨h1, hX.trans (h2.mono hX.size)⟩
    have HIT : Hid (∀ pos, Below w.heap.size w (w.iter s pos)) := Lib.hid fun pos => (Below.refl _ _).alloc (Nat.le_refl _) _
    clear hW hlen hs hF
    go_enter Tryd.func6, Tryd.ntmps6
    go_wp2_with fail
    go_loopw [5, 18, 19, 20] (fun _ _ _ _ wr => RuneRel s w wr) (fun _ _ _ _ wr => s.size - wr.iterPos w.heap.size)
    case atStart => exact ⟨0, rfl, fun j h1 h2 => by omega⟩
    case round =>
      obtain ⟨pos, rfl, hnd⟩ := hrel
      have HND := Lib.hid hnd
      clear hnd
      by_cases hp : pos < s.size
      · have hnx : ∀ ty, (Instr.next (.pointer (some ⟨w.heap.size, 0, none⟩)) true ty).run Tryd.prog (w.iter s pos) = _ := fun ty => run_next_any w s pos ty hp
        have HWP := Lib.hid (width_pos s pos hp)
        have hget := get_at s pos hp
        have hc := (s[pos]).toNat_lt
        obtain ⟨n, hn⟩ : ∃ n, (s[pos]).toNat = n := ⟨_, rfl⟩
        rw [hn] at hc
        by_cases h65 : 65 ≤ n
        · by_cases h90 : n ≤ 90
          · clear hget HWP HND
            go_wp2_with fail
            refine (HAW.out _ (HIT.out _)).mono ?_
            rintro e w1 ⟨rfl, hb⟩
            go_wp2_with fail
            go_ret
            exact ⟨rfl, hb⟩
          · have h90' : ¬ (n : Int) ≤ 90 := by omega
            by_cases h0 : 0 < pos
            · by_cases h45 : n = 45
              · obtain ⟨pm, hpm⟩ : ∃ pm, pos = pm + 1 := ⟨pos - 1, by omega⟩
                have hpm1 : pm < s.size := by omega
                have hpmi : (pos : Int) - 1 = (pm : Int) := by omega
                have hpmw : IntKind.i64.wrap ((pos : Int) - 1) = (pm : Int) := by rw [IntWalk.i64_in _ (by omega)]; omega
                have hg2 := get_at s pm hpm1
                obtain ⟨n2, hn2⟩ : ∃ n2, (s[pm]).toNat = n2 := ⟨_, rfl⟩
                have hi45 : ((n : Int) == 45) = true := by simp [h45]
                by_cases h452 : n2 = 45
                · have hi452 : ((n2 : Int) == 45) = true := by simp [h452]
                  clear hget hg2 hpm h45 h452 HWP HND
                  go_wp2_with fail
                  refine (HAW.out _ (HIT.out _)).mono ?_
                  rintro e w1 ⟨rfl, hb⟩
                  go_wp2_with fail
                  go_ret
                  exact ⟨rfl, hb⟩
                · have hi452 : ((n2 : Int) == 45) = false := beq_eq_false_iff_ne.2 (by omega)
                  have HNM := Lib.hid (HND.out.more hp (.inr fun hd => h452 (by
                    have h1 := hd.2
                    rw [show pos - 1 = pm by omega, hg2] at h1
                    have h2 := Option.some.inj h1
                    rw [← hn2, h2]
                    rfl)))
                  clear hget hg2 hpm h45 h452 HND
                  go_wp2_with fail
                  go_roundw
                  case rel => exact ⟨_, rfl, HNM.out⟩
                  case measure =>
                    have := HWP.out
                    simp
                    omega
              · have hi45 : ((n : Int) == 45) = false := beq_eq_false_iff_ne.2 (by omega)
                have HNM := Lib.hid (HND.out.more hp (.inr fun hd => h45 (by
                  have h1 := hd.1
                  rw [hget] at h1
                  have h2 := Option.some.inj h1
                  rw [← hn, h2]
                  rfl)))
                clear hget h45 HND
                go_wp2_with fail
                go_roundw
                case rel => exact ⟨_, rfl, HNM.out⟩
                case measure =>
                  have := HWP.out
                  simp
                  omega
            · have HNM := Lib.hid (HND.out.more hp (.inl (by omega)))
              have hz0 : ¬ (0 : Int) < (pos : Int) := by omega
              clear hget HND
              go_wp2_with fail
              go_roundw
              case rel => exact ⟨_, rfl, HNM.out⟩
              case measure =>
                have := HWP.out
                simp
                omega
        · have h65' : ¬ (65 : Int) ≤ (n : Int) := by omega
          by_cases h0 : 0 < pos
          · by_cases h45 : n = 45
            · obtain ⟨pm, hpm⟩ : ∃ pm, pos = pm + 1 := ⟨pos - 1, by omega⟩
              have hpm1 : pm < s.size := by omega
              have hpmi : (pos : Int) - 1 = (pm : Int) := by omega
              have hpmw : IntKind.i64.wrap ((pos : Int) - 1) = (pm : Int) := by rw [IntWalk.i64_in _ (by omega)]; omega
              have hg2 := get_at s pm hpm1
              obtain ⟨n2, hn2⟩ : ∃ n2, (s[pm]).toNat = n2 := ⟨_, rfl⟩
              have hi45 : ((n : Int) == 45) = true := by simp [h45]
              by_cases h452 : n2 = 45
              · have hi452 : ((n2 : Int) == 45) = true := by simp [h452]
                clear hget hg2 hpm h45 h452 HWP HND
                go_wp2_with fail
                refine (HAW.out _ (HIT.out _)).mono ?_
                rintro e w1 ⟨rfl, hb⟩
                go_wp2_with fail
                go_ret
                exact ⟨rfl, hb⟩
              · have hi452 : ((n2 : Int) == 45) = false := beq_eq_false_iff_ne.2 (by omega)
                have HNM := Lib.hid (HND.out.more hp (.inr fun hd => h452 (by
                  have h1 := hd.2
                  rw [show pos - 1 = pm by omega, hg2] at h1
                  have h2 := Option.some.inj h1
                  rw [← hn2, h2]
                  rfl)))
                clear hget hg2 hpm h45 h452 HND
                go_wp2_with fail
                go_roundw
                case rel => exact ⟨_, rfl, HNM.out⟩
                case measure =>
                  have := HWP.out
                  simp
                  omega
            · have hi45 : ((n : Int) == 45) = false := beq_eq_false_iff_ne.2 (by omega)
              have HNM := Lib.hid (HND.out.more hp (.inr fun hd => h45 (by
                have h1 := hd.1
                rw [hget] at h1
                have h2 := Option.some.inj h1
                rw [← hn, h2]
                rfl)))
              clear hget h45 HND
              go_wp2_with fail
              go_roundw
              case rel => exact ⟨_, rfl, HNM.out⟩
              case measure =>
                have := HWP.out
                simp
                omega
          · have HNM := Lib.hid (HND.out.more hp (.inl (by omega)))
            have hz0 : ¬ (0 : Int) < (pos : Int) := by omega
            clear hget HND
            go_wp2_with fail
            go_roundw
            case rel => exact ⟨_, rfl, HNM.out⟩
            case measure =>
              have := HWP.out
              simp
              omega
      · have hnx : ∀ ty, (Instr.next (.pointer (some ⟨w.heap.size, 0, none⟩)) true ty).run Tryd.prog (w.iter s pos) = _ := fun ty => run_next_end w s pos ty hp
        have HNR := Lib.hid (HND.out.all (by simp; omega))
        have HB0 := Lib.hid (HIT.out pos)
        have HT := Lib.hid (turned_any s A F cap (w.iter s pos) hl2 (HF.out.on HB0.out) hFl)
        have HSM := Lib.hid (M.trn_sim s.data.toList false (F.getD · false))
        have hml := M.trn_length s.data.toList false (F.getD · false)
        obtain ⟨y, HY⟩ : ∃ y : ByteArray, Hid ((⟨(M.trn false s.data.toList (F.getD · false)).toArray⟩ : ByteArray) = y) := ⟨_, Lib.hid rfl⟩
        have hyl : y.data.toList = M.trn false s.data.toList (F.getD · false) := by rw [← HY.out]
        rw [HY.out] at HT
        rw [← hyl] at HSM hml
        have hys : y.size = s.size := by simpa using hml
        clear hml hyl
        go_wp2_with fail
        clear hnx
        refine HT.out.mono ?_
        rintro e w1 ⟨rfl, hb1⟩
        have HB1 := Lib.hid (HB0.out.trans (hb1.mono HB0.out.size))
        clear hb1
        go_wp2_with fail
        go_loopw [7] (fun t wr => CaseRel s.data.toList y.data.toList w t wr) (fun t _ => s.size + 1 - (intOf t).toNat)
        case atStart => exact ⟨0, Nat.zero_le _, rfl, HSM.out, HB1.out⟩
        case round =>
          obtain ⟨k, hk, rfl, hsim, hbr⟩ := hrel
          have hks : k ≤ s.size := by simpa using hk
          obtain ⟨⟨⟨kk, S, N, n⟩, p⟩, hnx⟩ : ∃ T, NxOf s.data.toList k = T := ⟨_, rfl⟩
          obtain ⟨hnx2, hgo⟩ := sim_next hsim HNR.out _ _ hnx
          have hple := nx_le hnx hk
          dsimp only at hple hgo
          have hlen : s.data.toList.length = s.size := by simp
          have hp2 : p + n ≤ s.size := by omega
          have hkp : k ≤ p := hple.1
          have HBR := Lib.hid hbr
          clear hsim hbr hk hple hlen
          by_cases hk0 : kk = 0
          · subst hk0
            clear hgo
            have HN1 := Lib.hid (fun (X : World) (h : Wv X) => Next_no s k X (by omega) (by omega) h S N n p hnx)
            have HN2 := Lib.hid (fun (X : World) (h : Wv X) => Next_no y k X (by omega) (by omega) h S N n p hnx2)
            have HWR := Lib.hid (HW0.out.on HBR.out)
            clear hnx hnx2
            go_wp2_with fail
            refine (HN1.out _ HWR.out).mono ?_
            rintro e x0 ⟨rfl, hb0⟩
            have hbh0 := Lib.hid hb0
            clear hb0
            go_wp2_with fail
            obtain ⟨y0, hy0, HP0, HQ0, HY0⟩ := nx_boxes x0 0 nb 0 0 0 100 p
            rw [hy0]
            clear hy0
            have HZ0 := Lib.hid (hbh0.out.trans (HY0.out.mono hbh0.out.size))
            have HB5 := Lib.hid (HBR.out.trans (HZ0.out.mono HBR.out.size))
            have HW1 := Lib.hid (HW0.out.on HB5.out)
            refine (HN2.out _ HW1.out).mono ?_
            rintro e x1 ⟨rfl, hb1⟩
            have hbh1 := Lib.hid hb1
            clear hb1
            go_upto_region 13 with (fail)
            obtain ⟨y1, hy1, HP1, HQ1, HY1⟩ := nx_boxes x1 0 nb 0 0 0 100 p
            rw [hy1]
            clear hy1
            have HZ1 := Lib.hid (hbh1.out.trans (HY1.out.mono hbh1.out.size))
            have HB6 := Lib.hid (HB5.out.trans (HZ1.out.mono HB5.out.size))
            obtain ⟨a0, a1, a2, a3, a4⟩ := (HP0.out.on HZ1.out).cells
            obtain ⟨b0, b1, b2, b3, b4⟩ := HP1.out.cells
            obtain ⟨d0, d1⟩ := (HQ0.out.on HZ1.out).cells
            obtain ⟨e0, e1⟩ := HQ1.out.cells
            go_wp2_with fail
            refine (HAW.out _ HB6.out).mono ?_
            rintro e w9 ⟨rfl, hb⟩
            go_wp2_with fail
            go_ret
            exact ⟨rfl, hb⟩
          · by_cases hk7 : kk = 7
            · have h7 : ((kk : Int) == 7) = true := by simp [hk7]
              clear hgo hk7
              obtain ⟨m2, hm2⟩ : ∃ m2, p + n = m2 := ⟨_, rfl⟩
              have HN1 := Lib.hid (fun (X : World) (h : Wv X) => Next_yes s k X (by omega) (by omega) h kk S N n p hk0 hnx m2 hm2)
              have HN2 := Lib.hid (fun (X : World) (h : Wv X) => Next_yes y k X (by omega) (by omega) h kk S N n p hk0 hnx2 m2 hm2)
              obtain ⟨S', HS⟩ : ∃ S', Hid ((⟨S.toArray⟩ : ByteArray) = S') := ⟨_, Lib.hid rfl⟩
              rw [HS.out] at HN1 HN2
              have hm2s : m2 ≤ s.size := by omega
              have HWR := Lib.hid (HW0.out.on HBR.out)
              clear hnx hnx2
              go_wp2_with fail
              refine (HN1.out _ HWR.out).mono ?_
              rintro e x0 ⟨rfl, hb0⟩
              have hbh0 := Lib.hid hb0
              clear hb0
              go_wp2_with fail
              obtain ⟨y0, hy0, HP0, HQ0, HY0⟩ := nx_boxes x0 kk S' N p m2 0 0
              rw [hy0]
              clear hy0
              have HZ0 := Lib.hid (hbh0.out.trans (HY0.out.mono hbh0.out.size))
              have HB5 := Lib.hid (HBR.out.trans (HZ0.out.mono HBR.out.size))
              have HW1 := Lib.hid (HW0.out.on HB5.out)
              refine (HN2.out _ HW1.out).mono ?_
              rintro e x1 ⟨rfl, hb1⟩
              have hbh1 := Lib.hid hb1
              clear hb1
              go_upto_region 13 with (fail)
              obtain ⟨y1, hy1, HP1, HQ1, HY1⟩ := nx_boxes x1 kk S' N p m2 0 0
              rw [hy1]
              clear hy1
              have HZ1 := Lib.hid (hbh1.out.trans (HY1.out.mono hbh1.out.size))
              have HB6 := Lib.hid (HB5.out.trans (HZ1.out.mono HB5.out.size))
              obtain ⟨a0, a1, a2, a3, a4⟩ := (HP0.out.on HZ1.out).cells
              obtain ⟨b0, b1, b2, b3, b4⟩ := HP1.out.cells
              obtain ⟨d0, d1⟩ := (HQ0.out.on HZ1.out).cells
              obtain ⟨e0, e1⟩ := HQ1.out.cells
              go_wp2_with fail
              refine (HAW.out _ HB6.out).mono ?_
              rintro e w9 ⟨rfl, hb⟩
              go_wp2_with fail
              go_ret
              exact ⟨rfl, hb⟩
            · obtain ⟨hs2, hn0⟩ := hgo hk0 hk7
              have h7 : ((kk : Int) == 7) = false := beq_eq_false_iff_ne.2 (by omega)
              have HS2 := Lib.hid hs2
              clear hgo hs2
              obtain ⟨m2, hm2⟩ : ∃ m2, p + n = m2 := ⟨_, rfl⟩
              have HN1 := Lib.hid (fun (X : World) (h : Wv X) => Next_yes s k X (by omega) (by omega) h kk S N n p hk0 hnx m2 hm2)
              have HN2 := Lib.hid (fun (X : World) (h : Wv X) => Next_yes y k X (by omega) (by omega) h kk S N n p hk0 hnx2 m2 hm2)
              obtain ⟨S', HS⟩ : ∃ S', Hid ((⟨S.toArray⟩ : ByteArray) = S') := ⟨_, Lib.hid rfl⟩
              rw [HS.out] at HN1 HN2
              have hm2s : m2 ≤ s.size := by omega
              have HWR := Lib.hid (HW0.out.on HBR.out)
              clear hnx hnx2
              go_wp2_with fail
              refine (HN1.out _ HWR.out).mono ?_
              rintro e x0 ⟨rfl, hb0⟩
              have hbh0 := Lib.hid hb0
              clear hb0
              go_wp2_with fail
              obtain ⟨y0, hy0, HP0, HQ0, HY0⟩ := nx_boxes x0 kk S' N p m2 0 0
              rw [hy0]
              clear hy0
              have HZ0 := Lib.hid (hbh0.out.trans (HY0.out.mono hbh0.out.size))
              have HB5 := Lib.hid (HBR.out.trans (HZ0.out.mono HBR.out.size))
              have HW1 := Lib.hid (HW0.out.on HB5.out)
              refine (HN2.out _ HW1.out).mono ?_
              rintro e x1 ⟨rfl, hb1⟩
              have hbh1 := Lib.hid hb1
              clear hb1
              go_upto_region 13 with (fail)
              obtain ⟨y1, hy1, HP1, HQ1, HY1⟩ := nx_boxes x1 kk S' N p m2 0 0
              rw [hy1]
              clear hy1
              have HZ1 := Lib.hid (hbh1.out.trans (HY1.out.mono hbh1.out.size))
              have HB6 := Lib.hid (HB5.out.trans (HZ1.out.mono HB5.out.size))
              obtain ⟨a0, a1, a2, a3, a4⟩ := (HP0.out.on HZ1.out).cells
              obtain ⟨b0, b1, b2, b3, b4⟩ := HP1.out.cells
              obtain ⟨d0, d1⟩ := (HQ0.out.on HZ1.out).cells
              obtain ⟨e0, e1⟩ := HQ1.out.cells
              have hgt : k < m2 := by omega
              rw [hm2] at HS2
              have HFIN := Lib.hid (show CaseRel s.data.toList y.data.toList w (.int .i64 (m2 : Int)) y1 from ⟨m2, by simpa using hm2s, rfl, HS2.out, HB6.out⟩)
              clear hm2 hk0 hk7
              go_wp2_with fail
              refine ⟨HFIN.out, ?_⟩
              simp [intOf]
              omega
end Go.Proofs.YtfoepciempoakaaDoor
