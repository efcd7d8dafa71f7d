/-
  Layer 9: Quote, Hex. Conditions: sizes; the library's variables are as its text lays them.
-/
import Derived.Test.YtceknmibopnmhaaDoorWNx
import Derived.Lib.SplitLaws
import Derived.Lib.Replace
namespace Go.Proofs.YtceknmibopnmhaaDoor
open Go.ChangeShapes Go.WideShapes Go.ChangeAt Go.RowKit
set_option linter.unusedVariables false

theorem ret_s {a b : ByteArray} (h : a.data.toList = b.data.toList) : Ending.returned (.string a) = .returned (.string b) := by rw [ba_ext h]
theorem index_hdQ (l : List UInt8) : Lib.index (39 :: l) [39] = 0 := by
  unfold Lib.index
  simp [List.isPrefixOf]
theorem index_tlQ (b : UInt8) (l : List UInt8) (i : Nat) (h : ¬ b = 39) (hi : Lib.index l [39] = i) : Lib.index (b :: l) [39] = ((i + 1 : Nat) : Int) := by
  have h' : ¬ (39 : UInt8) = b := fun e => h e.symm
  have hb : ((39 : UInt8) == b) = false := by simpa using h'
  unfold Lib.index
  have hm : ¬ ((i : Int) == -1) = true := fun e => by have := beq_iff_eq.1 e; omega
  rw [hi, if_neg hm]
  simp [List.isPrefixOf, hb]
theorem rep_dblQ : ∀ s : List UInt8, Lib.replaceK [39] [39, 39] (s.count 39) s = M.dblQ s := by
  intro s
  induction s with
  | nil => rfl
  | cons b l ih =>
    by_cases hb : b = 39
    · subst hb
      rw [List.count_cons_self, Lib.replaceK_hit [39] [39, 39] _ _ 0 (index_hdQ l)]
      have e : M.dblQ (39 :: l) = 39 :: 39 :: M.dblQ l := by simp [M.dblQ]
      rw [e, ← ih]
      rfl
    · rw [List.count_cons_of_ne hb]
      have e : M.dblQ (b :: l) = b :: M.dblQ l := by simp [M.dblQ, hb]
      rw [e]
      cases hk : l.count 39 with
      | zero =>
        rw [hk] at ih
        rw [← ih]
        rfl
      | succ j =>
        obtain ⟨i, hi⟩ := Lib.index_of_count (s := l) (old := [39]) (by rw [Lib.count_one]; omega)
        rw [hk, Lib.replaceK_hit [39] [39, 39] j l i hi] at ih
        rw [Lib.replaceK_hit [39] [39, 39] j (b :: l) (i + 1) (index_tlQ b l i hb hi), ← ih]
        simp
theorem repAll_dblQ (s : List UInt8) : Lib.replaceAll s [39] [39, 39] = M.dblQ s := by
  unfold Lib.replaceAll Lib.replace
  have h : (([39] : List UInt8) == [39, 39]) = false := by decide
  rw [h]
  have hn : Lib.replaceNum s [39] (-1) = s.count 39 := by
    unfold Lib.replaceNum
    rw [if_pos (.inl (by omega)), Lib.count_one]
  rw [hn]
  exact rep_dblQ s
theorem cntQ (p : ByteArray) (h : p.size ≤ 65536) : p.size + Lib.countB p ⟨#[39]⟩ * (⟨#[39, 39]⟩ : ByteArray).size ≤ 140737488355328 := by
  have h1 := Lib.countB_mul_le ⟨#[39]⟩ (by show 1 ≤ 1; omega) p.size p (Nat.le_refl _)
  have e1 : (⟨#[39]⟩ : ByteArray).size = 1 := rfl
  have e2 : (⟨#[39, 39]⟩ : ByteArray).size = 2 := rfl
  rw [e1] at h1
  rw [e2]
  omega
set_option maxRecDepth 100000 in
set_option maxHeartbeats 1000000 in
theorem Quote_any (s : ByteArray) (w : World) (hs : s.size ≤ 65536) (hW : Wv w) : Calls Tryd.prog 6 #[.string s] w fun e w' => e = .returned (.string ⟨(M.quoteL s.data.toList).toArray⟩) ∧ Below w.heap.size w w' := by
  obtain ⟨_, m, hm⟩ := hW
  have HC := Lib.hid (Tryd.strings_ReplaceAll s ⟨#[39]⟩ ⟨#[39, 39]⟩ m w (by omega) hm (by show 1 ≤ 1; omega) (cntQ s hs))
  have e : Lib.replaceAll s.data.toList (⟨#[39]⟩ : ByteArray).data.toList (⟨#[39, 39]⟩ : ByteArray).data.toList = M.dblQ s.data.toList := repAll_dblQ _
  rw [e] at HC
  have hl := M.dblQ_le s.data.toList
  have HS := Lib.hid (show (⟨(M.dblQ s.data.toList).toArray⟩ : ByteArray).size ≤ 200000 from by
    have h1 : s.data.toList.length = s.size := by simp
    show (M.dblQ s.data.toList).toArray.size ≤ 200000
    rw [List.size_toArray]
    omega)
  obtain ⟨y, HY⟩ : ∃ y : ByteArray, Hid (⟨(M.dblQ s.data.toList).toArray⟩ = y) := ⟨_, Lib.hid rfl⟩
  rw [HY.out] at HC HS
  have hy := HS.out
  clear hl e hm
  go_enter Tryd.func6, Tryd.ntmps6
  go_wp2_with fail
  refine HC.out.mono ?_
  rintro e w1 ⟨rfl, hb⟩
  go_wp2_with fail
  go_ret
  refine ⟨ret_s ?_, hb⟩
  rw [← HY.out]
  simp [M.quoteL]
theorem tab_at (a : Nat) (h : a < 16) (h2 : a < (⟨#[48, 49, 50, 51, 52, 53, 54, 55, 56, 57, 97, 98, 99, 100, 101, 102]⟩ : ByteArray).size) : ((M.hd16 a).toNat : Int) = (((⟨#[48, 49, 50, 51, 52, 53, 54, 55, 56, 57, 97, 98, 99, 100, 101, 102]⟩ : ByteArray)[a]).toNat : Int) := by
  have : ∀ k : Fin 16, ((M.hd16 k.val).toNat : Int) = (((⟨#[48, 49, 50, 51, 52, 53, 54, 55, 56, 57, 97, 98, 99, 100, 101, 102]⟩ : ByteArray)[k.val]'(k.isLt)).toNat : Int) := by decide +kernel
  exact this ⟨a, h⟩
theorem bldGrow (b n : Nat) (w : World) (hbk : w.heap[b]? = some (.cells #[.pointer none, .slice none 0 0] 42 (0, 0))) (hn : n ≤ 1000000) :
    Calls Tryd.prog 16 #[.pointer (some ⟨b, 0, none⟩), .int .i64 n] w fun e w' => e = .returned (.tuple #[]) ∧ Bld w' b [] ∧ Below b w w' :=
  (Tryd.Builder_Grow_fresh_cap b b n w (Nat.le_refl _) hbk (Nat.le_of_lt (Array.getElem?_eq_some_iff.1 hbk).1) (by omega)).mono fun e w' ⟨h1, ⟨h2, h3⟩, _⟩ => ⟨h1, Lib.IsBuilderF.of (.inr h2), h3⟩
def HexRel (s : ByteArray) (b : Nat) (w1 : World) (t : Value) (wr : World) : Prop :=
  ∃ k : Nat, k ≤ s.size ∧ t = .int .i64 (k : Int) ∧ Bld wr b ([120, 39] ++ M.hexL (s.data.toList.take k)) ∧ Below b w1 wr
set_option maxRecDepth 100000 in
set_option maxHeartbeats 2000000 in
theorem Hex_any (s : ByteArray) (w : World) (hs : s.size ≤ 65536) : Calls Tryd.prog 8 #[.string s] w fun e w' => e = .returned (.string ⟨(M.hexT s.data.toList).toArray⟩) ∧ Below w.heap.size w w' := by
  obtain ⟨w1, hw1, HK1, HB1⟩ : ∃ w1, w.alloc (.cells #[.pointer none, .slice none 0 0] 42) = w1 ∧ Hid (w1.heap[w.heap.size]? = some (.cells #[.pointer none, .slice none 0 0] 42 (0, 0))) ∧ Hid (Below w.heap.size w w1) := ⟨_, rfl, Lib.hid (heap_alloc_new _ _), Lib.hid ((Below.refl _ _).alloc (Nat.le_refl _) _)⟩
  obtain ⟨g, HG⟩ : ∃ g : Nat, Hid (3 + 2 * s.size = g) := ⟨_, Lib.hid rfl⟩
  have hg : 3 + 2 * (s.size : Int) = (g : Int) := by have := HG.out; omega
  have HGR := Lib.hid (bldGrow w.heap.size g w1 HK1.out (by have := HG.out; omega))
  go_enter Tryd.func8, Tryd.ntmps8
  go_wp2_with fail
  refine HGR.out.mono ?_
  rintro e w2 ⟨rfl, hl2, hb2⟩
  have HL2 := Lib.hid hl2
  have HB2 := Lib.hid (HB1.out.trans hb2)
  clear hl2 hb2 hg
  go_wp2_with fail
  refine (bldWS HL2.out ⟨#[120, 39]⟩ (by simp) (by show 2 ≤ 1000000; omega)).mono ?_
  rintro e w3 ⟨rfl, hl3, hb3⟩
  have HL3 := Lib.hid hl3
  have HB3 := Lib.hid (HB2.out.trans hb3)
  clear hl3 hb3 hw1
  go_wp2_with fail
  generalize hbz : w.heap.size = b at *
  go_loopw [4, 13] (fun _ t wr => HexRel s b w3 t wr) (fun _ t _ => s.size - (intOf t).toNat)
  case atStart => exact ⟨0, Nat.zero_le _, rfl, HL3.out, Below.refl _ _⟩
  case round =>
    obtain ⟨k, hk, rfl, hbl, hb⟩ := hrel
    have HBL := Lib.hid hbl
    have HBB := Lib.hid hb
    clear hbl hb
    by_cases hlt : k < s.size
    · have hc := (s[k]).toNat_lt
      obtain ⟨a, HA⟩ : ∃ a : Nat, Hid ((s[k]).toNat / 16 = a) := ⟨_, Lib.hid rfl⟩
      obtain ⟨c, HC⟩ : ∃ c : Nat, Hid ((s[k]).toNat % 16 = c) := ⟨_, Lib.hid rfl⟩
      have ha : a < 16 := by have := HA.out; omega
      have hcc : c < 16 := by have := HC.out; omega
      have hda : ((s[k]).toNat : Int) / 16 = (a : Int) := by have := HA.out; omega
      have hdc : ((s[k]).toNat : Int) % 16 = (c : Int) := by have := HC.out; omega
      have HSN := Lib.hid (show [120, 39] ++ M.hexL (s.data.toList.take (k + 1)) = ([120, 39] ++ M.hexL (s.data.toList.take k) ++ [M.hd16 a]) ++ [M.hd16 c] by
        rw [List.take_add_one, get_at s k hlt, ← HA.out, ← HC.out]
        simp [M.hexL])
      have hlen : ([120, 39] ++ M.hexL (s.data.toList.take k)).length ≤ 900000 := by
        rw [List.length_append, M.hexL_length, List.length_take]
        simp
        omega
      have HLEN := Lib.hid hlen
      clear hlen
      go_wp2_with fail
      refine (bldWBz HBL.out _ (M.hd16 a) (tab_at a ha _) (by have := HLEN.out; omega)).mono ?_
      rintro e w5 ⟨rfl, hl5, hb5⟩
      have HL5 := Lib.hid hl5
      have HB5 := Lib.hid (HBB.out.trans hb5)
      clear hl5 hb5
      go_wp2_with fail
      refine (bldWBz HL5.out _ (M.hd16 c) (tab_at c hcc _) (by rw [List.length_append]; have := HLEN.out; simp at this ⊢; omega)).mono ?_
      rintro e w6 ⟨rfl, hl6, hb6⟩
      have HFIN := Lib.hid (show HexRel s b w3 (.int .i64 ((k + 1 : Nat) : Int)) w6 from ⟨k + 1, hlt, rfl, by rw [HSN.out]; exact hl6, HB5.out.trans hb6⟩)
      clear hl6 hb6
      go_wp2_with fail
      refine ⟨by have := HFIN.out; simpa using this, ?_⟩
      simp [intOf]
      omega
    · obtain rfl : k = s.size := by omega
      rw [List.take_of_length_le (by simp)] at HBL
      have hlen : ([120, 39] ++ M.hexL s.data.toList).length ≤ 1000000 := by
        rw [List.length_append, M.hexL_length]
        simp
        omega
      have HW := Lib.hid (bldWS HBL.out ⟨#[39]⟩ hlen (by show 1 ≤ 1000000; omega))
      clear hlen
      go_wp2_with fail
      refine HW.out.mono ?_
      rintro e w5 ⟨rfl, hl5, hb5⟩
      have HL5 := Lib.hid hl5
      have HB5 := Lib.hid (HBB.out.trans hb5)
      clear hl5 hb5
      go_wp2_with fail
      refine (bldSt HL5.out).mono ?_
      rintro e w6 ⟨rfl, hb6⟩
      have HB6 := Lib.hid (HB3.out.trans (HB5.out.trans hb6))
      clear hb6
      go_wp2_with fail
      go_ret
      exact ⟨ret_s (by simp [M.hexT]), by rw [hbz]; exact HB6.out⟩
end Go.Proofs.YtceknmibopnmhaaDoor
