/-
  Layer 9: the document's own answer: is a text one of some; one token. Conditions: sizes.
-/
import Derived.Test.YtceknmibopnmhaaDoorWRefC
import Derived.Test.YtceknmibopnmhaaDoorWTok
namespace Go.Proofs.YtceknmibopnmhaaDoor
open Go.ChangeShapes Go.WideShapes Go.ChangeAt Go.RowKit
set_option linter.unusedVariables false

/-- texts that lie in memory -/
def LsAt (w : World) (g : Nat) (ls : List ByteArray) : Prop := g < w.heap.size ∧ ∀ i nm, ls[i]? = some nm → w.cell? ⟨g, i, none⟩ = some (.string nm)
theorem LsAt.on {w w' : World} {g : Nat} {ls : List ByteArray} (h : LsAt w g ls) (hb : Below w.heap.size w w') : LsAt w' g ls :=
  ⟨Nat.lt_of_lt_of_le h.1 hb.size, fun i nm hi => (hb.cell (p := ⟨g, i, none⟩) h.1).trans (h.2 i nm hi)⟩
theorem LsAt.new (w : World) (ls : List ByteArray) : LsAt (w.alloc (.cells (ls.map Value.string).toArray 9)) w.heap.size ls := by
  refine ⟨by simp, fun i nm h => ?_⟩
  have h2 := heap_alloc_new w (.cells (ls.map Value.string).toArray 9)
  simp only [World.cell?, h2]
  simp [h]
theorem tl_neW {a b : ByteArray} (h : ¬ a = b) : ¬ a.toList = b.toList := fun e => h (by
  apply ba_ext
  rwa [ByteArray.toList_eq, ByteArray.toList_eq] at e)
def InRetR (S : ByteArray) (ls : List ByteArray) (w : World) (e : Ending) (w' : World) : Prop := ∃ b : Bool, e = .returned (.bool b) ∧ (b = true ↔ S ∈ ls) ∧ w = w'
set_option maxRecDepth 100000 in
theorem rin_any (S : ByteArray) (g : Nat) (ls : List ByteArray) (c : Nat) (w : World) (hl : ls.length ≤ 1000) (h : LsAt w g ls) :
    Calls Tryd.prog 37 #[.string S, .slice (some ⟨g, 0, none⟩) ls.length c] w (InRetR S ls w) := by
  have H := Lib.hid h
  clear h
  go_enter Tryd.func37, Tryd.ntmps37
  go_wp2_with fail
  go_loop [5] (fun v => ∃ k : Nat, k ≤ ls.length ∧ v = .int .i64 (k : Int) ∧ S ∉ ls.take k) (fun v => ls.length - (intOf v).toNat)
  case atStart => exact ⟨0, Nat.zero_le _, rfl, by simp⟩
  case round =>
    obtain ⟨k, hk, rfl, hn⟩ := hrel
    by_cases hlt : k < ls.length
    · obtain ⟨x, hx⟩ : ∃ x, ls[k]? = some x := ⟨_, List.getElem?_eq_getElem hlt⟩
      have y0 := H.out.2 k x hx
      by_cases he : x = S
      · subst he
        have HM := Lib.hid (List.mem_of_getElem? hx)
        clear hn hx
        go_wp2_with fail
        go_ret
        exact ⟨true, rfl, by simp [HM.out], rfl⟩
      · have he2 : (x.toList == S.toList) = false := beq_eq_false_iff_ne.2 (tl_neW he)
        have HN := Lib.hid (show S ∉ ls.take (k + 1) by
          rw [List.take_add_one, hx, Option.toList_some, List.mem_append, List.mem_singleton]
          exact fun h => h.elim hn fun e => he e.symm)
        clear hn hx he
        go_wp2_with fail
        exact ⟨⟨k + 1, hlt, by go_num, HN.out⟩, by simp [intOf]; omega⟩
    · obtain rfl : k = ls.length := by omega
      rw [List.take_length] at hn
      have HN := Lib.hid hn
      clear hn
      go_wp2_with fail
      go_ret
      exact ⟨false, rfl, by simp [HN.out], rfl⟩
/-- what one token is told as -/
def RetOne (T : M.Tk) (k : Nat) (w : World) (e : Ending) (w' : World) : Prop :=
  ((T.1 = 0 ∧ e = .returned (wd 0 nb 0 0 0)) ∨ (T.1 ≠ 0 ∧ e = .returned (wd T.1 ⟨T.2.1.toArray⟩ T.2.2.1 k ((k + T.2.2.2 : Nat) : Int)))) ∧ Below w.heap.size w w'
set_option maxRecDepth 100000 in
set_option maxHeartbeats 1000000 in
theorem rone_quo (s : ByteArray) (k : Nat) (w : World) (hs : s.size ≤ 65536) (hk : k < s.size) (h39 : s[k].toNat = 39) :
    Calls Tryd.prog 14 #[.string s, .int .i64 (k : Int)] w (RetOne (M.qtT (s.data.toList.drop (k + 1))) k w) := by
  obtain ⟨w1, hw1, HB5, HB⟩ := w5_named w
  have h39z : (s[k].toNat : Int) = 39 := by omega
  have HQ := Lib.hid (fun W => rquoted_any s k (k + 1) W hs rfl hk)
  clear h39
  go_enter Tryd.func14, Tryd.ntmps14
  go_wp2_with fail
  refine (HQ.out w1).mono ?_
  rintro e w2 (⟨l, n, hq, rfl, hb⟩ | ⟨hq, rfl, hb⟩)
  · have HQQ := Lib.hid hq
    have HB2 := Lib.hid (HB.out.trans (hb.mono HB.out.size))
    obtain ⟨c0, c1, c2, c3, c4⟩ := (HB5.out.on hb).cells
    obtain ⟨f0, f1, f2, f3, f4⟩ := (HB5.out.on hb).frz
    have hnl : ((k + 1 + n : Nat) : Int) = ((k + (n + 1) : Nat) : Int) := by omega
    rw [hnl]
    obtain ⟨m, hm⟩ : ∃ m, k + (n + 1) = m := ⟨_, rfl⟩
    rw [hm]
    have HM := Lib.hid hm
    have hmz : ¬ (m : Int) < 0 := by omega
    clear hb hq hnl hm
    go_wp2_with fail
    refine bodyPost_ret (v := wd 4 ⟨l.toArray⟩ 0 k m) (by simp [results, Tryd.results14, go_sem, c0, c1, c2, c3, c4]) rfl ⟨.inr ?_, end5 HB2.out _ _ _ _ _⟩
    have e : M.qtT (s.data.toList.drop (k + 1)) = (4, l, 0, n + 1) := by unfold M.qtT; rw [HQQ.out]
    rw [e]
    exact ⟨by simp, by rw [← HM.out]; rfl⟩
  · have HQQ := Lib.hid hq
    have HB2 := Lib.hid (HB.out.trans (hb.mono HB.out.size))
    obtain ⟨c0, c1, c2, c3, c4⟩ := (HB5.out.on hb).cells
    obtain ⟨f0, f1, f2, f3, f4⟩ := (HB5.out.on hb).frz
    clear hb hq
    go_wp2_with fail
    refine bodyPost_ret (v := wd 0 nb 0 0 0) (by simp [results, Tryd.results14, go_sem, c0, c1, c2, c3, c4]) rfl ⟨.inl ?_, end5 HB2.out _ _ _ _ _⟩
    have e : M.qtT (s.data.toList.drop (k + 1)) = M.no := by unfold M.qtT; rw [HQQ.out]
    rw [e]
    exact ⟨rfl, rfl⟩
end Go.Proofs.YtceknmibopnmhaaDoor
