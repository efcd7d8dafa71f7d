/-
  strings.ToValidUTF8(s, "?") answers some text, no longer than s. Conditions: at most 60 bytes; the library's tables lie as they are laid.
-/
import Derived.Test.YtifnhdnmohlfiaaGreatDoorVShelf
import Derived.Test.YtifnhdnmohlfiaaGreatDoorVLike
import Derived.Shelf.Strings.BuilderCap
import Derived.Shelf.Strings.MapAny
import Derived.Deep.LoopGhost
namespace Go.Proofs.YtifnhdnmohlfiaaGreatDoor
open Go.ChangeShapes Go.WideShapes Go.ChangeAt Go.RowKit
set_option linter.unusedVariables false

theorem bldWS (b : Nat) (bs : List Value) (s : ByteArray) (w : World) (h : Lib.IsBuilderF 53 5 b b bs w) (hlen : bs.length + s.size ≤ 140737488355328) (hBw : b ≤ w.heap.size) :
    Calls Tryz.prog 29 #[.pointer (some ⟨b, 0, none⟩), .string s] w fun e w' => e = .returned (.tuple #[.int .i64 s.size, .nilIface]) ∧ (Lib.BuilderAtF 53 5 b b (.pointer (some ⟨b, 0, none⟩)) (bs ++ Lib.strCells s) w' ∧ Below b w w' ∧ Lib.OthersKept 5 (some b) w w') ∧ ∀ v0, w.cell? ⟨b, 1, none⟩ = some v0 → ∃ v1, w'.cell? ⟨b, 1, none⟩ = some v1 ∧ v0.capOf ≤ v1.capOf :=
  Any.Builder_WriteString_kc { Tryz.lays230 with } Tryz.Builder_Extra_230 b b bs s w h hlen hBw
theorem bldWB (b : Nat) (bs : List Value) (c : Int) (w : World) (h : Lib.IsBuilderF 53 5 b b bs w) (hlen : bs.length + 1 ≤ 140737488355328) (hBw : b ≤ w.heap.size) :
    Calls Tryz.prog 56 #[.pointer (some ⟨b, 0, none⟩), .int .u8 c] w fun e w' => e = .returned .nilIface ∧ (Lib.BuilderAtF 53 5 b b (.pointer (some ⟨b, 0, none⟩)) (bs ++ [.int .u8 c]) w' ∧ Below b w w' ∧ Lib.OthersKept 5 (some b) w w') :=
  Any.Builder_WriteByte_k { Tryz.lays230 with } Tryz.Builder_Extra_230 b b bs c w h hlen hBw

theorem builder_on {T e : TypeId} {b : Nat} {bs : List Value} {w w' : World} (h : Lib.IsBuilderF T e b b bs w) (hb : Below w.heap.size w w') : Lib.IsBuilderF T e b b bs w' := by
  have key : ∀ p, Lib.BuilderAtF T e b b p bs w → Lib.BuilderAtF T e b b p bs w' := by
    rintro p ⟨hB, v, hv, hown, hne⟩
    refine ⟨hB, v, (hb.block _ (Array.getElem?_eq_some_iff.1 hv).1).trans hv, ⟨hown.1, ?_⟩, hne⟩
    rcases hown.2 with hn | ⟨g, cap, cur, fz, hv2, hg, hh, r⟩
    · exact .inl hn
    · exact .inr ⟨g, cap, cur, fz, hv2, hg, (hb.block _ (Array.getElem?_eq_some_iff.1 hh).1).trans hh, r⟩
  exact h.elim (fun x => .inl (key _ x)) (fun x => .inr (key _ x))
def ValidRel (w : World) (b : Nat) (s2 : ByteArray) (pos : Nat) (vi vb : Value) (gk : Nat) (wr : World) : Prop :=
  ∃ (p2 : Nat) (inv : Bool) (acc : List UInt8), vi = .int .i64 p2 ∧ vb = .bool inv ∧ Lib.IsBuilderF 53 5 b b (Lib.byteCells acc) wr ∧ Below b w wr ∧ s2.size ≤ p2 + gk ∧ p2 ≤ s2.size ∧ acc.length ≤ pos + p2
set_option maxRecDepth 100000 in
set_option maxHeartbeats 1600000 in
theorem valid_any (s : ByteArray) (w : World) (hs : s.size ≤ 60) (hT : Lib.Utf8Tabs 0 1 w) :
    Calls Tryz.prog 22 #[.string s, .string ⟨#[63]⟩] w fun e w' => (∃ q : ByteArray, e = .returned (.string q) ∧ q.size ≤ 60) ∧ Below w.heap.size w w' := by
  have hlen : s.data.toList.length = s.size := (Lib.size_eq s).symm
  have HT := Lib.hid hT
  clear hT
  go_enter Tryz.func22, Tryz.ntmps22
  go_wp2_with fail
  go_loopg [0] s.size (fun gk s0 wx => s0 = .string s ∧ ∃ pos : Nat, wx.heap[w.heap.size]? = some (.cells #[.pointer none, .slice none 0 0] 53 (0, 0)) ∧ wx.heap[w.heap.size + 1]? = some (.stringIter s pos) ∧ Below w.heap.size w wx ∧ s.size ≤ pos + gk ∧ pos ≤ s.size)
  case atStart =>
    refine ⟨rfl, 0, ?_, ?_, ((Below.refl _ w).alloc (Nat.le_refl _) _).alloc (by simp) _, by omega, by omega⟩
    · have h1 := heap_alloc_new w (.cells #[.pointer none, .slice none 0 0] 53)
      exact (Below.heap_alloc _ _ _ (by simp)).trans h1
    · have := World.iter_heap (w.alloc (.cells #[.pointer none, .slice none 0 0] 53)) s 0
      simpa using this
  case round =>
    obtain ⟨rfl, pos, hfr, hit, hbw, hfu, hps⟩ := hrel
    by_cases hlt : pos < s.size
    · obtain ⟨g', rfl⟩ : ∃ g', gk = g' + 1 := ⟨gk - 1, by omega⟩
      have hnx : ∀ ty, (Instr.next (.pointer (some ⟨w.heap.size + 1, 0, none⟩)) true ty).run Tryz.prog wr = _ := fun ty => Lib.run_next_any_at wr (w.heap.size + 1) s pos ty hit hlt
      have hwd := Lib.width_pos s pos
      have hne : s.data.toList.drop pos ≠ [] := by
        intro h0
        have := congrArg List.length h0
        rw [List.length_drop, hlen] at this
        simp at this
        omega
      have hwn : pos + (Utf8.decode s pos).2 ≤ s.size := by
        have := Lib.decodeL_le _ hne
        rw [Lib.decodeL_drop, List.length_drop, hlen] at this
        omega
      have hdg := Lib.decodeGo_extract s pos hlt
      have hit2 := Lib.iterAt_heap wr (w.heap.size + 1) s pos (pos + (Utf8.decode s pos).2) hit
      have hbw2 := Lib.below_iterAt hbw (k := w.heap.size + 1) (by omega) s (pos + (Utf8.decode s pos).2)
      have hfr2 : (wr.iterAt (w.heap.size + 1) s (pos + (Utf8.decode s pos).2)).heap[w.heap.size]? = _ := (Lib.iterAt_other wr (w.heap.size + 1) w.heap.size s (pos + (Utf8.decode s pos).2) (by omega)).trans hfr
      obtain ⟨R, hR⟩ : ∃ R, (Utf8.decode s pos).1 = R := ⟨_, rfl⟩
      obtain ⟨K, hK⟩ : ∃ K, (Utf8.decode s pos).2 = K := ⟨_, rfl⟩
      rw [hR, hK] at hnx
      rw [hK] at hwd hwn hit2 hbw2 hfr2
      obtain ⟨W, hWd⟩ : ∃ W, wr.iterAt (w.heap.size + 1) s (pos + K) = W := ⟨_, rfl⟩
      rw [hWd] at hnx hit2 hbw2 hfr2
      clear hit hbw hfr hWd
      have hszW : w.heap.size + 1 < W.heap.size := (Array.getElem?_eq_some_iff.1 hit2).1
      by_cases h5 : R = 65533
      · have h5z : (R : Int) = 65533 := by omega
        have cD := Tryz.utf8_DecodeRuneInString (s.extract pos s.size) W (Utf8Tabs_below HT.out hbw2)
        rw [hdg, hR, hK] at cD
        have CD := Lib.hid cD
        clear cD hdg hR hK
        by_cases hk : K = 1
        · subst hk h5
          have hxs : (s.extract 0 pos).size = pos := by rw [Lib.size_eq, Lib.extract_data, List.length_take, List.length_drop, hlen]; omega
          have hxd : (s.extract 0 pos).data.toList = s.data.toList.take pos := by rw [Lib.extract_data]; simp
          have HXS := Lib.hid hxs
          have HXD := Lib.hid hxd
          clear hxs hxd
          go_wp2_with (go_at_call 52; refine CD.out.mono ?_; rintro e W3 ⟨rfl, b3⟩)
          have hfr3 : W3.heap[w.heap.size]? = _ := (b3.block _ (by omega)).trans hfr2
          have hb3 : Below w.heap.size w W3 := hbw2.trans (b3.mono (by omega))
          have cG := Tryz.Builder_Grow_fresh_cap w.heap.size w.heap.size (s.size + 1) W3 (Nat.le_refl _) hfr3 hb3.size (by omega)
          have CG := Lib.hid cG
          have HB3 := Lib.hid hb3
          have hbz := hb3.size
          clear cG hb3 hfr3 b3 hit2 hfr2 hbw2 CD
          go_wp2_with fail
          refine CG.out.mono ?_
          rintro e W4 ⟨rfl, ⟨h4, b4⟩, p4, cap4, hc4, hn4⟩
          have HB4 := Lib.hid (HB3.out.trans b4)
          have H4 := Lib.hid h4
          have hbz4 := HB4.out.size
          have HC4 := Lib.hid hc4
          clear b4 h4 hc4 CG
          go_wp2_with fail
          refine (bldWS w.heap.size [] (s.extract 0 pos) W4 (Lib.IsBuilderF.of (Or.inr H4.out)) (by rw [HXS.out]; simp; omega) hbz4).mono ?_
          rintro e W5 ⟨rfl, ⟨h5w, b5, -⟩, hcap⟩
          obtain ⟨v1, hv1, hle⟩ := hcap _ HC4.out
          have hl5 : ([] ++ Lib.strCells (s.extract 0 pos)).length = pos := by simp [Lib.strCells_length, HXS.out]
          obtain ⟨acc, hacc, hal⟩ : ∃ acc : List UInt8, [] ++ Lib.strCells (s.extract 0 pos) = Lib.byteCells acc ∧ acc.length = pos := by
            refine ⟨s.data.toList.take pos, by rw [List.nil_append, Lib.strCells_eq, HXD.out], ?_⟩
            rw [List.length_take, hlen]; omega
          rw [hacc] at h5w
          obtain ⟨A5, n5, cap5, hv5, hn5⟩ : ∃ A5 n5 cap5, v1 = .slice A5 n5 cap5 ∧ 1 ≤ cap5 := by
            obtain ⟨_, v6, hv6, hown6, _⟩ := id h5w
            have e1 : W5.cell? ⟨w.heap.size, 1, none⟩ = some v6 := by rw [Lib.cell_of_heap hv6]; rfl
            rw [hv1] at e1
            obtain rfl := Option.some.inj e1
            rcases hown6.2 with ⟨rfl, h0⟩ | ⟨g6, cap6, _, _, rfl, _⟩
            · simp [Value.capOf] at hle; omega
            · simp [Value.capOf] at hle
              exact ⟨_, _, cap6, rfl, by omega⟩
          subst hv5
          have hcapb : ((cap5 : Int) == 0) = false := by simp; omega
          have HB5 := Lib.hid (HB4.out.trans b5)
          have H5 := Lib.hid h5w
          have hbz5 := HB5.out.size
          have HV := Lib.hid hv1
          clear h5w b5 hcap hle hacc hl5 HC4 H4 hv1
          go_wp2_with fail
          refine (Tryz.Builder_Cap_cell w.heap.size _ _ cap5 W5 HV.out).mono ?_
          rintro e W6 ⟨rfl, rfl⟩
          obtain ⟨s2, hs2⟩ : ∃ s2, s.extract pos s.size = s2 := ⟨_, rfl⟩
          have hz2 : s2.size = s.size - pos := by rw [← hs2, Lib.size_eq, Lib.extract_data, List.length_take, List.length_drop, hlen]; omega
          rw [hs2]
          have hz3 : s2.size + pos ≤ 60 := by omega
          clear hs2 HV hz2
          go_wp2_with fail
          go_loopg [10, 11] s2.size (fun gk vb vi wx => ValidRel w w.heap.size s2 pos vi vb gk wx)
          case atStart => exact ⟨0, false, acc, rfl, rfl, Or.inr H5.out, HB5.out, by omega, by omega, by omega⟩
          case round =>
            obtain ⟨p2, inv, ac2, rfl, rfl, hI, hbw, hfu2, hp2, hal2⟩ := hrel
            have hbz2 := hbw.size
            have hlen2 : s2.data.toList.length = s2.size := (Lib.size_eq s2).symm
            have hal3 : (Lib.byteCells ac2).length = ac2.length := Lib.byteCells_length ac2
            by_cases hlt2 : p2 < s2.size
            · obtain ⟨g2, rfl⟩ : ∃ g2, gk = g2 + 1 := ⟨gk - 1, by omega⟩
              have hlt2' : p2 < s2.data.toList.length := by omega
              by_cases hc : (s2[p2]).toNat < 128
              · have HBy := Lib.hid (show Lib.byteCells ac2 ++ [.int .u8 ((s2[p2]).toNat : Int)] = Lib.byteCells (ac2 ++ [s2[p2]]) from by rw [Lib.byteCells_append]; rfl)
                have hlb : (ac2 ++ [s2[p2]]).length = ac2.length + 1 := by simp
                have HBw := Lib.hid hbw
                have HI := Lib.hid hI
                clear hbw hI hlen2
                go_wp2_with fail
                refine (bldWB w.heap.size (Lib.byteCells ac2) ((s2[p2]).toNat : Int) wr HI.out (by omega) hbz2).mono ?_
                rintro e W7 ⟨rfl, h7, b7, -⟩
                rw [HBy.out] at h7
                have H7 := Lib.hid h7
                have HB7 := Lib.hid (HBw.out.trans b7)
                clear h7 b7
                go_wp2_with fail
                go_roundg g2
                case measure => omega
                case rel => exact ⟨p2 + 1, false, ac2 ++ [s2[p2]], by go_num, rfl, Or.inr H7.out, HB7.out, by omega, by omega, by omega⟩
              · have hne2 : s2.data.toList.drop p2 ≠ [] := by
                  intro h0
                  have := congrArg List.length h0
                  rw [List.length_drop, hlen2] at this
                  simp at this
                  omega
                have hwd2 := Lib.width_pos s2 p2
                have hwn2 : p2 + (Utf8.decode s2 p2).2 ≤ s2.size := by
                  have := Lib.decodeL_le _ hne2
                  rw [Lib.decodeL_drop, List.length_drop, hlen2] at this
                  omega
                have hdg2 := Lib.decodeGo_extract s2 p2 hlt2
                have cD := Tryz.utf8_DecodeRuneInString (s2.extract p2 s2.size) wr (Utf8Tabs_below HT.out hbw)
                obtain ⟨R2, hR2⟩ : ∃ R2, (Utf8.decode s2 p2).1 = R2 := ⟨_, rfl⟩
                obtain ⟨K2, hK2⟩ : ∃ K2, (Utf8.decode s2 p2).2 = K2 := ⟨_, rfl⟩
                rw [hdg2, hR2, hK2] at cD
                rw [hK2] at hwd2 hwn2
                have CD := Lib.hid cD
                have hcb : ¬ (((s2[p2]).toNat : Int) < 128) := by omega
                have HBw := Lib.hid hbw
                have HI := Lib.hid hI
                have HX2 := Lib.hid (show (s2.extract p2 (p2 + K2)).size = K2 by rw [Lib.size_eq, Lib.extract_data, List.length_take, List.length_drop, hlen2]; omega)
                have HX3 := Lib.hid (show Lib.byteCells ac2 ++ Lib.strCells (s2.extract p2 (p2 + K2)) = Lib.byteCells (ac2 ++ (s2.extract p2 (p2 + K2)).data.toList) by rw [Lib.strCells_eq, Lib.byteCells_append])
                have HX4 := Lib.hid (show (ac2 ++ (s2.extract p2 (p2 + K2)).data.toList).length = ac2.length + K2 by rw [List.length_append, ← Lib.size_eq, HX2.out])
                clear cD hdg2 hR2 hK2 hne2 hbw hI hlen2
                by_cases hk2 : K2 = 1
                · subst hk2
                  cases inv with
                  | true =>
                    go_wp2_with fail
                    refine CD.out.mono ?_
                    rintro e W7 ⟨rfl, b7⟩
                    have HB7 := Lib.hid (HBw.out.trans (b7.mono hbz2))
                    have H7 := Lib.hid (builder_on HI.out b7)
                    clear b7
                    go_wp2_with fail
                    go_roundg g2
                    case measure => omega
                    case rel => exact ⟨p2 + 1, true, ac2, by go_num, rfl, H7.out, HB7.out, by omega, by omega, by omega⟩
                  | false =>
                    go_wp2_with fail
                    refine CD.out.mono ?_
                    rintro e W7 ⟨rfl, b7⟩
                    have HB7 := Lib.hid (HBw.out.trans (b7.mono hbz2))
                    have H7 := Lib.hid (builder_on HI.out b7)
                    clear b7
                    go_wp2_with fail
                    refine (bldWS w.heap.size (Lib.byteCells ac2) ⟨#[63]⟩ W7 H7.out (by show _ + 1 ≤ _; omega) HB7.out.size).mono ?_
                    rintro e W8 ⟨rfl, ⟨h8, b8, -⟩, -⟩
                    have H8 := Lib.hid (show Lib.BuilderAtF 53 5 w.heap.size w.heap.size (.pointer (some ⟨w.heap.size, 0, none⟩)) (Lib.byteCells (ac2 ++ [63])) W8 by rw [Lib.byteCells_append]; exact h8)
                    have HB8 := Lib.hid (HB7.out.trans b8)
                    have hl8 : (ac2 ++ [(63 : UInt8)]).length = ac2.length + 1 := by simp
                    clear h8 b8
                    go_wp2_with fail
                    go_roundg g2
                    case measure => omega
                    case rel => exact ⟨p2 + 1, true, ac2 ++ [63], by go_num, rfl, Or.inr H8.out, HB8.out, by omega, by omega, by omega⟩
                · have hkb2 : ((K2 : Int) == 1) = false := by simp; omega
                  go_wp2_with fail
                  refine CD.out.mono ?_
                  rintro e W7 ⟨rfl, b7⟩
                  have HB7 := Lib.hid (HBw.out.trans (b7.mono hbz2))
                  have H7 := Lib.hid (builder_on HI.out b7)
                  clear b7
                  go_wp2_with fail
                  refine (bldWS w.heap.size (Lib.byteCells ac2) (s2.extract p2 (p2 + K2)) W7 H7.out (by rw [HX2.out]; omega) HB7.out.size).mono ?_
                  rintro e W8 ⟨rfl, ⟨h8, b8, -⟩, -⟩
                  rw [HX3.out] at h8
                  have H8 := Lib.hid h8
                  have HB8 := Lib.hid (HB7.out.trans b8)
                  have hl8 := HX4.out
                  clear h8 b8
                  go_wp2_with fail
                  go_roundg g2
                  case measure => omega
                  case rel => exact ⟨p2 + K2, false, ac2 ++ (s2.extract p2 (p2 + K2)).data.toList, by go_num, rfl, Or.inr H8.out, HB8.out, by omega, by omega, by omega⟩
            · have HBw := Lib.hid hbw
              have HI := Lib.hid hI
              clear hbw hI
              go_wp2_with fail
              refine (Tryz.Builder_String_any_k w.heap.size w.heap.size ac2 wr HI.out hbz2).mono ?_
              rintro e W7 ⟨rfl, _, b7, -⟩
              have HB7 := Lib.hid (HBw.out.trans b7)
              clear b7
              go_wp2_with fail
              go_ret
              exact ⟨⟨⟨ac2.toArray⟩, rfl, by show ac2.toArray.size ≤ 60; rw [List.size_toArray]; omega⟩, HB7.out⟩
        · have hkz : ¬ ((K : Int) = 1) := by omega
          have hkb : ((K : Int) == 1) = false := by simpa using hkz
          subst h5
          go_wp2_with (go_at_call 52; refine CD.out.mono ?_; rintro e W3 ⟨rfl, b3⟩)
          go_roundg g'
          case measure => omega
          case rel => exact ⟨rfl, pos + K, (b3.block _ (by omega)).trans hfr2, (b3.block _ hszW).trans hit2, hbw2.trans (b3.mono (by omega)), by omega, hwn⟩
      · have h5' : ¬ ((R : Int) = 65533) := by omega
        have h5b : ((R : Int) != 65533) = true := by simpa using h5'
        go_wp2_with fail
        go_roundg g'
        case measure => omega
        case rel => exact ⟨rfl, pos + K, hfr2, hit2, hbw2, by omega, hwn⟩
    · have hend : ∀ ty, (Instr.next (.pointer (some ⟨w.heap.size + 1, 0, none⟩)) true ty).run Tryz.prog wr = _ := fun ty => Lib.run_next_end_at wr (w.heap.size + 1) s pos ty hit hlt
      have hc : wr.cell? ⟨w.heap.size, 1, none⟩ = some (.slice none 0 0) := by rw [Lib.cell_of_heap hfr]; rfl
      go_wp2_with (go_at_call 55; refine (Tryz.Builder_Cap_cell w.heap.size none 0 0 _ hc).mono ?_; rintro e W3 ⟨rfl, rfl⟩)
      go_ret
      exact ⟨⟨s, rfl, hs⟩, hbw⟩
end Go.Proofs.YtifnhdnmohlfiaaGreatDoor
