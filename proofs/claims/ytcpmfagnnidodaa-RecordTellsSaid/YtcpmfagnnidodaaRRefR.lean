/-
  The document's own part of a key (layer 3, record). Conditions: kinds that there are, strings of at most a million bytes.
-/
import Derived.Test.YtcpmfagnnidodaaRRefA
namespace Go.Proofs.Ytcpmfagnnidodaa
open Go.ChangeShapes Go.WideShapes Go.ChangeAt Go.RowKit
set_option linter.unusedVariables false

theorem below_box {w wr : World} (o : Obj) (h : Below (w.heap.size + 1) (w.alloc o) wr) : Below w.heap.size w wr := ((Below.refl _ _).alloc (Nat.le_refl _) o).trans (h.mono (by omega))
theorem own_some {w : World} {base n c : Nat} {A : Option Addr} {l : List UInt8} (h : Own w base (.slice A n c) l) (hl : 0 < l.length) : ∃ g, A = some ⟨g, 0, none⟩ := by
  obtain ⟨h1, h2⟩ := h
  rcases h2 with ⟨_, h0⟩ | ⟨g, cap, cur, hv, _⟩
  · omega
  · simp only [Value.slice.injEq] at hv
    exact ⟨g, hv.1⟩
theorem rd_newP (X : World) (l : List UInt8) : Rd (X.alloc (.cells (bs l).toArray 5)) (X.alloc (.cells (bs l).toArray 5)).heap.size (some ⟨X.heap.size, 0, none⟩) l := by
  intro _
  refine ⟨_, rfl, by simp, fun j u hu => ?_⟩
  have ha : ((⟨X.heap.size, 0, none⟩ : Addr).add j) = ⟨X.heap.size, j, none⟩ := by
    unfold Addr.add
    by_cases hj0 : j = 0 <;> simp [hj0]
  rw [ha]
  simp only [World.cell?, heap_alloc_new]
  have : (bs l)[j]? = some (b8 u) := by rw [bs_getElem?, hu]; rfl
  simpa using this
theorem box_at (w wr : World) (k n : Int) (s : ByteArray) (h : Below (w.heap.size + 1) (w.alloc (box k n s)) wr) : wr.cell? ⟨w.heap.size, 0, none⟩ = some (.int .u8 k) ∧ wr.cell? ⟨w.heap.size, 1, none⟩ = some (.int .i64 n) ∧ wr.cell? ⟨w.heap.size, 2, none⟩ = some (.string s) := by
  refine ⟨(h.cell (p := ⟨_, _, _⟩) (by simp)).trans ?_, (h.cell (p := ⟨_, _, _⟩) (by simp)).trans ?_, (h.cell (p := ⟨_, _, _⟩) (by simp)).trans ?_⟩ <;> simp [go_sem]

set_option maxRecDepth 100000 in
theorem refPart0 (n : Int) (s : ByteArray) (d : Bool) (w : World) : Calls Try.prog 79 #[vv 0 n s, .bool d] w (PartRet 0 n s d w) := by
  have HO := Lib.hid (own_built (w.alloc (box 0 n s)) (w.heap.size + 1) [1] 1 rfl (by simp) (by simp [maxLen]))
  have HB := Lib.hid (show Below (w.heap.size + 1) (w.alloc (box 0 n s)) ((w.alloc (box 0 n s)).alloc (.cells #[.int .u8 1] 5)) from (Below.refl _ _).alloc (by simp) _)
  have hsz : (w.alloc (box 0 n s)).heap.size = w.heap.size + 1 := by simp
  rw [hsz] at HO
  have HO2 := Lib.hid (own_built (w.alloc (box 0 n s)) (w.heap.size + 1) [254] 1 rfl (by simp) (by simp [maxLen]))
  rw [hsz] at HO2
  have HB2 := Lib.hid (show Below (w.heap.size + 1) (w.alloc (box 0 n s)) ((w.alloc (box 0 n s)).alloc (.cells #[.int .u8 254] 5)) from (Below.refl _ _).alloc (by simp) _)
  clear hsz
  go_enter Try.func79, Try.ntmps79
  cases d
  · go_wp2_with fail
    go_ret
    exact ⟨_, rfl, by show Own _ _ _ (turnL 0 _); rw [turn0]; exact HO.out.mono (by omega), below_box _ HB.out⟩
  · go_wp2_with fail
    go_loopw [7] (fun i wr => (i = .int .i64 0 ∧ wr = ((w.alloc (box 0 n s)).alloc (.cells #[.int .u8 1] 5))) ∨ (i = .int .i64 1 ∧ wr = ((w.alloc (box 0 n s)).alloc (.cells #[.int .u8 254] 5)))) (fun i _ => 1 - (intOf i).toNat)
    case atStart => exact .inl ⟨rfl, rfl⟩
    case round =>
      rcases hrel with ⟨rfl, rfl⟩ | ⟨rfl, rfl⟩
      · go_wp2_with fail
        exact ⟨.inr ⟨rfl, by first | trivial | rfl⟩, by simp [intOf]⟩
      · go_wp2_with fail
        go_ret
        exact ⟨_, rfl, HO2.out.mono (by omega), below_box _ HB2.out⟩

set_option maxRecDepth 100000 in
theorem refPart1 (n : Int) (s : ByteArray) (d : Bool) (w : World) (hn : In64 n) : Calls Try.prog 79 #[vv 1 n s, .bool d] w (PartRet 1 n s d w) := by
  obtain ⟨u, r, hu, hi⟩ := int_part n hn
  have HN := Lib.hid hn
  have hr9 : ([2] ++ beN (u64N n) 8).length = 9 := by rw [List.length_append, beN_length]; rfl
  have hset : ([2] ++ beN (u64N n) 8).set 1 (u ^^^ 128) = partL 1 n s := by rw [hu]; simp [partL, hi]
  have hget : ([2] ++ beN (u64N n) 8)[1]? = some u := by rw [hu]; rfl
  have HU := Lib.hid hu
  have HSET := Lib.hid hset
  have HGET := Lib.hid hget
  clear hu hi hset hget hn
  go_enter Try.func79, Try.ntmps79
  go_wp2_with fail
  refine (refNumber_any n 8 _ HN.out (by omega)).mono ?_
  rintro e w1 ⟨A1, c1, rfl, hr1, hc1, hc2, hb1⟩
  rw [beN_length]
  have HR1 := Lib.hid hr1
  have hs1 := hb1.size
  simp only [World.size_alloc] at hs1
  have HO1 := Lib.hid ((own_built (w.alloc (box 1 n s)) (w.heap.size + 1) [2] 1 rfl (by simp) (by simp [maxLen])).below hb1)
  have hsz : (w.alloc (box 1 n s)).heap.size = w.heap.size + 1 := by simp
  rw [hsz] at HO1
  clear hsz
  have HB1 := Lib.hid (((Below.refl (w.heap.size + 1) (w.alloc (box 1 n s))).alloc (by simp) (.cells #[.int .u8 2] 5)).trans (hb1.mono (by simp)))
  clear hr1 hc1 hc2 hb1
  obtain ⟨L, hL⟩ : ∃ L, L = partL 1 n s := ⟨_, rfl⟩
  have HP := Lib.hid hL.symm
  have HLN := Lib.hid (show L.length = 9 by rw [hL, ← HSET.out, List.length_set, hr9])
  have HX := Lib.hid (show bits .xor .u8 (u.toNat : Int) 128 = ((u ^^^ 128).toNat : Int) by have := u8_xor_nat u.toNat 128 u.toNat_lt (by omega); rw [UInt8.toNat_xor]; exact this)
  clear hL
  cases d
  · go_wp2_with (at_builtin; refine wpList_appBG rfl (.tmp 15) (.tmp 18) rfl (w.heap.size + 1) (.slice (some ⟨w.heap.size + 1, 0, none⟩) 1 1) [2] rfl HO1.out A1 c1 8 (beN (u64N n) 8) (by rw [beN_length]) rfl HR1.out (by rw [beN_length]; simp) (by omega) ?_; intro v2 w2 ho2 hg2; have HW2 := Lib.hid (HB1.out.grown hg2 (by omega) fun g hg => (HO1.out.lt g hg).1); obtain ⟨A2, c, rfl, _, _, _⟩ := ho2.form; obtain ⟨g, rfl⟩ := own_some ho2 (by omega); rw [hr9]; have HO2 := Lib.hid ho2; have hat := (ho2.cells.2.2.2.2.2 1 u HGET.out); obtain ⟨hc2, hf2⟩ := hat; unfold b8 at hc2; obtain ⟨hb0, hb1, hb2⟩ := box_at w w2 1 n s HW2.out; clear ho2 hg2)
    have HO := Lib.hid (show Own (w2.setCell ⟨g, 1, none⟩ (.int .u8 ((u ^^^ 128).toNat : Int))) (w.heap.size + 1) (.slice (some ⟨g, 0, none⟩) ([2] ++ beN (u64N n) 8).length c) L by rw [← HP.out, ← HSET.out]; exact HO2.out.set 1 (u ^^^ 128))
    have HB := Lib.hid (show Below (w.heap.size + 1) (w.alloc (box 1 n s)) (w2.setCell ⟨g, 1, none⟩ (.int .u8 ((u ^^^ 128).toNat : Int))) from HW2.out.setCell (HO2.out.cells.2.1) _)
    rw [HX.out]
    go_ret
    refine ⟨_, rfl, ?_, below_box _ HB.out⟩
    show Own _ _ _ (turnL 0 _)
    rw [turn0, HP.out]
    have := HO.out.mono (show w.heap.size ≤ w.heap.size + 1 by omega)
    rw [hr9] at this
    exact this
  · go_wp2_with (at_builtin; refine wpList_appBG rfl (.tmp 15) (.tmp 18) rfl (w.heap.size + 1) (.slice (some ⟨w.heap.size + 1, 0, none⟩) 1 1) [2] rfl HO1.out A1 c1 8 (beN (u64N n) 8) (by rw [beN_length]) rfl HR1.out (by rw [beN_length]; simp) (by omega) ?_; intro v2 w2 ho2 hg2; have HW2 := Lib.hid (HB1.out.grown hg2 (by omega) fun g hg => (HO1.out.lt g hg).1); obtain ⟨A2, c, rfl, _, _, _⟩ := ho2.form; obtain ⟨g, rfl⟩ := own_some ho2 (by omega); rw [hr9]; have HO2 := Lib.hid ho2; have hat := (ho2.cells.2.2.2.2.2 1 u HGET.out); obtain ⟨hc2, hf2⟩ := hat; unfold b8 at hc2; obtain ⟨hb0, hb1, hb2⟩ := box_at w w2 1 n s HW2.out; clear ho2 hg2)
    have HO := Lib.hid (show Own (w2.setCell ⟨g, 1, none⟩ (.int .u8 ((u ^^^ 128).toNat : Int))) (w.heap.size + 1) (.slice (some ⟨g, 0, none⟩) ([2] ++ beN (u64N n) 8).length c) L by rw [← HP.out, ← HSET.out]; exact HO2.out.set 1 (u ^^^ 128))
    have HB := Lib.hid (show Below (w.heap.size + 1) (w.alloc (box 1 n s)) (w2.setCell ⟨g, 1, none⟩ (.int .u8 ((u ^^^ 128).toNat : Int))) from HW2.out.setCell (HO2.out.cells.2.1) _)
    rw [HX.out]
    obtain ⟨wt, hwt⟩ : ∃ wt, wt = w2.setCell ⟨g, 1, none⟩ (.int .u8 ((u ^^^ 128).toNat : Int)) := ⟨_, rfl⟩
    rw [← hwt]
    rw [← hwt] at HO HB
    have hL9 : ([2] ++ beN (u64N n) 8 : List UInt8).length = L.length := by rw [HLN.out, hr9]
    have ho := HO.out
    rw [hL9] at ho
    clear HO
    have HO := Lib.hid ho
    clear ho hwt hL9 hc2 hf2 hb0 hb1 hb2
    go_loopw [7] (fun i wr => TurnRelP (w.heap.size + 1) g c wt L i wr) (fun i _ => 9 - (intOf i).toNat)
    case atStart => exact ⟨0, Nat.zero_le _, rfl, by rw [halfT_zero]; exact HO.out, Below.refl _ _⟩
    case round =>
      obtain ⟨j, hj, rfl, ho, hbw⟩ := hrel
      rw [HLN.out] at hj
      by_cases hlt : j < 9
      · have hlt' : j < L.length := by rw [HLN.out]; exact hlt
        obtain ⟨_, hgb, _, _, _, hat⟩ := ho.cells
        obtain ⟨hc, hf⟩ := hat j _ (halfT_get L j hlt')
        have HS := Lib.hid (ho.set j (L[j] ^^^ 255))
        rw [halfT_set L j hlt'] at HS
        have hji : (j : Int) < (9 : Nat) := by omega
        have ht := turn255 L[j]
        have hcl := (L[j]).toNat_lt
        unfold b8 at hc HS
        generalize L[j] = u at *
        generalize (u ^^^ 255) = u' at *
        have HT := Lib.hid ht
        clear hat ho ht
        go_wp2_with fail
        refine ⟨⟨j + 1, by rw [HLN.out]; omega, by go_num, by first | exact HS.out | (rw [HT.out]; exact HS.out), hbw.setCell hgb _⟩, by simp [intOf]; omega⟩
      · obtain rfl : j = 9 := by omega
        have he : halfT L 9 = turnL 255 L := by rw [← HLN.out]; exact halfT_end L
        rw [he] at ho
        have HO2 := Lib.hid ho
        clear ho he
        go_wp2_with fail
        go_ret
        exact ⟨_, rfl, by show Own _ _ _ (turnL 255 _); rw [HP.out]; have := HO2.out.mono (show w.heap.size ≤ w.heap.size + 1 by omega); rw [HLN.out] at this; exact this, below_box _ (HB.out.trans hbw)⟩

set_option maxRecDepth 100000 in
set_option maxHeartbeats 800000 in
theorem refPart2 (n : Int) (s : ByteArray) (d : Bool) (w : World) (hs : s.size ≤ 1000000) : Calls Try.prog 79 #[vv 2 n s, .bool d] w (PartRet 2 n s d w) := by
  have hsl : s.data.toList.length = s.size := by rcases s with ⟨⟨l⟩⟩; rfl
  have HO0 := Lib.hid (own_built (w.alloc (box 2 n s)) (w.heap.size + 1) [3] 1 rfl (by simp) (by simp [maxLen]))
  have hsz : (w.alloc (box 2 n s)).heap.size = w.heap.size + 1 := by simp
  rw [hsz] at HO0
  clear hsz
  have HB0 := Lib.hid (show Below (w.heap.size + 1) (w.alloc (box 2 n s)) ((w.alloc (box 2 n s)).alloc (.cells #[.int .u8 3] 5)) from (Below.refl _ _).alloc (by simp) _)
  go_enter Try.func79, Try.ntmps79
  go_wp2_with fail
  go_loopw [5, 6] (fun v i wr => StrRelP (w.heap.size + 1) (w.alloc (box 2 n s)) s.data.toList 3 v i wr) (fun _ i _ => s.size - (intOf i).toNat)
  case atStart => exact ⟨0, Nat.zero_le _, rfl, HO0.out, HB0.out⟩
  case round =>
    obtain ⟨k, hk, rfl, ho, hb⟩ := hrel
    rw [hsl] at hk
    have hszb := hb.size
    simp only [World.size_alloc] at hszb
    have hlen : (3 :: escL (s.data.toList.take k)).length ≤ 2000001 := by
      have h1 := escL_len (s.data.toList.take k)
      rw [List.length_cons]
      rw [List.length_take] at h1
      omega
    obtain ⟨hb0, hb1, hb2⟩ := box_at w wr 2 n s hb
    have HBW := Lib.hid hb
    have HO := Lib.hid ho
    obtain ⟨A5, c5, rfl, _, _, _⟩ := ho.form
    clear hb ho
    by_cases hlt : k < s.size
    · have hg := getU s k hlt
      have he := escL_take hg
      clear hg
      have hki : (k : Int) < s.size := by omega
      have HEQ := Lib.hid (show (3 :: escL (s.data.toList.take (k + 1))) = (3 :: escL (s.data.toList.take k)) ++ esc s[k] by rw [he]; rfl)
      generalize (3 :: escL (s.data.toList.take k)) = xs at *
      have hcl := (s[k]).toNat_lt
      clear he
      by_cases hc : s[k] = 0
      · have HES := Lib.hid (show esc s[k] = [s[k]] ++ [255] by simp [esc, hc])
        have hc' : ((s[k].toNat : Int) == 0) = true := by rw [hc]; rfl
        clear hc
        go_wp2_with (first
          | (at_builtin; refine wpList_app1 rfl (.tmp 41) (.tmp 46) rfl (w.heap.size + 1) (.slice A5 xs.length c5) xs rfl HO.out _ s[k] rfl rfl (by omega) (by omega) ?_; intro v1 w1 ho1 hb1'; have HO1 := Lib.hid ho1; have HB1 := Lib.hid (HBW.out.trans hb1'); have hs1 := hb1'.size; obtain ⟨A1, c1, rfl, _, _, _⟩ := ho1.form; obtain ⟨hd0, hd1, hd2⟩ := box_at w w1 2 n s HB1.out; clear ho1 hb1'; have hyl : (xs ++ [s[k]]).length ≤ 2000002 := (by rw [List.length_append]; simp only [List.length_singleton]; omega); generalize hys : xs ++ [s[k]] = ys at *; have HYS := Lib.hid hys; clear hys)
          | (at_builtin; refine wpList_app1 rfl (.tmp 53) (.tmp 54) rfl (w.heap.size + 1) (.slice A1 ys.length c1) ys rfl HO1.out 255 255 rfl rfl (by omega) (by omega) ?_; intro v2 w2 ho2 hb2'; have HO2 := Lib.hid ho2; have HB2 := Lib.hid (HB1.out.trans hb2'); clear ho2 hb2'))
        go_roundw
        case rel => exact ⟨k + 1, by rw [hsl]; omega, by go_num, by rw [HEQ.out, HES.out, ← List.append_assoc, HYS.out]; exact HO2.out, HB2.out⟩
        case measure => simp [intOf]; omega
      · have HES := Lib.hid (show esc s[k] = [s[k]] by simp [esc, hc])
        have hc' : ((s[k].toNat : Int) == 0) = false := by
          rw [beq_eq_false_iff_ne]
          intro e
          exact hc (UInt8.toNat_inj.1 (by have h0 : (0 : UInt8).toNat = 0 := rfl; omega))
        clear hc
        go_wp2_with (at_builtin; refine wpList_app1 rfl (.tmp 41) (.tmp 46) rfl (w.heap.size + 1) (.slice A5 xs.length c5) xs rfl HO.out _ s[k] rfl rfl (by omega) (by omega) ?_; intro v1 w1 ho1 hb1'; have HO1 := Lib.hid ho1; have HB1 := Lib.hid (HBW.out.trans hb1'); have hs1 := hb1'.size; obtain ⟨A1, c1, rfl, _, _, _⟩ := ho1.form; obtain ⟨hd0, hd1, hd2⟩ := box_at w w1 2 n s HB1.out; clear ho1 hb1')
        go_roundw
        case rel => exact ⟨k + 1, by rw [hsl]; omega, by go_num, by rw [HEQ.out, HES.out]; have h9 := HO1.out; rw [show (xs ++ [s[k]]).length = xs.length + 1 by simp] at h9; exact h9, HB1.out⟩
        case measure => simp [intOf]; omega
    · obtain rfl : k = s.size := by omega
      have ht : s.data.toList.take s.size = s.data.toList := by rw [← hsl]; exact List.take_length
      rw [ht] at HO hlen
      have HP := Lib.hid (show partL 2 n s = (3 :: escL s.data.toList) ++ [0, 0] by simp [partL, strN])
      rw [ht]
      generalize (3 :: escL s.data.toList) = xs at *
      obtain ⟨L, hL⟩ : ∃ L, L = xs ++ [0, 0] := ⟨_, rfl⟩
      rw [← hL] at HP
      have hpos : 0 < L.length := by rw [hL, List.length_append]; simp
      have hLl : L.length ≤ 2000003 := by rw [hL, List.length_append]; simp only [List.length_cons, List.length_nil]; omega
      have HL := Lib.hid hL
      have HRZ := Lib.hid (rd_newP wr [0, 0])
      clear hL ht
      cases d
      · go_wp2_with (at_builtin; refine wpList_appB rfl (.tmp 56) (.tmp 57) rfl (w.heap.size + 1) (.slice A5 xs.length c5) xs rfl (HO.out.alloc _) (some ⟨wr.heap.size, 0, none⟩) 2 [0, 0] 2 rfl rfl HRZ.out (by simp; omega) (by simp; omega) ?_; intro v1 w1 ho1 hb1'; rw [← HL.out] at ho1; have HO := Lib.hid ho1; have HB := Lib.hid ((HBW.out.alloc (by omega) _).trans hb1'); obtain ⟨A1, c, rfl, _, _, _⟩ := ho1.form; obtain ⟨g, rfl⟩ := own_some ho1 hpos; obtain ⟨hd0, hd1, hd2⟩ := box_at w w1 2 n s HB.out; clear ho1 hb1')
        go_ret
        refine ⟨_, rfl, ?_, below_box _ HB.out⟩
        show Own _ _ _ (turnL 0 _)
        rw [turn0, HP.out]
        exact HO.out.mono (by omega)
      · go_wp2_with (at_builtin; refine wpList_appB rfl (.tmp 56) (.tmp 57) rfl (w.heap.size + 1) (.slice A5 xs.length c5) xs rfl (HO.out.alloc _) (some ⟨wr.heap.size, 0, none⟩) 2 [0, 0] 2 rfl rfl HRZ.out (by simp; omega) (by simp; omega) ?_; intro v1 w1 ho1 hb1'; rw [← HL.out] at ho1; have HO := Lib.hid ho1; have HB := Lib.hid ((HBW.out.alloc (by omega) _).trans hb1'); obtain ⟨A1, c, rfl, _, _, _⟩ := ho1.form; obtain ⟨g, rfl⟩ := own_some ho1 hpos; obtain ⟨hd0, hd1, hd2⟩ := box_at w w1 2 n s HB.out; clear ho1 hb1')
        obtain ⟨wt, rfl⟩ : ∃ wt, wt = w1 := ⟨_, rfl⟩
        clear hd0 hd1 hd2 hb0 hb1 hb2
        go_loopw [7] (fun i wr => TurnRelP (w.heap.size + 1) g c wt L i wr) (fun i _ => L.length - (intOf i).toNat)
        case atStart => exact ⟨0, Nat.zero_le _, rfl, by rw [halfT_zero]; exact HO.out, Below.refl _ _⟩
        case round =>
          obtain ⟨j, hj, rfl, ho, hbw⟩ := hrel
          by_cases hlt : j < L.length
          · have hlt' : j < L.length := hlt
            obtain ⟨_, hgb, _, _, _, hat⟩ := ho.cells
            obtain ⟨hc, hf⟩ := hat j _ (halfT_get L j hlt')
            have HS := Lib.hid (ho.set j (L[j] ^^^ 255))
            rw [halfT_set L j hlt'] at HS
            have hji : (j : Int) < (L.length : Nat) := by omega
            have ht := turn255 L[j]
            have hcl := (L[j]).toNat_lt
            unfold b8 at hc HS
            generalize L[j] = u at *
            generalize (u ^^^ 255) = u' at *
            have HT := Lib.hid ht
            clear hat ho ht
            go_wp2_with fail
            refine ⟨⟨j + 1, by omega, by go_num, by first | exact HS.out | (rw [HT.out]; exact HS.out), hbw.setCell hgb _⟩, by simp [intOf]; omega⟩
          · obtain rfl : j = L.length := by omega
            have he : halfT L L.length = turnL 255 L := halfT_end L
            rw [he] at ho
            have HO2 := Lib.hid ho
            clear ho he
            go_wp2_with fail
            go_ret
            exact ⟨_, rfl, by show Own _ _ _ (turnL 255 _); rw [HP.out]; have := HO2.out.mono (show w.heap.size ≤ w.heap.size + 1 by omega); exact this, below_box _ (HB.out.trans hbw)⟩

set_option maxRecDepth 100000 in
set_option maxHeartbeats 800000 in
theorem refPart3 (n : Int) (s : ByteArray) (d : Bool) (w : World) (hs : s.size ≤ 1000000) : Calls Try.prog 79 #[vv 3 n s, .bool d] w (PartRet 3 n s d w) := by
  have hsl : s.data.toList.length = s.size := by rcases s with ⟨⟨l⟩⟩; rfl
  have HO0 := Lib.hid (own_built (w.alloc (box 3 n s)) (w.heap.size + 1) [4] 1 rfl (by simp) (by simp [maxLen]))
  have hsz : (w.alloc (box 3 n s)).heap.size = w.heap.size + 1 := by simp
  rw [hsz] at HO0
  clear hsz
  have HB0 := Lib.hid (show Below (w.heap.size + 1) (w.alloc (box 3 n s)) ((w.alloc (box 3 n s)).alloc (.cells #[.int .u8 4] 5)) from (Below.refl _ _).alloc (by simp) _)
  go_enter Try.func79, Try.ntmps79
  go_wp2_with fail
  go_loopw [5, 6] (fun v i wr => StrRelP (w.heap.size + 1) (w.alloc (box 3 n s)) s.data.toList 4 v i wr) (fun _ i _ => s.size - (intOf i).toNat)
  case atStart => exact ⟨0, Nat.zero_le _, rfl, HO0.out, HB0.out⟩
  case round =>
    obtain ⟨k, hk, rfl, ho, hb⟩ := hrel
    rw [hsl] at hk
    have hszb := hb.size
    simp only [World.size_alloc] at hszb
    have hlen : (4 :: escL (s.data.toList.take k)).length ≤ 2000001 := by
      have h1 := escL_len (s.data.toList.take k)
      rw [List.length_cons]
      rw [List.length_take] at h1
      omega
    obtain ⟨hb0, hb1, hb2⟩ := box_at w wr 3 n s hb
    have HBW := Lib.hid hb
    have HO := Lib.hid ho
    obtain ⟨A5, c5, rfl, _, _, _⟩ := ho.form
    clear hb ho
    by_cases hlt : k < s.size
    · have hg := getU s k hlt
      have he := escL_take hg
      clear hg
      have hki : (k : Int) < s.size := by omega
      have HEQ := Lib.hid (show (4 :: escL (s.data.toList.take (k + 1))) = (4 :: escL (s.data.toList.take k)) ++ esc s[k] by rw [he]; rfl)
      generalize (4 :: escL (s.data.toList.take k)) = xs at *
      have hcl := (s[k]).toNat_lt
      clear he
      by_cases hc : s[k] = 0
      · have HES := Lib.hid (show esc s[k] = [s[k]] ++ [255] by simp [esc, hc])
        have hc' : ((s[k].toNat : Int) == 0) = true := by rw [hc]; rfl
        clear hc
        go_wp2_with (first
          | (at_builtin; refine wpList_app1 rfl (.tmp 41) (.tmp 46) rfl (w.heap.size + 1) (.slice A5 xs.length c5) xs rfl HO.out _ s[k] rfl rfl (by omega) (by omega) ?_; intro v1 w1 ho1 hb1'; have HO1 := Lib.hid ho1; have HB1 := Lib.hid (HBW.out.trans hb1'); have hs1 := hb1'.size; obtain ⟨A1, c1, rfl, _, _, _⟩ := ho1.form; obtain ⟨hd0, hd1, hd2⟩ := box_at w w1 3 n s HB1.out; clear ho1 hb1'; have hyl : (xs ++ [s[k]]).length ≤ 2000002 := (by rw [List.length_append]; simp only [List.length_singleton]; omega); generalize hys : xs ++ [s[k]] = ys at *; have HYS := Lib.hid hys; clear hys)
          | (at_builtin; refine wpList_app1 rfl (.tmp 53) (.tmp 54) rfl (w.heap.size + 1) (.slice A1 ys.length c1) ys rfl HO1.out 255 255 rfl rfl (by omega) (by omega) ?_; intro v2 w2 ho2 hb2'; have HO2 := Lib.hid ho2; have HB2 := Lib.hid (HB1.out.trans hb2'); clear ho2 hb2'))
        go_roundw
        case rel => exact ⟨k + 1, by rw [hsl]; omega, by go_num, by rw [HEQ.out, HES.out, ← List.append_assoc, HYS.out]; exact HO2.out, HB2.out⟩
        case measure => simp [intOf]; omega
      · have HES := Lib.hid (show esc s[k] = [s[k]] by simp [esc, hc])
        have hc' : ((s[k].toNat : Int) == 0) = false := by
          rw [beq_eq_false_iff_ne]
          intro e
          exact hc (UInt8.toNat_inj.1 (by have h0 : (0 : UInt8).toNat = 0 := rfl; omega))
        clear hc
        go_wp2_with (at_builtin; refine wpList_app1 rfl (.tmp 41) (.tmp 46) rfl (w.heap.size + 1) (.slice A5 xs.length c5) xs rfl HO.out _ s[k] rfl rfl (by omega) (by omega) ?_; intro v1 w1 ho1 hb1'; have HO1 := Lib.hid ho1; have HB1 := Lib.hid (HBW.out.trans hb1'); have hs1 := hb1'.size; obtain ⟨A1, c1, rfl, _, _, _⟩ := ho1.form; obtain ⟨hd0, hd1, hd2⟩ := box_at w w1 3 n s HB1.out; clear ho1 hb1')
        go_roundw
        case rel => exact ⟨k + 1, by rw [hsl]; omega, by go_num, by rw [HEQ.out, HES.out]; have h9 := HO1.out; rw [show (xs ++ [s[k]]).length = xs.length + 1 by simp] at h9; exact h9, HB1.out⟩
        case measure => simp [intOf]; omega
    · obtain rfl : k = s.size := by omega
      have ht : s.data.toList.take s.size = s.data.toList := by rw [← hsl]; exact List.take_length
      rw [ht] at HO hlen
      have HP := Lib.hid (show partL 3 n s = (4 :: escL s.data.toList) ++ [0, 0] by simp [partL, strN])
      rw [ht]
      generalize (4 :: escL s.data.toList) = xs at *
      obtain ⟨L, hL⟩ : ∃ L, L = xs ++ [0, 0] := ⟨_, rfl⟩
      rw [← hL] at HP
      have hpos : 0 < L.length := by rw [hL, List.length_append]; simp
      have hLl : L.length ≤ 2000003 := by rw [hL, List.length_append]; simp only [List.length_cons, List.length_nil]; omega
      have HL := Lib.hid hL
      have HRZ := Lib.hid (rd_newP wr [0, 0])
      clear hL ht
      cases d
      · go_wp2_with (at_builtin; refine wpList_appB rfl (.tmp 56) (.tmp 57) rfl (w.heap.size + 1) (.slice A5 xs.length c5) xs rfl (HO.out.alloc _) (some ⟨wr.heap.size, 0, none⟩) 2 [0, 0] 2 rfl rfl HRZ.out (by simp; omega) (by simp; omega) ?_; intro v1 w1 ho1 hb1'; rw [← HL.out] at ho1; have HO := Lib.hid ho1; have HB := Lib.hid ((HBW.out.alloc (by omega) _).trans hb1'); obtain ⟨A1, c, rfl, _, _, _⟩ := ho1.form; obtain ⟨g, rfl⟩ := own_some ho1 hpos; obtain ⟨hd0, hd1, hd2⟩ := box_at w w1 3 n s HB.out; clear ho1 hb1')
        go_ret
        refine ⟨_, rfl, ?_, below_box _ HB.out⟩
        show Own _ _ _ (turnL 0 _)
        rw [turn0, HP.out]
        exact HO.out.mono (by omega)
      · go_wp2_with (at_builtin; refine wpList_appB rfl (.tmp 56) (.tmp 57) rfl (w.heap.size + 1) (.slice A5 xs.length c5) xs rfl (HO.out.alloc _) (some ⟨wr.heap.size, 0, none⟩) 2 [0, 0] 2 rfl rfl HRZ.out (by simp; omega) (by simp; omega) ?_; intro v1 w1 ho1 hb1'; rw [← HL.out] at ho1; have HO := Lib.hid ho1; have HB := Lib.hid ((HBW.out.alloc (by omega) _).trans hb1'); obtain ⟨A1, c, rfl, _, _, _⟩ := ho1.form; obtain ⟨g, rfl⟩ := own_some ho1 hpos; obtain ⟨hd0, hd1, hd2⟩ := box_at w w1 3 n s HB.out; clear ho1 hb1')
        obtain ⟨wt, rfl⟩ : ∃ wt, wt = w1 := ⟨_, rfl⟩
        clear hd0 hd1 hd2 hb0 hb1 hb2
        go_loopw [7] (fun i wr => TurnRelP (w.heap.size + 1) g c wt L i wr) (fun i _ => L.length - (intOf i).toNat)
        case atStart => exact ⟨0, Nat.zero_le _, rfl, by rw [halfT_zero]; exact HO.out, Below.refl _ _⟩
        case round =>
          obtain ⟨j, hj, rfl, ho, hbw⟩ := hrel
          by_cases hlt : j < L.length
          · have hlt' : j < L.length := hlt
            obtain ⟨_, hgb, _, _, _, hat⟩ := ho.cells
            obtain ⟨hc, hf⟩ := hat j _ (halfT_get L j hlt')
            have HS := Lib.hid (ho.set j (L[j] ^^^ 255))
            rw [halfT_set L j hlt'] at HS
            have hji : (j : Int) < (L.length : Nat) := by omega
            have ht := turn255 L[j]
            have hcl := (L[j]).toNat_lt
            unfold b8 at hc HS
            generalize L[j] = u at *
            generalize (u ^^^ 255) = u' at *
            have HT := Lib.hid ht
            clear hat ho ht
            go_wp2_with fail
            refine ⟨⟨j + 1, by omega, by go_num, by first | exact HS.out | (rw [HT.out]; exact HS.out), hbw.setCell hgb _⟩, by simp [intOf]; omega⟩
          · obtain rfl : j = L.length := by omega
            have he : halfT L L.length = turnL 255 L := halfT_end L
            rw [he] at ho
            have HO2 := Lib.hid ho
            clear ho he
            go_wp2_with fail
            go_ret
            exact ⟨_, rfl, by show Own _ _ _ (turnL 255 _); rw [HP.out]; have := HO2.out.mono (show w.heap.size ≤ w.heap.size + 1 by omega); exact this, below_box _ (HB.out.trans hbw)⟩
end Go.Proofs.Ytcpmfagnnidodaa
