/-
  The document's own part of a key (layer 3, record). Conditions: kinds that there are, strings of at most a million bytes.
  The document's own Key (layer 3, record). Conditions: sizes as stated; a row that is right has a key of at most a megabyte.
  The document's own Put (layer 3, record). Conditions: sizes as stated; a row that is right is at most a megabyte.
-/
import Derived.Test.YtdhdfeiobjmdaaaRRefA
import Derived.Test.YtdhdfeiobjmdaaaRBackW
import Derived.Test.YtdhdfeiobjmdaaaRRef
namespace Go.Proofs.Ytdhdfeiobjmdaaa
open Go.ChangeShapes Go.WideShapes Go.ChangeAt Go.RowKit
set_option linter.unusedVariables false

theorem below_box {w wr : World} (o : Obj) (h : Below (w.heap.size + 1) (w.alloc o) wr) : Below w.heap.size w wr := ((Below.refl _ _).alloc (Nat.le_refl _) o).trans (h.mono (by omega))
theorem own_some {w : World} {base n c : Nat} {A : Option Addr} {l : List UInt8} (h : Own w base (.slice A n c) l) (hl : 0 < l.length) : ∃ g, A = some ⟨g, 0, none⟩ := by
  obtain ⟨h1, h2⟩ := h
  rcases h2 with ⟨_, h0⟩ | ⟨g, cap, cur, hv, _⟩
  · omega
  · simp only [Value.slice.injEq] at hv
    exact ⟨g, hv.1⟩
theorem rd_newP (X : World) (l : List UInt8) : Rd (X.alloc (.cells (bs l).toArray 5)) (X.alloc (.cells (bs l).toArray 5)).heap.size (some ⟨X.heap.size, 0, none⟩) l := by
  intro _
  refine ⟨_, rfl, by simp, fun j u hu => ?_⟩
  have ha : ((⟨X.heap.size, 0, none⟩ : Addr).add j) = ⟨X.heap.size, j, none⟩ := by
    unfold Addr.add
    by_cases hj0 : j = 0 <;> simp [hj0]
  rw [ha]
  simp only [World.cell?, heap_alloc_new]
  have : (bs l)[j]? = some (b8 u) := by rw [bs_getElem?, hu]; rfl
  simpa using this
theorem box_at (w wr : World) (k n : Int) (s : ByteArray) (h : Below (w.heap.size + 1) (w.alloc (box k n s)) wr) : wr.cell? ⟨w.heap.size, 0, none⟩ = some (.int .u8 k) ∧ wr.cell? ⟨w.heap.size, 1, none⟩ = some (.int .i64 n) ∧ wr.cell? ⟨w.heap.size, 2, none⟩ = some (.string s) := by
  refine ⟨(h.cell (p := ⟨_, _, _⟩) (by simp)).trans ?_, (h.cell (p := ⟨_, _, _⟩) (by simp)).trans ?_, (h.cell (p := ⟨_, _, _⟩) (by simp)).trans ?_⟩ <;> simp [go_sem]

set_option maxRecDepth 100000 in
theorem refPart0 (n : Int) (s : ByteArray) (d : Bool) (w : World) : Calls Try.prog 69 #[vv 0 n s, .bool d] w (PartRet 0 n s d w) := by
  have HO := Lib.hid (own_built (w.alloc (box 0 n s)) (w.heap.size + 1) [1] 1 rfl (by simp) (by simp [maxLen]))
  have HB := Lib.hid (show Below (w.heap.size + 1) (w.alloc (box 0 n s)) ((w.alloc (box 0 n s)).alloc (.cells #[.int .u8 1] 5)) from (Below.refl _ _).alloc (by simp) _)
  have hsz : (w.alloc (box 0 n s)).heap.size = w.heap.size + 1 := by simp
  rw [hsz] at HO
  have HO2 := Lib.hid (own_built (w.alloc (box 0 n s)) (w.heap.size + 1) [254] 1 rfl (by simp) (by simp [maxLen]))
  rw [hsz] at HO2
  have HB2 := Lib.hid (show Below (w.heap.size + 1) (w.alloc (box 0 n s)) ((w.alloc (box 0 n s)).alloc (.cells #[.int .u8 254] 5)) from (Below.refl _ _).alloc (by simp) _)
  clear hsz
  go_enter Try.func69, Try.ntmps69
  cases d
  · go_wp2_with fail
    go_ret
    exact ⟨_, rfl, by show Own _ _ _ (turnL 0 _); rw [turn0]; exact HO.out.mono (by omega), below_box _ HB.out⟩
  · go_wp2_with fail
    go_loopw [7] (fun i wr => (i = .int .i64 0 ∧ wr = ((w.alloc (box 0 n s)).alloc (.cells #[.int .u8 1] 5))) ∨ (i = .int .i64 1 ∧ wr = ((w.alloc (box 0 n s)).alloc (.cells #[.int .u8 254] 5)))) (fun i _ => 1 - (intOf i).toNat)
    case atStart => exact .inl ⟨rfl, rfl⟩
    case round =>
      rcases hrel with ⟨rfl, rfl⟩ | ⟨rfl, rfl⟩
      · go_wp2_with fail
        exact ⟨.inr ⟨rfl, by first | trivial | rfl⟩, by simp [intOf]⟩
      · go_wp2_with fail
        go_ret
        exact ⟨_, rfl, HO2.out.mono (by omega), below_box _ HB2.out⟩

set_option maxRecDepth 100000 in
theorem refPart1 (n : Int) (s : ByteArray) (d : Bool) (w : World) (hn : In64 n) : Calls Try.prog 69 #[vv 1 n s, .bool d] w (PartRet 1 n s d w) := by
  obtain ⟨u, r, hu, hi⟩ := int_part n hn
  have HN := Lib.hid hn
  have hr9 : ([2] ++ beN (u64N n) 8).length = 9 := by rw [List.length_append, beN_length]; rfl
  have hset : ([2] ++ beN (u64N n) 8).set 1 (u ^^^ 128) = partL 1 n s := by rw [hu]; simp [partL, hi]
  have hget : ([2] ++ beN (u64N n) 8)[1]? = some u := by rw [hu]; rfl
  have HU := Lib.hid hu
  have HSET := Lib.hid hset
  have HGET := Lib.hid hget
  clear hu hi hset hget hn
  go_enter Try.func69, Try.ntmps69
  go_wp2_with fail
  refine (refNumber_any n 8 _ HN.out (by omega)).mono ?_
  rintro e w1 ⟨A1, c1, rfl, hr1, hc1, hc2, hb1⟩
  rw [beN_length]
  have HR1 := Lib.hid hr1
  have hs1 := hb1.size
  simp only [World.size_alloc] at hs1
  have HO1 := Lib.hid ((own_built (w.alloc (box 1 n s)) (w.heap.size + 1) [2] 1 rfl (by simp) (by simp [maxLen])).below hb1)
  have hsz : (w.alloc (box 1 n s)).heap.size = w.heap.size + 1 := by simp
  rw [hsz] at HO1
  clear hsz
  have HB1 := Lib.hid (((Below.refl (w.heap.size + 1) (w.alloc (box 1 n s))).alloc (by simp) (.cells #[.int .u8 2] 5)).trans (hb1.mono (by simp)))
  clear hr1 hc1 hc2 hb1
  obtain ⟨L, hL⟩ : ∃ L, L = partL 1 n s := ⟨_, rfl⟩
  have HP := Lib.hid hL.symm
  have HLN := Lib.hid (show L.length = 9 by rw [hL, ← HSET.out, List.length_set, hr9])
  have HX := Lib.hid (show bits .xor .u8 (u.toNat : Int) 128 = ((u ^^^ 128).toNat : Int) by have := u8_xor_nat u.toNat 128 u.toNat_lt (by omega); rw [UInt8.toNat_xor]; exact this)
  clear hL
  cases d
  · go_wp2_with (at_builtin; refine wpList_appBG rfl (.tmp 15) (.tmp 18) rfl (w.heap.size + 1) (.slice (some ⟨w.heap.size + 1, 0, none⟩) 1 1) [2] rfl HO1.out A1 c1 8 (beN (u64N n) 8) (by rw [beN_length]) rfl HR1.out (by rw [beN_length]; simp) (by omega) ?_; intro v2 w2 ho2 hg2; have HW2 := Lib.hid (HB1.out.grown hg2 (by omega) fun g hg => (HO1.out.lt g hg).1); obtain ⟨A2, c, rfl, _, _, _⟩ := ho2.form; obtain ⟨g, rfl⟩ := own_some ho2 (by omega); rw [hr9]; have HO2 := Lib.hid ho2; have hat := (ho2.cells.2.2.2.2.2 1 u HGET.out); obtain ⟨hc2, hf2⟩ := hat; unfold b8 at hc2; obtain ⟨hb0, hb1, hb2⟩ := box_at w w2 1 n s HW2.out; clear ho2 hg2)
    have HO := Lib.hid (show Own (w2.setCell ⟨g, 1, none⟩ (.int .u8 ((u ^^^ 128).toNat : Int))) (w.heap.size + 1) (.slice (some ⟨g, 0, none⟩) ([2] ++ beN (u64N n) 8).length c) L by rw [← HP.out, ← HSET.out]; exact HO2.out.set 1 (u ^^^ 128))
    have HB := Lib.hid (show Below (w.heap.size + 1) (w.alloc (box 1 n s)) (w2.setCell ⟨g, 1, none⟩ (.int .u8 ((u ^^^ 128).toNat : Int))) from HW2.out.setCell (HO2.out.cells.2.1) _)
    rw [HX.out]
    go_ret
    refine ⟨_, rfl, ?_, below_box _ HB.out⟩
    show Own _ _ _ (turnL 0 _)
    rw [turn0, HP.out]
    have := HO.out.mono (show w.heap.size ≤ w.heap.size + 1 by omega)
    rw [hr9] at this
    exact this
  · go_wp2_with (at_builtin; refine wpList_appBG rfl (.tmp 15) (.tmp 18) rfl (w.heap.size + 1) (.slice (some ⟨w.heap.size + 1, 0, none⟩) 1 1) [2] rfl HO1.out A1 c1 8 (beN (u64N n) 8) (by rw [beN_length]) rfl HR1.out (by rw [beN_length]; simp) (by omega) ?_; intro v2 w2 ho2 hg2; have HW2 := Lib.hid (HB1.out.grown hg2 (by omega) fun g hg => (HO1.out.lt g hg).1); obtain ⟨A2, c, rfl, _, _, _⟩ := ho2.form; obtain ⟨g, rfl⟩ := own_some ho2 (by omega); rw [hr9]; have HO2 := Lib.hid ho2; have hat := (ho2.cells.2.2.2.2.2 1 u HGET.out); obtain ⟨hc2, hf2⟩ := hat; unfold b8 at hc2; obtain ⟨hb0, hb1, hb2⟩ := box_at w w2 1 n s HW2.out; clear ho2 hg2)
    have HO := Lib.hid (show Own (w2.setCell ⟨g, 1, none⟩ (.int .u8 ((u ^^^ 128).toNat : Int))) (w.heap.size + 1) (.slice (some ⟨g, 0, none⟩) ([2] ++ beN (u64N n) 8).length c) L by rw [← HP.out, ← HSET.out]; exact HO2.out.set 1 (u ^^^ 128))
    have HB := Lib.hid (show Below (w.heap.size + 1) (w.alloc (box 1 n s)) (w2.setCell ⟨g, 1, none⟩ (.int .u8 ((u ^^^ 128).toNat : Int))) from HW2.out.setCell (HO2.out.cells.2.1) _)
    rw [HX.out]
    obtain ⟨wt, hwt⟩ : ∃ wt, wt = w2.setCell ⟨g, 1, none⟩ (.int .u8 ((u ^^^ 128).toNat : Int)) := ⟨_, rfl⟩
    rw [← hwt]
    rw [← hwt] at HO HB
    have hL9 : ([2] ++ beN (u64N n) 8 : List UInt8).length = L.length := by rw [HLN.out, hr9]
    have ho := HO.out
    rw [hL9] at ho
    clear HO
    have HO := Lib.hid ho
    clear ho hwt hL9 hc2 hf2 hb0 hb1 hb2
    go_loopw [7] (fun i wr => TurnRelP (w.heap.size + 1) g c wt L i wr) (fun i _ => 9 - (intOf i).toNat)
    case atStart => exact ⟨0, Nat.zero_le _, rfl, by rw [halfT_zero]; exact HO.out, Below.refl _ _⟩
    case round =>
      obtain ⟨j, hj, rfl, ho, hbw⟩ := hrel
      rw [HLN.out] at hj
      by_cases hlt : j < 9
      · have hlt' : j < L.length := by rw [HLN.out]; exact hlt
        obtain ⟨_, hgb, _, _, _, hat⟩ := ho.cells
        obtain ⟨hc, hf⟩ := hat j _ (halfT_get L j hlt')
        have HS := Lib.hid (ho.set j (L[j] ^^^ 255))
        rw [halfT_set L j hlt'] at HS
        have hji : (j : Int) < (9 : Nat) := by omega
        have ht := turn255 L[j]
        have hcl := (L[j]).toNat_lt
        unfold b8 at hc HS
        generalize L[j] = u at *
        generalize (u ^^^ 255) = u' at *
        have HT := Lib.hid ht
        clear hat ho ht
        go_wp2_with fail
        refine ⟨⟨j + 1, by rw [HLN.out]; omega, by go_num, by first | exact HS.out | (rw [HT.out]; exact HS.out), hbw.setCell hgb _⟩, by simp [intOf]; omega⟩
      · obtain rfl : j = 9 := by omega
        have he : halfT L 9 = turnL 255 L := by rw [← HLN.out]; exact halfT_end L
        rw [he] at ho
        have HO2 := Lib.hid ho
        clear ho he
        go_wp2_with fail
        go_ret
        exact ⟨_, rfl, by show Own _ _ _ (turnL 255 _); rw [HP.out]; have := HO2.out.mono (show w.heap.size ≤ w.heap.size + 1 by omega); rw [HLN.out] at this; exact this, below_box _ (HB.out.trans hbw)⟩

set_option maxRecDepth 100000 in
set_option maxHeartbeats 800000 in
theorem refPart2 (n : Int) (s : ByteArray) (d : Bool) (w : World) (hs : s.size ≤ 1000000) : Calls Try.prog 69 #[vv 2 n s, .bool d] w (PartRet 2 n s d w) := by
  have hsl : s.data.toList.length = s.size := by rcases s with ⟨⟨l⟩⟩; rfl
  have HO0 := Lib.hid (own_built (w.alloc (box 2 n s)) (w.heap.size + 1) [3] 1 rfl (by simp) (by simp [maxLen]))
  have hsz : (w.alloc (box 2 n s)).heap.size = w.heap.size + 1 := by simp
  rw [hsz] at HO0
  clear hsz
  have HB0 := Lib.hid (show Below (w.heap.size + 1) (w.alloc (box 2 n s)) ((w.alloc (box 2 n s)).alloc (.cells #[.int .u8 3] 5)) from (Below.refl _ _).alloc (by simp) _)
  go_enter Try.func69, Try.ntmps69
  go_wp2_with fail
  go_loopw [5, 6] (fun v i wr => StrRelP (w.heap.size + 1) (w.alloc (box 2 n s)) s.data.toList 3 v i wr) (fun _ i _ => s.size - (intOf i).toNat)
  case atStart => exact ⟨0, Nat.zero_le _, rfl, HO0.out, HB0.out⟩
  case round =>
    obtain ⟨k, hk, rfl, ho, hb⟩ := hrel
    rw [hsl] at hk
    have hszb := hb.size
    simp only [World.size_alloc] at hszb
    have hlen : (3 :: escL (s.data.toList.take k)).length ≤ 2000001 := by
      have h1 := escL_len (s.data.toList.take k)
      rw [List.length_cons]
      rw [List.length_take] at h1
      omega
    obtain ⟨hb0, hb1, hb2⟩ := box_at w wr 2 n s hb
    have HBW := Lib.hid hb
    have HO := Lib.hid ho
    obtain ⟨A5, c5, rfl, _, _, _⟩ := ho.form
    clear hb ho
    by_cases hlt : k < s.size
    · have hg := getU s k hlt
      have he := escL_take hg
      clear hg
      have hki : (k : Int) < s.size := by omega
      have HEQ := Lib.hid (show (3 :: escL (s.data.toList.take (k + 1))) = (3 :: escL (s.data.toList.take k)) ++ esc s[k] by rw [he]; rfl)
      generalize (3 :: escL (s.data.toList.take k)) = xs at *
      have hcl := (s[k]).toNat_lt
      clear he
      by_cases hc : s[k] = 0
      · have HES := Lib.hid (show esc s[k] = [s[k]] ++ [255] by simp [esc, hc])
        have hc' : ((s[k].toNat : Int) == 0) = true := by rw [hc]; rfl
        clear hc
        go_wp2_with (first
          | (at_builtin; refine wpList_app1 rfl (.tmp 41) (.tmp 46) rfl (w.heap.size + 1) (.slice A5 xs.length c5) xs rfl HO.out _ s[k] rfl rfl (by omega) (by omega) ?_; intro v1 w1 ho1 hb1'; have HO1 := Lib.hid ho1; have HB1 := Lib.hid (HBW.out.trans hb1'); have hs1 := hb1'.size; obtain ⟨A1, c1, rfl, _, _, _⟩ := ho1.form; obtain ⟨hd0, hd1, hd2⟩ := box_at w w1 2 n s HB1.out; clear ho1 hb1'; have hyl : (xs ++ [s[k]]).length ≤ 2000002 := (by rw [List.length_append]; simp only [List.length_singleton]; omega); generalize hys : xs ++ [s[k]] = ys at *; have HYS := Lib.hid hys; clear hys)
          | (at_builtin; refine wpList_app1 rfl (.tmp 53) (.tmp 54) rfl (w.heap.size + 1) (.slice A1 ys.length c1) ys rfl HO1.out 255 255 rfl rfl (by omega) (by omega) ?_; intro v2 w2 ho2 hb2'; have HO2 := Lib.hid ho2; have HB2 := Lib.hid (HB1.out.trans hb2'); clear ho2 hb2'))
        go_roundw
        case rel => exact ⟨k + 1, by rw [hsl]; omega, by go_num, by rw [HEQ.out, HES.out, ← List.append_assoc, HYS.out]; exact HO2.out, HB2.out⟩
        case measure => simp [intOf]; omega
      · have HES := Lib.hid (show esc s[k] = [s[k]] by simp [esc, hc])
        have hc' : ((s[k].toNat : Int) == 0) = false := by
          rw [beq_eq_false_iff_ne]
          intro e
          exact hc (UInt8.toNat_inj.1 (by have h0 : (0 : UInt8).toNat = 0 := rfl; omega))
        clear hc
        go_wp2_with (at_builtin; refine wpList_app1 rfl (.tmp 41) (.tmp 46) rfl (w.heap.size + 1) (.slice A5 xs.length c5) xs rfl HO.out _ s[k] rfl rfl (by omega) (by omega) ?_; intro v1 w1 ho1 hb1'; have HO1 := Lib.hid ho1; have HB1 := Lib.hid (HBW.out.trans hb1'); have hs1 := hb1'.size; obtain ⟨A1, c1, rfl, _, _, _⟩ := ho1.form; obtain ⟨hd0, hd1, hd2⟩ := box_at w w1 2 n s HB1.out; clear ho1 hb1')
        go_roundw
        case rel => exact ⟨k + 1, by rw [hsl]; omega, by go_num, by rw [HEQ.out, HES.out]; have h9 := HO1.out; rw [show (xs ++ [s[k]]).length = xs.length + 1 by simp] at h9; exact h9, HB1.out⟩
        case measure => simp [intOf]; omega
    · obtain rfl : k = s.size := by omega
      have ht : s.data.toList.take s.size = s.data.toList := by rw [← hsl]; exact List.take_length
      rw [ht] at HO hlen
      have HP := Lib.hid (show partL 2 n s = (3 :: escL s.data.toList) ++ [0, 0] by simp [partL, strN])
      rw [ht]
      generalize (3 :: escL s.data.toList) = xs at *
      obtain ⟨L, hL⟩ : ∃ L, L = xs ++ [0, 0] := ⟨_, rfl⟩
      rw [← hL] at HP
      have hpos : 0 < L.length := by rw [hL, List.length_append]; simp
      have hLl : L.length ≤ 2000003 := by rw [hL, List.length_append]; simp only [List.length_cons, List.length_nil]; omega
      have HL := Lib.hid hL
      have HRZ := Lib.hid (rd_newP wr [0, 0])
      clear hL ht
      cases d
      · go_wp2_with (at_builtin; refine wpList_appB rfl (.tmp 56) (.tmp 57) rfl (w.heap.size + 1) (.slice A5 xs.length c5) xs rfl (HO.out.alloc _) (some ⟨wr.heap.size, 0, none⟩) 2 [0, 0] 2 rfl rfl HRZ.out (by simp; omega) (by simp; omega) ?_; intro v1 w1 ho1 hb1'; rw [← HL.out] at ho1; have HO := Lib.hid ho1; have HB := Lib.hid ((HBW.out.alloc (by omega) _).trans hb1'); obtain ⟨A1, c, rfl, _, _, _⟩ := ho1.form; obtain ⟨g, rfl⟩ := own_some ho1 hpos; obtain ⟨hd0, hd1, hd2⟩ := box_at w w1 2 n s HB.out; clear ho1 hb1')
        go_ret
        refine ⟨_, rfl, ?_, below_box _ HB.out⟩
        show Own _ _ _ (turnL 0 _)
        rw [turn0, HP.out]
        exact HO.out.mono (by omega)
      · go_wp2_with (at_builtin; refine wpList_appB rfl (.tmp 56) (.tmp 57) rfl (w.heap.size + 1) (.slice A5 xs.length c5) xs rfl (HO.out.alloc _) (some ⟨wr.heap.size, 0, none⟩) 2 [0, 0] 2 rfl rfl HRZ.out (by simp; omega) (by simp; omega) ?_; intro v1 w1 ho1 hb1'; rw [← HL.out] at ho1; have HO := Lib.hid ho1; have HB := Lib.hid ((HBW.out.alloc (by omega) _).trans hb1'); obtain ⟨A1, c, rfl, _, _, _⟩ := ho1.form; obtain ⟨g, rfl⟩ := own_some ho1 hpos; obtain ⟨hd0, hd1, hd2⟩ := box_at w w1 2 n s HB.out; clear ho1 hb1')
        obtain ⟨wt, rfl⟩ : ∃ wt, wt = w1 := ⟨_, rfl⟩
        clear hd0 hd1 hd2 hb0 hb1 hb2
        go_loopw [7] (fun i wr => TurnRelP (w.heap.size + 1) g c wt L i wr) (fun i _ => L.length - (intOf i).toNat)
        case atStart => exact ⟨0, Nat.zero_le _, rfl, by rw [halfT_zero]; exact HO.out, Below.refl _ _⟩
        case round =>
          obtain ⟨j, hj, rfl, ho, hbw⟩ := hrel
          by_cases hlt : j < L.length
          · have hlt' : j < L.length := hlt
            obtain ⟨_, hgb, _, _, _, hat⟩ := ho.cells
            obtain ⟨hc, hf⟩ := hat j _ (halfT_get L j hlt')
            have HS := Lib.hid (ho.set j (L[j] ^^^ 255))
            rw [halfT_set L j hlt'] at HS
            have hji : (j : Int) < (L.length : Nat) := by omega
            have ht := turn255 L[j]
            have hcl := (L[j]).toNat_lt
            unfold b8 at hc HS
            generalize L[j] = u at *
            generalize (u ^^^ 255) = u' at *
            have HT := Lib.hid ht
            clear hat ho ht
            go_wp2_with fail
            refine ⟨⟨j + 1, by omega, by go_num, by first | exact HS.out | (rw [HT.out]; exact HS.out), hbw.setCell hgb _⟩, by simp [intOf]; omega⟩
          · obtain rfl : j = L.length := by omega
            have he : halfT L L.length = turnL 255 L := halfT_end L
            rw [he] at ho
            have HO2 := Lib.hid ho
            clear ho he
            go_wp2_with fail
            go_ret
            exact ⟨_, rfl, by show Own _ _ _ (turnL 255 _); rw [HP.out]; have := HO2.out.mono (show w.heap.size ≤ w.heap.size + 1 by omega); exact this, below_box _ (HB.out.trans hbw)⟩

set_option maxRecDepth 100000 in
set_option maxHeartbeats 800000 in
theorem refPart3 (n : Int) (s : ByteArray) (d : Bool) (w : World) (hs : s.size ≤ 1000000) : Calls Try.prog 69 #[vv 3 n s, .bool d] w (PartRet 3 n s d w) := by
  have hsl : s.data.toList.length = s.size := by rcases s with ⟨⟨l⟩⟩; rfl
  have HO0 := Lib.hid (own_built (w.alloc (box 3 n s)) (w.heap.size + 1) [4] 1 rfl (by simp) (by simp [maxLen]))
  have hsz : (w.alloc (box 3 n s)).heap.size = w.heap.size + 1 := by simp
  rw [hsz] at HO0
  clear hsz
  have HB0 := Lib.hid (show Below (w.heap.size + 1) (w.alloc (box 3 n s)) ((w.alloc (box 3 n s)).alloc (.cells #[.int .u8 4] 5)) from (Below.refl _ _).alloc (by simp) _)
  go_enter Try.func69, Try.ntmps69
  go_wp2_with fail
  go_loopw [5, 6] (fun v i wr => StrRelP (w.heap.size + 1) (w.alloc (box 3 n s)) s.data.toList 4 v i wr) (fun _ i _ => s.size - (intOf i).toNat)
  case atStart => exact ⟨0, Nat.zero_le _, rfl, HO0.out, HB0.out⟩
  case round =>
    obtain ⟨k, hk, rfl, ho, hb⟩ := hrel
    rw [hsl] at hk
    have hszb := hb.size
    simp only [World.size_alloc] at hszb
    have hlen : (4 :: escL (s.data.toList.take k)).length ≤ 2000001 := by
      have h1 := escL_len (s.data.toList.take k)
      rw [List.length_cons]
      rw [List.length_take] at h1
      omega
    obtain ⟨hb0, hb1, hb2⟩ := box_at w wr 3 n s hb
    have HBW := Lib.hid hb
    have HO := Lib.hid ho
    obtain ⟨A5, c5, rfl, _, _, _⟩ := ho.form
    clear hb ho
    by_cases hlt : k < s.size
    · have hg := getU s k hlt
      have he := escL_take hg
      clear hg
      have hki : (k : Int) < s.size := by omega
      have HEQ := Lib.hid (show (4 :: escL (s.data.toList.take (k + 1))) = (4 :: escL (s.data.toList.take k)) ++ esc s[k] by rw [he]; rfl)
      generalize (4 :: escL (s.data.toList.take k)) = xs at *
      have hcl := (s[k]).toNat_lt
      clear he
      by_cases hc : s[k] = 0
      · have HES := Lib.hid (show esc s[k] = [s[k]] ++ [255] by simp [esc, hc])
        have hc' : ((s[k].toNat : Int) == 0) = true := by rw [hc]; rfl
        clear hc
        go_wp2_with (first
          | (at_builtin; refine wpList_app1 rfl (.tmp 41) (.tmp 46) rfl (w.heap.size + 1) (.slice A5 xs.length c5) xs rfl HO.out _ s[k] rfl rfl (by omega) (by omega) ?_; intro v1 w1 ho1 hb1'; have HO1 := Lib.hid ho1; have HB1 := Lib.hid (HBW.out.trans hb1'); have hs1 := hb1'.size; obtain ⟨A1, c1, rfl, _, _, _⟩ := ho1.form; obtain ⟨hd0, hd1, hd2⟩ := box_at w w1 3 n s HB1.out; clear ho1 hb1'; have hyl : (xs ++ [s[k]]).length ≤ 2000002 := (by rw [List.length_append]; simp only [List.length_singleton]; omega); generalize hys : xs ++ [s[k]] = ys at *; have HYS := Lib.hid hys; clear hys)
          | (at_builtin; refine wpList_app1 rfl (.tmp 53) (.tmp 54) rfl (w.heap.size + 1) (.slice A1 ys.length c1) ys rfl HO1.out 255 255 rfl rfl (by omega) (by omega) ?_; intro v2 w2 ho2 hb2'; have HO2 := Lib.hid ho2; have HB2 := Lib.hid (HB1.out.trans hb2'); clear ho2 hb2'))
        go_roundw
        case rel => exact ⟨k + 1, by rw [hsl]; omega, by go_num, by rw [HEQ.out, HES.out, ← List.append_assoc, HYS.out]; exact HO2.out, HB2.out⟩
        case measure => simp [intOf]; omega
      · have HES := Lib.hid (show esc s[k] = [s[k]] by simp [esc, hc])
        have hc' : ((s[k].toNat : Int) == 0) = false := by
          rw [beq_eq_false_iff_ne]
          intro e
          exact hc (UInt8.toNat_inj.1 (by have h0 : (0 : UInt8).toNat = 0 := rfl; omega))
        clear hc
        go_wp2_with (at_builtin; refine wpList_app1 rfl (.tmp 41) (.tmp 46) rfl (w.heap.size + 1) (.slice A5 xs.length c5) xs rfl HO.out _ s[k] rfl rfl (by omega) (by omega) ?_; intro v1 w1 ho1 hb1'; have HO1 := Lib.hid ho1; have HB1 := Lib.hid (HBW.out.trans hb1'); have hs1 := hb1'.size; obtain ⟨A1, c1, rfl, _, _, _⟩ := ho1.form; obtain ⟨hd0, hd1, hd2⟩ := box_at w w1 3 n s HB1.out; clear ho1 hb1')
        go_roundw
        case rel => exact ⟨k + 1, by rw [hsl]; omega, by go_num, by rw [HEQ.out, HES.out]; have h9 := HO1.out; rw [show (xs ++ [s[k]]).length = xs.length + 1 by simp] at h9; exact h9, HB1.out⟩
        case measure => simp [intOf]; omega
    · obtain rfl : k = s.size := by omega
      have ht : s.data.toList.take s.size = s.data.toList := by rw [← hsl]; exact List.take_length
      rw [ht] at HO hlen
      have HP := Lib.hid (show partL 3 n s = (4 :: escL s.data.toList) ++ [0, 0] by simp [partL, strN])
      rw [ht]
      generalize (4 :: escL s.data.toList) = xs at *
      obtain ⟨L, hL⟩ : ∃ L, L = xs ++ [0, 0] := ⟨_, rfl⟩
      rw [← hL] at HP
      have hpos : 0 < L.length := by rw [hL, List.length_append]; simp
      have hLl : L.length ≤ 2000003 := by rw [hL, List.length_append]; simp only [List.length_cons, List.length_nil]; omega
      have HL := Lib.hid hL
      have HRZ := Lib.hid (rd_newP wr [0, 0])
      clear hL ht
      cases d
      · go_wp2_with (at_builtin; refine wpList_appB rfl (.tmp 56) (.tmp 57) rfl (w.heap.size + 1) (.slice A5 xs.length c5) xs rfl (HO.out.alloc _) (some ⟨wr.heap.size, 0, none⟩) 2 [0, 0] 2 rfl rfl HRZ.out (by simp; omega) (by simp; omega) ?_; intro v1 w1 ho1 hb1'; rw [← HL.out] at ho1; have HO := Lib.hid ho1; have HB := Lib.hid ((HBW.out.alloc (by omega) _).trans hb1'); obtain ⟨A1, c, rfl, _, _, _⟩ := ho1.form; obtain ⟨g, rfl⟩ := own_some ho1 hpos; obtain ⟨hd0, hd1, hd2⟩ := box_at w w1 3 n s HB.out; clear ho1 hb1')
        go_ret
        refine ⟨_, rfl, ?_, below_box _ HB.out⟩
        show Own _ _ _ (turnL 0 _)
        rw [turn0, HP.out]
        exact HO.out.mono (by omega)
      · go_wp2_with (at_builtin; refine wpList_appB rfl (.tmp 56) (.tmp 57) rfl (w.heap.size + 1) (.slice A5 xs.length c5) xs rfl (HO.out.alloc _) (some ⟨wr.heap.size, 0, none⟩) 2 [0, 0] 2 rfl rfl HRZ.out (by simp; omega) (by simp; omega) ?_; intro v1 w1 ho1 hb1'; rw [← HL.out] at ho1; have HO := Lib.hid ho1; have HB := Lib.hid ((HBW.out.alloc (by omega) _).trans hb1'); obtain ⟨A1, c, rfl, _, _, _⟩ := ho1.form; obtain ⟨g, rfl⟩ := own_some ho1 hpos; obtain ⟨hd0, hd1, hd2⟩ := box_at w w1 3 n s HB.out; clear ho1 hb1')
        obtain ⟨wt, rfl⟩ : ∃ wt, wt = w1 := ⟨_, rfl⟩
        clear hd0 hd1 hd2 hb0 hb1 hb2
        go_loopw [7] (fun i wr => TurnRelP (w.heap.size + 1) g c wt L i wr) (fun i _ => L.length - (intOf i).toNat)
        case atStart => exact ⟨0, Nat.zero_le _, rfl, by rw [halfT_zero]; exact HO.out, Below.refl _ _⟩
        case round =>
          obtain ⟨j, hj, rfl, ho, hbw⟩ := hrel
          by_cases hlt : j < L.length
          · have hlt' : j < L.length := hlt
            obtain ⟨_, hgb, _, _, _, hat⟩ := ho.cells
            obtain ⟨hc, hf⟩ := hat j _ (halfT_get L j hlt')
            have HS := Lib.hid (ho.set j (L[j] ^^^ 255))
            rw [halfT_set L j hlt'] at HS
            have hji : (j : Int) < (L.length : Nat) := by omega
            have ht := turn255 L[j]
            have hcl := (L[j]).toNat_lt
            unfold b8 at hc HS
            generalize L[j] = u at *
            generalize (u ^^^ 255) = u' at *
            have HT := Lib.hid ht
            clear hat ho ht
            go_wp2_with fail
            refine ⟨⟨j + 1, by omega, by go_num, by first | exact HS.out | (rw [HT.out]; exact HS.out), hbw.setCell hgb _⟩, by simp [intOf]; omega⟩
          · obtain rfl : j = L.length := by omega
            have he : halfT L L.length = turnL 255 L := halfT_end L
            rw [he] at ho
            have HO2 := Lib.hid ho
            clear ho he
            go_wp2_with fail
            go_ret
            exact ⟨_, rfl, by show Own _ _ _ (turnL 255 _); rw [HP.out]; have := HO2.out.mono (show w.heap.size ≤ w.heap.size + 1 by omega); exact this, below_box _ (HB.out.trans hbw)⟩
end Go.Proofs.Ytdhdfeiobjmdaaa

namespace Go.Proofs.Ytdhdfeiobjmdaaa
open Go.ChangeShapes Go.WideShapes Go.ChangeAt Go.RowKit
set_option linter.unusedVariables false

theorem refPart_any (k n : Int) (s : ByteArray) (d : Bool) (w : World) (hk : k = 0 ∨ k = 1 ∨ k = 2 ∨ k = 3) (hn : In64 n) (hs : s.size ≤ 1000000) :
    Calls Try.prog 69 #[vv k n s, .bool d] w (RetOwn (turnL (turnU d) (partL k n s)) w) := by
  rcases hk with rfl | rfl | rfl | rfl
  · exact refPart0 n s d w
  · exact refPart1 n s d w hn
  · exact refPart2 n s d w hs
  · exact refPart3 n s d w hs

def RKeyRel (w : World) (vs : List Trip) (ds : List Bool) (v i : Value) (wr : World) : Prop :=
  ∃ k : Nat, k ≤ vs.length ∧ i = .int .i64 k ∧ Own wr w.heap.size v (keyL (vs.take k) (ds.take k)) ∧ Below w.heap.size w wr

theorem rt_kind {k n : Int} {s : ByteArray} (h : Rt k n s) : k = 0 ∨ k = 1 ∨ k = 2 ∨ k = 3 := by
  rcases h with h | h | h
  · exact .inl h.1
  · exact .inr (.inl h.1)
  · rcases h.1 with h | h
    · exact .inr (.inr (.inl h))
    · exact .inr (.inr (.inr h))

set_option maxRecDepth 100000 in
set_option maxHeartbeats 1600000 in
theorem refKey_ok (A : Option Addr) (cap : Nat) (vs : List Trip) (F : Option Addr) (fcap : Nat) (ds : List Bool) (w : World) (hR : RdR w w.heap.size A vs) (hF : RdF w w.heap.size F ds) (hl : vs.length ≤ 200) (hd : ds.length = vs.length) (hg : FineR vs) (hlen : (keyL vs ds).length ≤ 1048576) :
    Calls Try.prog 45 #[.slice A vs.length cap, .slice F ds.length fcap] w fun e w' => ∃ v, e = .returned (.tuple #[v, .int .i64 0]) ∧ Own w' w.heap.size v (keyL vs ds) ∧ Below w.heap.size w w' := by
  have HF := Lib.hid hg
  have hE := Lib.hid (show 0 = if 200 < vs.length then 3 else if vs.any pBad then 2 else 0 by rw [if_neg (by omega), hg.bad]; rfl)
  have HSZ := Lib.hid (show ∀ t ∈ vs, t.2.2.size ≤ 65536 from fun t ht => rt_size (HF.out t ht).1)
  have hne : ((ds.length : Int) != vs.length) = false := by rw [hd]; simp
  have HD := Lib.hid hd
  have hd1 : ds.length ≤ vs.length := by omega
  have hd2 : vs.length ≤ ds.length := by omega
  have HLEN := Lib.hid hlen
  clear hg hlen hd
  go_enter Try.func45, Try.ntmps45
  go_wp2_with fail
  refine (refRow_any A cap vs w hR (by omega) (fun t ht => by have := HSZ.out t ht; omega) 0 hE).mono ?_
  rintro e w1 ⟨rfl, hb1⟩
  go_wp2_with fail
  go_loopw [7, 8] (fun v i wr => RKeyRel w vs ds v i wr) (fun _ i _ => vs.length - (intOf i).toNat)
  case atStart => exact ⟨0, by omega, rfl, World.ownsRow_nil _ _ _ _, hb1⟩
  case round =>
    obtain ⟨k, hk, rfl, ho, hbw⟩ := hrel
    have hszw := hbw.size
    by_cases hlt : k < vs.length
    · have hlt2 : k < ds.length := by omega
      have hget : vs[k]? = some vs[k] := List.getElem?_eq_getElem hlt
      have hget2 : ds[k]? = some ds[k] := List.getElem?_eq_getElem hlt2
      obtain ⟨ad, rfl, hal, hcs⟩ := (hR.below hbw) (by omega)
      obtain ⟨ad2, rfl, hal2, hcs2⟩ := (hF.below hbw) (by omega)
      have hkl := keyL_len (vs.take k) (ds.take k) (fun t ht => HSZ.out t (List.mem_of_mem_take ht))
      have hlk : (vs.take k).length ≤ 200 := by rw [List.length_take]; omega
      obtain ⟨hrt, hn64⟩ := HF.out _ (List.mem_of_getElem? hget)
      generalize vs[k] = t at *
      generalize ds[k] = d at *
      obtain ⟨kk, n, s⟩ := t
      have hkeep : ∀ X : World, Below w.heap.size w X → X.cell? (ad.add (k * 3)) = some (.int .u8 kk) ∧ X.cell? ⟨(ad.add (k * 3)).block, (ad.add (k * 3)).off + 1, none⟩ = some (.int .i64 n) ∧ X.cell? ⟨(ad.add (k * 3)).block, (ad.add (k * 3)).off + 2, none⟩ = some (.string s) ∧ X.cell? (ad2.add k) = some (.bool d) := by
        intro X h
        obtain ⟨ad', e, _, hc⟩ := (hR.below h) (by omega)
        injection e with e
        subst e
        obtain ⟨ad'', e, _, hc'⟩ := (hF.below h) (by omega)
        injection e with e
        subst e
        obtain ⟨q0, q1, q2⟩ := hc k kk n s hget
        exact ⟨q0, q1, q2, hc' k d hget2⟩
      have HK := Lib.hid hkeep
      obtain ⟨c0, c1, c2⟩ := hcs k kk n s hget
      have c3 := hcs2 k d hget2
      have HT := Lib.hid (keyL_take hget hget2)
      have hki : (k : Int) < vs.length := by omega
      have hki2 : (k : Int) < ds.length := by omega
      have hss : s.size ≤ 65536 := rt_size hrt
      have HP := Lib.hid (fun W => refPart_any kk n s d W (rt_kind hrt) hn64 (by omega))
      have hpl := partL_len kk n s hss
      have hq : (keyL (vs.take k) (ds.take k)).length ≤ 26216000 := by have := Nat.mul_le_mul_left 131080 hlk; omega
      have HPL := Lib.hid (show (turnL (turnU d) (partL kk n s)).length ≤ 131080 by rw [turnL_length]; exact hpl)
      generalize turnL (turnU d) (partL kk n s) = m at *
      generalize keyL (vs.take k) (ds.take k) = xs at *
      have HO := Lib.hid ho
      have HBW := Lib.hid hbw
      clear hkeep hget hget2 hcs hcs2 hkl hrt hn64 hbw hpl ho
      go_wp2_with fail
      go_region_held3 (fun X => X.cell? (ad.add (k * 3)) = some (.int .u8 kk) ∧ X.cell? ⟨(ad.add (k * 3)).block, (ad.add (k * 3)).off + 1, none⟩ = some (.int .i64 n) ∧ X.cell? ⟨(ad.add (k * 3)).block, (ad.add (k * 3)).off + 2, none⟩ = some (.string s) ∧ X.cell? (ad2.add k) = some (.bool d))
        (first
          | exact HK.out _ HBW.out.drew
          | exact HK.out _ (HBW.out.drew.trans (HB7.out.mono HBW.out.size))
          | exact HK.out _ ((HBW.out.drew.trans (HB7.out.mono HBW.out.size)).grown HG8.out (HBW.out.drew.trans (HB7.out.mono HBW.out.size)).size fun g hg => (HO.out.lt g hg).1))
        (first
          | (go_at_call 69; refine (HP.out _).mono ?_; rintro e w7 ⟨v7, rfl, ho7, hb7⟩; obtain ⟨A7, c7, rfl, _, _, hr7⟩ := ho7.form; have HR7 := Lib.hid hr7; have HB7 := Lib.hid hb7; clear hr7 hb7 ho7)
          | (refine step_appBG rfl (.tmp 25) (.tmp 34) rfl w.heap.size u7 xs rfl ((HO.out.drew).below HB7.out) A7 c7 _ m rfl rfl HR7.out (by have := HPL.out; omega) (by have := HB7.out.size; have h9 : wr.drew.heap.size = wr.heap.size := rfl; omega) ?_; intro v8 w8 ho8 hg8; have HO8 := Lib.hid ho8; have HG8 := Lib.hid hg8; clear ho8 hg8))
      go_wp2_with fail
      go_roundw
      case rel => exact ⟨k + 1, by omega, by go_num, by rw [HT.out]; exact HO8.out, (HBW.out.drew.trans (HB7.out.mono HBW.out.size)).grown HG8.out (HBW.out.drew.trans (HB7.out.mono HBW.out.size)).size fun g hg => (HO.out.lt g hg).1⟩
      case measure => simp [intOf]; omega
    · obtain rfl : k = vs.length := by omega
      rw [show vs.take vs.length = vs from List.take_length, ← HD.out, show ds.take ds.length = ds from List.take_length] at ho
      have hlen := HLEN.out
      generalize hx : keyL vs ds = xs at *
      have HX := Lib.hid hx
      clear hx
      have HO := Lib.hid ho
      obtain ⟨A7, c7, rfl, _, _, _⟩ := ho.form
      clear ho
      go_wp2_with fail
      go_ret2
      exact ⟨_, rfl, by rw [HX.out]; exact HO.out, hbw⟩
end Go.Proofs.Ytdhdfeiobjmdaaa

namespace Go.Proofs.Ytdhdfeiobjmdaaa
open Go.ChangeShapes Go.WideShapes Go.ChangeAt Go.RowKit
set_option linter.unusedVariables false

theorem refUint_int (A : Option Addr) (c : Nat) (l : List UInt8) (z : Int) (n : Nat) (w : World) (hz : z = n) (hl : l.length ≤ 274877906944) (hn : n < 18446744073709551616) (hA : Rd w w.heap.size A l) :
    Calls Try.prog 73 #[.slice A l.length c, .int .u64 z] w (RetOwn (l ++ Lib.uvarint n) w) := by
  subst hz
  exact refUint_any A c l n w hl hn hA

def RPutRel (w : World) (vs : List Trip) (out rest i : Value) (wr : World) : Prop :=
  ∃ k B : Nat, k ≤ vs.length ∧ i = .int .i64 k ∧ w.heap.size ≤ B ∧ B ≤ wr.heap.size ∧ Own wr B out (Lib.uvarint vs.length ++ sortsL (vs.take k)) ∧ Own wr w.heap.size rest (bodiesL (vs.take k)) ∧ (∀ g, rest.ownBlock = some g → g < B) ∧ Below w.heap.size w wr

set_option maxRecDepth 100000 in
set_option maxHeartbeats 1600000 in
theorem refPut_ok (A : Option Addr) (cap : Nat) (vs : List Trip) (w : World) (hR : RdR w w.heap.size A vs) (hl : vs.length ≤ 200) (hg : FineR vs) (hlen : (putL vs).length ≤ 1048576) :
    Calls Try.prog 46 #[.slice A vs.length cap] w fun e w' => ∃ v, e = .returned (.tuple #[v, .int .i64 0]) ∧ Own w' w.heap.size v (putL vs) ∧ Below w.heap.size w w' := by
  have HF := Lib.hid hg
  have hE := Lib.hid (show 0 = if 200 < vs.length then 3 else if vs.any pBad then 2 else 0 by rw [if_neg (by omega), hg.bad]; rfl)
  have HSZ := Lib.hid (show ∀ t ∈ vs, t.2.2.size ≤ 65536 from fun t ht => rt_size (HF.out t ht).1)
  have hu := Lib.uvarint_length64 (x := vs.length) (by omega)
  have HLEN := Lib.hid hlen
  clear hg hlen
  go_enter Try.func46, Try.ntmps46
  go_wp2_with fail
  refine (refRow_any A cap vs w hR (by omega) (fun t ht => by have := HSZ.out t ht; omega) 0 hE).mono ?_
  rintro e w1 ⟨rfl, hb1⟩
  have hs1 := hb1.size
  go_wp2_with fail
  refine (Varint_any vs.length w1 (by omega)).mono ?_
  rintro e w2 ⟨v2, rfl, ho2, hb2⟩
  have hs2 := hb2.size
  have HB2 := Lib.hid (hb1.trans (hb2.mono hs1))
  have HO2 := Lib.hid ho2
  clear hb1 hb2 ho2
  go_wp2_with fail
  go_loopw [5, 6, 7] (fun out rest i wr => RPutRel w vs out rest i wr) (fun _ _ i _ => vs.length - (intOf i).toNat)
  case atStart => exact ⟨0, w1.heap.size, by omega, rfl, by omega, by omega, by simpa [sortsL] using HO2.out, World.ownsRow_nil _ _ _ _, fun g hg => by simp [Value.ownBlock] at hg, HB2.out⟩
  case round =>
    obtain ⟨k, B, hk, rfl, hB1, hB2, hout, hrest, hapart, hbw⟩ := hrel
    have hszw := hbw.size
    by_cases hlt : k < vs.length
    · have hget : vs[k]? = some vs[k] := List.getElem?_eq_getElem hlt
      obtain ⟨ad, rfl, hal, hcs⟩ := (hR.below hbw) (by omega)
      have hsl := sortsL_len (vs.take k) (fun t ht => HSZ.out t (List.mem_of_mem_take ht))
      have hbl := bodiesL_len (vs.take k) (fun t ht => HSZ.out t (List.mem_of_mem_take ht))
      have hlk : (vs.take k).length ≤ 200 := by rw [List.length_take]; omega
      obtain ⟨hrt, hn64⟩ := HF.out _ (List.mem_of_getElem? hget)
      generalize vs[k] = t at *
      obtain ⟨kk, n, s⟩ := t
      obtain ⟨c0, c1, c2⟩ := hcs k kk n s hget
      have HT := Lib.hid (show Lib.uvarint vs.length ++ sortsL (vs.take (k + 1)) = (Lib.uvarint vs.length ++ sortsL (vs.take k)) ++ Lib.uvarint (sortN kk n s) by rw [sortsL_take hget, List.append_assoc])
      have HBO := Lib.hid (bodiesL_take hget)
      have hq1 : (Lib.uvarint vs.length ++ sortsL (vs.take k)).length ≤ 2010 := by rw [List.length_append]; omega
      have hq2 : (bodiesL (vs.take k)).length ≤ 13108800 := by have := Nat.mul_le_mul_left 65544 hlk; omega
      have hki : (k : Int) < vs.length := by omega
      have HN := Lib.hid hn64
      have HOUT := Lib.hid hout
      have HREST := Lib.hid hrest
      have HAP := Lib.hid hapart
      have HBW := Lib.hid hbw
      have hss : s.size ≤ 65536 := rt_size hrt
      obtain ⟨Ao, co, rfl, _, _, _⟩ := hout.form
      clear hget hcs hsl hbl hn64 hout hrest hapart hbw
      generalize hx1 : Lib.uvarint vs.length ++ sortsL (vs.take k) = x1 at *
      generalize hx2 : bodiesL (vs.take k) = x2 at *
      have HX1 := Lib.hid hx1
      have HX2 := Lib.hid hx2
      clear hx1 hx2
      have hrd : Rd wr wr.heap.size Ao x1 := by
        obtain ⟨A', c', e, _, _, hr⟩ := HOUT.out.form
        simp only [Value.slice.injEq] at e
        obtain ⟨rfl, _, _⟩ := e
        exact hr
      have HRD := Lib.hid hrd
      have hfin : ∀ (v9 rest : Value) (w8 w9 : World) (m : List UInt8), Below w.heap.size w w8 → bodiesL (vs.take (k + 1)) = m → Own w8 w.heap.size rest m → Own w9 w8.heap.size v9 (x1 ++ Lib.uvarint (sortN kk n s)) → Below w8.heap.size w8 w9 → RPutRel w vs v9 rest (.int .i64 ((k + 1 : Nat) : Int)) w9 := by
        intro v9 rest w8 w9 m hb8 hm hr8 ho9 hb9
        subst hm
        exact ⟨k + 1, w8.heap.size, by omega, rfl, hb8.size, hb9.size, by rw [HT.out]; exact ho9, hr8.below hb9, fun g hg => (hr8.lt g hg).2, hb8.trans (hb9.mono hb8.size)⟩
      have HFIN := Lib.hid hfin
      have HBX := Lib.hid (fun o => HBW.out.alloc HBW.out.size o)
      clear hrd hfin
      rcases hrt with ⟨rfl, rfl, hz⟩ | ⟨rfl, hz⟩ | ⟨rfl | rfl, rfl, _⟩
      · have HBD := Lib.hid (show bodiesL (vs.take (k + 1)) = x2 by rw [HBO.out, none_bytes s hz]; simp [bodyL])
        have HS := Lib.hid (show sortN 0 0 s = 0 from rfl)
        clear hz
        go_wp2_with fail
        refine (refUint_int Ao co x1 0 0 _ rfl (by omega) (by omega) ((HRD.out.alloc _).more (by simp))).mono ?_
        rintro e w9 ⟨v9, rfl, ho9, hb9⟩
        have HO9 := Lib.hid ho9
        have HB9 := Lib.hid hb9
        clear ho9 hb9
        go_wp2_with fail
        go_roundw
        case rel => exact HFIN.out v9 _ _ w9 x2 (HBX.out _) HBD.out (HREST.out.alloc _) (by rw [HS.out]; exact HO9.out) HB9.out
        case measure => simp [intOf]; omega
      · have HBD := Lib.hid (show bodiesL (vs.take (k + 1)) = x2 ++ beN (u64N n) (lenI n) by rw [HBO.out]; simp [bodyL])
        have hli := lenF_range 7 n
        have HS := Lib.hid (show sortN 1 n s = lenI n from rfl)
        have hl8 : lenI n ≤ 8 := hli.2
        have hlp : 1 ≤ lenI n := hli.1
        have HNB := Lib.hid (fun W => refNumber_any n (lenI n) W HN.out hl8)
        have hwd := fun W => refWide_any n W HN.out
        generalize hL : lenI n = L at *
        have HL := Lib.hid hL
        have HWD := Lib.hid hwd
        clear hL hwd hli hz
        go_wp2_with fail
        refine (HWD.out _).mono ?_
        rintro e w8 ⟨rfl, rfl⟩
        go_wp2_with fail
        have HC := Lib.hid (show (wr.alloc (.cells #[.int .u8 1, .int .i64 n, .string s] 29)).cell? ⟨wr.heap.size, 1, none⟩ = some (.int .i64 n) by simp [go_sem])
        have HRL := Lib.hid (fun g hg => (HREST.out.lt g hg).2)
        go_region_held3 (fun X => X.cell? ⟨wr.heap.size, 1, none⟩ = some (.int .i64 n))
          (first
            | exact HC.out
            | exact (HB7.out.cell (by simp)).trans HC.out
            | exact (World.cell?_of_block (HG8.out.block _ (by have := HB7.out.size; simp at this ⊢; omega) fun e => by have := HRL.out _ e.symm; simp at this)).trans ((HB7.out.cell (by simp)).trans HC.out))
          (first
            | (go_at_call 71; refine (HWD.out _).mono ?_; rintro e w8 ⟨rfl, rfl⟩)
            | (go_at_call 72; refine (HNB.out _).mono ?_; rintro e w7 ⟨A7, c7, rfl, hr7, _, _, hb7⟩; have HR7 := Lib.hid hr7; have HB7 := Lib.hid hb7; clear hr7 hb7)
            | (refine step_appBG rfl (.tmp 37) (.tmp 43) rfl w.heap.size u6 x2 rfl (((HREST.out.alloc _).drew).below HB7.out) A7 c7 _ (beN (u64N n) L) rfl rfl HR7.out (by rw [beN_length]; omega) (by have := HB7.out.size; simp at this; omega) ?_; intro v8 w8 ho8 hg8; have HO8 := Lib.hid ho8; have HG8 := Lib.hid hg8; clear ho8 hg8))
        go_wp2_with fail
        have HW7 := Lib.hid (show Below w.heap.size w w7 from (((HBX.out _).drew).trans (HB7.out.mono (by have := HBW.out.size; simp; omega))))
        have HW8 := Lib.hid (show Below w.heap.size w w8 from HW7.out.grown HG8.out HW7.out.size fun g hg => (HREST.out.lt g hg).1)
        have hrd8 : Rd w8 w8.heap.size Ao x1 := by
          have := ((((HOUT.out.alloc (.cells #[.int .u8 1, .int .i64 n, .string s] 29)).drew).below HB7.out).apart HG8.out HAP.out).form
          obtain ⟨A', c', e, _, _, hr⟩ := this
          simp only [Value.slice.injEq] at e
          obtain ⟨rfl, _, _⟩ := e
          exact hr
        have HRD8 := Lib.hid hrd8
        clear hrd8
        refine (refUint_any Ao co x1 L _ (by omega) (by omega) HRD8.out).mono ?_
        rintro e w9 ⟨v9, rfl, ho9, hb9⟩
        have HO9 := Lib.hid ho9
        have HB9 := Lib.hid hb9
        clear ho9 hb9
        go_wp2_with fail
        go_roundw
        case rel => exact HFIN.out v9 _ w8 w9 (x2 ++ beN (u64N n) L) HW8.out HBD.out HO8.out (by rw [HS.out]; exact HO9.out) HB9.out
        case measure => simp [intOf]; omega
      · have HBD := Lib.hid (show bodiesL (vs.take (k + 1)) = x2 ++ s.data.toList by rw [HBO.out]; simp [bodyL])
        have HS := Lib.hid (show sortN 2 0 s = 11 + 2 * s.size from rfl)
        go_wp2_with (at_builtin; refine wpList_appSG rfl (.tmp 65) (.tmp 67) rfl w.heap.size u6 x2 rfl (HREST.out.alloc _) s rfl (by omega) (by simp; omega) ?_; intro v8 w8 ho8 hg8; have HO8 := Lib.hid ho8; have HG8 := Lib.hid hg8; have hz8 := hg8.size; clear ho8 hg8)
        have HW8 := Lib.hid (show Below w.heap.size w w8 from (HBX.out _).grown HG8.out (by simp; omega) fun g hg => (HREST.out.lt g hg).1)
        have hrd8 : Rd w8 w8.heap.size Ao x1 := by
          have := ((HOUT.out.alloc (.cells #[.int .u8 2, .int .i64 0, .string s] 29)).apart HG8.out HAP.out).form
          obtain ⟨A', c', e, _, _, hr⟩ := this
          simp only [Value.slice.injEq] at e
          obtain ⟨rfl, _, _⟩ := e
          exact hr
        have HRD8 := Lib.hid hrd8
        clear hrd8
        refine (refUint_int Ao co x1 (2 * (s.size : Int) + 11) (11 + 2 * s.size) _ (by omega) (by omega) (by omega) HRD8.out).mono ?_
        rintro e w9 ⟨v9, rfl, ho9, hb9⟩
        have HO9 := Lib.hid ho9
        have HB9 := Lib.hid hb9
        clear ho9 hb9
        go_wp2_with fail
        go_roundw
        case rel => exact HFIN.out v9 _ w8 w9 (x2 ++ s.data.toList) HW8.out HBD.out HO8.out (by rw [HS.out]; exact HO9.out) HB9.out
        case measure => simp [intOf]; omega
      · have HBD := Lib.hid (show bodiesL (vs.take (k + 1)) = x2 ++ s.data.toList by rw [HBO.out]; simp [bodyL])
        have HS := Lib.hid (show sortN 3 0 s = 10 + 2 * s.size from rfl)
        go_wp2_with (at_builtin; refine wpList_appSG rfl (.tmp 53) (.tmp 55) rfl w.heap.size u6 x2 rfl (HREST.out.alloc _) s rfl (by omega) (by simp; omega) ?_; intro v8 w8 ho8 hg8; have HO8 := Lib.hid ho8; have HG8 := Lib.hid hg8; have hz8 := hg8.size; clear ho8 hg8)
        have HW8 := Lib.hid (show Below w.heap.size w w8 from (HBX.out _).grown HG8.out (by simp; omega) fun g hg => (HREST.out.lt g hg).1)
        have hrd8 : Rd w8 w8.heap.size Ao x1 := by
          have := ((HOUT.out.alloc (.cells #[.int .u8 3, .int .i64 0, .string s] 29)).apart HG8.out HAP.out).form
          obtain ⟨A', c', e, _, _, hr⟩ := this
          simp only [Value.slice.injEq] at e
          obtain ⟨rfl, _, _⟩ := e
          exact hr
        have HRD8 := Lib.hid hrd8
        clear hrd8
        refine (refUint_int Ao co x1 (2 * (s.size : Int) + 10) (10 + 2 * s.size) _ (by omega) (by omega) (by omega) HRD8.out).mono ?_
        rintro e w9 ⟨v9, rfl, ho9, hb9⟩
        have HO9 := Lib.hid ho9
        have HB9 := Lib.hid hb9
        clear ho9 hb9
        go_wp2_with fail
        go_roundw
        case rel => exact HFIN.out v9 _ w8 w9 (x2 ++ s.data.toList) HW8.out HBD.out HO8.out (by rw [HS.out]; exact HO9.out) HB9.out
        case measure => simp [intOf]; omega
    · obtain rfl : k = vs.length := by omega
      rw [List.take_length] at hout hrest
      have HOUT := Lib.hid hout
      have HREST := Lib.hid hrest
      have hlen := HLEN.out
      have hpl : putL vs = (Lib.uvarint vs.length ++ sortsL vs) ++ bodiesL vs := rfl
      have hll : (Lib.uvarint vs.length ++ sortsL vs).length + (bodiesL vs).length ≤ 1048576 := by rw [hpl, List.length_append] at hlen; exact hlen
      have HPL := Lib.hid hpl
      obtain ⟨A6, c6, rfl, _, _, hr6⟩ := hrest.form
      have HR6 := Lib.hid hr6
      generalize bodiesL vs = x2 at *
      generalize Lib.uvarint vs.length ++ sortsL vs = x1 at *
      have HBW := Lib.hid hbw
      obtain ⟨Ao, co, rfl, _, _, _⟩ := hout.form
      clear hlen hpl hr6 hout hrest hbw
      go_wp2_with (at_builtin; refine wpList_appBG rfl (.tmp 72) (.tmp 73) rfl B (.slice Ao x1.length co) x1 rfl HOUT.out A6 c6 _ x2 rfl rfl HR6.out (by omega) hB2 ?_; intro v8 w8 ho8 hg8; have HO8 := Lib.hid ho8; have HG8 := Lib.hid hg8; obtain ⟨A8, c8, rfl, _, _, _⟩ := ho8.form; clear ho8 hg8; have hl12 : (x1 ++ x2).length ≤ 1048576 := (by rw [List.length_append]; exact hll); generalize hx12 : x1 ++ x2 = x12 at *; have HX12 := Lib.hid hx12; clear hx12)
      go_ret2
      exact ⟨_, rfl, by rw [HPL.out]; exact HO8.out.mono hB1, HBW.out.grown HG8.out HBW.out.size fun g hg => Nat.le_trans hB1 (HOUT.out.lt g hg).1⟩
end Go.Proofs.Ytdhdfeiobjmdaaa
