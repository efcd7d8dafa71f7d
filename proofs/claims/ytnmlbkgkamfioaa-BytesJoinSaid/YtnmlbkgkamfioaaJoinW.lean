/-
  BytesJoin returns true for all lists, and changes nothing that was there: the walk. No conditions.
-/
import Derived.Test.YtnmlbkgkamfioaaJoin
namespace Go.Proofs.Ytnmlbkgkamfioaa
open Go.ChangeShapes Go.WideShapes Go.ChangeAt Go.RowKit
set_option linter.unusedVariables false

def InRel (ls : List (List UInt8)) (w : World) (i : Value) (wr : World) : Prop := ∃ k : Nat, k ≤ ls.length ∧ i = .int .i64 k ∧ Below w.heap.size w wr ∧ ∀ m ∈ ls.take k, m.length ≤ 100
def OutRel (xs ys : List (List UInt8)) (w : World) (i : Value) (wr : World) : Prop := ∃ t : Nat, t ≤ 2 ∧ i = .int .i64 t ∧ Below w.heap.size w wr ∧ (1 ≤ t → ∀ m ∈ xs, m.length ≤ 100) ∧ (2 ≤ t → ∀ m ∈ ys, m.length ≤ 100)

set_option maxRecDepth 100000 in
set_option maxHeartbeats 4000000 in
theorem join_walk (A : Option Addr) (c : Nat) (xs : List (List UInt8)) (B : Option Addr) (d : Nat) (ys : List (List UInt8)) (w : World) (ha : xs.length ≤ 20) (hbl : ys.length ≤ 20) (hA : RdL w w.heap.size A xs) (hB : RdL w w.heap.size B ys) :
    Calls Try.prog 8 #[.slice A xs.length c, .slice B ys.length d] w fun e w' => e = .returned (.bool true) ∧ Below w.heap.size w w' := by
  have h20 : decide ((20 : Int) < xs.length) = false := decide_eq_false (by omega)
  have h20' : decide ((20 : Int) < ys.length) = false := decide_eq_false (by omega)
  have i0 : ∀ W, (Instr.index 54 (.agg #[.slice A xs.length c, .slice B ys.length d]) (.int .i64 0)).run Try.prog W = .ok (.slice A xs.length c) W := fun _ => by kernel_rfl
  have i1 : ∀ W, (Instr.index 54 (.agg #[.slice A xs.length c, .slice B ys.length d]) (.int .i64 1)).run Try.prog W = .ok (.slice B ys.length d) W := fun _ => by kernel_rfl
  go_enter Try.func8, Try.ntmps8
  go_wp2_with fail
  go_loopw [31] (fun i wr => OutRel xs ys w i wr) (fun i _ => 2 - (intOf i).toNat)
  case atStart => exact ⟨0, by omega, rfl, Below.refl _ _, fun h => absurd h (by omega), fun h => absurd h (by omega)⟩
  case round =>
    obtain ⟨t, ht, rfl, hb, hta, htb⟩ := hrel
    match t, ht with
    | 0, _ =>
      clear hta htb
      rw [show ((0 : Nat) : Int) = 0 from rfl]
      go_wp2_with fail
      obtain ⟨wo, rfl⟩ : ∃ wo : World, wo = wr := ⟨_, rfl⟩
      go_loopw [36] (fun i wr => InRel xs w i wr) (fun i _ => xs.length - (intOf i).toNat)
      case atStart => exact ⟨0, Nat.zero_le _, rfl, hb, by simp⟩
      case round =>
        obtain ⟨k, hk, rfl, hbk, h100⟩ := hrel
        by_cases hlt : k < xs.length
        · obtain ⟨ad, m, A3, c3, rfl, hadb, hget, hcell, hc31, hc32, hrd⟩ := (hA.on hbk).cell hlt
          by_cases hm : 100 < m.length
          · have hm' : decide ((100 : Int) < m.length) = true := decide_eq_true (by omega)
            clear hget h100
            go_wp2_with fail
            go_quiet (fail)
            go_wp2_with fail
            refine (awake_any _).mono ?_
            rintro e w9 ⟨rfl, hb9⟩
            go_wp2_with fail
            go_ret
            exact ⟨rfl, (below_drewN hbk _).trans (hb9.mono hbk.size)⟩
          · have hm' : decide ((100 : Int) < m.length) = false := decide_eq_false (by omega)
            have hsn := take_snoc hget
            have H100 := Lib.hid (show ∀ x ∈ xs.take (k + 1), x.length ≤ 100 from by
              intro x hx
              rw [hsn] at hx
              rcases List.mem_append.1 hx with hx | hx
              · exact h100 x hx
              · obtain rfl : x = m := by simpa using hx
                omega)
            have hE := Lib.uvarint_length64 (x := m.length) (by omega)
            have hbe : (blobE m).length ≤ 110 := by rw [blobE_length]; omega
            have hcat : (({ data := #[1] } : ByteArray) ++ { data := (blobE m).toArray }) = { data := (1 :: blobE m).toArray } := ByteArray.mk_append_mk [1] (blobE m)
            have HONE := Lib.hid (RdL.one wr A3 m c3 hrd hc31 hc32)
            have HBL := Lib.hid (fun (W : World) (g : RdL W W.heap.size (some ⟨wr.heap.size, 0, none⟩) [m]) => Blobs_any none 0 [] (some ⟨wr.heap.size, 0, none⟩) 1 [m] W (by simp) (by simp) (by simp [blobsE]; omega) Rd.nil g)
            rw [one_enc] at HBL
            have HBB := Lib.hid (fun (W : World) (g : Rd W W.heap.size A3 m) => Blob_any none 0 [] A3 c3 m W (by simp) (by omega) Rd.nil g)
            rw [List.nil_append, show Lib.uvarint m.length ++ m = blobE m from rfl] at HBB
            clear hget hsn h100
            go_wp2_with fail
            go_region_held (fun _ => True) (trivial)
              (first
                | (go_at_call 22; refine (HBL.out _ (by exact HONE.out)).mono ?_; rintro e w7 ⟨v7, rfl, ho7, hb7⟩; obtain ⟨A7, c7, rfl, hy1, hy2, hq7⟩ := ho7.form; have r7 := run_str hq7 c7; simp only [List.length_cons] at r7)
                | (go_at_call 21; refine (HBB.out _ (by exact (hrd.on (((Below.refl _ _).alloc (Nat.le_refl _) _).drew.trans (hb7.mono (by simp)))))).mono ?_; rintro e w8 ⟨v8, rfl, ho8, hb8⟩; obtain ⟨A8, c8, rfl, hz1, hz2, hq8⟩ := ho8.form; have r8 := run_str hq8 c8; have r7' := run_str (hq7.on hb8) c7; simp only [List.length_cons] at r7'))
            go_wp2_with fail
            all_goals refine ⟨⟨k + 1, by omega, by go_num, (((hbk.alloc hbk.size _).drew).trans (hb7.mono (by have := hbk.size; simp; omega))).trans (hb8.mono (by have := hbk.size; have := hb7.size; simp at this; omega)), H100.out⟩, by simp [intOf]; omega⟩
        · obtain rfl : k = xs.length := by omega
          rw [List.take_length] at h100
          have H100 := Lib.hid h100
          clear h100
          go_wp2_with fail
          go_roundw
          case rel => exact ⟨1, by omega, rfl, hbk, fun _ => H100.out, fun h => absurd h (by omega)⟩
          case measure => simp [intOf]
    | 1, _ =>
      have HTA := Lib.hid (hta (by omega))
      clear hta htb
      rw [show ((1 : Nat) : Int) = 1 from rfl]
      go_wp2_with fail
      obtain ⟨wo, rfl⟩ : ∃ wo : World, wo = wr := ⟨_, rfl⟩
      go_loopw [36] (fun i wr => InRel ys w i wr) (fun i _ => ys.length - (intOf i).toNat)
      case atStart => exact ⟨0, Nat.zero_le _, rfl, hb, by simp⟩
      case round =>
        obtain ⟨k, hk, rfl, hbk, h100⟩ := hrel
        by_cases hlt : k < ys.length
        · obtain ⟨ad, m, A3, c3, rfl, hadb, hget, hcell, hc31, hc32, hrd⟩ := (hB.on hbk).cell hlt
          by_cases hm : 100 < m.length
          · have hm' : decide ((100 : Int) < m.length) = true := decide_eq_true (by omega)
            clear hget h100
            go_wp2_with fail
            go_quiet (fail)
            go_wp2_with fail
            refine (awake_any _).mono ?_
            rintro e w9 ⟨rfl, hb9⟩
            go_wp2_with fail
            go_ret
            exact ⟨rfl, (below_drewN hbk _).trans (hb9.mono hbk.size)⟩
          · have hm' : decide ((100 : Int) < m.length) = false := decide_eq_false (by omega)
            have hsn := take_snoc hget
            have H100 := Lib.hid (show ∀ x ∈ ys.take (k + 1), x.length ≤ 100 from by
              intro x hx
              rw [hsn] at hx
              rcases List.mem_append.1 hx with hx | hx
              · exact h100 x hx
              · obtain rfl : x = m := by simpa using hx
                omega)
            have hE := Lib.uvarint_length64 (x := m.length) (by omega)
            have hbe : (blobE m).length ≤ 110 := by rw [blobE_length]; omega
            have hcat : (({ data := #[1] } : ByteArray) ++ { data := (blobE m).toArray }) = { data := (1 :: blobE m).toArray } := ByteArray.mk_append_mk [1] (blobE m)
            have HONE := Lib.hid (RdL.one wr A3 m c3 hrd hc31 hc32)
            have HBL := Lib.hid (fun (W : World) (g : RdL W W.heap.size (some ⟨wr.heap.size, 0, none⟩) [m]) => Blobs_any none 0 [] (some ⟨wr.heap.size, 0, none⟩) 1 [m] W (by simp) (by simp) (by simp [blobsE]; omega) Rd.nil g)
            rw [one_enc] at HBL
            have HBB := Lib.hid (fun (W : World) (g : Rd W W.heap.size A3 m) => Blob_any none 0 [] A3 c3 m W (by simp) (by omega) Rd.nil g)
            rw [List.nil_append, show Lib.uvarint m.length ++ m = blobE m from rfl] at HBB
            clear hget hsn h100
            go_wp2_with fail
            go_region_held (fun _ => True) (trivial)
              (first
                | (go_at_call 22; refine (HBL.out _ (by exact HONE.out)).mono ?_; rintro e w7 ⟨v7, rfl, ho7, hb7⟩; obtain ⟨A7, c7, rfl, hy1, hy2, hq7⟩ := ho7.form; have r7 := run_str hq7 c7; simp only [List.length_cons] at r7)
                | (go_at_call 21; refine (HBB.out _ (by exact (hrd.on (((Below.refl _ _).alloc (Nat.le_refl _) _).drew.trans (hb7.mono (by simp)))))).mono ?_; rintro e w8 ⟨v8, rfl, ho8, hb8⟩; obtain ⟨A8, c8, rfl, hz1, hz2, hq8⟩ := ho8.form; have r8 := run_str hq8 c8; have r7' := run_str (hq7.on hb8) c7; simp only [List.length_cons] at r7'))
            go_wp2_with fail
            all_goals refine ⟨⟨k + 1, by omega, by go_num, (((hbk.alloc hbk.size _).drew).trans (hb7.mono (by have := hbk.size; simp; omega))).trans (hb8.mono (by have := hbk.size; have := hb7.size; simp at this; omega)), H100.out⟩, by simp [intOf]; omega⟩
        · obtain rfl : k = ys.length := by omega
          rw [List.take_length] at h100
          have H100 := Lib.hid h100
          clear h100
          go_wp2_with fail
          go_roundw
          case rel => exact ⟨2, by omega, rfl, hbk, fun _ => HTA.out, fun _ => H100.out⟩
          case measure => simp [intOf]
    | 2, _ =>
      have hta := hta (by omega)
      have htb := htb (by omega)
      have hA1 := hA.on hb
      have hB1 := hB.on hb
      have HG1 := Lib.hid (goods_any A c xs wr (by omega) hta hA1)
      have HTA := Lib.hid hta
      have HTB := Lib.hid htb
      clear hta htb
      rw [show ((2 : Nat) : Int) = 2 from rfl]
      go_wp2_with fail
      refine HG1.out.mono ?_
      rintro e w1 ⟨rfl, hb1⟩
      have hA2 := hA1.on hb1
      have hB2 := hB1.on hb1
      have hw1 := hb.trans (hb1.mono hb.size)
      have HG2 := Lib.hid (goods_any B d ys w1 (by omega) HTB.out hB2)
      clear hA1 hB1 hb1
      go_wp2_with fail
      refine HG2.out.mono ?_
      rintro e w2 ⟨rfl, hb2⟩
      have hA3 := hA2.on hb2
      have hB3 := hB2.on hb2
      have hw2 := hw1.trans (hb2.mono hw1.size)
      clear hA2 hB2 hb2 HG1 HG2
      have hmade : (w2.alloc (.cells #[] 30)).ownsRow w2.heap.size 30 1 (.slice (some ⟨w2.heap.size, 0, none⟩) 0 0) 0 [] := World.ownsRow_made w2 #[] 0 (Nat.le_refl _) (by simp [maxLen]) rfl
      have hA4 : RdL (w2.alloc (.cells #[] 30)) w2.heap.size A xs := hA3.keep fun p hp => World.cell?_alloc_lt w2 _ p hp
      have hB4 : RdL (w2.alloc (.cells #[] 30)) w2.heap.size B ys := hB3.keep fun p hp => World.cell?_alloc_lt w2 _ p hp
      have HM := Lib.hid hmade
      clear hmade hA3 hB3
      have hbx := blobsE_bound 100 xs HTA.out (by omega)
      have hby := blobsE_bound 100 ys HTB.out (by omega)
      go_wp2_with (first
        | (at_builtin; refine wpList_appRows rfl (.tmp 78) (.tmp 79) rfl w2.heap.size (.slice (some ⟨w2.heap.size, 0, none⟩) 0 0) 0 [] rfl HM.out (by simp) A c xs rfl hA4 (by omega) (by simp) ?_; intro v4 w4 us4 ho4 hs4 hb4)
        | (at_builtin; refine wpList_appRows rfl (.tmp 80) (.tmp 81) rfl w2.heap.size v4 (0 + xs.length) ([] ++ us4) rfl ho4 (by rw [List.nil_append]; exact oneCell_slots hs4) B d ys rfl (hB4.below hb4) (by omega) (by have := hb4.size; simp at this; omega) ?_; intro v5 w5 us5 ho5 hs5 hb5))
      have hsz4 := hb4.size
      have hsz5 := hb5.size
      simp only [World.size_alloc] at hsz4
      rw [List.nil_append, Nat.zero_add, ← List.length_append] at ho5
      obtain ⟨A5, c5, rfl, hq1, hq2, hrd5⟩ := Slots.rd ((hs4.below hb5).append hs5) (by omega) ho5
      have hw5 : Below w.heap.size w w5 := ((hw2.alloc hw2.size _).trans (hb4.mono hw2.size)).trans (hb5.mono hw2.size)
      have hjoin : blobsE (xs ++ ys) = blobsE xs ++ blobsE ys := by simp [blobsE]
      have hcat := ByteArray.mk_append_mk (blobsE xs) (blobsE ys)
      have HG3 := Lib.hid (goods_any A5 c5 (xs ++ ys) w5 (by rw [List.length_append]; omega) (fun m hm => by
        rcases List.mem_append.1 hm with h | h
        · exact HTA.out m h
        · exact HTB.out m h) hrd5)
      clear hb4 hb5 hs4 hs5 ho5 ho4 hA4 hB4 hq1 hq2 hrd5
      refine HG3.out.mono ?_
      rintro e w6 ⟨rfl, hb6⟩
      have hw6 := hw5.trans (hb6.mono hw5.size)
      rw [hjoin]
      clear hjoin
      go_wp2_with fail
      refine (awake_any _).mono ?_
      rintro e w9 ⟨rfl, hb9⟩
      go_wp2_with fail
      go_ret
      exact ⟨rfl, hw6.trans (hb9.mono hw6.size)⟩
    | t + 3, h => exact absurd h (by omega)

set_option maxRecDepth 100000 in
theorem join_far (A : Option Addr) (c n : Nat) (B : Option Addr) (d m : Nat) (w : World) (hn : n ≤ 9223372036854775807) (hm : m ≤ 9223372036854775807) (h : 20 < n ∨ 20 < m) :
    Calls Try.prog 8 #[.slice A n c, .slice B m d] w fun e w' => e = .returned (.bool true) ∧ Below w.heap.size w w' := by
  by_cases h1 : 20 < n
  · have h1' : decide ((20 : Int) < n) = true := decide_eq_true (by omega)
    go_enter Try.func8, Try.ntmps8
    go_wp2_with fail
    refine (awake_any _).mono ?_
    rintro e w9 ⟨rfl, hb9⟩
    go_wp2_with fail
    go_ret
    exact ⟨rfl, hb9⟩
  · have h1' : decide ((20 : Int) < n) = false := decide_eq_false (by omega)
    have h2' : decide ((20 : Int) < m) = true := decide_eq_true (by omega)
    go_enter Try.func8, Try.ntmps8
    go_wp2_with fail
    refine (awake_any _).mono ?_
    rintro e w9 ⟨rfl, hb9⟩
    go_wp2_with fail
    go_ret
    exact ⟨rfl, hb9⟩
end Go.Proofs.Ytnmlbkgkamfioaa
