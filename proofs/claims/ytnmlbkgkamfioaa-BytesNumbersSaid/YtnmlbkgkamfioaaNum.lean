/-
  BytesNumbers returns true. No conditions.
-/
import Derived.Test.YtnmlbkgkamfioaaOpen
import Derived.Test.YtnmlbkgkamfioaaNumMath
import Derived.Test.YtnmlbkgkamfioaaPow
import Derived.Deep.RegionHeld
import Derived.Deep.AppendLies
namespace Go.Proofs.Ytnmlbkgkamfioaa
open Go.ChangeShapes Go.WideShapes Go.ChangeAt Go.RowKit
set_option linter.unusedVariables false

def PowsRel (w : World) (hi lo k : Value) (wr : World) : Prop := ∃ j : Nat, 1 ≤ j ∧ j ≤ 10 ∧ k = .int .i64 j ∧ hi = .string ⟨(hiL (j - 1)).toArray⟩ ∧ lo = .string ⟨(loL (j - 1)).toArray⟩ ∧ Below w.heap.size w wr

theorem two_cards (w : World) (n m : Nat) (a b : List UInt8) (ha : Lib.uvarint n = a) (hb : Lib.uvarint m = b) : RdC (w.alloc (Obj.cells #[Value.int IntKind.u64 n, Value.string { data := a.toArray }, Value.int IntKind.u64 m, Value.string { data := b.toArray }] 25)) w.heap.size [n, m] := by
  have h := RdC.of_alloc w [n, m]
  simp only [cardCells, ha, hb] at h
  exact h

/-- the table, as cells -/
def tabCells : List (List UInt8 × Int × Int) → List Value
  | [] => []
  | x :: r => .string ⟨x.1.toArray⟩ :: .int .i64 x.2.1 :: .int .i64 x.2.2 :: tabCells r
theorem tab_get : ∀ (t : List (List UInt8 × Int × Int)) (j : Nat) (x : List UInt8 × Int × Int), t[j]? = some x → (tabCells t)[j * 3]? = some (.string ⟨x.1.toArray⟩) ∧ (tabCells t)[j * 3 + 1]? = some (.int .i64 x.2.1) ∧ (tabCells t)[j * 3 + 2]? = some (.int .i64 x.2.2)
  | [], j, x, h => by simp at h
  | y :: r, 0, x, h => by
    obtain rfl : y = x := by simpa using h
    exact ⟨rfl, rfl, rfl⟩
  | y :: r, j + 1, x, h => by
    have ih := tab_get r j x (by simpa using h)
    have e : (j + 1) * 3 = j * 3 + 1 + 1 + 1 := by omega
    rw [e]
    simp only [tabCells, List.getElem?_cons_succ]
    exact ih

theorem GetBlob_all (A : Option Addr) (c : Nat) (l : List UInt8) (p most : Int) (w : World) (hl : l.length ≤ 1099511627776) (hc : l.length ≤ c) (hcm : c ≤ maxLen) (hA : Rd w w.heap.size A l)
    (hm1 : -9223372036854775808 ≤ most) (hm2 : most ≤ 9223372036854775807) :
    Calls Try.prog 12 #[.slice A l.length c, .int .i64 p, .int .i64 most] w fun e' w' => ∃ v q, e' = .returned (.tuple #[v, .int .i64 q, .int .i64 ((blobAt l p most).2.2 : Nat)]) ∧ Below w.heap.size w w' := by
  by_cases h0 : (blobAt l p most).2.2 = 0
  · refine (GetBlob_ok A c l p most _ _ w hl hc hcm hA hm1 hm2 (Prod.ext rfl (Prod.ext rfl h0))).mono ?_
    rintro e w' ⟨v, rfl, _, hb⟩
    exact ⟨v, _, by rw [h0]; rfl, hb⟩
  · refine (GetBlob_err A c l p most _ _ _ w hl hc hA hm1 hm2 (Prod.ext rfl (Prod.ext rfl rfl)) h0).mono ?_
    rintro e w' ⟨rfl, rfl⟩
    exact ⟨_, _, rfl, Below.refl _ _⟩

theorem row_below {w w' : World} {base : Nat} {e : TypeId} {size n : Nat} {v : Value} {xs : List Value} (h : w.ownsRow base e size v n xs) (hb : Below w.heap.size w w') : w'.ownsRow base e size v n xs := by
  obtain ⟨h3, h4⟩ := h
  refine ⟨h3, ?_⟩
  rcases h4 with h4 | ⟨g, cap, cur, hv, hg, hh, r⟩
  · exact .inl h4
  · have hlt : g < w.heap.size := by
      rcases Nat.lt_or_ge g w.heap.size with hlt | hge
      · exact hlt
      · rw [Array.getElem?_eq_none hge] at hh; cases hh
    exact .inr ⟨g, cap, cur, hv, hg, (hb.block g hlt).trans hh, r⟩

def ints (l : List Nat) : List Value := l.map fun n => .int .i64 (n : Nat)
def RdT (w : World) (g : Nat) : Prop := ∀ (k : Nat) (x : List UInt8 × Int × Int), tab[k]? = some x → w.cell? ⟨g, k * 3, none⟩ = some (.string ⟨x.1.toArray⟩) ∧ w.cell? ⟨g, k * 3 + 1, none⟩ = some (.int .i64 x.2.1) ∧ w.cell? ⟨g, k * 3 + 2, none⟩ = some (.int .i64 x.2.2)
theorem RdT.made (w : World) (t : TypeId) : RdT (w.alloc (.cells (tabCells tab).toArray t)) w.heap.size := by
  intro k x h
  obtain ⟨h1, h2, h3⟩ := tab_get tab k x h
  refine ⟨?_, ?_, ?_⟩
  · rw [World.cell?_alloc_mark]; simpa using h1
  · rw [World.cell?_alloc_mark]; simpa using h2
  · rw [World.cell?_alloc_mark]; simpa using h3
theorem RdT.below {w w' : World} {g : Nat} (h : RdT w g) (hb : Below (g + 1) w w') : RdT w' g := by
  intro k x hx
  obtain ⟨h1, h2, h3⟩ := h k x hx
  exact ⟨(hb.cell (Nat.lt_succ_self g)).trans h1, (hb.cell (Nat.lt_succ_self g)).trans h2, (hb.cell (Nat.lt_succ_self g)).trans h3⟩
def TabRel (g : Nat) (w : World) (got i : Value) (wr : World) : Prop := ∃ k : Nat, k ≤ 8 ∧ i = .int .i64 k ∧ wr.ownsRow (g + 1) 3 1 got (k * 2) (ints (want.take (k * 2))) ∧ Below w.heap.size w wr ∧ g < wr.heap.size ∧ RdT wr g
theorem Try.info_int : (Try.prog.info? 3).map (fun i => (i.zero, i.size, i.bytes)) = some (some (.int .i64 0), 1, 8) := by kernel_rfl

/-- what a row of the table tells, and what comes of it -/
theorem tab_row (k : Nat) (hk : k < 8) : ∃ b many most, tab[k]? = some (b, many, most) ∧ -9223372036854775808 ≤ many ∧ many ≤ 9223372036854775807 ∧ -9223372036854775808 ≤ most ∧ most ≤ 9223372036854775807 ∧ b.length ≤ 10 ∧
    want.take ((k + 1) * 2) = want.take (k * 2) ++ [(blobAt b 0 most).2.2, (blobsAt b 0 many most).2.2] := by
  match k, hk with
  | 0, _ => exact ⟨_, _, _, rfl, by decide, by decide, by decide, by decide, by decide, by decide +kernel⟩
  | 1, _ => exact ⟨_, _, _, rfl, by decide, by decide, by decide, by decide, by decide, by decide +kernel⟩
  | 2, _ => exact ⟨_, _, _, rfl, by decide, by decide, by decide, by decide, by decide, by decide +kernel⟩
  | 3, _ => exact ⟨_, _, _, rfl, by decide, by decide, by decide, by decide, by decide, by decide +kernel⟩
  | 4, _ => exact ⟨_, _, _, rfl, by decide, by decide, by decide, by decide, by decide, by decide +kernel⟩
  | 5, _ => exact ⟨_, _, _, rfl, by decide, by decide, by decide, by decide, by decide, by decide +kernel⟩
  | 6, _ => exact ⟨_, _, _, rfl, by decide, by decide, by decide, by decide, by decide, by decide +kernel⟩
  | 7, _ => exact ⟨_, _, _, rfl, by decide, by decide, by decide, by decide, by decide, by decide +kernel⟩
  | k + 8, h => exact absurd h (by omega)

set_option maxRecDepth 100000 in
set_option maxHeartbeats 4000000 in
theorem numbers_walk (w : World) : Calls Try.prog 3 #[] w fun e w' => e = .returned (.bool true) ∧ Below w.heap.size w w' := by
  go_enter Try.func3, Try.ntmps3
  go_wp2_with fail
  go_loopw [1, 2, 3] (fun hi lo k wr => PowsRel w hi lo k wr) (fun _ _ k _ => 10 - (intOf k).toNat)
  case atStart => exact ⟨1, by omega, by omega, rfl, rfl, rfl, Below.refl _ _⟩
  case round =>
    obtain ⟨j, hj1, hj2, rfl, rfl, rfl, hb⟩ := hrel
    by_cases hlt : j < 10
    · have hs := shl_one j (by omega)
      have hp63 : 128 ^ j ≤ 9223372036854775808 := by rw [pow128]; exact pow_le_63 (by omega)
      have hp0 : 0 < 128 ^ j := Nat.pow_pos (by omega)
      have hHI : Lib.uvarint (128 ^ j) = 128 :: hiL (j - 1) := by
        obtain ⟨q, rfl⟩ : ∃ q, j = q + 1 := ⟨j - 1, by omega⟩
        rw [uvarint_pow]; rfl
      have hLO : Lib.uvarint (128 ^ j - 1) = loL (j - 1) := by
        obtain ⟨q, rfl⟩ : ∃ q, j = q + 1 := ⟨j - 1, by omega⟩
        rw [uvarint_ahead]; rfl
      have HNX1 := Lib.hid (show hiL (j + 1 - 1) = 128 :: hiL (j - 1) from by
        obtain ⟨q, rfl⟩ : ∃ q, j = q + 1 := ⟨j - 1, by omega⟩
        rfl)
      have HNX2 := Lib.hid (show loL (j + 1 - 1) = 255 :: loL (j - 1) from by
        obtain ⟨q, rfl⟩ : ∃ q, j = q + 1 := ⟨j - 1, by omega⟩
        rfl)
      have hhl : (hiL (j - 1)).length ≤ 100 := by simp [hiL]; omega
      have hll : (loL (j - 1)).length ≤ 100 := by simp [loL]; omega
      generalize 128 ^ j = P at *
      generalize hiL (j - 1) = hi at *
      generalize loL (j - 1) = lo at *
      have hcat : (({ data := #[128] } : ByteArray) ++ { data := hi.toArray }) = { data := (128 :: hi).toArray } := ByteArray.mk_append_mk [128] hi
      have hcat2 : (({ data := #[255] } : ByteArray) ++ { data := lo.toArray }) = { data := (255 :: lo).toArray } := ByteArray.mk_append_mk [255] lo
      have hm1 : IntKind.i64.wrap (7 * (j : Int)) = 7 * (j : Int) := by rw [IntKind.wrap_i64]; omega
      have hm2 : IntKind.u64.wrap ((P : Int) - 1) = ((P - 1 : Nat) : Int) := by rw [IntKind.wrap_u64]; omega
      have HF := Lib.hid (fun (W : World) (hg : wr.heap.size < W.heap.size) (hW : RdC W wr.heap.size [P - 1, P]) => fits_any wr.heap.size 2 [P - 1, P] W (by simp) (by simp; omega) hg hW)
      have HTC := Lib.hid (two_cards wr (P - 1) P lo (128 :: hi) hLO hHI)
      have h7 : (0 : Int) ≤ 7 * (j : Int) := by omega
      have h77 : 7 * (j : Int) < 64 := by omega
      clear hHI hLO hp63 hp0
      go_wp2_with fail
      go_region_held (fun _ => True) (trivial)
        (first
          | (go_at_call 10; refine (HF.out _ (by simp) (by exact HTC.out)).mono ?_; rintro e w8 ⟨rfl, hb8⟩))
      go_wp2_with fail
      go_roundw
      case rel => exact ⟨j + 1, by omega, by omega, by go_num, by rw [HNX1.out], by rw [HNX2.out], ((hb.alloc hb.size _).drew).trans (hb8.mono (by have := hb.size; simp; omega))⟩
      case measure => simp [intOf]; omega
    · obtain rfl : j = 10 := by omega
      have hc := fun (y : List UInt8) => ByteArray.mk_append_mk [255, 255, 255, 255, 255, 255, 255, 255, 255] y
      have hone : RdC (wr.alloc (Obj.cells #[Value.int IntKind.u64 18446744073709551615, Value.string { data := #[255, 255, 255, 255, 255, 255, 255, 255, 255, 1] }] 25)) wr.heap.size [18446744073709551615] := by
        have h := RdC.of_alloc wr [18446744073709551615]
        simp only [cardCells, uvarint_most] at h
        exact h
      have HONE := Lib.hid hone
      clear hone hlt
      go_wp2_with fail
      refine (fits_any wr.heap.size 1 [18446744073709551615] _ (by simp) (by simp) (by simp) HONE.out).mono ?_
      rintro e w1 ⟨rfl, hb1'⟩
      have hw1 := (hb.alloc hb.size _).trans (hb1'.mono (by have := hb.size; simp; omega))
      clear hb1'
      go_wp2_with fail
      refine (bad_any [255, 255, 255, 255, 255, 255, 255, 255, 255, 2] 0 10 _ (by simp) (by decide +kernel)).mono ?_
      rintro e w2 ⟨rfl, hb2'⟩
      have hw2 := hw1.trans (hb2'.mono hw1.size)
      clear hb2'
      go_wp2_with fail
      refine (bad_any [255, 255, 255, 255, 255, 255, 255, 255, 255, 127] 0 10 _ (by simp) (by decide +kernel)).mono ?_
      rintro e w3 ⟨rfl, hb3'⟩
      have hw3 := hw2.trans (hb3'.mono hw2.size)
      clear hb3'
      go_wp2_with fail
      refine (bad_any [255, 255, 255, 255, 255, 255, 255, 255, 255, 129, 0] 0 10 _ (by simp) (by decide +kernel)).mono ?_
      rintro e w4 ⟨rfl, hb4'⟩
      have hw4 := hw3.trans (hb4'.mono hw3.size)
      clear hb4'
      go_wp2_with fail
      refine (bad_any [255, 255, 255, 255, 255, 255, 255, 255, 255, 129] 0 10 _ (by simp) (by decide +kernel)).mono ?_
      rintro e w5 ⟨rfl, hb5'⟩
      have hw5 := hw4.trans (hb5'.mono hw4.size)
      clear hb5'
      go_wp2_with fail
      refine (bad_any [255, 255, 255, 255, 255, 255, 255, 255, 255, 0] 0 10 _ (by simp) (by decide +kernel)).mono ?_
      rintro e w6 ⟨rfl, hb6'⟩
      have hw6 := hw5.trans (hb6'.mono hw5.size)
      clear hb6'
      go_wp2_with fail
      refine (bad_any [255, 255, 255, 255, 255, 255, 255, 255, 255] 0 11 _ (by simp) (by decide +kernel)).mono ?_
      rintro e w7 ⟨rfl, hb7'⟩
      have hw7 := hw6.trans (hb7'.mono hw6.size)
      clear hb7'
      go_wp2_with fail
      refine (bad_any [] 0 11 _ (by simp) (by decide +kernel)).mono ?_
      rintro e w8 ⟨rfl, hb8'⟩
      have hw8 := hw7.trans (hb8'.mono hw7.size)
      clear hb8'
      go_wp2_with fail
      refine (bad_any [97] 1 11 _ (by simp) (by decide +kernel)).mono ?_
      rintro e w9 ⟨rfl, hb9'⟩
      have hw9 := hw8.trans (hb9'.mono hw8.size)
      clear hb9'
      go_wp2_with fail
      refine (bad_any [97] 2 2 _ (by simp) (by decide +kernel)).mono ?_
      rintro e w10 ⟨rfl, hb10'⟩
      have hw10 := hw9.trans (hb10'.mono hw9.size)
      clear hb10'
      go_wp2_with fail
      refine (bad_any [97] (-1) 2 _ (by simp) (by decide +kernel)).mono ?_
      rintro e w11 ⟨rfl, hb11'⟩
      have hw11 := hw10.trans (hb11'.mono hw10.size)
      clear hb11'
      clear hw1 hw2 hw3 hw4 hw5 hw6 hw7 hw8 hw9 hw10 hb HONE hc
      have HW11 := Lib.hid hw11
      have hs11 := hw11.size
      obtain ⟨i0, hi, hz0, hz1, hz2⟩ := info_parts Try.info_int
      have kb := run_bytes
      go_wp2_with fail
      go_loopw [5, 7, 8, 9, 10, 11, 12, 13, 106] (fun got x7 x8 x9 x10 x11 x12 x13 i wr => TabRel w11.heap.size w got i wr) (fun _ _ _ _ _ _ _ _ i _ => 8 - (intOf i).toNat)
      case atStart => exact ⟨0, by omega, rfl, World.ownsRow_nil _ _ _ _, HW11.out.alloc hs11 _, by simp, RdT.made w11 _⟩
      case round =>
        obtain ⟨k, hk, rfl, hown, hbt, hgt, hrt⟩ := hrel
        by_cases hlt : k < 8
        · obtain ⟨b, many, most, hx, hn1, hn2, hm1, hm2, hbl, hwant⟩ := tab_row k hlt
          obtain ⟨hc1, hc2, hc3⟩ := hrt k _ hx
          simp only at hc1 hc2 hc3
          have HWANT := Lib.hid hwant
          have HRT := Lib.hid hrt
          have HR := Rd.bytes (wr.alloc (Obj.cells #[Value.string { data := b.toArray }, Value.int IntKind.i64 many, Value.int IntKind.i64 most] 28)) b
          rw [show (wr.alloc (Obj.cells #[Value.string { data := b.toArray }, Value.int IntKind.i64 many, Value.int IntKind.i64 most] 28)).heap.size = wr.heap.size + 1 from by simp] at HR
          have hd3 : (Lib.bytesWorld (wr.alloc (Obj.cells #[Value.string { data := b.toArray }, Value.int IntKind.i64 many, Value.int IntKind.i64 most] 28)) 5 ⟨b.toArray⟩).cell? ⟨wr.heap.size, 2, none⟩ = some (.int .i64 most) := by
            rw [Lib.bytesWorld_old _ _ _ _ (by simp), World.cell?_alloc_mark]; rfl
          have hge1 := grownCap_ge (wr.alloc (Obj.cells #[Value.string { data := b.toArray }, Value.int IntKind.i64 many, Value.int IntKind.i64 most] 28)) b.length 0 5
          have hle1 := grownCap_le_maxLen (wr.alloc (Obj.cells #[Value.string { data := b.toArray }, Value.int IntKind.i64 many, Value.int IntKind.i64 most] 28)) b.length 0 5 (by simp only [maxLen]; omega)
          clear hwant hx hrt
          obtain ⟨A0, n0, c0, hgot⟩ : ∃ A0 n0 c0, u5 = Value.slice A0 n0 c0 := by
            rcases hown.2 with ⟨h, _⟩ | ⟨g', cap, cur, h, _⟩
            · exact ⟨_, _, _, h⟩
            · exact ⟨_, _, _, h⟩
          subst hgot
          go_wp2_with fail
          refine (GetBlob_all _ _ b 0 most _ (by omega) hge1 hle1 HR hm1 hm2).mono ?_
          rintro e w1 ⟨v1, q1, rfl, hb1⟩
          have hsw : wr.heap.size < (Lib.bytesWorld (wr.alloc (Obj.cells #[Value.string { data := b.toArray }, Value.int IntKind.i64 many, Value.int IntKind.i64 most] 28)) 5 ⟨b.toArray⟩).heap.size := by rw [Lib.bytesWorld_size]; simp; omega
          have he : ∀ o u, #[Value.string { data := b.toArray }, Value.int IntKind.i64 many, Value.int IntKind.i64 most][o]? = some u → w1.cell? ⟨wr.heap.size, o, none⟩ = some u := fun o u hu => by
            rw [hb1.cell (p := ⟨wr.heap.size, o, none⟩) hsw, Lib.bytesWorld_old _ _ _ _ (by simp), World.cell?_alloc_mark]; exact hu
          have he1 := he 0 _ rfl
          have he2 := he 1 _ rfl
          have he3 := he 2 _ rfl
          have hwr1 : Below wr.heap.size wr w1 := (((Below.refl _ _).alloc (Nat.le_refl _) _).trans ((below_bytes _ _ _).mono (by simp))).trans (hb1.mono (Nat.le_of_lt hsw))
          have hs1 : wr.heap.size < w1.heap.size := Nat.lt_of_lt_of_le hsw hb1.size
          have he2' : (Lib.bytesWorld w1 5 ⟨b.toArray⟩).cell? ⟨wr.heap.size, 1, none⟩ = some (.int .i64 many) := (Lib.bytesWorld_old _ _ _ _ hs1).trans he2
          have he3' : (Lib.bytesWorld w1 5 ⟨b.toArray⟩).cell? ⟨wr.heap.size, 2, none⟩ = some (.int .i64 most) := (Lib.bytesWorld_old _ _ _ _ hs1).trans he3
          have hge2 := grownCap_ge w1 b.length 0 5
          have hle2 := grownCap_le_maxLen w1 b.length 0 5 (by simp only [maxLen]; omega)
          clear he hb1 hsw HR hd3 hc1 hc2 hc3 hge1 hle1
          go_wp2_with fail
          refine (GetBlobs_any _ _ b 0 many most _ (by omega) hge2 hle2 (Rd.bytes w1 b) hn1 hn2 hm1 hm2).mono ?_
          rintro e w2 ⟨v2, rfl, ho2, hb2⟩
          have hwr2 : Below wr.heap.size wr w2 := hwr1.trans (((below_bytes w1 5 ⟨b.toArray⟩).mono hwr1.size).trans (hb2.mono (by rw [Lib.bytesWorld_size]; omega)))
          have hown2 := row_below hown hwr2
          have hs2 := hwr2.size
          have HWR2 := Lib.hid hwr2
          clear ho2 hb2 he1 he2 he3 he2' he3' hge2 hle2 hwr1 hs1 hown hwr2
          have hlen2 : k * 2 + 2 ≤ maxLen := by simp only [maxLen]; omega
          have hone2 : ∀ u ∈ [Value.int .i64 ((blobAt b 0 most).2.2 : Nat), Value.int .i64 ((blobsAt b 0 many most).2.2 : Nat)], u.oneCell' = true := by simp [Value.oneCell']
          have HONE2 := Lib.hid hone2
          have HLEN2 := Lib.hid hlen2
          clear hone2 hlen2
          go_wp2_with (at_builtin; refine wpList_append_own _ rfl (.tmp 132) (.tmp 135) 27 rfl (w11.heap.size + 1) 3 i0 (.int .i64 0) 1 8 Try.underlying27 hi hz0 hz1 hz2 rfl (by decide) (.slice A0 n0 c0) (k * 2) (ints (want.take (k * 2))) rfl (hown2.alloc _) ⟨w2.heap.size, 0, none⟩ 2 2 [.int .i64 ((blobAt b 0 most).2.2 : Nat), .int .i64 ((blobsAt b 0 many most).2.2 : Nat)] rfl rfl (World.news_of_block (cs := #[.int .i64 ((blobAt b 0 most).2.2 : Nat), .int .i64 ((blobsAt b 0 many most).2.2 : Nat)]) (t := 3) (fr := (0, 0)) (heap_alloc_new w2 _)) HONE2.out HLEN2.out (by omega) (by simp; omega) ?_; intro v3 w3 hown3 hgrow3 _)
          go_roundw
          case rel =>
            have hb3 : Below (w11.heap.size + 1) w2 w3 := ((Below.refl _ _).alloc (by omega) _).grown hgrow3 (by simp; omega) (fun q hq => (hown2.lt q hq).1)
            have hbr : Below (w11.heap.size + 1) wr w3 := (HWR2.out.mono (by omega)).trans hb3
            refine ⟨k + 1, by omega, by go_num, ?_, hbt.trans (hbr.mono (by omega)), Nat.lt_of_lt_of_le hgt hbr.size, HRT.out.below hbr⟩
            rw [HWANT.out, show (k + 1) * 2 = k * 2 + 2 from by omega]
            simpa [ints] using hown3
          case measure => simp [intOf]; omega
        · obtain rfl : k = 8 := by omega
          rcases hown.2 with ⟨_, h0⟩ | ⟨g', cap, cur, hv, hg', hh, hnc, hcm, hcs, ht⟩
          · exact absurd h0 (by omega)
          · subst hv
            have hcells : ∀ (j n : Nat), want[j]? = some n → wr.cell? ⟨g', j, none⟩ = some (.int .i64 n) := fun j n hj => by
              have h1 := World.ownsRow.cells hown (g := g') rfl j (.int .i64 n) (by
                rw [show want.take (8 * 2) = want from rfl]
                simp [ints, hj])
              have ha : ((⟨g', 0, none⟩ : Addr).add j) = ⟨g', j, none⟩ := by
                unfold Addr.add
                by_cases hj0 : j = 0 <;> simp [hj0]
              rwa [ha] at h1
            have hg2 : g' < wr.heap.size := by
              rcases Nat.lt_or_ge g' wr.heap.size with h | h
              · exact h
              · rw [Array.getElem?_eq_none h] at hh; cases hh
            have HB := Lib.hid hbt
            have HC := Lib.hid hcells
            clear hlt hown hcells hh ht hrt hbt hgt hg' hcs hnc hcm
            go_wp2_with fail
            go_loop [14, 15, 140] (fun x y i => ∃ j : Nat, j ≤ 16 ∧ i = .int .i64 j) (fun _ _ i => 16 - (intOf i).toNat)
            case atStart => exact ⟨0, by omega, rfl⟩
            case round =>
              obtain ⟨j, hj, rfl⟩ := hrel
              by_cases hjl : j < 16
              · obtain ⟨n, hn⟩ : ∃ n, want[j]? = some n := ⟨_, List.getElem?_eq_getElem (show j < want.length from hjl)⟩
                have hq1 : (wr.alloc (Obj.cells #[Value.int IntKind.i64 11, Value.int IntKind.i64 3, Value.int IntKind.i64 3, Value.int IntKind.i64 3, Value.int IntKind.i64 3, Value.int IntKind.i64 3, Value.int IntKind.i64 3, Value.int IntKind.i64 11, Value.int IntKind.i64 3, Value.int IntKind.i64 3, Value.int IntKind.i64 0, Value.int IntKind.i64 3, Value.int IntKind.i64 0, Value.int IntKind.i64 10, Value.int IntKind.i64 10, Value.int IntKind.i64 10] 3)).cell? ⟨g', j, none⟩ = some (.int .i64 n) := by
                  rw [World.cell?_alloc_lt _ _ _ hg2]; exact HC.out j n hn
                have hq2 : (wr.alloc (Obj.cells #[Value.int IntKind.i64 11, Value.int IntKind.i64 3, Value.int IntKind.i64 3, Value.int IntKind.i64 3, Value.int IntKind.i64 3, Value.int IntKind.i64 3, Value.int IntKind.i64 3, Value.int IntKind.i64 11, Value.int IntKind.i64 3, Value.int IntKind.i64 3, Value.int IntKind.i64 0, Value.int IntKind.i64 3, Value.int IntKind.i64 0, Value.int IntKind.i64 10, Value.int IntKind.i64 10, Value.int IntKind.i64 10] 3)).cell? ⟨wr.heap.size, j, none⟩ = some (.int .i64 n) := by
                  rw [World.cell?_alloc_mark]
                  have : (ints want).toArray[j]? = some (.int .i64 n) := by simp [ints, hn]
                  exact this
                clear hn
                go_wp2_with fail
                go_round
                case rel => exact ⟨j + 1, by omega, by go_num⟩
                case measure => simp [intOf]; omega
              · go_wp2_with fail
                refine (awake_any _).mono ?_
                rintro e w9 ⟨rfl, hb9⟩
                go_wp2_with fail
                go_ret
                exact ⟨rfl, (HB.out.alloc HB.out.size _).trans (hb9.mono (by have := HB.out.size; simp; omega))⟩
end Go.Proofs.Ytnmlbkgkamfioaa
