/-
  Contracts of the inner functions of package bytes that call few others. Conditions: sizes as stated.
-/
import Derived.Test.YtdhdfeiobjmdaaaBase
import Derived.Test.YtdhdfeiobjmdaaaMath
import Derived.Test.YtdhdfeiobjmdaaaShelf
namespace Go.Proofs.Ytdhdfeiobjmdaaa
open Go.ChangeShapes Go.WideShapes Go.ChangeAt Go.RowKit
set_option linter.unusedVariables false

theorem ret_int {k : IntKind} {a b : Int} (h : a = b) : Ending.returned (.int k a) = .returned (.int k b) := by rw [h]
theorem ret_bool {a b : Bool} (h : a = b) : Ending.returned (.bool a) = .returned (.bool b) := by rw [h]
theorem dgInt (q : Nat) : max 1 (((q : Int) + 7 - 1) / 7) = ((max 1 ((q + 6) / 7) : Nat) : Int) := by omega

theorem mayBeLast_any (d i : Nat) (w : World) (hd : d < 256) (hi : i < 10) :
    Calls Try.prog 96 #[.int .u8 d, .int .i64 i] w fun e w' => e = .returned (.bool (lastOk d i)) ∧ w = w' := by
  by_cases h0 : 0 < i
  · by_cases hz : d = 0
    · have hz' : ((d : Int) == 0) = true := by simpa using hz
      have e : lastOk d i = false := by simp [lastOk, h0, hz]
      have E := Lib.hid e
      clear e hz
      go_enter Try.func96, Try.ntmps96
      go_wp2
      go_ret
      exact ⟨by rw [E.out]; rfl, rfl⟩
    · have hz' : ((d : Int) == 0) = false := by simpa using hz
      have e : lastOk d i = (decide (i < 9) || decide (d ≤ 1)) := by simp [lastOk, h0, hz]
      have E := Lib.hid e
      clear e hz
      by_cases h9 : i < 9
      · go_enter Try.func96, Try.ntmps96
        go_wp2
        go_ret
        exact ⟨by rw [E.out]; simp [h9], rfl⟩
      · have h9' : decide (i < 9) = false := by simpa using h9
        go_enter Try.func96, Try.ntmps96
        go_wp2
        go_ret
        exact ⟨by rw [E.out, h9', Bool.false_or]; exact ret_bool (by rw [show decide ((i : Int) < 9) = false from decide_eq_false (by omega), Bool.false_or]; exact decide_eq_decide.2 (by omega)), rfl⟩
  · have h0' : decide (0 < i) = false := by simpa using h0
    have h9 : i < 9 := by omega
    have e : lastOk d i = true := by simp [lastOk, h0', h9]
    have E := Lib.hid e
    clear e
    go_enter Try.func96, Try.ntmps96
    go_wp2
    go_ret
    exact ⟨by rw [E.out]; rfl, rfl⟩

theorem digits_any (n : Nat) (w : World) (hn : n < 18446744073709551616) :
    Calls Try.prog 95 #[.int .u64 n] w fun e w' => e = .returned (.int .i64 (Lib.uvarint n).length) ∧ w = w' := by
  have hd := dg_eq n hn
  have hb : Lib.bitLen n ≤ 64 := Lib.bitLenAux_le 64 n 64 hn
  have HD := Lib.hid hd
  clear hd
  go_enter Try.func95, Try.ntmps95
  go_wp2_with fail
  refine (Try.bits_Len64 _ _ (by omega) (by omega)).mono ?_
  rintro e w' ⟨rfl, rfl⟩
  rw [Int.toNat_natCast]
  go_wp2
  go_ret
  exact ⟨ret_int (by rw [← HD.out]; exact dgInt _), rfl⟩

theorem fresh_any (A : Option Addr) (c : Nat) (l : List UInt8) (room : Nat) (w : World) (hl : l.length ≤ 1099511627776) (hr : room ≤ 1099511627776) (hA : Rd w w.heap.size A l) :
    Calls Try.prog 94 #[.slice A l.length c, .int .i64 room] w (RetOwn l w) := by
  obtain ⟨i0, hi, hz0, hz1, hz2⟩ := info_parts Try.info_u8
  have hmk : (Instr.makeSlice 62 (.int .i64 (l.length : Int)) (.int .i64 ((l.length : Int) + room))).run Try.prog w = .ok (.slice (some ⟨w.heap.size, 0, none⟩) l.length (l.length + room)) (w.alloc (.cells (madeCells #[.int .u8 0] (l.length + room)) 5)) := by
    have h := run_make (P := Try.prog) w 62 5 i0 (.int .u8 0) Try.underlying62 hi hz0 .i64 .i64 (l.length : Int) ((l.length : Int) + room) (by omega) (by omega) (by rw [hz2]; omega) (by omega)
    rw [h, hz1]
    have e1 : ((l.length : Int)).toNat = l.length := by omega
    have e2 : ((l.length : Int) + room).toNat = l.length + room := by omega
    rw [e1, e2, Nat.mul_one]
    rfl
  have hsz : (Try.prog.info? 5).map (·.size) = some 1 := by rw [hi]; simp [hz1]
  have hmc : (madeCells #[.int .u8 0] (l.length + room)).size = l.length + room := size_madeCells _ _
  have hg : (w.alloc (.cells (madeCells #[.int .u8 0] (l.length + room)) 5)).heap[w.heap.size]? = some (.cells (madeCells #[.int .u8 0] (l.length + room)).toList.toArray 5 (0, 0)) := by
    rw [heap_alloc_new]
  have hpos : 0 < (bs l).length → (some ⟨w.heap.size, 0, none⟩ : Option Addr) = some ⟨w.heap.size, 0, none⟩ ∧ ∃ ad, A = some ad ∧ ∀ j v, (bs l)[j]? = some v → (w.alloc (.cells (madeCells #[.int .u8 0] (l.length + room)) 5)).cell? (ad.add j) = some v := by
    intro hp
    rw [bs_length] at hp
    obtain ⟨ad, e, hb, hc⟩ := hA hp
    refine ⟨rfl, ad, e, fun j v hv => ?_⟩
    rw [bs_getElem?] at hv
    obtain ⟨u, hu, rfl⟩ := Option.map_eq_some_iff.1 hv
    rw [World.cell?_alloc_lt w _ _ (by rw [blockAdd]; exact hb)]
    exact hc j u hu
  have hfit : 0 + (bs l).length ≤ (madeCells #[.int .u8 0] (l.length + room)).toList.length := by
    have e : (madeCells #[.int .u8 0] (l.length + room)).toList.length = l.length + room := hmc
    rw [bs_length, e]; omega
  have HG := Lib.hid hg
  have HP := Lib.hid hpos
  have HF := Lib.hid hfit
  have HM := Lib.hid hmc
  clear hg hpos hfit hmc
  go_enter Try.func94, Try.ntmps94
  go_wp2_with (with_reducible refine wpList_copy_splice rfl (.tmp 13) (.tmp 14) 62 62 rfl 5 Try.underlying62 hsz (some ⟨w.heap.size, 0, none⟩) A l.length (l.length + room) l.length c rfl rfl w.heap.size 0 (madeCells #[.int .u8 0] (l.length + room)).toList 5 HG.out (bs l) (by rw [bs_length]; simp) HP.out HF.out (bs_one l) w.heap.size w ((Below.refl _ _).alloc (Nat.le_refl _) _) (Nat.le_refl _) ?_; intro w1 hg1 hb1)
  go_ret
  have hm := HM.out
  refine ⟨_, rfl, ⟨by rw [bs_length, Nat.mul_one], .inr ⟨w.heap.size, l.length + room, _, rfl, Nat.le_refl _, hg1.out, by omega, by simp only [maxLen]; omega, ?_, ?_⟩⟩, hb1⟩
  · have e : (madeCells #[.int .u8 0] (l.length + room)).toList.length = l.length + room := hm
    rw [List.size_toArray, length_splice _ _ _ HF.out, e, Nat.mul_one]
  · simp only [splice, List.take_zero, List.nil_append, Nat.mul_one]
    rw [List.take_append_of_le_length (by rw [bs_length]; exact Nat.le_refl _), List.take_of_length_le (by rw [bs_length]; exact Nat.le_refl _)]

/-- what holds at the head of putUint's loop -/
def PutRel (l : List UInt8) (n base : Nat) (w : World) (v m i : Value) (wr : World) : Prop :=
  ∃ (xs : List UInt8) (q k : Nat), i = .int .i64 k ∧ m = .int .u64 q ∧ q < 18446744073709551616 ∧ k + (Lib.uvarint q).length = (Lib.uvarint n).length ∧ xs ++ Lib.uvarint q = l ++ Lib.uvarint n ∧ Own wr base v xs ∧ Below base w wr

theorem b8_of (n : Nat) (h : n < 256) : Value.int .u8 (n : Int) = b8 n.toUInt8 := by
  unfold b8
  congr 1
  simp only [Nat.toUInt8, UInt8.toNat_ofNat']
  omega

theorem putUint_any (v : Value) (l : List UInt8) (n base : Nat) (w : World) (hn : n < 18446744073709551616) (hl : l.length ≤ 1099511627776) (hown : Own w base v l) (hbase : base ≤ w.heap.size) :
    Calls Try.prog 93 #[v, .int .u64 n] w fun e w' => ∃ v', e = .returned v' ∧ Own w' base v' (l ++ Lib.uvarint n) ∧ Below base w w' := by
  have hD1 := Lib.uvarint_pos n
  have hD2 := Lib.uvarint_length64 hn
  go_enter Try.func93, Try.ntmps93
  go_wp2_with fail
  refine (digits_any n _ hn).mono ?_
  rintro e w' ⟨rfl, rfl⟩
  generalize hD : (Lib.uvarint n).length = D at *
  have HD := Lib.hid hD
  clear hD
  go_wp2_with fail
  go_loopw [0, 1, 8] (fun v m i wr => PutRel l n base w v m i wr) (fun _ _ i _ => D - (intOf i).toNat)
  case atStart => exact ⟨l, n, 0, rfl, rfl, hn, by simp, rfl, hown, Below.refl _ _⟩
  case round =>
    obtain ⟨xs, q, k, rfl, rfl, hq, hk, hxs, ho, hb⟩ := hrel
    rw [HD.out] at hk
    have hqp := Lib.uvarint_pos q
    have hsz := hb.size
    have hxl : xs.length ≤ 1099511627786 := by
      have e := congrArg List.length hxs
      simp only [List.length_append] at e
      have := HD.out
      omega
    obtain ⟨A, c, rfl, hc1, hc2, hrd⟩ := ho.form
    by_cases hlt : k < D - 1
    · have hqb : 128 ≤ q := uvarint_of_more (by omega)
      have hxs' : (xs ++ [(q % 128 + 128).toUInt8]) ++ Lib.uvarint (q / 128) = l ++ Lib.uvarint n := by
        rw [← hxs, List.append_assoc, Lib.uvarint_big hqb]; rfl
      have hk' : k + 1 + (Lib.uvarint (q / 128)).length = D := by
        rw [Lib.uvarint_big hqb, List.length_cons] at hk; omega
      have HX := Lib.hid hxs'
      have HK := Lib.hid hk'
      clear hxs hk hxs' hk'
      have HZ := Lib.hid (show (q : Int) % 128 + 128 = ((q % 128 + 128).toUInt8.toNat : Int) from by rw [u8nat (by omega)]; omega)
      go_wp2_with (at_builtin; with_reducible refine wpList_app1 rfl (.tmp 10) (.tmp 15) rfl base _ xs rfl ho _ (q % 128 + 128).toUInt8 HZ.out rfl (by omega) (by omega) ?_; intro v1 w1 ho1 hb1)
      go_roundw
      case rel => exact ⟨_, q / 128, k + 1, by go_num, by go_num, by omega, by rw [HK.out, HD.out], HX.out, ho1, hb.trans hb1⟩
      case measure => simp [intOf]; omega
    · have hk1 : (Lib.uvarint q).length = 1 := by omega
      have hq1 : q < 128 := uvarint_of_one hk1
      rw [Lib.uvarint_small hq1] at hxs
      have HX := Lib.hid hxs
      have HZ := Lib.hid (show (q : Int) = (q.toUInt8.toNat : Int) from by rw [u8nat (by omega)])
      clear hxs hk1 hk
      go_wp2_with (at_builtin; with_reducible refine wpList_app1 rfl (.tmp 20) (.tmp 23) rfl base _ xs rfl ho _ q.toUInt8 HZ.out rfl (by omega) (by omega) ?_; intro v1 w1 ho1 hb1)
      go_ret
      rw [HX.out] at ho1
      exact ⟨v1, rfl, ho1, hb.trans hb1⟩

theorem Uint_any (A : Option Addr) (c : Nat) (l : List UInt8) (n : Nat) (w : World) (hl : l.length ≤ 1099511627776) (hn : n < 18446744073709551616) (hA : Rd w w.heap.size A l) :
    Calls Try.prog 80 #[.slice A l.length c, .int .u64 n] w (RetOwn (l ++ Lib.uvarint n) w) := by
  have hD2 := Lib.uvarint_length64 hn
  go_enter Try.func80, Try.ntmps80
  go_wp2_with fail
  refine (digits_any n _ hn).mono ?_
  rintro e w' ⟨rfl, rfl⟩
  go_wp2_with fail
  refine (fresh_any A c l (Lib.uvarint n).length w hl (by omega) hA).mono ?_
  rintro e w1 ⟨v1, rfl, ho1, hb1⟩
  go_wp2_with fail
  refine (putUint_any v1 l n w.heap.size w1 hn hl ho1 hb1.size).mono ?_
  rintro e w2 ⟨v2, rfl, ho2, hb2⟩
  go_wp2_with fail
  go_ret
  exact ⟨v2, rfl, ho2, hb1.trans hb2⟩

theorem Uint_int (A : Option Addr) (c : Nat) (l : List UInt8) (z : Int) (n : Nat) (w : World) (hz : z = n) (hl : l.length ≤ 1099511627776) (hn : n < 18446744073709551616) (hA : Rd w w.heap.size A l) :
    Calls Try.prog 80 #[.slice A l.length c, .int .u64 z] w (RetOwn (l ++ Lib.uvarint n) w) := by
  subst hz
  exact Uint_any A c l n w hl hn hA

end Go.Proofs.Ytdhdfeiobjmdaaa
