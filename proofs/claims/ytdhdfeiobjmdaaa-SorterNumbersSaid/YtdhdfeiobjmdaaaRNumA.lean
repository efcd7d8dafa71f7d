/-
  RecordNumbers' parts: one int put, rows of NULLs, flags that are all false, a row of long texts. Conditions: sizes as stated.
-/
import Derived.Test.YtdhdfeiobjmdaaaRRefuse
import Derived.Test.YtdhdfeiobjmdaaaRLong
import Derived.Test.YtdhdfeiobjmdaaaRWrong
import Derived.Test.YtdhdfeiobjmdaaaRAwk
import Derived.Lib.Repeat
namespace Go.Proofs.Ytdhdfeiobjmdaaa
open Go.ChangeShapes Go.WideShapes Go.ChangeAt Go.RowKit
set_option linter.unusedVariables false

/-- the greatest int of k bytes -/
def endN (k : Nat) : Int := match k with | 1 => 127 | 2 => 32767 | 3 => 8388607 | 4 => 2147483647 | 5 => 549755813887 | 6 => 140737488355327 | 7 => 36028797018963967 | _ => 9223372036854775807
/-- the four ints at a border, and how many bytes each has -/
def rowN (k i : Nat) : Int := match i with | 0 => endN k | 1 => wrap64 (wrap64 (-endN k) - 1) | 2 => wrap64 (endN k + 1) | _ => wrap64 (wrap64 (-endN k) - 2)
def lenN (k i : Nat) : Nat := if i < 2 then k else k + 1
theorem row_fact : ∀ (k : Fin 8) (i : Fin 4), (k.val + 1 = 8 ∧ 1 < i.val) ∨ (In64 (rowN (k.val + 1) i.val) ∧ lenI (rowN (k.val + 1) i.val) = lenN (k.val + 1) i.val ∧ 1 ≤ lenN (k.val + 1) i.val ∧ lenN (k.val + 1) i.val ≤ 8) := by decide +kernel
theorem row_ok (k i : Nat) (h1 : 1 ≤ k) (h8 : k ≤ 8) (hi : i < 4) (hn : ¬ (k = 8 ∧ 1 < i)) : In64 (rowN k i) ∧ lenI (rowN k i) = lenN k i ∧ 1 ≤ lenN k i ∧ lenN k i ≤ 8 := by
  have h := row_fact ⟨k - 1, by omega⟩ ⟨i, hi⟩
  have e : k - 1 + 1 = k := by omega
  simp only [e] at h
  rcases h with h | h
  · exact absurd h hn
  · exact h
theorem uv_small : ∀ L : Fin 128, Lib.uvarint L.val = [UInt8.ofNat L.val] := by decide +kernel

theorem put_num (N : Int) (L : Nat) (hn : In64 N) (hL : lenI N = L) (h1 : 1 ≤ L) (h8 : L ≤ 8) (X W : World) (hW : W = X.alloc (.cells (cellsL [(1, N, ⟨#[]⟩)]).toArray 29)) :
    Calls Try.prog 27 #[.slice (some ⟨X.heap.size, 0, none⟩) 1 1] W fun e w' => ∃ g c n, n = 2 + L ∧ e = .returned (.tuple #[.slice (some ⟨g, 0, none⟩) n c, .int .i64 0]) ∧ w'.cell? ⟨g, 1, none⟩ = some (.int .u8 L) ∧ Below X.heap.size X w' := by
  subst hW
  have hr := rdr_new X [(1, N, ⟨#[]⟩)] _ (Below.refl _ _)
  have hz : ∀ t ∈ [((1 : Int), N, (⟨#[]⟩ : ByteArray))], t.2.2.size ≤ 65536 ∧ In64 t.2.1 := by
    intro t ht
    obtain rfl := List.mem_singleton.1 ht
    exact ⟨by show (⟨#[]⟩ : ByteArray).size ≤ 65536; decide, hn⟩
  have hp : putL [(1, N, ⟨#[]⟩)] = 1 :: UInt8.ofNat L :: beN (u64N N) L := by
    show (Lib.uvarint 1 ++ (Lib.uvarint (lenI N) ++ [])) ++ (beN (u64N N) (lenI N) ++ []) = _
    have h := uv_small ⟨L, by omega⟩
    simp only at h
    rw [hL, h, show Lib.uvarint 1 = [1] from by decide +kernel, List.append_nil, List.append_nil]
    rfl
  refine (Put_ok (some ⟨X.heap.size, 0, none⟩) 1 [(1, N, ⟨#[]⟩)] _ hr (by simp) ?_ hz ?_).mono ?_
  · have h : Rt 1 N ⟨#[]⟩ := .inr (.inl ⟨rfl, rfl⟩)
    simp only [List.any_cons, List.any_nil, pBad, Bool.or_false]
    rw [decide_eq_true h]
    rfl
  · have h2 := headL_len [(1, N, ⟨#[]⟩)] (by simp) (fun t ht => (hz t ht).1)
    have h3 : sumB [(1, N, ⟨#[]⟩)] = bodyN (lenI N) := by simp [sumB, sortN]
    have h4 : bodyN (lenI N) = L := by rw [hL]; unfold bodyN; rw [if_pos (by omega)]
    omega
  · rintro e w' ⟨v, rfl, ho, hb⟩
    rw [hp] at ho
    obtain ⟨A, c, rfl, _, _, _⟩ := ho.form
    obtain ⟨g, rfl⟩ := own_some2 ho (by simp)
    obtain ⟨_, _, _, _, _, hc⟩ := ho.cells
    have e1 : (1 :: UInt8.ofNat L :: beN (u64N N) L).length = 2 + L := by simp [beN_length]; omega
    rw [e1]
    refine ⟨g, c, 2 + L, rfl, rfl, ?_, ((Below.refl X.heap.size X).alloc (Nat.le_refl _) _).trans (hb.mono (by simp))⟩
    have h := (hc 1 (UInt8.ofNat L) rfl).1
    have e2 : (UInt8.ofNat L).toNat = L := by rw [UInt8.toNat_ofNat']; omega
    rw [h]
    unfold b8
    rw [e2]

theorem run_makeV (n : Nat) (hn : n ≤ 1000000) (w : World) : (Instr.makeSlice 31 (.int .i64 (n : Int)) (.int .i64 (n : Int))).run Try.prog w = .ok (.slice (some ⟨w.heap.size, 0, none⟩) n n) (w.alloc (.cells (madeCells (vv 0 0 ⟨#[]⟩).cells (n * 3)) 29)) := by
  obtain ⟨i0, hi, hz0, hz1, hz2⟩ := info_parts Try.info_V
  have h := run_make (P := Try.prog) w 31 29 i0 (vv 0 0 ⟨#[]⟩) Try.underlying31 hi hz0 .i64 .i64 (n : Int) (n : Int) (by omega) (by omega) (by rw [hz2]; omega) (by omega)
  rw [h, hz1]
  have e2 : ((n : Int)).toNat = n := by omega
  rw [e2]
theorem made_get (z : Array Value) (n i : Nat) (hi : i < n) : (madeCells z n)[i]? = some (z[i % z.size]!) := by
  unfold madeCells
  rw [Array.getElem?_map, Array.getElem?_range, if_pos hi]
  rfl
abbrev nulls (m : Nat) : List Trip := List.replicate m (0, 0, ⟨#[]⟩)
theorem rdr_made (X : World) (n m : Nat) (hm : m ≤ n) (W : World) (h : Below (X.alloc (.cells (madeCells (vv 0 0 ⟨#[]⟩).cells (n * 3)) 29)).heap.size (X.alloc (.cells (madeCells (vv 0 0 ⟨#[]⟩).cells (n * 3)) 29)) W) :
    RdR W W.heap.size (some ⟨X.heap.size, 0, none⟩) (nulls m) := by
  intro _
  have hs : X.heap.size < W.heap.size := by have := h.size; simp at this; omega
  refine ⟨_, rfl, hs, fun j k q s hj => ?_⟩
  have hj2 : j < m := by
    rcases Nat.lt_or_ge j m with h | h
    · exact h
    · rw [List.getElem?_eq_none (by simpa using h)] at hj; cases hj
  rw [List.getElem?_replicate, if_pos hj2] at hj
  obtain ⟨rfl, rfl, rfl⟩ : 0 = k ∧ 0 = q ∧ (⟨#[]⟩ : ByteArray) = s := by simpa using hj
  have ha : ((⟨X.heap.size, 0, none⟩ : Addr).add (j * 3)) = ⟨X.heap.size, j * 3, none⟩ := by
    unfold Addr.add
    by_cases hj0 : j * 3 = 0 <;> simp [hj0]
  rw [ha]
  have hc : ∀ o, W.cell? ⟨X.heap.size, o, none⟩ = (X.alloc (.cells (madeCells (vv 0 0 ⟨#[]⟩).cells (n * 3)) 29)).cell? ⟨X.heap.size, o, none⟩ := fun o => h.cell (p := ⟨X.heap.size, o, none⟩) (by simp)
  have hg : ∀ o v, o < n * 3 → (vv 0 0 ⟨#[]⟩).cells[o % (vv 0 0 ⟨#[]⟩).cells.size]! = v → W.cell? ⟨X.heap.size, o, none⟩ = some v := by
    intro o v ho hv
    rw [hc, World.cell?_alloc_mark, made_get _ _ _ ho, hv]
  have hz : (vv 0 0 ⟨#[]⟩).cells.size = 3 := by decide
  refine ⟨hg _ _ (by omega) ?_, hg _ _ (by show j * 3 + 1 < n * 3; omega) ?_, hg _ _ (by show j * 3 + 2 < n * 3; omega) ?_⟩
  · rw [hz, show j * 3 % 3 = 0 by omega]; rfl
  · rw [hz, show (j * 3 + 1) % 3 = 1 by omega]; rfl
  · rw [hz, show (j * 3 + 2) % 3 = 2 by omega]; rfl

/-- 200 NULLs put -/
theorem put_nulls (n cap : Nat) (X W : World) (hn : 200 ≤ n) (h : Below (X.alloc (.cells (madeCells (vv 0 0 ⟨#[]⟩).cells (n * 3)) 29)).heap.size (X.alloc (.cells (madeCells (vv 0 0 ⟨#[]⟩).cells (n * 3)) 29)) W) :
    Calls Try.prog 27 #[.slice (some ⟨X.heap.size, 0, none⟩) 200 cap] W fun e w' => ∃ v, e = .returned (.tuple #[v, .int .i64 0]) ∧ Below W.heap.size W w' := by
  refine (Put_ok (some ⟨X.heap.size, 0, none⟩) cap (nulls 200) W (rdr_made X n 200 hn W h) (by simp) (by decide +kernel) (fun t ht => ?_) ?_).mono ?_
  · obtain rfl := List.eq_of_mem_replicate ht
    exact ⟨by decide, by decide⟩
  · have h2 := headL_len (nulls 200) (by simp) (fun t ht => by obtain rfl := List.eq_of_mem_replicate ht; decide)
    have h3 : sumB (nulls 200) ≤ 100 := by decide +kernel
    omega
  · rintro e w' ⟨v, rfl, _, hb⟩
    exact ⟨v, rfl, hb⟩
theorem key_nulls (n cap : Nat) (X W : World) (hn : 200 ≤ n) (h : Below (X.alloc (.cells (madeCells (vv 0 0 ⟨#[]⟩).cells (n * 3)) 29)).heap.size (X.alloc (.cells (madeCells (vv 0 0 ⟨#[]⟩).cells (n * 3)) 29)) W)
    (F : Option Addr) (fcap : Nat) (ds : List Bool) (hd : ds.length = 200) (hF : RdF W W.heap.size F ds) :
    Calls Try.prog 26 #[.slice (some ⟨X.heap.size, 0, none⟩) 200 cap, .slice F 200 fcap] W fun e w' => ∃ v, e = .returned (.tuple #[v, .int .i64 0]) ∧ Below W.heap.size W w' := by
  have hc := Key_ok (some ⟨X.heap.size, 0, none⟩) cap (nulls 200) F fcap ds W (rdr_made X n 200 hn W h) hF (by simp) (by rw [hd]; simp) (by decide +kernel) (fun t ht => by obtain rfl := List.eq_of_mem_replicate ht; exact ⟨by decide, by decide⟩) (by decide +kernel)
  rw [hd] at hc
  refine hc.mono ?_
  rintro e w' ⟨v, rfl, _, hb⟩
  exact ⟨v, rfl, hb⟩
theorem key_two (n cap : Nat) (X W : World) (hn : 200 ≤ n) (h : Below (X.alloc (.cells (madeCells (vv 0 0 ⟨#[]⟩).cells (n * 3)) 29)).heap.size (X.alloc (.cells (madeCells (vv 0 0 ⟨#[]⟩).cells (n * 3)) 29)) W)
    (F : Option Addr) (fcap : Nat) :
    Calls Try.prog 26 #[.slice (some ⟨X.heap.size, 0, none⟩) 2 cap, .slice F 1 fcap] W fun e w' => NoRet 2 W e w' :=
  Key_uneven (some ⟨X.heap.size, 0, none⟩) cap (nulls 2) F 1 fcap W (rdr_made X n 2 (by omega) W h) (by decide) (by decide) (by decide) (fun t ht => by obtain rfl := List.eq_of_mem_replicate ht; decide) (by decide +kernel)

/-- the same text, so often -/
abbrev longs (X : ByteArray) (m : Nat) : List Trip := List.replicate m (2, 0, X)
theorem longs_ok (X : ByteArray) (m : Nat) (hX : X.size = 65536) : (longs X m).any pBad = false ∧ (∀ t ∈ longs X m, t.2.2.size ≤ 65536 ∧ In64 t.2.1) ∧ sumB (longs X m) = 65536 * m ∧ 65539 * m ≤ sumP (longs X m) := by
  have hb : bodyN (sortN 2 0 X) = 65536 := by
    show bodyN (11 + 2 * X.size) = _
    rw [hX]
    rfl
  have hp : 65539 ≤ partN 2 X := by
    show 65539 ≤ 1 + X.size + Lib.countByte X.data.toList 0 + 2
    omega
  have hr : Rt 2 0 X := .inr (.inr ⟨.inl rfl, rfl, by omega⟩)
  have hpb : pBad (2, 0, X) = false := by unfold pBad; rw [decide_eq_true hr]; rfl
  induction m with
  | zero => exact ⟨rfl, by simp, by simp [sumB], by simp⟩
  | succ m ih =>
    obtain ⟨i1, i2, i3, i4⟩ := ih
    have e : longs X (m + 1) = (2, 0, X) :: longs X m := rfl
    rw [e]
    refine ⟨by rw [List.any_cons, hpb, i1]; rfl, ?_, ?_, ?_⟩
    · intro t ht
      rcases List.mem_cons.1 ht with rfl | ht
      · exact ⟨by show X.size ≤ _; omega, by show In64 0; decide⟩
      · exact i2 t ht
    · show bodyN (sortN 2 0 X) + sumB (longs X m) = _
      omega
    · show _ ≤ partN 2 X + sumP (longs X m)
      omega
theorem put_long15 (A : Option Addr) (cap : Nat) (X : ByteArray) (hX : X.size = 65536) (w : World) (hR : RdR w w.heap.size A (longs X 15)) :
    Calls Try.prog 27 #[.slice A 15 cap] w fun e w' => ∃ v, e = .returned (.tuple #[v, .int .i64 0]) ∧ Below w.heap.size w w' := by
  obtain ⟨h1, h2, h3, _⟩ := longs_ok X 15 hX
  refine (Put_ok A cap (longs X 15) w hR (by simp) h1 h2 ?_).mono ?_
  · have h4 := headL_len (longs X 15) (by simp) (fun t ht => (h2 t ht).1)
    omega
  · rintro e w' ⟨v, rfl, _, hb⟩
    exact ⟨v, rfl, hb⟩
theorem put_long16 (A : Option Addr) (cap : Nat) (X : ByteArray) (hX : X.size = 65536) (w : World) (hR : RdR w w.heap.size A (longs X 16)) :
    Calls Try.prog 27 #[.slice A 16 cap] w fun e w' => NoRet 3 w e w' := by
  obtain ⟨h1, h2, h3, _⟩ := longs_ok X 16 hX
  refine Put_long A cap (longs X 16) w hR (by simp) h1 h2 ?_
  have : 1 ≤ (headL (longs X 16)).length := by
    unfold headL
    rw [List.length_append, show Lib.uvarint (longs X 16).length = [16] from by rw [List.length_replicate]; decide +kernel]
    simp
  omega
theorem key_long16 (A : Option Addr) (cap : Nat) (X : ByteArray) (hX : X.size = 65536) (w : World) (hR : RdR w w.heap.size A (longs X 16)) (F : Option Addr) (fcap : Nat) (ds : List Bool) (hd : ds.length = 16) (hF : RdF w w.heap.size F ds) (hb : 1048576 < sumP (longs X 16)) :
    Calls Try.prog 26 #[.slice A 16 cap, .slice F 16 fcap] w fun e w' => NoRet 3 w e w' := by
  obtain ⟨h1, h2, h3, h4⟩ := longs_ok X 16 hX
  have hc := Key_long A cap (longs X 16) F fcap ds w hR hF (by simp) (by rw [hd]; simp) h1 h2 hb
  rw [hd] at hc
  exact hc
end Go.Proofs.Ytdhdfeiobjmdaaa
