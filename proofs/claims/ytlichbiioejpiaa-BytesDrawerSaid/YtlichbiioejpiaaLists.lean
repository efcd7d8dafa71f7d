/-
  Lists of byte slices in memory, and the contracts of Blobs and GetBlobs. Conditions: sizes as stated.
-/
import Derived.Test.YtlichbiioejpiaaGetB
namespace Go.Proofs.Ytlichbiioejpiaa
open Go.ChangeShapes Go.WideShapes Go.ChangeAt Go.RowKit
set_option linter.unusedVariables false

/-- The pointer A leads to slices, one for each of ls, all of it below block number B. -/
def RdL (w : World) (B : Nat) (A : Option Addr) (ls : List (List UInt8)) : Prop :=
  0 < ls.length → ∃ ad, A = some ad ∧ ad.block < B ∧ ∀ j m, ls[j]? = some m → ∃ A' c', w.cell? (ad.add j) = some (.slice A' m.length c') ∧ m.length ≤ c' ∧ c' ≤ maxLen ∧ Rd w B A' m

theorem RdL.keep {w w' : World} {B : Nat} {A : Option Addr} {ls : List (List UInt8)} (h : RdL w B A ls) (hk : ∀ p : Addr, p.block < B → w'.cell? p = w.cell? p) : RdL w' B A ls := by
  intro hp
  obtain ⟨ad, e, hb, hc⟩ := h hp
  refine ⟨ad, e, hb, fun j m hm => ?_⟩
  obtain ⟨A', c', h1, h2, h3, h4⟩ := hc j m hm
  exact ⟨A', c', (hk _ (by rw [blockAdd]; exact hb)).trans h1, h2, h3, h4.keep hk⟩
theorem RdL.more {w : World} {B B' : Nat} {A : Option Addr} {ls : List (List UInt8)} (h : RdL w B A ls) (hB : B ≤ B') : RdL w B' A ls := by
  intro hp
  obtain ⟨ad, e, hb, hc⟩ := h hp
  refine ⟨ad, e, by omega, fun j m hm => ?_⟩
  obtain ⟨A', c', h1, h2, h3, h4⟩ := hc j m hm
  exact ⟨A', c', h1, h2, h3, h4.more hB⟩
theorem RdL.below {w w' : World} {B : Nat} {A : Option Addr} {ls : List (List UInt8)} (h : RdL w B A ls) (hb : Below B w w') : RdL w' B A ls := h.keep fun _ hp => hb.cell hp
theorem RdL.on {w w' : World} {A : Option Addr} {ls : List (List UInt8)} (h : RdL w w.heap.size A ls) (hb : Below w.heap.size w w') : RdL w' w'.heap.size A ls := (h.below hb).more hb.size
theorem RdL.cell {w : World} {B : Nat} {A : Option Addr} {ls : List (List UInt8)} {k : Nat} (h : RdL w B A ls) (hk : k < ls.length) :
    ∃ ad m A' c', A = some ad ∧ ad.block < B ∧ ls[k]? = some m ∧ w.cell? (ad.add k) = some (.slice A' m.length c') ∧ m.length ≤ c' ∧ c' ≤ maxLen ∧ Rd w B A' m := by
  obtain ⟨ad, e, hb, hc⟩ := h (by omega)
  obtain ⟨A', c', h1, h2, h3, h4⟩ := hc k _ (List.getElem?_eq_getElem hk)
  exact ⟨ad, _, A', c', e, hb, List.getElem?_eq_getElem hk, h1, h2, h3, h4⟩

theorem take_snoc {α : Type} {ls : List α} {k : Nat} {m : α} (h : ls[k]? = some m) : ls.take (k + 1) = ls.take k ++ [m] := by
  rw [List.take_add_one, h]
  rfl

theorem blobsE_snoc (ls : List (List UInt8)) (m : List UInt8) : blobsE (ls ++ [m]) = blobsE ls ++ blobE m := by
  simp [blobsE]

theorem blobE_length (m : List UInt8) : (blobE m).length = (Lib.uvarint m.length).length + m.length := by
  simp [blobE]

theorem mem_of_get {α : Type} {ls : List α} {k : Nat} {m : α} (h : ls[k]? = some m) : m ∈ ls := List.mem_of_getElem? h

/-- in Blobs' first loop: how much room there is -/
def RoomRel (ls : List (List UInt8)) (n0 : Nat) (r b i : Value) : Prop := ∃ k : Nat, k ≤ ls.length ∧ i = .int .i64 k ∧ r = .int .i64 ((n0 + (blobsE (ls.take k)).length : Nat) : Int)

/-- in Blobs' second loop: what is written -/
def PutsRel (pre : List UInt8) (ls : List (List UInt8)) (base : Nat) (w : World) (v b i : Value) (wr : World) : Prop :=
  ∃ k : Nat, k ≤ ls.length ∧ i = .int .i64 k ∧ Own wr base v (pre ++ blobsE (ls.take k)) ∧ Below base w wr

theorem blobsE_take_le (ls : List (List UInt8)) (k : Nat) : (blobsE (ls.take k)).length ≤ (blobsE ls).length := by
  have e : blobsE ls = blobsE (ls.take k) ++ blobsE (ls.drop k) := by
    unfold blobsE
    rw [← List.flatten_append, ← List.map_append, List.take_append_drop]
  rw [e, List.length_append]
  omega

theorem blobE_le {ls : List (List UInt8)} {m : List UInt8} (h : m ∈ ls) : (blobE m).length ≤ (blobsE ls).length := by
  induction ls with
  | nil => cases h
  | cons x r ih =>
    have e : blobsE (x :: r) = blobE x ++ blobsE r := rfl
    rw [e, List.length_append]
    rcases List.mem_cons.1 h with e | e
    · subst e; omega
    · have := ih e; omega

theorem fresh_int (A : Option Addr) (c : Nat) (l : List UInt8) (room : Int) (w : World) (hl : l.length ≤ 1099511627776) (h0 : 0 ≤ room) (hr : room ≤ 1099511627776) (hA : Rd w w.heap.size A l) :
    Calls Try.prog 49 #[.slice A l.length c, .int .i64 room] w (RetOwn l w) := by
  obtain ⟨r, rfl⟩ := Int.eq_ofNat_of_zero_le h0
  exact fresh_any A c l r w hl (by omega) hA

theorem Blobs_any (A : Option Addr) (c : Nat) (l : List UInt8) (A' : Option Addr) (c' : Nat) (ls : List (List UInt8)) (w : World) (hl : l.length ≤ 274877906944) (hls : ls.length ≤ 274877906944) (hm : (blobsE ls).length ≤ 274877906944)
    (hA : Rd w w.heap.size A l) (hA' : RdL w w.heap.size A' ls) :
    Calls Try.prog 14 #[.slice A l.length c, .slice A' ls.length c'] w (RetOwn (l ++ (Lib.uvarint ls.length ++ blobsE ls)) w) := by
  have hD2 := Lib.uvarint_length64 (x := ls.length) (by omega)
  go_enter Try.func14, Try.ntmps14
  go_wp2_with fail
  refine (digits_any ls.length _ (by omega)).mono ?_
  rintro e w' ⟨rfl, rfl⟩
  go_wp2_with fail
  go_loop [5, 7, 17] (fun r b i => RoomRel ls (Lib.uvarint ls.length).length r b i) (fun _ _ i => ls.length - (intOf i).toNat)
  case atStart => exact ⟨0, Nat.zero_le _, rfl, by simp [blobsE]⟩
  case round =>
    obtain ⟨k, hk, rfl, rfl⟩ := hrel
    by_cases hlt : k < ls.length
    · obtain ⟨ad, m, A1, c1, rfl, hadb, hget, hcell, _, _, hrd⟩ := hA'.cell hlt
      have hml := blobE_le (mem_of_get hget)
      rw [blobE_length] at hml
      have hsn := take_snoc hget
      have HSN := Lib.hid (show (blobsE (ls.take (k + 1))).length = (blobsE (ls.take k)).length + ((Lib.uvarint m.length).length + m.length) from by rw [hsn, blobsE_snoc, List.length_append, blobE_length])
      have hle := blobsE_take_le ls k
      have HA' := Lib.hid hA'
      clear hget hsn hA'
      go_wp2_with fail
      refine (blobLen_any A1 c1 m.length _ (by omega)).mono ?_
      rintro e w' ⟨rfl, rfl⟩
      go_wp2_with fail
      go_round
      case rel => exact ⟨k + 1, by omega, by go_num, by rw [HSN.out]; go_num⟩
      case measure => simp [intOf]; omega
    · obtain rfl : k = ls.length := by omega
      go_wp2_with fail
      refine (fresh_int A c l _ w (by omega) (by omega) (by omega) hA).mono ?_
      rintro e w1 ⟨v1, rfl, ho1, hb1⟩
      go_wp2_with fail
      refine (putUint_any v1 l ls.length w.heap.size w1 (by omega) (by omega) ho1 hb1.size).mono ?_
      rintro e w2 ⟨v2, rfl, ho2, hb2⟩
      have hb12 := hb1.trans hb2
      have hpl : (l ++ Lib.uvarint ls.length).length ≤ 274877906954 := by rw [List.length_append]; omega
      generalize hq : l ++ Lib.uvarint ls.length = pre at *
      have HQ := Lib.hid hq
      clear hq ho1
      go_wp2_with fail
      go_loopw [8, 10, 35] (fun v b i wr => PutsRel pre ls w.heap.size w v b i wr) (fun _ _ i _ => ls.length - (intOf i).toNat)
      case atStart => exact ⟨0, Nat.zero_le _, rfl, by simpa [blobsE] using ho2, hb12⟩
      case round =>
        obtain ⟨k, hk, rfl, ho, hb⟩ := hrel
        have hle := blobsE_take_le ls k
        have hxl : (pre ++ blobsE (ls.take k)).length ≤ 1099511627776 := by rw [List.length_append]; omega
        by_cases hlt : k < ls.length
        · have hA2 := hA'.below hb
          obtain ⟨ad, m, A1, c1, rfl, hadb, hget, hcell, _, _, hrd⟩ := hA2.cell hlt
          have hml := blobE_le (mem_of_get hget)
          rw [blobE_length] at hml
          have hsn := take_snoc hget
          have HSN := Lib.hid (show pre ++ blobsE (ls.take (k + 1)) = (pre ++ blobsE (ls.take k)) ++ (Lib.uvarint m.length ++ m) from by rw [hsn, blobsE_snoc, ← List.append_assoc]; rfl)
          have HA' := Lib.hid hA'
          clear hget hsn hA' hA2
          generalize pre ++ blobsE (ls.take k) = cur at *
          go_wp2_with fail
          refine (putBlob_any _ cur m A1 c1 w.heap.size _ hxl (by omega) ho hrd hb.size).mono ?_
          rintro e w3 ⟨v3, rfl, ho3, hb3⟩
          go_wp2_with fail
          go_roundw
          case rel => exact ⟨k + 1, by omega, by go_num, by rw [HSN.out]; exact ho3, hb.trans hb3⟩
          case measure => simp [intOf]; omega
        · obtain rfl : k = ls.length := by omega
          rw [List.take_length, ← HQ.out, List.append_assoc] at ho
          go_wp2_with fail
          go_ret
          exact ⟨_, rfl, ho, hb⟩
end Go.Proofs.Ytlichbiioejpiaa
