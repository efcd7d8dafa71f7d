/-
  record.signed and record.valueOf: the value of that sort that has these bytes. Conditions: sizes.
-/
import Derived.Test.YtdhdfeiobjmdaaaRUnk
namespace Go.Proofs.Ytdhdfeiobjmdaaa
open Go.ChangeShapes Go.WideShapes Go.ChangeAt Go.RowKit
set_option linter.unusedVariables false

/-- the number that these bytes tell by two's complement -/
def sigN (c : UInt8) (l : List UInt8) : Int := l.foldl (fun n d => wrap64 (n * 256) + d.toNat) (wrap64 (IntKind.i8.wrap c.toNat))
theorem sigN_step {c : UInt8} {l : List UInt8} {k : Nat} {d : UInt8} (h : l[k]? = some d) : sigN c (l.take (k + 1)) = wrap64 (sigN c (l.take k) * 256) + d.toNat := by
  unfold sigN
  rw [List.take_add_one, h]
  simp
theorem or_low_s (n : Int) (c : Nat) (hc : c < 256) : bits .or .i64 (wrap64 (n * 256)) (c : Int) = wrap64 (n * 256) + c := by
  show IntKind.i64.wrap ((BitVec.ofInt 64 (wrap64 (n * 256)) ||| BitVec.ofInt 64 (c : Int)).toNat : Int) = _
  rw [BitVec.toNat_or, BitVec.toNat_ofInt, BitVec.toNat_ofInt]
  have e2 : ((c : Int) % ((2 ^ 64 : Nat) : Int)).toNat = c := by simp; omega
  rw [e2]
  obtain ⟨q, hq⟩ : ∃ q : Nat, (wrap64 (n * 256) % ((2 ^ 64 : Nat) : Int)).toNat = q * 256 := ⟨(wrap64 (n * 256) % ((2 ^ 64 : Nat) : Int)).toNat / 256, by unfold wrap64; simp; omega⟩
  have h := Nat.shiftLeft_add_eq_or_of_lt (i := 8) hc q
  rw [Nat.shiftLeft_eq] at h
  rw [hq]
  rw [show q * 256 ||| c = q * 256 + c from h.symm]
  rw [IntKind.wrap_i64]
  unfold wrap64 at *
  simp at hq
  omega
set_option maxRecDepth 100000 in
set_option maxHeartbeats 800000 in
theorem signed_more (A : Option Addr) (cap n : Nat) (c : UInt8) (l : List UInt8) (w : World) (hn : n = l.length) (hR : Rd w w.heap.size A (c :: l)) (hcp : n + 1 ≤ cap) (hcp2 : cap ≤ 9223372036854775807) (hce : ¬ cap = 1) :
    Calls Try.prog 97 #[.slice A ((n + 1 : Nat) : Nat) cap] w fun e w' => e = .returned (.int .i64 (sigN c l)) ∧ w' = w := by
  have HN := Lib.hid hn
  have HT0 := Lib.hid (Tail.cut (A := A) (b := c :: l) (k := 1) (c := cap) (by simp; omega) hce)
  obtain ⟨fd, rfl, hbl, hcells⟩ := hR (by simp)
  have HT := Lib.hid (show Rd w w.heap.size (some ⟨fd.block, fd.off + 1, none⟩) l from by
    have h2 := HT0.out w w.heap.size hR
    have e : (some fd : Option Addr).map (·.add 1) = some ⟨fd.block, fd.off + 1, none⟩ := by simp [Addr.add]
    rw [e] at h2
    exact h2)
  have hcell : w.cell? fd = some (b8 c) := by simpa [Addr.add] using hcells 0 c rfl
  unfold b8 at *
  clear HT0 hn hcells hR
  go_enter Try.func97, Try.ntmps97
  go_wp2_with fail
  go_loopw [3, 14] (fun z i wr => ∃ k : Nat, k ≤ n ∧ i = .int .i64 k ∧ z = .int .i64 (sigN c (l.take k)) ∧ wr = w) (fun _ i _ => n - (intOf i).toNat)
  case atStart => exact ⟨0, Nat.zero_le _, rfl, rfl, rfl⟩
  case round =>
    obtain ⟨k, hk, rfl, rfl, rfl⟩ := hrel
    by_cases hlt : k < n
    · obtain ⟨fd2, d, e2, _, hgd, hcell2⟩ := HT.out.cell (k := k) (by have := HN.out; omega)
      obtain rfl := Option.some.inj e2
      clear e2
      have HS := Lib.hid (sigN_step (c := c) hgd)
      have HO := Lib.hid (or_low_s (sigN c (l.take k)) d.toNat d.toNat_lt)
      have HD := Lib.hid (show wrap64 (d.toNat : Int) = d.toNat from by have := d.toNat_lt; unfold wrap64; omega)
      clear hgd
      generalize sigN c (l.take k) = m at *
      unfold b8 at *
      have e : (⟨fd.block, fd.off + 1, none⟩ : Addr).add k = ⟨fd.block, fd.off + 1 + k, none⟩ := by
        unfold Addr.add
        by_cases hk0 : k = 0 <;> simp [hk0]
      rw [e] at hcell2
      clear e
      go_wp2_with fail
      exact ⟨⟨k + 1, by omega, by go_num, by rw [HS.out, HD.out, HO.out], trivial⟩, by simp [intOf]; omega⟩
    · obtain rfl : k = n := by omega
      have HE := Lib.hid (show l.take k = l from List.take_of_length_le (by have := HN.out; omega))
      go_wp2_with fail
      go_ret
      rw [HE.out]
      exact ⟨rfl, rfl⟩
set_option maxRecDepth 100000 in
theorem signed_one (A : Option Addr) (c : UInt8) (w : World) (hR : Rd w w.heap.size A [c]) :
    Calls Try.prog 97 #[.slice A 1 1] w fun e w' => e = .returned (.int .i64 (sigN c [])) ∧ w' = w := by
  obtain ⟨fd, rfl, hbl, hcells⟩ := hR (by simp)
  have hcell : w.cell? fd = some (b8 c) := by simpa [Addr.add] using hcells 0 c rfl
  unfold b8 at *
  clear hcells hR
  go_enter Try.func97, Try.ntmps97
  go_wp2_with fail
  go_loopw [3, 14] (fun z i wr => i = .int .i64 0 ∧ z = .int .i64 (sigN c []) ∧ wr = w) (fun _ i _ => 0)
  case atStart => exact ⟨rfl, rfl, rfl⟩
  case round =>
    obtain ⟨rfl, rfl, rfl⟩ := hrel
    go_wp2_with fail
    go_ret
    exact ⟨rfl, rfl⟩
theorem signed_any (A : Option Addr) (n cap : Nat) (c : UInt8) (l : List UInt8) (w : World) (hn : n = (c :: l).length) (hR : Rd w w.heap.size A (c :: l)) (hcp : n ≤ cap) (hcp2 : cap ≤ 9223372036854775807) :
    Calls Try.prog 97 #[.slice A n cap] w fun e w' => e = .returned (.int .i64 (sigN c l)) ∧ w' = w := by
  subst hn
  by_cases hce : cap = 1
  · subst hce
    have hl : l = [] := by
      cases l with
      | nil => rfl
      | cons d l => simp at hcp
    subst hl
    exact signed_one A c w hR
  · exact signed_more A cap l.length c l w rfl hR hcp hcp2 hce
set_option maxRecDepth 100000 in
theorem valueOf_null (A : Option Addr) (n cap : Nat) (w : World) :
    Calls Try.prog 85 #[.int .u64 0, .slice A n cap] w fun e w' => e = .returned (vv 0 0 ⟨#[]⟩) ∧ Below w.heap.size w w' := by
  have HX := Lib.hid (fun o => ((Below.refl w.heap.size w).alloc (Nat.le_refl _) o))
  go_enter Try.func85, Try.ntmps85
  go_wp2_with fail
  exact bodyPost_ret (v := vv 0 0 ⟨#[]⟩) (by simp [results, Try.results85, go_sem]) rfl ⟨rfl, HX.out _⟩
set_option maxRecDepth 100000 in
theorem valueOf_int (A : Option Addr) (n cap z : Nat) (c : UInt8) (l : List UInt8) (w : World) (hn : n = (c :: l).length) (hR : Rd w w.heap.size A (c :: l)) (hcp : n ≤ cap) (hcp2 : cap ≤ 9223372036854775807) (hz0 : 0 < z) (hz : z < 10) :
    Calls Try.prog 85 #[.int .u64 z, .slice A n cap] w fun e w' => e = .returned (vv 1 (sigN c l) ⟨#[]⟩) ∧ Below w.heap.size w w' := by
  have HX := Lib.hid (fun o => ((Below.refl w.heap.size w).alloc (Nat.le_refl _) o))
  have HS := Lib.hid (signed_any A n cap c l (boxC w) hn (hR.on (HX.out _)) hcp hcp2)
  clear hn hR
  go_enter Try.func85, Try.ntmps85
  go_wp2_with fail
  refine HS.out.mono ?_
  rintro e w1 ⟨rfl, rfl⟩
  go_wp2_with fail
  exact bodyPost_ret (v := vv 1 (sigN c l) ⟨#[]⟩) (by simp [results, Try.results85, go_sem]) rfl ⟨rfl, HX.out _⟩
set_option maxRecDepth 100000 in
theorem valueOf_str (A : Option Addr) (n cap z : Nat) (l : List UInt8) (w : World) (hn : n = l.length) (hR : Rd w w.heap.size A l) (hz : 10 ≤ z) :
    Calls Try.prog 85 #[.int .u64 z, .slice A n cap] w fun e w' => e = .returned (vv (if z % 2 = 0 then 3 else 2) 0 ⟨l.toArray⟩) ∧ Below w.heap.size w w' := by
  have HX := Lib.hid (fun o => ((Below.refl w.heap.size w).alloc (Nat.le_refl _) o))
  have hcv := run_str (hR.on (HX.out (.cells #[.int .u8 0, .int .i64 0, .string ⟨#[]⟩] 29))) cap
  rw [← hn] at hcv
  clear hn hR
  by_cases h2 : z % 2 = 0
  · have h2i : (z : Int) % 2 = 0 := by omega
    rw [if_pos h2]
    clear h2
    go_enter Try.func85, Try.ntmps85
    go_wp2_with fail
    exact bodyPost_ret (v := vv 3 0 ⟨l.toArray⟩) (by simp [results, Try.results85, go_sem]) rfl ⟨rfl, HX.out _⟩
  · have h2i : ¬ (z : Int) % 2 = 0 := by omega
    rw [if_neg h2]
    clear h2
    go_enter Try.func85, Try.ntmps85
    go_wp2_with fail
    exact bodyPost_ret (v := vv 2 0 ⟨l.toArray⟩) (by simp [results, Try.results85, go_sem]) rfl ⟨rfl, HX.out _⟩
end Go.Proofs.Ytdhdfeiobjmdaaa
