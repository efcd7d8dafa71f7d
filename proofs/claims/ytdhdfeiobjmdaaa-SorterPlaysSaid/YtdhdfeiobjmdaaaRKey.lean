/-
  record.Key of a right row (layer 3). Conditions: a right row of at most 200 columns, as many flags, a key of at most 2^20 bytes.
-/
import Derived.Test.YtdhdfeiobjmdaaaRRow
namespace Go.Proofs.Ytdhdfeiobjmdaaa
open Go.ChangeShapes Go.WideShapes Go.ChangeAt Go.RowKit
set_option linter.unusedVariables false

def turnU (b : Bool) : UInt8 := if b then 255 else 0
/-- the key of a row by flags -/
def keyL : List Trip → List Bool → List UInt8
  | (k, n, s) :: vs, d :: ds => turnL (turnU d) (partL k n s) ++ keyL vs ds
  | _, _ => []
theorem keyL_append : ∀ (a b : List Trip) (d e : List Bool), a.length = d.length → keyL (a ++ b) (d ++ e) = keyL a d ++ keyL b e
  | [], b, [], e, _ => rfl
  | (k, n, s) :: a, b, x :: d, e, h => by
    have ih := keyL_append a b d e (by simpa using h)
    simp [keyL, ih]
  | [], _, _ :: _, _, h => by simp at h
  | _ :: _, _, [], _, h => by simp at h
theorem keyL_take {vs : List Trip} {ds : List Bool} {j : Nat} {k n : Int} {s : ByteArray} {d : Bool} (h : vs[j]? = some (k, n, s)) (h2 : ds[j]? = some d) :
    keyL (vs.take (j + 1)) (ds.take (j + 1)) = keyL (vs.take j) (ds.take j) ++ turnL (turnU d) (partL k n s) := by
  rw [List.take_add_one, List.take_add_one, h, h2, keyL_append]
  · simp [keyL]
  · rw [List.length_take, List.length_take]
    have := (List.getElem?_eq_some_iff.1 h).1
    have := (List.getElem?_eq_some_iff.1 h2).1
    omega
theorem partL_len (k n : Int) (s : ByteArray) (h : s.size ≤ 65536) : (partL k n s).length ≤ 131080 := by
  have h1 : s.data.toList.length = s.size := by rcases s with ⟨⟨l⟩⟩; rfl
  have h2 := escL_len s.data.toList
  unfold partL
  split
  · simp [beN_length]
  · split
    · simp only [List.length_cons, strN, List.length_append, List.length_nil]; omega
    · split
      · simp only [List.length_cons, strN, List.length_append, List.length_nil]; omega
      · simp
theorem keyL_len : ∀ (vs : List Trip) (ds : List Bool), (∀ t ∈ vs, t.2.2.size ≤ 65536) → (keyL vs ds).length ≤ 131080 * vs.length
  | (k, n, s) :: vs, d :: ds, h => by
    have ih := keyL_len vs ds fun t ht => h t (List.mem_cons_of_mem _ ht)
    have h0 := partL_len k n s (h (k, n, s) List.mem_cons_self)
    simp only [keyL, List.length_append, turnL_length, List.length_cons]
    omega
  | [], _, _ => by simp [keyL]
  | _ :: _, [], _ => by simp [keyL]
/-- how many bytes, as partLen tells -/
def sumP (vs : List Trip) : Nat := (vs.map fun t => partN t.1 t.2.2).sum
theorem sumP_take {vs : List Trip} {j : Nat} {k n : Int} {s : ByteArray} (h : vs[j]? = some (k, n, s)) : sumP (vs.take (j + 1)) = sumP (vs.take j) + partN k s := by
  rw [List.take_add_one, h]
  simp [sumP]
theorem partN_le (k : Int) (s : ByteArray) (h : s.size ≤ 65536) : partN k s ≤ 131080 := by
  have := count_le s 0
  unfold partN
  split
  · omega
  · split <;> omega
theorem sumP_le : ∀ (vs : List Trip), (∀ t ∈ vs, t.2.2.size ≤ 65536) → sumP vs ≤ 131080 * vs.length
  | [], _ => by simp [sumP]
  | (k, n, s) :: vs, h => by
    have ih := sumP_le vs fun t ht => h t (List.mem_cons_of_mem _ ht)
    have h0 := partN_le k s (h (k, n, s) List.mem_cons_self)
    simp only [sumP, List.map_cons, List.sum_cons, List.length_cons] at *
    omega

/-- the pointer A leads to these flags, all of them below block number B -/
def RdF (w : World) (B : Nat) (A : Option Addr) (ds : List Bool) : Prop :=
  0 < ds.length → ∃ ad, A = some ad ∧ ad.block < B ∧ ∀ j d, ds[j]? = some d → w.cell? (ad.add j) = some (.bool d)
theorem RdF.below {w w' : World} {B : Nat} {A : Option Addr} {ds : List Bool} (h : RdF w B A ds) (hb : Below B w w') : RdF w' B A ds := by
  intro hp
  obtain ⟨ad, e, hl, hc⟩ := h hp
  exact ⟨ad, e, hl, fun j d hj => (hb.cell (by rw [blockAdd]; exact hl)).trans (hc j d hj)⟩

def SizeRel (w : World) (vs : List Trip) (z i : Value) (wr : World) : Prop :=
  ∃ k : Nat, k ≤ vs.length ∧ i = .int .i64 k ∧ z = .int .i64 (sumP (vs.take k)) ∧ Below w.heap.size w wr
def KeyRel (base p : Nat) (w : World) (vs : List Trip) (ds : List Bool) (i : Value) (wr : World) : Prop :=
  ∃ k : Nat, k ≤ vs.length ∧ i = .int .i64 k ∧ Acc base p [] wr (keyL (vs.take k) (ds.take k)) ∧ Below base w wr
theorem run_make8 (n : Nat) (hn : n ≤ 1099511627776) (w : World) : (Instr.makeSlice 62 (.int .i64 0) (.int .i64 (n : Int))).run Try.prog w = .ok (.slice (some ⟨w.heap.size, 0, none⟩) 0 n) (w.alloc (.cells (madeCells #[.int .u8 0] n) 5)) := by
  obtain ⟨i0, hi, hz0, hz1, hz2⟩ := info_parts Try.info_u8
  have h := run_make (P := Try.prog) w 62 5 i0 (.int .u8 0) Try.underlying62 hi hz0 .i64 .i64 0 (n : Int) (by omega) (by omega) (by rw [hz2]; omega) (by omega)
  rw [h, hz1]
  have e2 : ((n : Int)).toNat = n := by omega
  rw [e2, Nat.mul_one]
  rfl
theorem acc_made (base n : Nat) (X : World) (hb : base ≤ X.heap.size) (hn : n ≤ 1099511627776) :
    Acc base (X.heap.size + 1) [] ((X.alloc (.cells (madeCells #[.int .u8 0] n) 5)).alloc (.cells #[.slice (some ⟨X.heap.size, 0, none⟩) 0 n] 62)) [] := by
  have ho : Own (X.alloc (.cells (madeCells #[.int .u8 0] n) 5)) base (.slice (some ⟨X.heap.size, 0, none⟩) 0 n) [] :=
    World.ownsRow_made X _ n hb (by simp only [maxLen]; omega) (by rw [size_madeCells, Nat.mul_one])
  refine ⟨.slice (some ⟨X.heap.size, 0, none⟩) 0 n, ?_, ?_, ho.alloc _, by omega, ?_, fun d hd => by simp at hd⟩
  · simp [go_sem]
  · simp [go_sem]
  · intro e
    have : X.heap.size = X.heap.size + 1 := Option.some.inj e
    omega

theorem acc_turn {base p : Nat} {X : World} {xs : List UInt8} (h : Acc base p [] X xs) (k n : Int) (s : ByteArray) (u : UInt8) (z : Int) (hz : z = (u.toNat : Int)) :
    Acc base p [X.heap.size + 1] ((X.alloc (box k n s)).alloc (.cells #[.int .u8 z] 5)) xs ∧ ((X.alloc (box k n s)).alloc (.cells #[.int .u8 z] 5)).cell? ⟨X.heap.size + 1, 0, none⟩ = some (b8 u) := by
  subst hz
  have h2 := (h.alloc (box k n s)).alloc (.cells #[.int .u8 (u.toNat : Int)] 5)
  refine ⟨h2.sub fun d hd => ?_, ?_⟩
  · have : d = X.heap.size + 1 := by simpa using hd
    subst this
    simp
  · simp [go_sem, b8]
theorem turnOf_u (d : Bool) (w : World) : Calls Try.prog 50 #[.bool d] w fun e w' => e = .returned (b8 (turnU d)) ∧ w' = w := by
  refine (turnOf_any d w).mono ?_
  rintro e w' ⟨rfl, rfl⟩
  cases d <;> exact ⟨rfl, rfl⟩

set_option maxRecDepth 100000 in
set_option maxHeartbeats 1000000 in
theorem Key_ok (A : Option Addr) (cap : Nat) (vs : List Trip) (F : Option Addr) (fcap : Nat) (ds : List Bool) (w : World) (hR : RdR w w.heap.size A vs) (hF : RdF w w.heap.size F ds) (hl : vs.length ≤ 200) (hd : ds.length = vs.length)
    (hg : vs.any pBad = false) (hs : ∀ t ∈ vs, t.2.2.size ≤ 65536 ∧ In64 t.2.1) (hsum : sumP vs ≤ 1048576) :
    Calls Try.prog 26 #[.slice A vs.length cap, .slice F ds.length fcap] w fun e w' => ∃ v, e = .returned (.tuple #[v, .int .i64 0]) ∧ Own w' w.heap.size v (keyL vs ds) ∧ Below w.heap.size w w' := by
  have HD := Lib.hid hd
  have HG := Lib.hid hg
  have hs1 : ∀ t ∈ vs, t.2.2.size ≤ 65536 := fun t ht => (hs t ht).1
  have HS := Lib.hid hs
  have HS1 := Lib.hid hs1
  have HSum := Lib.hid hsum
  have hall := sumP_le vs hs1
  clear hg hs hsum
  rw [hd] 
  clear hd
  go_enter Try.func26, Try.ntmps26
  go_wp2_with (go_at_call 48; refine (allRight_any A cap vs _ (fun t ht => by have := HS1.out t ht; omega) (by omega) hR).mono ?_; rintro e w1 ⟨rfl, hb1⟩; rw [HG.out])
  have HB := Lib.hid hb1
  clear hb1
  go_loopw [6, 28] (fun z i wr => SizeRel w vs z i wr) (fun _ i _ => vs.length - (intOf i).toNat)
  case atStart => exact ⟨0, Nat.zero_le _, rfl, by simp [sumP], HB.out⟩
  case round =>
    obtain ⟨k, hk, rfl, rfl, hbw⟩ := hrel
    have HX := Lib.hid hbw
    by_cases hlt : k < vs.length
    · have hget : vs[k]? = some vs[k] := List.getElem?_eq_getElem hlt
      obtain ⟨ad, rfl, hal, hcs⟩ := (hR.below hbw) (by omega)
      have hmem := List.mem_of_getElem? hget
      generalize vs[k] = t at *
      obtain ⟨kk, n, s⟩ := t
      obtain ⟨c0, c1, c2⟩ := hcs k kk n s hget
      have HT := Lib.hid (sumP_take hget)
      have hsz : s.size ≤ 65536 := HS1.out _ hmem
      have hpn := partN_le kk s hsz
      have hsm := sumP_le (vs.take k) (fun t ht => HS1.out t (List.mem_of_mem_take ht))
      have hlk : (vs.take k).length ≤ 200 := by rw [List.length_take]; omega
      have hsm2 : sumP (vs.take k) ≤ 26216000 := by omega
      clear hget hcs hbw hmem hsm hlk
      go_wp2_with (go_at_call 49; refine (partLen_any _ _ _ _ (by omega)).mono ?_; rintro e w2 ⟨rfl, hb⟩; have HB2 := Lib.hid (((HX.out.alloc HX.out.size (box kk n s))).trans (hb.mono (Nat.le_trans HX.out.size (by simp)))); clear hb)
      go_roundw
      case rel => exact ⟨k + 1, by omega, by go_num, by rw [HT.out]; go_num, HB2.out⟩
      case measure => simp [intOf]; omega
    · obtain rfl : k = vs.length := by omega
      rw [show vs.take vs.length = vs from List.take_length]
      have hsm := HSum.out
      have hmk := run_make8 (sumP vs) (by omega) wr
      clear hbw hs1
      go_wp2_with fail
      generalize wr = w3 at *
      have hA0 := acc_made w.heap.size (sumP vs) w3 HX.out.size (by omega)
      have HA0 := Lib.hid hA0
      have HB3 := Lib.hid ((HX.out.alloc HX.out.size (.cells (madeCells #[.int .u8 0] (sumP vs)) 5)).alloc (Nat.le_trans HX.out.size (by simp)) (.cells #[.slice (some ⟨w3.heap.size, 0, none⟩) 0 (sumP vs)] 62))
      clear hA0 hmk hsm hlt
      go_loopw [43] (fun i wr => KeyRel w.heap.size (w3.heap.size + 1) w vs ds i wr) (fun i _ => vs.length - (intOf i).toNat)
      case atStart => exact ⟨0, Nat.zero_le _, rfl, by simpa [keyL] using HA0.out, HB3.out⟩
      case round =>
        obtain ⟨j, hj, rfl, ha, hbw⟩ := hrel
        have HW := Lib.hid hbw
        by_cases hlt : j < vs.length
        · have hget : vs[j]? = some vs[j] := List.getElem?_eq_getElem hlt
          obtain ⟨d, hget2⟩ : ∃ d, ds[j]? = some d := ⟨ds[j]'(by rw [HD.out]; exact hlt), List.getElem?_eq_getElem _⟩
          obtain ⟨ad, rfl, hal, hcs⟩ := (hR.below hbw) (by omega)
          obtain ⟨fd, rfl, hfl, hfs⟩ := (hF.below hbw) (by rw [HD.out]; omega)
          have hmem := List.mem_of_getElem? hget
          have hlen := keyL_len (vs.take j) (ds.take j) (fun t ht => HS1.out t (List.mem_of_mem_take ht))
          have hlj : (vs.take j).length ≤ 200 := by rw [List.length_take]; omega
          generalize vs[j] = t at *
          obtain ⟨kk, n, s⟩ := t
          obtain ⟨c0, c1, c2⟩ := hcs j kk n s hget
          have f0 : (wr.alloc (box kk n s)).cell? (fd.add j) = some (.bool d) := (World.cell?_alloc_lt wr _ _ (by rw [blockAdd]; exact Nat.lt_of_lt_of_le hfl HW.out.size)).trans (hfs j d hget2)
          have HT := Lib.hid (keyL_take hget hget2)
          obtain ⟨hsz, hn64⟩ := HS.out _ hmem
          have HN := Lib.hid hn64
          obtain ⟨q1, q2⟩ := acc_turn ha kk n s (turnU d) _ rfl
          have Q1 := Lib.hid q1
          have Q2 := Lib.hid q2
          have HL := Lib.hid (show (keyL (vs.take j) (ds.take j)).length ≤ 1080000000000 by omega)
          clear hget hget2 hcs hfs hbw hmem ha q1 q2 hlen hlj hn64
          go_wp2_with (first
            | (go_at_call 50; refine (turnOf_u _ _).mono ?_; rintro e w' ⟨rfl, rfl⟩; unfold b8))
          refine (putPartK w.heap.size (w3.heap.size + 1) (wr.heap.size + 1) _ _ kk n s (turnU d) _ Q1.out (by simp) Q2.out HN.out (by omega) HL.out).mono ?_
          rintro e w5 ⟨rfl, hA5, hK5⟩
          have HA5 := Lib.hid (hA5.sub (D' := []) fun _ h => by cases h)
          have HB5 := Lib.hid (((HW.out.alloc HW.out.size (box kk n s)).alloc (Nat.le_trans HW.out.size (by simp)) (.cells #[.int .u8 ((turnU d).toNat : Int)] 5)).trans hK5.1)
          clear hA5 hK5
          go_wp2_with fail
          go_roundw
          case rel => exact ⟨j + 1, by omega, by go_num, by rw [HT.out]; exact HA5.out, HB5.out⟩
          case measure => simp [intOf]; omega
        · have e : j = vs.length := by omega
          have e1 : vs.take j = vs := by rw [e]; exact List.take_length
          have e2 : ds.take j = ds := by rw [e, ← HD.out]; exact List.take_length
          rw [e1, e2] at ha
          obtain ⟨v, h1, h2, h3, h4, h5, h6⟩ := ha
          have HO := Lib.hid h3
          obtain ⟨A1, cc1, rfl, _, _, _⟩ := h3.form
          clear h3 h5 h6 e1 e2 hbw
          go_wp2_with fail
          go_ret2
          exact ⟨_, rfl, HO.out, HW.out⟩
end Go.Proofs.Ytdhdfeiobjmdaaa
