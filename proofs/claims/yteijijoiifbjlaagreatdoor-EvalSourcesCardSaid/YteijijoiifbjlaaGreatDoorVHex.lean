/-
  Hex digits (layer 2, value): hexDigits. Conditions: at most 2^40 bytes.
-/
import Derived.Test.YteijijoiifbjlaaGreatDoorVInt
import Derived.Test.YteijijoiifbjlaaGreatDoorBase
import Derived.Deep.RegionLaw
import Derived.Deep.AppendLies
namespace Go.Proofs.YteijijoiifbjlaaGreatDoor
open Go.ChangeShapes Go.WideShapes Go.ChangeAt Go.RowKit
set_option linter.unusedVariables false

/-- string(b) -/
theorem run_str {w : World} {B : Nat} {A : Option Addr} {l : List UInt8} (h : Rd w B A l) (c : Nat) :
    (convert 91 9 (.slice A l.length c)).run Tryz.prog w = .ok (.string ⟨l.toArray⟩) w := by
  rcases Nat.eq_zero_or_pos l.length with h0 | h0
  · have hl : l = [] := List.eq_nil_of_length_eq_zero h0
    subst hl
    show (convert 91 9 (.slice A 0 c)).run Tryz.prog w = _
    rw [run_convert_bytes_string w 91 9 5 A 0 c Tryz.underlying91 Tryz.underlying5 Tryz.underlying9]
    cases A <;> simp [Conv.bytesToString, loadCells]
    all_goals rfl
  · obtain ⟨ad, rfl, _, hc⟩ := h h0
    exact run_convert_bytes_back w 91 9 5 ad c l Tryz.underlying91 Tryz.underlying5 Tryz.underlying9 fun j hj => hc j _ (List.getElem?_eq_getElem hj)

def hexD (n : Nat) : UInt8 := if n < 10 then (48 + n).toUInt8 else (55 + n).toUInt8
def hexL (l : List UInt8) : List UInt8 := l.flatMap fun c => [hexD (c.toNat / 16), hexD (c.toNat % 16)]
theorem hexL_length (l : List UInt8) : (hexL l).length = 2 * l.length := by
  induction l with
  | nil => rfl
  | cons c r ih => simp only [hexL, List.flatMap_cons, List.length_append, List.length_cons, List.length_nil] at ih ⊢; omega
theorem hexL_snoc (l : List UInt8) (c : UInt8) : hexL (l ++ [c]) = hexL l ++ [hexD (c.toNat / 16), hexD (c.toNat % 16)] := by simp [hexL]

theorem bits15 : ∀ n : Fin 256, bits BinOp.and IntKind.u8 (n.val : Int) 15 = (n.val : Int) % 16 := by decide +kernel
theorem hexAt : ∀ q : Fin 16, ((⟨#[48, 49, 50, 51, 52, 53, 54, 55, 56, 57, 65, 66, 67, 68, 69, 70]⟩ : ByteArray)[q.val]'q.isLt).toNat = (hexD q.val).toNat := by decide +kernel

/-- the two cells that 'append(own, x, y)' lays its bytes in -/
theorem Rd.two (w : World) (u v : UInt8) : Rd (w.alloc (.cells #[b8 u, b8 v] 5)).drew (w.alloc (.cells #[b8 u, b8 v] 5)).drew.heap.size (some ⟨w.heap.size, 0, none⟩) [u, v] := by
  intro _
  refine ⟨_, rfl, by simp, fun j q hq => ?_⟩
  have ha : ((⟨w.heap.size, 0, none⟩ : Addr).add j) = ⟨w.heap.size, j, none⟩ := by
    unfold Addr.add
    by_cases hj0 : j = 0 <;> simp [hj0]
  rw [ha]
  match j, hq with
  | 0, hq =>
    obtain rfl : u = q := by simpa using hq
    simp [go_sem]
  | 1, hq =>
    obtain rfl : v = q := by simpa using hq
    simp [go_sem]
  | j + 2, hq => simp at hq

set_option maxRecDepth 100000 in
theorem step_app2 {W : World} {ops : Array Oper} {o : Oper} {a : Act} {K : Act → World → Prop} {Q : Exit → Act → World → Prop} {E : Prop} (hgd : o.guard = none) (s x : Operand)
    (ho : o.op = .call { callee := .builtin .append, args := #[s, x], argTypes := #[91, 91] })
    (base : Nat) (v : Value) (l : List UInt8) (hs : a.eval s = v) (hown : Own W base v l) (z1 z2 : Int) (u1 u2 : UInt8) (e1 : z1 = (u1.toNat : Int)) (e2 : z2 = (u2.toNat : Int)) (hx : a.eval x = .slice (some ⟨W.heap.size, 0, none⟩) 2 2)
    (hlen : l.length + 2 ≤ 70368744177664) (hbase : base ≤ W.heap.size)
    (h : ∀ v' w', Own w' base v' (l ++ [u1, u2]) → Below base W w' → K (a.put o.dst v') w') :
    if Region.wanted o (yielded ops a.tmps) = true then Oper.wp Tryz.prog o a (W.alloc (.cells #[.int .u8 z1, .int .u8 z2] 5)).drew K Q else E := by
  subst e1 e2
  have hw : Region.wanted o (yielded ops a.tmps) = true := by simp [Region.wanted, hgd]
  rw [if_pos hw]
  obtain ⟨i0, hi, hz0, hz1, hz2⟩ := info_parts Tryz.info_u8
  have hown' : Own (W.alloc (.cells #[b8 u1, b8 u2] 5)).drew base v l := (hown.alloc _).drew
  have hr := Rd.two W u1 u2
  refine wp_append_own (W.alloc (.cells #[b8 u1, b8 u2] 5)).drew s x 91 ho base 5 i0 (.int .u8 0) 1 1 Tryz.underlying91 hi hz0 hz1 hz2 rfl (by decide) v l.length (bs l) hs hown' ⟨W.heap.size, 0, none⟩ 2 2 (bs [u1, u2]) hx rfl ?_ (bs_one _) (by simp only [maxLen]; omega) (by omega) (by simp; omega) ?_
  · intro j u hu
    rw [bs_getElem?] at hu
    obtain ⟨q, hq, rfl⟩ := Option.map_eq_some_iff.1 hu
    obtain ⟨ad', e, _, hc⟩ := hr (by simp)
    injection e with e
    subst e
    exact hc j q hq
  · intro v' w' h1 h2 _
    refine h v' w' ?_ (((Below.refl _ _).alloc hbase _).trans ((Below.refl _ _).drew.grown h2 (by simp; omega) fun k hk => (hown'.lt k hk).1))
    unfold Own
    rw [List.length_append, bs_append]
    exact h1

def HexRel (s : ByteArray) (w : World) (v i : Value) (wr : World) : Prop :=
  ∃ k : Nat, k ≤ s.size ∧ i = .int .i64 k ∧ Own wr w.heap.size v (hexL (s.data.toList.take k)) ∧ Below w.heap.size w wr

set_option maxRecDepth 100000 in
set_option maxHeartbeats 400000 in
theorem hexDigits_any (s : ByteArray) (w : World) (hs : s.size ≤ 1099511627776) :
    Calls Tryz.prog 132 #[.string s] w fun e w' => e = .returned (.string ⟨(hexL s.data.toList).toArray⟩) ∧ Below w.heap.size w w' := by
  obtain ⟨i0, hi, hz0, hz1, hz2⟩ := info_parts Tryz.info_u8
  have hmk : (Instr.makeSlice 91 (.int .i64 0) (.int .i64 (2 * (s.size : Int)))).run Tryz.prog w = .ok (.slice (some ⟨w.heap.size, 0, none⟩) 0 (2 * s.size)) (w.alloc (.cells (madeCells #[.int .u8 0] (2 * s.size)) 5)) := by
    have h := run_make (P := Tryz.prog) w 91 5 i0 (.int .u8 0) Tryz.underlying91 hi hz0 .i64 .i64 0 (2 * (s.size : Int)) (by omega) (by omega) (by rw [hz2]; omega) (by omega)
    rw [h, hz1]
    have e2 : (2 * (s.size : Int)).toNat = 2 * s.size := by omega
    rw [e2, Nat.mul_one]
    rfl
  have hown : Own (w.alloc (.cells (madeCells #[.int .u8 0] (2 * s.size)) 5)) w.heap.size (.slice (some ⟨w.heap.size, 0, none⟩) 0 (2 * s.size)) [] := by
    refine ⟨rfl, .inr ⟨w.heap.size, 2 * s.size, (madeCells #[.int .u8 0] (2 * s.size)), rfl, Nat.le_refl _, ?_, Nat.zero_le _, by simp only [maxLen]; omega, ?_, ?_⟩⟩
    · rw [heap_alloc_new]
    · rw [size_madeCells, Nat.mul_one]
    · simp [bs]
  have HO := Lib.hid hown
  clear hown hi hz0 hz1 hz2
  go_enter Tryz.func132, Tryz.ntmps132
  go_wp2_with fail
  go_loopw [3, 4, 11] (fun v x i wr => HexRel s w v i wr) (fun _ _ i _ => s.size - (intOf i).toNat)
  case atStart => exact ⟨0, Nat.zero_le _, rfl, HO.out, (Below.refl _ _).alloc (Nat.le_refl _) _⟩
  case round =>
    obtain ⟨k, hk, rfl, ho, hb⟩ := hrel
    by_cases hlt : k < s.size
    · obtain ⟨A, c, rfl, hc1, hc2, hrd⟩ := ho.form
      have hu := s[k].toNat_lt
      have q1 : 0 ≤ (s[k].toNat : Int) / 16 := by omega
      have q2 : (s[k].toNat : Int) / 16 < 16 := by omega
      go_wp2_with fail
      clear hrd
      have q3 : bits BinOp.and IntKind.u8 (s[k].toNat : Int) 15 = (s[k].toNat : Int) % 16 := bits15 ⟨s[k].toNat, hu⟩
      have q4 : 0 ≤ (s[k].toNat : Int) % 16 := by omega
      have q5 : (s[k].toNat : Int) % 16 < 16 := by omega
      have HZ1 := Lib.hid (show (((⟨#[48, 49, 50, 51, 52, 53, 54, 55, 56, 57, 65, 66, 67, 68, 69, 70]⟩ : ByteArray)[((s[k].toNat : Int) / 16).toNat]'(by show _ < 16; omega)).toNat : Int) = ((hexD (s[k].toNat / 16)).toNat : Int) from by
        have := hexAt ⟨s[k].toNat / 16, by omega⟩
        have e : ((s[k].toNat : Int) / 16).toNat = s[k].toNat / 16 := by omega
        simp only [e]
        rw [this])
      have HZ2 := Lib.hid (show (((⟨#[48, 49, 50, 51, 52, 53, 54, 55, 56, 57, 65, 66, 67, 68, 69, 70]⟩ : ByteArray)[((s[k].toNat : Int) % 16).toNat]'(by show _ < 16; omega)).toNat : Int) = ((hexD (s[k].toNat % 16)).toNat : Int) from by
        have := hexAt ⟨s[k].toNat % 16, by omega⟩
        have e : ((s[k].toNat : Int) % 16).toNat = s[k].toNat % 16 := by omega
        simp only [e]
        rw [this])
      have hxl : (hexL (s.data.toList.take k)).length ≤ 2199023255552 := by rw [hexL_length, List.length_take]; omega
      have HB := Lib.hid hb
      have hsz := hb.size
      clear hb
      have HS := Lib.hid (show hexL (s.data.toList.take (k + 1)) = hexL (s.data.toList.take k) ++ [hexD (s[k].toNat / 16), hexD (s[k].toNat % 16)] from by
        rw [List.take_add_one, show s.data.toList[k]? = some s[k] from (List.getElem?_eq_getElem (by simpa using hlt)).trans rfl]
        exact hexL_snoc _ _)
      go_region_law (refine step_app2 rfl _ _ rfl w.heap.size _ (hexL (s.data.toList.take k)) rfl ho _ _ (hexD (s[k].toNat / 16)) (hexD (s[k].toNat % 16)) HZ1.out HZ2.out rfl (by omega) hsz ?_; intro v1 wx ho1 hb1)
      all_goals (go_wp2_with fail; exact ⟨⟨k + 1, by omega, by go_num, by rw [HS.out]; exact ho1, HB.out.trans hb1⟩, by simp [intOf]; omega⟩)
    · have hk' : k = s.size := by omega
      subst hk'
      rw [show s.data.toList.take s.size = s.data.toList from List.take_of_length_le (by simp)] at ho
      obtain ⟨A, c, rfl, hc1, hc2, hrd⟩ := ho.form
      have hst := run_str hrd c
      clear hrd ho
      go_wp2_with fail
      go_ret
      exact ⟨rfl, hb⟩
end Go.Proofs.YteijijoiifbjlaaGreatDoor
