/-
  putString and putPart with Key's closure, partLen, turnOf (layer 3, record). Conditions: right values; less than 2^40 bytes ahead.
-/
import Derived.Test.YtdhdfeiobjmdaaaRNum
import Derived.Test.YtdhdfeiobjmdaaaRShelf
namespace Go.Proofs.Ytdhdfeiobjmdaaa
open Go.ChangeShapes Go.WideShapes Go.ChangeAt Go.RowKit
set_option linter.unusedVariables false

/-- a byte of a string in a key -/
def esc (c : UInt8) : List UInt8 := if c = 0 then [0, 255] else [c]
def escL : List UInt8 → List UInt8
  | [] => []
  | c :: l => esc c ++ escL l
theorem escL_append (a b : List UInt8) : escL (a ++ b) = escL a ++ escL b := by
  induction a with
  | nil => rfl
  | cons c l ih => simp [escL, ih]
theorem esc_len (c : UInt8) : (esc c).length ≤ 2 := by unfold esc; split <;> simp
theorem escL_len : ∀ l : List UInt8, (escL l).length ≤ 2 * l.length
  | [] => by simp [escL]
  | c :: l => by
    have := escL_len l
    have := esc_len c
    simp only [escL, List.length_append, List.length_cons]
    omega
theorem escL_take {l : List UInt8} {k : Nat} {c : UInt8} (h : l[k]? = some c) : escL (l.take (k + 1)) = escL (l.take k) ++ esc c := by
  rw [List.take_add_one, h, escL_append]
  simp [escL]
/-- a string in a key -/
def strN (s : List UInt8) : List UInt8 := escL s ++ [0, 0]

def StrK (base p : Nat) (D : List Nat) (w : World) (xs : List UInt8) (turn : UInt8) (s : List UInt8) (i : Value) (wr : World) : Prop :=
  ∃ k : Nat, k ≤ s.length ∧ i = .int .i64 k ∧ Acc base p D wr (xs ++ turnL turn (escL (s.take k))) ∧ Kept base D w wr

theorem getU (s : ByteArray) (k : Nat) (h : k < s.size) : s.data.toList[k]? = some s[k] := by
  rcases s with ⟨a⟩
  show a.toList[k]? = some a[k]
  have h' : k < a.toList.length := by
    have : k < a.size := h
    simpa using this
  rw [List.getElem?_eq_getElem h']
  simp
theorem key1_int (base p t : Nat) (D : List Nat) (xs : List UInt8) (c turn : UInt8) (z : Int) (hz : z = (c.toNat : Int)) (w : World) (hA : Acc base p D w xs) (ht : t ∈ D) (hT : w.cell? ⟨t, 0, none⟩ = some (b8 turn)) (hl : xs.length ≤ 1099511627776) :
    Calls Try.prog 52 #[.int .u8 z, Ptr p, Ptr t] w fun e w' => e = .returned (.tuple #[]) ∧ Acc base p D w' (xs ++ [c ^^^ turn]) ∧ Kept base D w w' := by
  subst hz
  exact key1_any base p t D xs c turn w hA ht hT hl
theorem turn_esc0 (turn : UInt8) (xs ys zs : List UInt8) (c : UInt8) (h : zs = ys ++ esc c) (hc : c = 0) : xs ++ turnL turn zs = ((xs ++ turnL turn ys) ++ [c ^^^ turn]) ++ [255 ^^^ turn] := by
  subst h hc
  simp [turnL, esc]
theorem turn_esc1 (turn : UInt8) (xs ys zs : List UInt8) (c : UInt8) (h : zs = ys ++ esc c) (hc : c ≠ 0) : xs ++ turnL turn zs = (xs ++ turnL turn ys) ++ [c ^^^ turn] := by
  subst h
  simp [turnL, esc, hc]
theorem turn_end2 (turn : UInt8) (xs ys : List UInt8) : xs ++ turnL turn (ys ++ [0, 0]) = ((xs ++ turnL turn ys) ++ [0 ^^^ turn]) ++ [0 ^^^ turn] := by
  simp [turnL]
theorem len1 {xs : List UInt8} {n : Nat} (h : xs.length ≤ n) (c : UInt8) : (xs ++ [c]).length ≤ n + 1 := by simp; omega
set_option maxRecDepth 100000 in
theorem putStringK (base p t : Nat) (D : List Nat) (xs : List UInt8) (s : ByteArray) (turn : UInt8) (w : World) (hA : Acc base p D w xs) (ht : t ∈ D) (hT : w.cell? ⟨t, 0, none⟩ = some (b8 turn)) (hs : s.size ≤ 1099511627) (hl : xs.length ≤ 1090000000000) :
    Calls Try.prog 79 #[.string s, KeyF p t] w fun e w' => e = .returned (.tuple #[]) ∧ Acc base p D w' (xs ++ turnL turn (strN s.data.toList)) ∧ Kept base D w w' := by
  have hsl : s.data.toList.length = s.size := by rcases s with ⟨⟨l⟩⟩; rfl
  go_enter Try.func79, Try.ntmps79
  go_wp2_with fail
  go_loopw [4, 7] (fun x i wr => StrK base p D w xs turn s.data.toList i wr) (fun _ i _ => s.size - (intOf i).toNat)
  case atStart => exact ⟨0, Nat.zero_le _, rfl, by simpa [turnL, escL] using hA, Kept.refl _ _ _⟩
  case round =>
    obtain ⟨k, hk, rfl, ha, hK⟩ := hrel
    rw [hsl] at hk
    have hlen : (xs ++ turnL turn (escL (s.data.toList.take k))).length ≤ 1099511627000 := by
      have h1 := escL_len (s.data.toList.take k)
      rw [List.length_append, turnL_length]
      rw [List.length_take] at h1
      omega
    have HA := Lib.hid ha
    have HK := Lib.hid hK
    have HL := Lib.hid hlen
    clear ha hK hA hlen
    by_cases hlt : k < s.size
    · have hg := getU s k hlt
      have he := escL_take hg
      clear hg
      have HE := Lib.hid he
      clear he
      go_wp2_with fail
      refine (key1_any base p t D _ s[k] turn wr HA.out ht ((HK.out.cell ht 0).trans hT) (Nat.le_trans HL.out (by decide))).mono ?_
      rintro e w1 ⟨rfl, hA1, hK1⟩
      have HA1 := Lib.hid hA1
      have HK1 := Lib.hid (HK.out.trans hK1)
      clear hA1 hK1
      by_cases hc : s[k] = 0
      · have HC := Lib.hid hc
        have hc' : ((s[k].toNat : Int) == 0) = true := by rw [hc]; rfl
        clear hc
        go_wp2_with fail
        refine (key1_int base p t D _ 255 turn 255 rfl w1 HA1.out ht ((HK1.out.cell ht 0).trans hT) (Nat.le_trans (len1 HL.out _) (by decide))).mono ?_
        rintro e w2 ⟨rfl, hA2, hK2⟩
        have HA2 := Lib.hid hA2
        have HK2 := Lib.hid (HK1.out.trans hK2)
        clear hA2 hK2
        go_wp2_with fail
        go_roundw
        case rel => exact ⟨k + 1, by rw [hsl]; omega, by go_num, by rw [turn_esc0 turn xs _ _ s[k] HE.out HC.out]; exact HA2.out, HK2.out⟩
        case measure => simp [intOf]; omega
      · have HC := Lib.hid hc
        have hc' : ((s[k].toNat : Int) == 0) = false := by
          rw [beq_eq_false_iff_ne]
          intro e
          exact hc (UInt8.toNat_inj.mp (by simpa using e))
        clear hc
        go_wp2_with fail
        go_roundw
        case rel => exact ⟨k + 1, by rw [hsl]; omega, by go_num, by rw [turn_esc1 turn xs _ _ s[k] HE.out HC.out]; exact HA1.out, HK1.out⟩
        case measure => simp [intOf]; omega
    · have e : k = s.size := by omega
      have HTk := Lib.hid (show s.data.toList.take k = s.data.toList by rw [e, ← hsl]; exact List.take_length)
      go_wp2_with fail
      refine (key1_int base p t D _ 0 turn 0 rfl wr HA.out ht ((HK.out.cell ht 0).trans hT) (Nat.le_trans HL.out (by decide))).mono ?_
      rintro e w1 ⟨rfl, hA1, hK1⟩
      have HA1 := Lib.hid hA1
      have HK1 := Lib.hid (HK.out.trans hK1)
      clear hA1 hK1
      go_wp2_with fail
      refine (key1_int base p t D _ 0 turn 0 rfl w1 HA1.out ht ((HK1.out.cell ht 0).trans hT) (Nat.le_trans (len1 HL.out _) (by decide))).mono ?_
      rintro e w2 ⟨rfl, hA2, hK2⟩
      have HA2 := Lib.hid hA2
      have HK2 := Lib.hid (HK1.out.trans hK2)
      clear hA2 hK2
      go_wp2_with fail
      go_end0
      exact ⟨rfl, by rw [strN, turn_end2, ← HTk.out]; exact HA2.out, HK2.out⟩
end Go.Proofs.Ytdhdfeiobjmdaaa
