/-
  The closures that take a byte each (layer 3, record): Key's turns it, Put's doesn't. Conditions: less than 2^40 bytes.
-/
import Derived.Test.YtdhdfeiobjmdaaaRAcc
import Derived.Laws.BitsAllLaws
namespace Go.Proofs.Ytdhdfeiobjmdaaa
open Go.ChangeShapes Go.WideShapes Go.ChangeAt Go.RowKit
set_option linter.unusedVariables false

abbrev Ptr (p : Nat) : Value := .pointer (some ⟨p, 0, none⟩)
theorem put1_any (base p : Nat) (D : List Nat) (xs : List UInt8) (c : UInt8) (w : World) (hA : Acc base p D w xs) (hl : xs.length ≤ 1099511627776) :
    Calls Try.prog 57 #[b8 c, Ptr p] w fun e w' => e = .returned (.tuple #[]) ∧ Acc base p D w' (xs ++ [c]) ∧ Kept base D w w' := by
  have hbase := hA.base_le
  obtain ⟨v, h1, h2, h3, h4, h5, h6⟩ := hA
  have HS := Lib.hid (fun w' v' ys (ho : Own w' base v' ys) (hb : Below base w w') hk hv => Acc.stored (D := D) h1 h2 h4 h3 h5 h6 ho hb hk hv)
  have HO := Lib.hid h3
  obtain ⟨A, cc, rfl, _, _, _⟩ := h3.form
  clear h3 h5 h6 h4
  unfold b8
  go_enter Try.func57, Try.ntmps57
  go_wp2_with (at_builtin; with_reducible refine wpList_app1K rfl (.tmp 3) (.tmp 5) rfl base (.slice A xs.length cc) xs rfl HO.out _ c rfl rfl (by omega) hbase ?_; intro v1 w1 ho1 hb1 hk1 hv1; obtain ⟨c1, c2, hAcc, hK⟩ := HS.out w1 v1 _ ho1 hb1 hk1 hv1; have HA := Lib.hid hAcc; have HK := Lib.hid hK; clear hAcc hK hv1 hk1; obtain ⟨A1, cc1, rfl, _, _, _⟩ := ho1.form)
  go_end0
  have hA := HA.out
  have hK := HK.out
  rw [List.length_append] at hA hK
  exact ⟨rfl, hA, hK⟩

theorem key1_any (base p t : Nat) (D : List Nat) (xs : List UInt8) (c turn : UInt8) (w : World) (hA : Acc base p D w xs) (ht : t ∈ D) (hT : w.cell? ⟨t, 0, none⟩ = some (b8 turn)) (hl : xs.length ≤ 1099511627776) :
    Calls Try.prog 52 #[b8 c, Ptr p, Ptr t] w fun e w' => e = .returned (.tuple #[]) ∧ Acc base p D w' (xs ++ [c ^^^ turn]) ∧ Kept base D w w' := by
  have hbase := hA.base_le
  obtain ⟨v, h1, h2, h3, h4, h5, h6⟩ := hA
  have HS := Lib.hid (fun w' v' ys (ho : Own w' base v' ys) (hb : Below base w w') hk hv => Acc.stored (D := D) h1 h2 h4 h3 h5 h6 ho hb hk hv)
  have HO := Lib.hid h3
  obtain ⟨A, cc, rfl, _, _, _⟩ := h3.form
  clear h3 h5 h6 h4
  unfold b8 at *
  have hc : c.toNat < 256 := c.toNat_lt
  have htn : turn.toNat < 256 := turn.toNat_lt
  have HZ := Lib.hid (show bits .xor .u8 (c.toNat : Int) (turn.toNat : Int) = ((c ^^^ turn).toNat : Int) by rw [u8_xor_nat _ _ hc htn, UInt8.toNat_xor])
  go_enter Try.func52, Try.ntmps52
  go_wp2_with (at_builtin; with_reducible refine wpList_app1K rfl (.tmp 4) (.tmp 8) rfl base (.slice A xs.length cc) xs rfl HO.out _ (c ^^^ turn) HZ.out rfl (by omega) hbase ?_; intro v1 w1 ho1 hb1 hk1 hv1; obtain ⟨c1, c2, hAcc, hK⟩ := HS.out w1 v1 _ ho1 hb1 hk1 hv1; have HA := Lib.hid hAcc; have HK := Lib.hid hK; clear hAcc hK hv1 hk1; obtain ⟨A1, cc1, rfl, _, _, _⟩ := ho1.form)
  go_end0
  have hA := HA.out
  have hK := HK.out
  rw [List.length_append] at hA hK
  exact ⟨rfl, hA, hK⟩
end Go.Proofs.Ytdhdfeiobjmdaaa
