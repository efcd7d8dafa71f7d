/-
  RecordNumbers' helpers: bytes that are no row, bytes that are no key of one column. Conditions: at most 1000 bytes.
-/
import Derived.Test.YtmcbjfdenaknlaaRRefA
import Derived.Test.YtmcbjfdenaknlaaRUnkL
import Derived.Test.YtmcbjfdenaknlaaRAwk
import Derived.Test.YtmcbjfdenaknlaaRGet
namespace Go.Proofs.Ytmcbjfdenaknlaa
open Go.ChangeShapes Go.WideShapes Go.ChangeAt Go.RowKit
set_option linter.unusedVariables false

theorem own_some2 {w : World} {base n c : Nat} {A : Option Addr} {l : List UInt8} (h : Own w base (.slice A n c) l) (hl : 0 < l.length) : ∃ g, A = some ⟨g, 0, none⟩ := by
  obtain ⟨h1, h2⟩ := h
  rcases h2 with ⟨_, h0⟩ | ⟨g, cap, cur, hv, _⟩
  · omega
  · simp only [Value.slice.injEq] at hv
    exact ⟨g, hv.1⟩
theorem not_u8 (u : UInt8) : bits .xor .u8 (if IntKind.u8.signed = true then -1 else IntKind.u8.max) (u.toNat : Int) = ((u ^^^ 255).toNat : Int) := by
  have hu := u.toNat_lt
  have e : (if IntKind.u8.signed = true then (-1 : Int) else IntKind.u8.max) = ((255 : Nat) : Int) := by decide
  rw [e, u8_xor_nat 255 u.toNat (by omega) (by omega), UInt8.toNat_xor, Nat.xor_comm]
  rfl
set_option maxRecDepth 100000 in
theorem wrong_any (A : Option Addr) (n c : Nat) (b : List UInt8) (w : World) (hn : n = b.length) (hR : Rd w w.heap.size A b) (hc : b.length ≤ c) (hc2 : c ≤ 1000) (h : getN b = none) :
    Calls Try.prog 10 #[.slice A n c] w fun e w' => e = .returned (.bool true) ∧ Below w.heap.size w w' := by
  have H := Lib.hid h
  have HG := Lib.hid (Get_any A b.length c b w rfl hR hc (by omega))
  subst hn
  clear h hR hc
  go_enter Try.func10, Try.ntmps10
  go_wp2_with fail
  refine HG.out.mono ?_
  rintro e w1 hp
  rw [H.out] at hp
  obtain ⟨rfl, hb⟩ := hp
  go_wp2_with fail
  go_ret
  exact ⟨rfl, hb⟩

set_option maxRecDepth 100000 in
theorem none_any (A : Option Addr) (n c : Nat) (b : List UInt8) (w : World) (hn : n = b.length) (hR : Rd w w.heap.size A b) (hc : b.length ≤ c) (hc2 : c ≤ 1000) (h1 : unkN [false] b = none) (h2 : unkN [true] (turnL 255 b) = none) :
    Calls Try.prog 11 #[.slice A n c] w fun e w' => e = .returned (.bool true) ∧ Below w.heap.size w w' := by
  have H1 := Lib.hid h1
  have H2 := Lib.hid h2
  have HR := Lib.hid hR
  subst hn
  clear h1 h2 hR
  go_enter Try.func11, Try.ntmps11
  go_wp2_with fail
  have HX0 := Lib.hid ((Below.refl w.heap.size w).alloc (Nat.le_refl _) (.cells #[.bool false] 4))
  refine (Unkey_any A b.length c b (some ⟨w.heap.size, 0, none⟩) 1 1 [false] _ rfl rfl (HR.out.on HX0.out) (rdf_new w false _ (Below.refl _ _)) hc (by omega)).mono ?_
  rintro e w1 hp
  rw [H1.out] at hp
  obtain ⟨rfl, hb⟩ := hp
  have HX := Lib.hid (HX0.out.trans (hb.mono (by simp)))
  clear hb
  go_wp2_with fail
  refine (CopyBytes_any A c b w1 (by omega) (HR.out.on HX.out)).mono ?_
  rintro e w2 ⟨v2, rfl, ho2, hb2⟩
  by_cases hb0 : b.length = 0
  · have hbn : b = [] := List.eq_nil_of_length_eq_zero hb0
    subst hbn
    obtain ⟨A2, c2, rfl, k1, k2, hr2⟩ := ho2.form
    have HR2 := Lib.hid hr2
    have hc2' : c2 ≤ 9223372036854775807 := by unfold maxLen at k2; omega
    have HX := Lib.hid (onB HX.out hb2)
    clear ho2 hb2 hr2 k1 k2
    go_wp2_with fail
    go_loopw [19] (fun i wr => i = .int .i64 0 ∧ wr = w2) (fun _ _ => 0)
    case atStart => exact ⟨rfl, rfl⟩
    case round =>
      obtain ⟨rfl, rfl⟩ := hrel
      go_wp2_with fail
      have HX1 := Lib.hid ((Below.refl wr.heap.size wr).alloc (Nat.le_refl _) (.cells #[.bool true] 4))
      refine (Unkey_any A2 0 c2 [] (some ⟨wr.heap.size, 0, none⟩) 1 1 [true] _ rfl rfl Rd.nil (rdf_new wr true _ (Below.refl _ _)) (by simp) hc2').mono ?_
      rintro e w3 hp
      rw [show unkN [true] [] = none from H2.out] at hp
      obtain ⟨rfl, hb⟩ := hp
      go_wp2_with fail
      go_ret
      exact ⟨rfl, HX.out.trans ((HX1.out.trans (hb.mono (by simp))).mono HX.out.size)⟩
  · obtain ⟨A2, c2, rfl, k1, k2, hr2⟩ := ho2.form
    have hc2' : c2 ≤ 9223372036854775807 := by unfold maxLen at k2; omega
    obtain ⟨g, rfl⟩ := own_some2 ho2 (by omega)
    have HO2 := Lib.hid ho2
    have hz1 := HX.out.size
    have HX := Lib.hid (onB HX.out hb2)
    have hg1 := (ho2.cells).2.1
    clear ho2 hb2 hr2
    go_wp2_with fail
    go_loopw [19] (fun i wr => TurnRelP w1.heap.size g c2 w2 b i wr) (fun i _ => b.length - (intOf i).toNat)
    case atStart => exact ⟨0, Nat.zero_le _, rfl, by rw [halfT_zero]; exact HO2.out, Below.refl _ _⟩
    case round =>
      obtain ⟨j, hj, rfl, ho, hbw⟩ := hrel
      by_cases hlt : j < b.length
      · have hlt' : j < b.length := hlt
        obtain ⟨_, hgb, _, _, _, hat⟩ := ho.cells
        obtain ⟨hc, hf⟩ := hat j _ (halfT_get b j hlt')
        have HS := Lib.hid (ho.set j (b[j] ^^^ 255))
        rw [halfT_set b j hlt'] at HS
        have hji : (j : Int) < (b.length : Nat) := by omega
        have ht := not_u8 b[j]
        have hcl := (b[j]).toNat_lt
        unfold b8 at hc HS
        generalize b[j] = u at *
        generalize (u ^^^ 255) = u' at *
        have HT := Lib.hid ht
        clear hat ho ht
        go_wp2_with fail
        refine ⟨⟨j + 1, by omega, by go_num, by rw [HT.out]; exact HS.out, hbw.setCell hgb _⟩, by simp [intOf]; omega⟩
      · obtain rfl : j = b.length := by omega
        rw [halfT_end b] at ho
        have hl : (turnL 255 b).length = b.length := turnL_length _ _
        have HU := Lib.hid (Unkey_any (some ⟨g, 0, none⟩) b.length c2 (turnL 255 b) (some ⟨wr.heap.size, 0, none⟩) 1 1 [true] (wr.alloc (.cells #[.bool true] 4)) hl.symm rfl ((own_rd ho).on ((Below.refl wr.heap.size wr).alloc (Nat.le_refl _) _)) (rdf_new wr true _ (Below.refl _ _)) (by rw [hl]; exact k1) hc2')
        have HX := Lib.hid (HX.out.trans (hbw.mono hz1))
        have HX1 := Lib.hid ((Below.refl wr.heap.size wr).alloc (Nat.le_refl _) (.cells #[.bool true] 4))
        clear ho hl hbw
        go_wp2_with fail
        refine HU.out.mono ?_
        rintro e w3 hp
        rw [H2.out] at hp
        obtain ⟨rfl, hb⟩ := hp
        go_wp2_with fail
        go_ret
        exact ⟨rfl, HX.out.trans ((HX1.out.trans (hb.mono (by simp))).mono HX.out.size)⟩
end Go.Proofs.Ytmcbjfdenaknlaa
