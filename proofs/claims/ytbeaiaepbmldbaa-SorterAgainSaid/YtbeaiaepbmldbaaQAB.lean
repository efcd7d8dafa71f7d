import Derived.Test.YtbeaiaepbmldbaaQHelp
namespace Go.Proofs.Ytbeaiaepbmldbaa
open Go.ChangeShapes Go.WideShapes Go.ChangeAt Go.RowKit
section
variable {H : Type} {enc : TypeId × Value → H} {W : World} {base : Nat}
theorem okWide_array {P : Program} {w : World} {r : Reach} {b0 : Nat} {t e : TypeId} {n : Nat} {v : Value} (ht : P.underlying t = some (.array n e)) (h : Value.okWide P w r b0 t v) : ∃ cs, v = .agg cs ∧ cs.size = P.cellsOf t := by
  simp only [Value.okWide, ht] at h
  obtain ⟨cs, h1, h2, _⟩ := h
  exact ⟨cs, h1, h2⟩
set_option maxRecDepth 100000 in
theorem open_flags2 {v : Value} {d : DataW H} {ps : List MemPlace} (hval : Value.okWide Try.prog W .any base 57 v) (hd : DataW.Trod enc Try.prog W 0 (fun _ => true) true 57 v d ps) :
    ∃ b0 b1 : Bool, v = .agg #[.bool b0, .bool b1] := by
  obtain ⟨cs, rfl, hs⟩ := okWide_array Try.underlying57 hval
  have hC : Try.prog.cellsOf 57 = 2 := by kernel_rfl
  have hC1 : Try.prog.cellsOf 4 = 1 := by kernel_rfl
  rw [hC] at hs
  obtain ⟨fuel, hf⟩ := hd
  obtain ⟨xs, m, _, _, hl, hxl, hel⟩ := DataW.trod_array Try.underlying57 hf
  obtain ⟨l⟩ := cs
  have hl2 : l.length = 2 := hs
  match l, hl2 with
  | [q0, q1], _ =>
    rw [hC1] at hel
    have e0 := hel 0 (by omega)
    have e1 := hel 1 (by omega)
    rw [List.getElem?_eq_getElem (by omega)] at e0 e1
    obtain ⟨b0, f0, _⟩ := DataW.trod_bool Try.underlying4 e0
    obtain ⟨b1, f1, _⟩ := DataW.trod_bool Try.underlying4 e1
    have g0 : q0 = .bool b0 := by
      have : [q0] = [.bool b0] := f0
      injection this
    have g1 : q1 = .bool b1 := by
      have : [q1] = [.bool b1] := f1
      injection this
    subst g0 g1
    exact ⟨b0, b1, rfl⟩
end
end Go.Proofs.Ytbeaiaepbmldbaa
