/-
  Layer 9: a strings.Builder of the call's own. Conditions: sizes.
-/
import Derived.Test.YtceknmibopnmhaaDoorWName
import Derived.Shelf.Strings.BuilderK
namespace Go.Proofs.YtceknmibopnmhaaDoor
open Go.ChangeShapes Go.WideShapes Go.ChangeAt Go.RowKit
set_option linter.unusedVariables false

def bldRen : Go.Shelf.Ren := ⟨fun | 167 => 18 | n => Tryd.lays155_ren.f n, Tryd.lays155_ren.t, Tryd.lays155_ren.g⟩
theorem bldLays : Go.Proofs.Lays.n167 Tryd.prog bldRen := { Tryd.lays155 with f167 := Tryd.func18.trans (congrArg some (by kernel_rfl)) }
set_option maxRecDepth 100000 in
theorem bldExtra : Builder.Extra Tryd.prog bldRen :=
  { sizeBuilder := Tryd.Builder_Extra_155.sizeBuilder, liesBuilder := Tryd.Builder_Extra_155.liesBuilder, t5 := Tryd.Builder_Extra_155.t5, a5 := Tryd.Builder_Extra_155.a5, z5 := Tryd.Builder_Extra_155.z5, v5 := Tryd.Builder_Extra_155.v5, infoByte := Tryd.Builder_Extra_155.infoByte, cellsByte := Tryd.Builder_Extra_155.cellsByte, sizeByte := Tryd.Builder_Extra_155.sizeByte, neB5 := Tryd.Builder_Extra_155.neB5 }
/-- a builder at b that holds l -/
def Bld (w : World) (b : Nat) (l : List UInt8) : Prop := Lib.IsBuilderF 42 5 b b (Lib.byteCells l) w
theorem Bld.lt {w : World} {b : Nat} {l : List UInt8} (h : Bld w b l) : b < w.heap.size := by
  rcases h with h | h <;> exact h.lt
theorem Bld.on {w w' : World} {b : Nat} {l : List UInt8} (h : Bld w b l) (hb : Below w.heap.size w w') : Bld w' b l := by
  have key : ∀ p, Lib.BuilderAtF 42 5 b b p (Lib.byteCells l) w → Lib.BuilderAtF 42 5 b b p (Lib.byteCells l) w' := by
    intro p h
    have hlt := h.lt
    obtain ⟨hB, v, hv, ho, hne⟩ := h
    refine ⟨hB, v, (hb.block b hlt).trans hv, ⟨ho.1, ?_⟩, hne⟩
    rcases ho.2 with h2 | ⟨g, cap, cur, fz, h1, h2, h3, h4⟩
    · exact .inl h2
    · exact .inr ⟨g, cap, cur, fz, h1, h2, (hb.block g (Array.getElem?_eq_some_iff.1 h3).1).trans h3, h4⟩
  rcases h with h | h
  · exact .inl (key _ h)
  · exact .inr (key _ h)
theorem Bld.new (w : World) : Bld (w.alloc (.cells #[.pointer none, .slice none 0 0] 42)) w.heap.size [] := Lib.IsBuilderF.of (Lib.fresh_isBuilder _ _ w)
theorem Bld.drew {w : World} {b : Nat} {l : List UInt8} (h : Bld w b l) : Bld w.drew b l := h
theorem bldWS {w : World} {b : Nat} {l : List UInt8} (h : Bld w b l) (s : ByteArray) (hl : l.length ≤ 1000000) (hs : s.size ≤ 1000000) :
    Calls Tryd.prog 17 #[.pointer (some ⟨b, 0, none⟩), .string s] w fun e w' => e = .returned (.tuple #[.int .i64 s.size, .nilIface]) ∧ Bld w' b (l ++ s.data.toList) ∧ Below b w w' :=
  (Any.Builder_WriteString_k { Tryd.lays155 with } Tryd.Builder_Extra_155 b b _ s w h (by rw [Lib.byteCells_length]; omega) (Nat.le_of_lt h.lt)).mono fun e w' ⟨h1, h2, h3, _⟩ => by
    refine ⟨h1, .inr ?_, h3⟩
    rw [Lib.byteCells_append]
    exact h2
theorem bldWB {w : World} {b : Nat} {l : List UInt8} (h : Bld w b l) (c : UInt8) (hl : l.length ≤ 1000000) :
    Calls Tryd.prog 18 #[.pointer (some ⟨b, 0, none⟩), .int .u8 (c.toNat : Int)] w fun e w' => e = .returned .nilIface ∧ Bld w' b (l ++ [c]) ∧ Below b w w' :=
  (Any.Builder_WriteByte_k bldLays bldExtra b b _ _ w h (by rw [Lib.byteCells_length]; omega) (Nat.le_of_lt h.lt)).mono fun e w' ⟨h1, h2, h3, _⟩ => by
    refine ⟨h1, .inr ?_, h3⟩
    rw [Lib.byteCells_append]
    exact h2
theorem bldSt {w : World} {b : Nat} {l : List UInt8} (h : Bld w b l) :
    Calls Tryd.prog 19 #[.pointer (some ⟨b, 0, none⟩)] w fun e w' => e = .returned (.string ⟨l.toArray⟩) ∧ Below b w w' :=
  (Tryd.Builder_String_any_k b b l w h (Nat.le_of_lt h.lt)).mono fun e w' ⟨h1, _, h3, _⟩ => ⟨h1, h3⟩
end Go.Proofs.YtceknmibopnmhaaDoor
