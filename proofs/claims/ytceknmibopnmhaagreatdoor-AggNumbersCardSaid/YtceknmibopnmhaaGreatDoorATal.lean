/-
  Layer 8: the tallies. What a step does, what is told at the end. Conditions: right values; sizes.
-/
import Derived.Test.YtceknmibopnmhaaGreatDoorASort
import Derived.Test.YtceknmibopnmhaaGreatDoorAMap
namespace Go.Proofs.YtceknmibopnmhaaGreatDoor
open Go.ChangeShapes Go.WideShapes Go.ChangeAt Go.RowKit Go.Maps Go.Sort Go.Shelf Go.ChangeMaps Go.Lib
set_option linter.unusedVariables false

/-- all blocks but P's are as they were -/
structure Keep (P : Nat → Prop) (w w' : World) : Prop where
  os : w'.os = w.os
  tape : w'.tape = w.tape
  output : w'.output = w.output
  size : w.heap.size ≤ w'.heap.size
  block : ∀ k, k < w.heap.size → ¬ P k → w'.heap[k]? = w.heap[k]?
theorem Keep.of_below {P : Nat → Prop} {w w' : World} (h : Below w.heap.size w w') : Keep P w w' := ⟨h.os, h.tape, h.output, h.size, fun k hk _ => h.block k hk⟩
theorem Keep.trans {P : Nat → Prop} {a b c : World} (h : Keep P a b) (h2 : Keep P b c) : Keep P a c :=
  ⟨h2.os.trans h.os, h2.tape.trans h.tape, h2.output.trans h.output, Nat.le_trans h.size h2.size, fun k hk hn => (h2.block k (Nat.lt_of_lt_of_le hk h.size) hn).trans (h.block k hk hn)⟩
theorem Keep.imp {P Q : Nat → Prop} {a b : World} (h : Keep P a b) (hi : ∀ k, P k → Q k) : Keep Q a b := ⟨h.os, h.tape, h.output, h.size, fun k hk hn => h.block k hk fun hp => hn (hi k hp)⟩
theorem Keep.below {P : Nat → Prop} {a b : World} {n : Nat} (h : Keep P a b) (hn : n ≤ a.heap.size) (hp : ∀ k, P k → n ≤ k) : Below n a b :=
  ⟨h.os, h.tape, h.output, h.size, fun k hk => h.block k (by omega) fun hpk => by have := hp k hpk; omega⟩
theorem Keep.setCell {P : Nat → Prop} (w : World) (a : Addr) (v : Value) (h : P a.block) : Keep P w (w.setCell a v) :=
  have h1 : Below a.block w (w.setCell a v) := (Below.refl _ w).setCell (Nat.le_refl _) v
  ⟨h1.os, h1.tape, h1.output, h1.size, fun k hk hn => Below.heap_setCell _ _ _ k (fun e => hn (by rw [e]; exact h))⟩
theorem Keep.alloc {P : Nat → Prop} (w : World) (o : Obj) : Keep P w (w.alloc o) := Keep.of_below ((Below.refl _ w).alloc (Nat.le_refl _) o)
def GoodT (t : Trip) : Prop := Rt t.1 t.2.1 t.2.2 ∧ In64 t.2.1
theorem GoodT.size {t : Trip} (h : GoodT t) : t.2.2.size ≤ 65536 := by
  rcases h.1 with ⟨_, _, h⟩ | ⟨_, h⟩ | ⟨_, _, h⟩ <;> omega
/-- the library's variables lie below B -/
def WdB (B : Nat) (w : World) : Prop := ∃ w0, Wd w0 ∧ w0.heap.size ≤ B ∧ Below w0.heap.size w0 w
theorem WdB.wd {B : Nat} {w : World} (h : WdB B w) : Wd w := by
  obtain ⟨w0, h1, _, h2⟩ := h
  exact h1.on h2
theorem WdB.on {B : Nat} {w w' : World} (h : WdB B w) (hb : Below w.heap.size w w') : WdB B w' := by
  obtain ⟨w0, h1, h2, h3⟩ := h
  exact ⟨w0, h1, h2, h3.trans (hb.mono h3.size)⟩
theorem WdB.keep {B : Nat} {w w' : World} {P : Nat → Prop} (h : WdB B w) (hk : Keep P w w') (hp : ∀ k, P k → B ≤ k) : WdB B w' := by
  obtain ⟨w0, h1, h2, h3⟩ := h
  exact ⟨w0, h1, h2, h3.trans (hk.below h3.size fun k hpk => Nat.le_trans h2 (hp k hpk))⟩
/-- one more value -/
def StepOk (B g : Nat) (cb : Array Value) (bs : List Nat) (St : World → List Trip → Prop) : Prop :=
  ∀ w L t, GoodT t → L.length < 100000 → WdB B w → St w L → Calls Tryz.prog g (#[vvT t] ++ cb) w fun e w' => e = .returned (.tuple #[]) ∧ St w' (L ++ [t]) ∧ Keep (· ∈ bs) w w'
/-- what it comes to -/
def FinOk (B g : Nat) (cb : Array Value) (St : World → List Trip → Prop) (fin : List Trip → Trip × Int) : Prop :=
  ∀ w L, L.length ≤ 100000 → WdB B w → St w L → Calls Tryz.prog g cb w fun e w' => e = .returned (.tuple #[vvT (fin L).1, .int .i64 (fin L).2]) ∧ Below w.heap.size w w'
def Stable (bs : List Nat) (St : World → List Trip → Prop) : Prop := ∀ w w' L, St w L → (∀ b ∈ bs, b < w.heap.size → w'.heap[b]? = w.heap[b]?) → St w' L

theorem BoxT.frz {W : World} {B : Nat} {t : Trip} (h : BoxT W B t) : W.frozen? ⟨B, 0, none⟩ = false ∧ W.frozen? ⟨B, 1, none⟩ = false ∧ W.frozen? ⟨B, 2, none⟩ = false := by
  unfold BoxT at h
  refine ⟨?_, ?_, ?_⟩ <;> simp [World.frozen?, h]
theorem BoxT.lt {W : World} {B : Nat} {t : Trip} (h : BoxT W B t) : B < W.heap.size := (Array.getElem?_eq_some_iff.1 h).1
theorem BoxT.on {W W' : World} {B : Nat} {t : Trip} (h : BoxT W B t) (hb : Below W.heap.size W W') : BoxT W' B t := (hb.block B (Array.getElem?_eq_some_iff.1 h).1).trans h
theorem BoxT.new (W : World) (t : Trip) : BoxT (W.alloc (.cells #[.int .u8 t.1, .int .i64 t.2.1, .string t.2.2] 24)) W.heap.size t := World.alloc_heap_new W _
theorem Clone_any (s : ByteArray) (w : World) (hs : s.size ≤ 65536) : Calls Tryz.prog 162 #[.string s] w fun e w' => e = .returned (.string s) ∧ Below w.heap.size w w' := by
  go_enter Tryz.func162, Tryz.ntmps162
  go_wp2_with fail
  refine (Tryz.stringslite_Clone s _ (by omega)).mono ?_
  rintro e w1 ⟨rfl, hb⟩
  go_wp2_with fail
  go_ret
  exact ⟨rfl, hb⟩
theorem own_any (k n : Int) (s : ByteArray) (w : World) (hs : s.size ≤ 65536) :
    Calls Tryz.prog 143 #[vv k n s] w fun e w' => e = .returned (vv k n s) ∧ Below w.heap.size w w' := by
  have b1 := BoxT.new w (k, n, s)
  have b2 := BoxT.new (w.alloc (.cells #[.int .u8 k, .int .i64 n, .string s] 24)) (0, 0, ⟨#[]⟩)
  have b1' := b1.on ((Below.refl _ _).alloc (Nat.le_refl _) (.cells #[.int .u8 0, .int .i64 0, .string ⟨#[]⟩] 24))
  rw [World.size_alloc] at b2
  have hal : Below w.heap.size w ((w.alloc (.cells #[.int .u8 k, .int .i64 n, .string s] 24)).alloc (.cells #[.int .u8 0, .int .i64 0, .string ⟨#[]⟩] 24)) := ((Below.refl _ w).alloc (Nat.le_refl _) _).alloc (by simp) _
  go_enter Tryz.func143, Tryz.ntmps143
  go_wp2_with fail
  refine (Clone_any s _ hs).mono ?_
  rintro e w3 ⟨rfl, hb⟩
  obtain ⟨x0, x1, x2⟩ := (b1'.on hb).cells
  obtain ⟨y0, y1, y2⟩ := (b2.on hb).cells
  obtain ⟨u0, u1, u2⟩ := (b1'.on hb).frz
  obtain ⟨v0, v1, v2⟩ := (b2.on hb).frz
  dsimp only at x0 x1 x2 y0 y1 y2
  have hB := hal.trans (hb.mono hal.size)
  clear b1 b2 b1' hal hb
  go_wp2_with fail
  refine bodyPost_ret (v := vv k n s) (by simp [results, Tryz.results143, go_sem, y0, y1, y2]) rfl ⟨rfl, ?_⟩
  exact (((hB.setCell (p := ⟨w.heap.size, 2, none⟩) (Nat.le_refl _) _).setCell (p := ⟨w.heap.size + 1, 0, none⟩) (Nat.le_succ _) _).setCell (p := ⟨w.heap.size + 1, 1, none⟩) (Nat.le_succ _) _).setCell (p := ⟨w.heap.size + 1, 2, none⟩) (Nat.le_succ _) _
theorem aggInt_any (n : Int) (w : World) : Calls Tryz.prog 100 #[.int .i64 n] w fun e w' => e = .returned (vv 1 n ⟨#[]⟩) ∧ Below w.heap.size w w' := by
  go_enter Tryz.func100, Tryz.ntmps100
  go_wp2_with fail
  refine bodyPost_ret (v := vv 1 n ⟨#[]⟩) (by simp [results, Tryz.results100, go_sem]) rfl ⟨rfl, ?_⟩
  exact (Below.refl _ w).alloc (Nat.le_refl _) _
def CntSt (b : Nat) (w : World) (L : List Trip) : Prop := Boxed w b 2 (.int .i64 (L.length : Int))
theorem count_step (B b : Nat) : StepOk B 134 #[.pointer (some ⟨b, 0, none⟩)] [b] (CntSt b) := by
  intro w L ⟨k, z, s⟩ ht hL _ hst
  have hB := Boxed.alloc hst (.cells #[.int .u8 k, .int .i64 z, .string s] 24)
  have hc := hB.cell
  have hf := hB.frozen
  have hw : IntKind.i64.wrap ((L.length : Int) + 1) = (L.length : Int) + 1 := IntWalk.i64_in _ (by omega)
  show Calls Tryz.prog 134 #[vv k z s, .pointer (some ⟨b, 0, none⟩)] w _
  go_enter Tryz.func134, Tryz.ntmps134
  go_wp2_with fail
  go_end0
  refine ⟨rfl, ?_, (Keep.alloc w _).trans (Keep.setCell _ _ _ (by simp))⟩
  have h := hB.set (.int .i64 ((L.length : Int) + 1))
  unfold CntSt
  rw [List.length_append]
  exact h
theorem count_fin (B b : Nat) : FinOk B 135 #[.pointer (some ⟨b, 0, none⟩)] (CntSt b) (fun L => ((1, (L.length : Int), ⟨#[]⟩), 0)) := by
  intro w L hL _ hst
  have b2 := BoxT.new w (0, 0, ⟨#[]⟩)
  have hc := (Boxed.alloc hst (.cells #[.int .u8 0, .int .i64 0, .string ⟨#[]⟩] 24)).cell
  go_enter Tryz.func135, Tryz.ntmps135
  go_wp2_with fail
  refine (aggInt_any _ _).mono ?_
  rintro e w3 ⟨rfl, hb⟩
  obtain ⟨y0, y1, y2⟩ := (b2.on hb).cells
  obtain ⟨v0, v1, v2⟩ := (b2.on hb).frz
  dsimp only at y0 y1 y2
  go_wp2_with fail
  refine bodyPost_ret (v := .tuple #[vv 1 (L.length : Int) ⟨#[]⟩, .int .i64 0]) (by simp [results, Tryz.results135, go_sem, y0, y1, y2]) rfl ⟨rfl, ?_⟩
  have hB : Below w.heap.size w w3 := ((Below.refl _ w).alloc (Nat.le_refl _) _).trans (hb.mono (by simp))
  exact ((hB.setCell (p := ⟨w.heap.size, 0, none⟩) (Nat.le_refl _) _).setCell (p := ⟨w.heap.size, 1, none⟩) (Nat.le_refl _) _).setCell (p := ⟨w.heap.size, 2, none⟩) (Nat.le_refl _) _
theorem count_stable (b : Nat) : Stable [b] (CntSt b) := fun w w' L h hb => (hb b (by simp) (Boxed.lt h)).trans h
end Go.Proofs.YtceknmibopnmhaaGreatDoor
