/-
  RecordNumbers' parts, behind the borders: what is kept from call to call. No conditions.
-/
import Derived.Test.YtdhdfeiobjmdaaaRNumA
import Derived.Test.YtdhdfeiobjmdaaaRShelf
namespace Go.Proofs.Ytdhdfeiobjmdaaa
open Go.ChangeShapes Go.WideShapes Go.ChangeAt Go.RowKit
set_option linter.unusedVariables false

theorem repeat_x : ∃ X : ByteArray, X.size = 65536 ∧ ∀ w, Calls Try.prog 9 #[.string ⟨#[120]⟩, .int .i64 65536] w fun e w' => e = .returned (.string X) ∧ Below w.heap.size w w' :=
  ⟨⟨(Lib.repeatL [120] 65536).toArray⟩, by
    show (Lib.repeatL [120] 65536).toArray.size = 65536
    rw [List.size_toArray, Lib.repeatL_length]
    rfl, fun w => Try.strings_Repeat ⟨#[120]⟩ 65536 w (by omega) (by decide)⟩
theorem make_v : ∃ o, o = Obj.cells (madeCells (vv 0 0 ⟨#[]⟩).cells (201 * 3)) 29 ∧ ∀ w, (Instr.makeSlice 31 (.int .i64 201) (.int .i64 201)).run Try.prog w = .ok (.slice (some ⟨w.heap.size, 0, none⟩) 201 201) (w.alloc o) :=
  ⟨_, rfl, fun w => run_makeV 201 (by omega) w⟩
theorem make_b : ∃ o, o = Obj.cells (madeCells #[.bool false] 201) 4 ∧ ∀ w, (Instr.makeSlice 26 (.int .i64 201) (.int .i64 201)).run Try.prog w = .ok (.slice (some ⟨w.heap.size, 0, none⟩) 201 201) (w.alloc o) :=
  ⟨_, rfl, fun w => run_makeB 201 (by omega) w⟩
theorem Try.info_by : (Try.prog.info? 5).map (fun i => (i.zero, i.size, i.bytes)) = some (some (.int .u8 0), 1, 1) := by kernel_rfl
theorem make_y : ∃ o, ∀ w, (Instr.makeSlice 62 (.int .i64 201) (.int .i64 201)).run Try.prog w = .ok (.slice (some ⟨w.heap.size, 0, none⟩) 201 201) (w.alloc o) := by
  obtain ⟨i0, hi, hz0, hz1, hz2⟩ := info_parts Try.info_by
  refine ⟨.cells (madeCells #[.int .u8 0] 201) 5, fun w => ?_⟩
  have h := run_make (P := Try.prog) w 62 5 i0 (.int .u8 0) Try.underlying62 hi hz0 .i64 .i64 201 201 (by omega) (by omega) (by rw [hz2]; decide) (by omega)
  rw [h, hz1]
  rfl
theorem rdf_made (X : World) (m : Nat) (hm : m ≤ 201) (W : World) (h : Below (X.alloc (.cells (madeCells #[.bool false] 201) 4)).heap.size (X.alloc (.cells (madeCells #[.bool false] 201) 4)) W) :
    RdF W W.heap.size (some ⟨X.heap.size, 0, none⟩) ((List.range m).map fun _ => false) := by
  have h0 := flags_made X 201
  have hs : X.heap.size < W.heap.size := by have := h.size; simp at this; omega
  exact FlagsAt.rdf (w := W) (g := X.heap.size) (n := m) (f := fun _ => false) ⟨hs, fun j hj => by
    obtain ⟨a, b⟩ := h0.2 j (by omega)
    obtain ⟨hc, hf⟩ := bcell h
    exact ⟨by rw [hc _ _ (by simp)]; exact a, by rw [hf _ _ (by simp)]; exact b⟩⟩
theorem ownR_new (X : World) (base : Nat) (hb : base ≤ X.heap.size) (vs : List Trip) (hl : vs.length ≤ 1000) : OwnR (X.alloc (.cells (cellsL vs).toArray 29)) base (.slice (some ⟨X.heap.size, 0, none⟩) vs.length vs.length) vs := by
  have h := World.ownsRow_lit (base := base) (e := 29) (size := 3) X (cellsL vs).toArray vs.length hb (by simp only [maxLen]; omega) (by rw [List.size_toArray, cellsL_length])
  exact h
theorem ownR_some {w : World} {base : Nat} {v : Value} {vs : List Trip} (h : OwnR w base v vs) (hl : 0 < vs.length) : ∃ g c, v = .slice (some ⟨g, 0, none⟩) vs.length c ∧ vs.length ≤ c ∧ c ≤ 9223372036854775807 ∧ RdR w w.heap.size (some ⟨g, 0, none⟩) vs := by
  obtain ⟨A, c, hv, h1, h2, hr⟩ := h.form
  obtain ⟨_, h3⟩ := h
  rcases h3 with ⟨rfl, h0⟩ | ⟨g, cap, cur, rfl, _⟩
  · omega
  · injection hv with e1 e2 e3
    subst e1 e3
    exact ⟨g, _, rfl, h1, by unfold maxLen at h2; omega, hr⟩
theorem RdR.first {w : World} {B g : Nat} {vs : List Trip} {k n : Int} {s : ByteArray} (h : RdR w B (some ⟨g, 0, none⟩) vs) (h0 : vs[0]? = some (k, n, s)) : w.cell? ⟨g, 0, none⟩ = some (.int .u8 k) ∧ w.cell? ⟨g, 1, none⟩ = some (.int .i64 n) ∧ w.cell? ⟨g, 2, none⟩ = some (.string s) := by
  have hl : 0 < vs.length := by
    rcases Nat.eq_zero_or_pos vs.length with h | h
    · rw [List.getElem?_eq_none (by omega)] at h0; cases h0
    · exact h
  obtain ⟨ad, e, _, hc⟩ := h hl
  injection e with e
  subst e
  exact hc 0 k n s h0
theorem long_next (X : ByteArray) (j : Nat) : longs X (j + 1) ++ [(2, 0, X)] = longs X (j + 1 + 1) := by
  show List.replicate (j + 1) _ ++ [_] = _
  rw [← List.replicate_succ']
theorem RdR.less {w : World} {B : Nat} {A : Option Addr} {X : ByteArray} (h : RdR w B A (longs X 16)) : RdR w B A (longs X 15) := by
  intro _
  obtain ⟨ad, e, hl, hc⟩ := h (by simp)
  refine ⟨ad, e, hl, fun j k n s hj => hc j k n s ?_⟩
  rw [List.getElem?_replicate] at hj ⊢
  split at hj
  · rw [if_pos (by omega)]; exact hj
  · cases hj

/-- what is kept: the walk's start, the values made, the flags made, the long row -/
structure Kp (w M F : World) (oM oF : Obj) (g : Nat) (X : ByteArray) (c : World) : Prop where
  a : Below w.heap.size w c
  m : Below (M.alloc oM).heap.size (M.alloc oM) c
  f : Below (F.alloc oF).heap.size (F.alloc oF) c
  r : RdR c c.heap.size (some ⟨g, 0, none⟩) (longs X 16)
theorem rdr_on {w w' : World} {A : Option Addr} {vs : List Trip} (h : RdR w w.heap.size A vs) (hb : Below w.heap.size w w') : RdR w' w'.heap.size A vs := by
  intro hp
  obtain ⟨ad, e, hl, hc⟩ := (h.below hb) hp
  exact ⟨ad, e, Nat.lt_of_lt_of_le hl hb.size, hc⟩
theorem Kp.on {w M F : World} {oM oF : Obj} {g : Nat} {X : ByteArray} {c c' : World} (h : Kp w M F oM oF g X c) (b : Below c.heap.size c c') : Kp w M F oM oF g X c' :=
  ⟨onB h.a b, onB h.m b, onB h.f b, rdr_on h.r b⟩
theorem Kp.al {w M F : World} {oM oF : Obj} {g : Nat} {X : ByteArray} {c : World} (h : Kp w M F oM oF g X c) (o : Obj) : Kp w M F oM oF g X (c.alloc o) := h.on ((Below.refl _ _).alloc (Nat.le_refl _) o)
theorem Kp.dr {w M F : World} {oM oF : Obj} {g : Nat} {X : ByteArray} {c : World} (h : Kp w M F oM oF g X c) : Kp w M F oM oF g X c.drew := h.on (Below.refl _ _).drew
theorem NoRet.un {E : Int} {w : World} {e : Ending} {w' : World} (h : NoRet E w e w') : e = .returned (.tuple #[.slice none 0 0, .int .i64 E]) ∧ Below w.heap.size w w' := h

theorem put_one_bad (X W : World) (hW : W = X.alloc (.cells (cellsL [(0, 1, ⟨#[]⟩)]).toArray 29)) :
    Calls Try.prog 27 #[.slice (some ⟨X.heap.size, 0, none⟩) 1 1] W fun e w' => e = .returned (.tuple #[.slice none 0 0, .int .i64 2]) ∧ Below X.heap.size X w' := by
  subst hW
  refine (Put_bad (some ⟨X.heap.size, 0, none⟩) 1 [(0, 1, ⟨#[]⟩)] _ (rdr_new X _ _ (Below.refl _ _)) (by decide) (by decide) (by decide +kernel)).mono ?_
  rintro e w' ⟨rfl, hb⟩
  exact ⟨rfl, ((Below.refl X.heap.size X).alloc (Nat.le_refl _) _).trans (hb.mono (by simp))⟩
theorem key_one_bad (X W : World) (hW : W = X.alloc (.cells (cellsL [(4, 0, ⟨#[]⟩)]).toArray 29)) (F : Option Addr) (m fcap : Nat) :
    Calls Try.prog 26 #[.slice (some ⟨X.heap.size, 0, none⟩) 1 1, .slice F m fcap] W fun e w' => e = .returned (.tuple #[.slice none 0 0, .int .i64 2]) ∧ Below X.heap.size X w' := by
  subst hW
  refine (Key_bad (some ⟨X.heap.size, 0, none⟩) 1 [(4, 0, ⟨#[]⟩)] F m fcap _ (rdr_new X _ _ (Below.refl _ _)) (by decide) (by decide) (by decide +kernel)).mono ?_
  rintro e w' ⟨rfl, hb⟩
  exact ⟨rfl, ((Below.refl X.heap.size X).alloc (Nat.le_refl _) _).trans (hb.mono (by simp))⟩
end Go.Proofs.Ytdhdfeiobjmdaaa
