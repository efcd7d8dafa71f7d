/-
  A slice of bytes that a closure grows (layer 3, record): the variable that holds it, and what stays. No conditions.
-/
import Derived.Test.YtdhdfeiobjmdaaaLeaf
import Derived.Test.YtdhdfeiobjmdaaaVArgs
import Derived.Maps.AppendAt
namespace Go.Proofs.Ytdhdfeiobjmdaaa
open Go.ChangeShapes Go.WideShapes Go.ChangeAt Go.RowKit
set_option linter.unusedVariables false

/-- the blocks D stay what they are, and so does all below base -/
def Kept (base : Nat) (D : List Nat) (w w' : World) : Prop := Below base w w' ∧ ∀ d, d ∈ D → w'.heap[d]? = w.heap[d]?
theorem Kept.refl (base : Nat) (D : List Nat) (w : World) : Kept base D w w := ⟨Below.refl _ _, fun _ _ => rfl⟩
theorem Kept.trans {base : Nat} {D : List Nat} {a b c : World} (h : Kept base D a b) (k : Kept base D b c) : Kept base D a c :=
  ⟨h.1.trans k.1, fun d hd => (k.2 d hd).trans (h.2 d hd)⟩
theorem Kept.sub {base : Nat} {D D' : List Nat} {a b : World} (h : Kept base D a b) (hs : ∀ d, d ∈ D' → d ∈ D) : Kept base D' a b := ⟨h.1, fun d hd => h.2 d (hs d hd)⟩
theorem Kept.tail {base x : Nat} {D : List Nat} {a b : World} (h : Kept base (x :: D) a b) : Kept base D a b := h.sub fun _ hd => List.mem_cons_of_mem _ hd
theorem Kept.cell {base : Nat} {D : List Nat} {w w' : World} (h : Kept base D w w') {d : Nat} (hd : d ∈ D) (o : Nat) : w'.cell? ⟨d, o, none⟩ = w.cell? ⟨d, o, none⟩ :=
  World.cell?_of_block (w := w) (a := ⟨d, o, none⟩) (h.2 d hd)
theorem Kept.frozen {base : Nat} {D : List Nat} {w w' : World} (h : Kept base D w w') {d : Nat} (hd : d ∈ D) (o : Nat) : w'.frozen? ⟨d, o, none⟩ = w.frozen? ⟨d, o, none⟩ :=
  World.frozen?_of_block (w := w) (a := ⟨d, o, none⟩) (h.2 d hd)

/-- the variable at p holds a slice of the call's own, of the bytes xs; the blocks D are none of it -/
def Acc (base p : Nat) (D : List Nat) (w : World) (xs : List UInt8) : Prop :=
  ∃ v, w.cell? ⟨p, 0, none⟩ = some v ∧ w.frozen? ⟨p, 0, none⟩ = false ∧ Own w base v xs ∧ base ≤ p ∧ v.ownBlock ≠ some p ∧ ∀ d, d ∈ D → d ≠ p ∧ d < w.heap.size ∧ v.ownBlock ≠ some d
theorem Acc.sub {base p : Nat} {D D' : List Nat} {w : World} {xs : List UInt8} (h : Acc base p D w xs) (hs : ∀ d, d ∈ D' → d ∈ D) : Acc base p D' w xs := by
  obtain ⟨v, h1, h2, h3, h4, h5, h6⟩ := h
  exact ⟨v, h1, h2, h3, h4, h5, fun d hd => h6 d (hs d hd)⟩
theorem Acc.tail {base p x : Nat} {D : List Nat} {w : World} {xs : List UInt8} (h : Acc base p (x :: D) w xs) : Acc base p D w xs := h.sub fun _ hd => List.mem_cons_of_mem _ hd
theorem Acc.plt {base p : Nat} {D : List Nat} {w : World} {xs : List UInt8} (h : Acc base p D w xs) : p < w.heap.size := by
  obtain ⟨v, h1, _⟩ := h
  exact block_lt_of_cell h1
theorem Acc.alloc {base p : Nat} {D : List Nat} {w : World} {xs : List UInt8} (h : Acc base p D w xs) (o : Obj) : Acc base p (w.heap.size :: D) (w.alloc o) xs := by
  have hp := h.plt
  obtain ⟨v, h1, h2, h3, h4, h5, h6⟩ := h
  refine ⟨v, ?_, ?_, h3.alloc o, h4, h5, ?_⟩
  · rw [World.cell?_alloc_lt w o _ hp]; exact h1
  · have := ((Below.refl w.heap.size w).alloc (Nat.le_refl _) o).frozen (p := ⟨p, 0, none⟩) hp
    rw [this]; exact h2
  · intro d hd
    rcases List.mem_cons.1 hd with rfl | hd
    · refine ⟨by omega, by simp, fun e => ?_⟩
      have := (h3.lt _ e).2
      omega
    · obtain ⟨a, b, c⟩ := h6 d hd
      exact ⟨a, by simp; omega, c⟩
theorem Acc.below {base p : Nat} {D : List Nat} {w w' : World} {xs : List UInt8} (h : Acc base p D w xs) (hb : Below w.heap.size w w') : Acc base p D w' xs := by
  have hp := h.plt
  obtain ⟨v, h1, h2, h3, h4, h5, h6⟩ := h
  refine ⟨v, (hb.cell (p := ⟨p, 0, none⟩) hp).trans h1, (hb.frozen (p := ⟨p, 0, none⟩) hp).trans h2, h3.below hb, h4, h5, fun d hd => ?_⟩
  obtain ⟨a, b, c⟩ := h6 d hd
  have := hb.size
  exact ⟨a, by omega, c⟩
theorem Kept.of_below {base : Nat} {D : List Nat} {w w' : World} (hb : Below w.heap.size w w') (hbase : base ≤ w.heap.size) (hD : ∀ d, d ∈ D → d < w.heap.size) : Kept base D w w' :=
  ⟨hb.mono hbase, fun d hd => hb.block d (hD d hd)⟩
theorem Acc.lts {base p : Nat} {D : List Nat} {w : World} {xs : List UInt8} (h : Acc base p D w xs) : ∀ d, d ∈ D → d < w.heap.size := by
  obtain ⟨v, _, _, _, _, _, h6⟩ := h
  exact fun d hd => (h6 d hd).2.1
theorem Acc.base_le {base p : Nat} {D : List Nat} {w : World} {xs : List UInt8} (h : Acc base p D w xs) : base ≤ w.heap.size := by
  have := h.plt
  obtain ⟨v, _, _, _, h4, _⟩ := h
  omega

set_option maxRecDepth 100000 in
/-- 'append(own, x)', x one byte: its one cell has just been made; what else there is stays -/
theorem wpList_app1K {W : World} {ops : Array Oper} {rest : List Oper} {o : Oper} {a : Act} {Q : Exit → Act → World → Prop} (hgd : o.guard = none) (s x : Operand)
    (ho : o.op = .call { callee := .builtin .append, args := #[s, x], argTypes := #[62, 62] })
    (base : Nat) (v : Value) (l : List UInt8) (hs : a.eval s = v) (hown : Own W base v l) (z : Int) (u : UInt8) (hz : z = (u.toNat : Int)) (hx : a.eval x = .slice (some ⟨W.heap.size, 0, none⟩) 1 1)
    (hlen : l.length + 1 ≤ 70368744177664) (hbase : base ≤ W.heap.size)
    (h : ∀ v' w', Own w' base v' (l ++ [u]) → Below base W w' → (∀ k, k < W.heap.size → some k ≠ v.ownBlock → w'.heap[k]? = W.heap[k]?) → (v'.ownBlock = v.ownBlock ∨ ∃ g, v'.ownBlock = some g ∧ W.heap.size ≤ g) →
      wpList Try.prog ops Q rest (a.put o.dst v') w') : wpList Try.prog ops Q (o :: rest) a (W.alloc (.cells #[.int .u8 z] 5)) := by
  subst hz
  obtain ⟨i0, hi, hz0, hz1, hz2⟩ := info_parts Try.info_u8
  refine wpList_append_own_at (W.alloc (.cells #[.int .u8 (u.toNat : Int)] 5)) hgd s x 62 ho base 5 i0 (.int .u8 0) 1 1 Try.underlying62 hi hz0 hz1 hz2 rfl (by decide) v l.length (bs l) hs (World.ownsRow.alloc hown _) ⟨W.heap.size, 0, none⟩ 1 1 (bs [u]) hx (by rw [bs_length]; rfl) ?_ (bs_one [u]) (by simp only [maxLen]; omega) (by omega) (by simp; omega) ?_
  · exact Go.cell_one_new _ _ _
  · intro v' w' h1 h2 _ h4
    have hO : Own w' base v' (l ++ [u]) := by
      unfold Own
      rw [List.length_append, bs_append]
      exact h1
    have hB : Below base (W.alloc (.cells #[.int .u8 (u.toNat : Int)] 5)) w' := (Below.refl _ _).grown h2 (by simp; omega) fun k hk => (World.ownsRow.lt hown k hk).1
    refine h v' w' hO (((Below.refl _ _).alloc hbase _).trans hB) ?_ ?_
    · intro k hk hne
      rw [h2.block k (by simp; omega) hne, Below.heap_alloc _ _ _ hk]
    · rcases h4 with h4 | h4
      · exact .inl h4
      · exact .inr ⟨_, h4, by simp⟩

/-- the variable takes what was appended -/
theorem Acc.stored {base p : Nat} {D : List Nat} {w w' : World} {xs ys : List UInt8} {v v' : Value} (hp : w.cell? ⟨p, 0, none⟩ = some v) (hf : w.frozen? ⟨p, 0, none⟩ = false) (hbp : base ≤ p) (hown : Own w base v xs) (hvp : v.ownBlock ≠ some p)
    (hD : ∀ d, d ∈ D → d ≠ p ∧ d < w.heap.size ∧ v.ownBlock ≠ some d) (ho : Own w' base v' ys) (hb : Below base w w') (hk : ∀ k, k < w.heap.size → some k ≠ v.ownBlock → w'.heap[k]? = w.heap[k]?)
    (hv : v'.ownBlock = v.ownBlock ∨ ∃ g, v'.ownBlock = some g ∧ w.heap.size ≤ g) :
    w'.cell? ⟨p, 0, none⟩ = some v ∧ w'.frozen? ⟨p, 0, none⟩ = false ∧ Acc base p D (w'.setCell ⟨p, 0, none⟩ v') ys ∧ Kept base D w (w'.setCell ⟨p, 0, none⟩ v') := by
  have hpl : p < w.heap.size := block_lt_of_cell hp
  have hpb : w'.heap[p]? = w.heap[p]? := hk p hpl fun e => hvp e.symm
  have c1 : w'.cell? ⟨p, 0, none⟩ = some v := (World.cell?_of_block (w := w) (a := ⟨p, 0, none⟩) hpb).trans hp
  have c2 : w'.frozen? ⟨p, 0, none⟩ = false := (World.frozen?_of_block (w := w) (a := ⟨p, 0, none⟩) hpb).trans hf
  have hvp' : v'.ownBlock ≠ some p := by
    rcases hv with h | ⟨g, h, hg⟩
    · rw [h]; exact hvp
    · rw [h]; intro e; injection e with e; omega
  refine ⟨c1, c2, ⟨v', World.cell?_setCell_same w' _ _ c1, by rw [World.frozen?_setCell]; exact c2, ?_, hbp, hvp', fun d hd => ?_⟩, ⟨hb.setCell (by simpa using hbp) _, fun d hd => ?_⟩⟩
  · obtain ⟨o1, o2⟩ := ho
    refine ⟨o1, ?_⟩
    rcases o2 with o2 | ⟨g, cap, cur, hv', hg, hh, r⟩
    · exact .inl o2
    · have hgp : g ≠ p := by
        rintro rfl
        exact hvp' (by rw [hv']; rfl)
      exact .inr ⟨g, cap, cur, hv', hg, by rw [Below.heap_setCell _ _ _ _ (by simpa using hgp)]; exact hh, r⟩
  · obtain ⟨a, b, c⟩ := hD d hd
    have := hb.size
    refine ⟨a, by simp; omega, ?_⟩
    rcases hv with h | ⟨g, h, hg⟩
    · rw [h]; exact c
    · rw [h]; intro e; injection e with e; omega
  · obtain ⟨a, b, c⟩ := hD d hd
    rw [Below.heap_setCell _ _ _ _ (by simpa using a)]
    exact hk d b fun e => c e.symm
end Go.Proofs.Ytdhdfeiobjmdaaa
