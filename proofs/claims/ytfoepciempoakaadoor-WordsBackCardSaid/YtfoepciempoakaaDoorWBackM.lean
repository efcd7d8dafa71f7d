/-
  Layer 9: tokens told one behind the other: mathematics; words in a slice of the call's own. Conditions: sizes.
-/
import Derived.Test.YtfoepciempoakaaDoorWLoc
namespace Go.Proofs.YtfoepciempoakaaDoor
open Go.ChangeShapes Go.WideShapes Go.ChangeAt Go.RowKit
set_option linter.unusedVariables false

/-- a token as it was met: its bytes, what it is, and where it stands -/
abbrev Rec := List UInt8 × M.Tk × Nat
/-- told by itself, with a blank and whatever behind it, it is the same -/
def RecOk (r : Rec) : Prop := r.2.1.1 ≠ 0 ∧ r.2.1.1 ≠ 7 ∧ 0 < r.1.length ∧ r.2.1.2.2.2 = r.1.length ∧ ∀ t, M.pass (r.1 ++ 32 :: t) false = 0 ∧ M.tok keysW (r.1 ++ 32 :: t) = r.2.1
def joinR (rs : List Rec) : List UInt8 := rs.flatMap fun r => r.1 ++ M.sepL
theorem joinR_snoc (rs : List Rec) (r : Rec) : joinR (rs ++ [r]) = joinR rs ++ (r.1 ++ M.sepL) := by simp [joinR]
theorem rec_of {l : List UInt8} {at_ : Nat} {k : Nat} {S : List UInt8} {N : Int} {n p : Nat} (h : NxOf l at_ = ((k, S, N, n), p)) (h0 : k ≠ 0) (h7 : k ≠ 7) : RecOk ((l.drop p).take n, (k, S, N, n), p) := by
  have h1 : at_ + M.pass (l.drop at_) false = p := congrArg Prod.snd h
  have h2 : M.tok keysW (l.drop (at_ + M.pass (l.drop at_) false)) = (k, S, N, n) := congrArg Prod.fst h
  rw [h1] at h2
  have hd : M.pass (l.drop p) false = 0 := by
    rw [← h1, ← List.drop_drop]
    exact M.pass_done _ _
  obtain ⟨a1, a2, _⟩ := M.tok_again keysW _ k S N n [] h2 h0 h7
  refine ⟨h0, h7, by rw [List.length_take]; omega, by show n = _; rw [List.length_take]; omega, fun t => ⟨M.pass_again t hd a1 a2, (M.tok_again keysW _ k S N n t h2 h0 h7).2.2⟩⟩
theorem joinR_drop (rs : List Rec) (i : Nat) : (joinR rs).drop (joinR (rs.take i)).length = joinR (rs.drop i) := by
  conv => lhs; rw [← List.take_append_drop i rs]
  unfold joinR
  rw [List.flatMap_append, List.take_append_drop]
  exact List.drop_left
/-- where the telling stands ahead of token i -/
def atI (rs : List Rec) (i : Nat) : Nat := (joinR (rs.take i)).length - 9
theorem joinR_take {rs : List Rec} {i : Nat} {r : Rec} (h : rs[i]? = some r) : joinR (rs.take (i + 1)) = joinR (rs.take i) ++ (r.1 ++ M.sepL) := by
  rw [List.take_add_one, h, Option.toList_some, joinR_snoc]
theorem sep9 : M.sepL.length = 9 := rfl
theorem atI_drop (rs : List Rec) (i : Nat) (hi : i ≤ rs.length) : (i = 0 ∧ (joinR rs).drop (atI rs i) = joinR rs) ∨ (9 ≤ (joinR (rs.take i)).length ∧ (joinR rs).drop (atI rs i) = M.sepL ++ joinR (rs.drop i)) := by
  cases i with
  | zero => exact .inl ⟨rfl, by simp [atI, joinR]⟩
  | succ i =>
    have hlt : i < rs.length := by omega
    have hg := joinR_take (List.getElem?_eq_getElem hlt)
    have hl : (joinR (rs.take (i + 1))).length = (joinR (rs.take i)).length + rs[i].1.length + 9 := by
      rw [hg, List.length_append, List.length_append, sep9]
      omega
    refine .inr ⟨by omega, ?_⟩
    have e : joinR rs = (joinR (rs.take i) ++ rs[i].1) ++ (M.sepL ++ joinR (rs.drop (i + 1))) := by
      conv => lhs; rw [← List.take_append_drop (i + 1) rs]
      have h2 : joinR (rs.take (i + 1) ++ rs.drop (i + 1)) = joinR (rs.take (i + 1)) ++ joinR (rs.drop (i + 1)) := by
        unfold joinR
        rw [List.flatMap_append]
      rw [h2, hg]
      simp
    have h3 : atI rs (i + 1) = (joinR (rs.take i) ++ rs[i].1).length := by
      unfold atI
      rw [hl, List.length_append]
      omega
    rw [h3, e]
    exact List.drop_left
/-- each token is told again, one behind the other -/
theorem back_next {rs : List Rec} (hok : ∀ r ∈ rs, RecOk r) {i : Nat} {r : Rec} (h : rs[i]? = some r) : ∃ p, NxOf (joinR rs) (atI rs i) = (r.2.1, p) ∧ p + r.2.1.2.2.2 = atI rs (i + 1) := by
  have hi : i < rs.length := (List.getElem?_eq_some_iff.1 h).1
  obtain ⟨_, _, _, hn, ht⟩ := hok r (List.mem_of_getElem? h)
  have hd : joinR (rs.drop i) = r.1 ++ 32 :: (M.sepL.drop 1 ++ joinR (rs.drop (i + 1))) := by
    have h2 : rs.drop i = r :: rs.drop (i + 1) := by
      rw [List.drop_eq_getElem_cons hi]
      congr 1
      rw [List.getElem?_eq_getElem hi] at h
      exact Option.some.inj h
    rw [h2]
    simp [joinR, M.sepL]
  have hz : atI rs (i + 1) = (joinR (rs.take i)).length + r.1.length := by
    unfold atI
    rw [joinR_take h, List.length_append, List.length_append, sep9]
    omega
  rcases atI_drop rs i (Nat.le_of_lt hi) with ⟨rfl, h1⟩ | ⟨h9, h1⟩
  · refine ⟨0, ?_, by rw [hn, hz]; simp [joinR]⟩
    unfold NxOf
    rw [h1]
    rw [List.drop_zero] at hd
    have h0 : atI rs 0 = 0 := by simp [atI, joinR]
    rw [h0, hd, (ht _).1, Nat.zero_add, List.drop_zero, (ht _).2]
  · have hp : M.pass ((joinR rs).drop (atI rs i)) false = 9 := by rw [h1, M.pass_sep, hd, (ht _).1]
    refine ⟨(joinR (rs.take i)).length, ?_, by rw [hn, hz]⟩
    have ha : atI rs i + 9 = (joinR (rs.take i)).length := by unfold atI; omega
    unfold NxOf
    rw [hp, ha, joinR_drop, hd, (ht _).2]
theorem back_end (rs : List Rec) : ∃ p, NxOf (joinR rs) (atI rs rs.length) = ((7, [], 0, 0), p) := by
  rcases atI_drop rs rs.length (Nat.le_refl _) with ⟨h0, h1⟩ | ⟨h9, h1⟩
  · obtain rfl : rs = [] := List.eq_nil_of_length_eq_zero h0
    exact ⟨0, by decide +kernel⟩
  · have hp : M.pass ((joinR rs).drop (atI rs rs.length)) false = 9 := by
      rw [h1, M.pass_sep, List.drop_length]
      rfl
    refine ⟨atI rs rs.length + 9, ?_⟩
    unfold NxOf
    rw [hp]
    have h2 : (joinR rs).drop (atI rs rs.length + 9) = [] := by
      rw [← List.drop_drop, h1, List.drop_length]
      rfl
    rw [h2]
    rfl
theorem atI_le (rs : List Rec) (i : Nat) : atI rs i ≤ (joinR rs).length := by
  have h : (joinR (rs.take i)).length ≤ (joinR rs).length := by
    conv => rhs; rw [← List.take_append_drop i rs]
    unfold joinR
    rw [List.flatMap_append, List.length_append]
    omega
  unfold atI
  omega
/-- words, as cells -/
def cellsW : List Rec → List Value
  | [] => []
  | r :: t => .int .u8 (r.2.1.1 : Int) :: .string ⟨r.2.1.2.1.toArray⟩ :: .int .i64 r.2.1.2.2.1 :: .int .i64 (r.2.2 : Int) :: .int .i64 ((r.2.2 + r.2.1.2.2.2 : Nat) : Int) :: cellsW t
theorem cellsW_length : ∀ rs : List Rec, (cellsW rs).length = rs.length * 5
  | [] => rfl
  | r :: t => by simp [cellsW, cellsW_length t]; omega
theorem cellsW_append : ∀ a b : List Rec, cellsW (a ++ b) = cellsW a ++ cellsW b
  | [], b => rfl
  | r :: t, b => by simp [cellsW, cellsW_append t b]
theorem cellsW_get : ∀ (rs : List Rec) (i : Nat) (r : Rec), rs[i]? = some r → (cellsW rs)[i * 5]? = some (.int .u8 (r.2.1.1 : Int)) ∧ (cellsW rs)[i * 5 + 1]? = some (.string ⟨r.2.1.2.1.toArray⟩) ∧ (cellsW rs)[i * 5 + 2]? = some (.int .i64 r.2.1.2.2.1)
  | [], i, r, h => by simp at h
  | x :: t, 0, r, h => by
    obtain rfl : x = r := by simpa using h
    simp [cellsW]
  | x :: t, i + 1, r, h => by
    have := cellsW_get t i r (by simpa using h)
    rw [show (i + 1) * 5 = i * 5 + 1 + 1 + 1 + 1 + 1 by omega]
    simpa [cellsW] using this
def OwnW (w : World) (base : Nat) (v : Value) (rs : List Rec) : Prop := w.ownsRow base 24 5 v rs.length (cellsW rs)
theorem OwnW.onB {w w' : World} {base : Nat} {v : Value} {l : List Rec} (h : OwnW w base v l) (hb : Below w.heap.size w w') : OwnW w' base v l := by
  obtain ⟨h1, h2⟩ := h
  refine ⟨h1, ?_⟩
  rcases h2 with h2 | ⟨g, cap, cur, hv, hg, hh, r⟩
  · exact .inl h2
  · have hlt : g < w.heap.size := by
      rcases Nat.lt_or_ge g w.heap.size with hlt | hge
      · exact hlt
      · rw [Array.getElem?_eq_none hge] at hh; cases hh
    exact .inr ⟨g, cap, cur, hv, hg, (hb.block g hlt).trans hh, r⟩
theorem OwnW.read {w : World} {base : Nat} {v : Value} {l : List Rec} (h : OwnW w base v l) (hp : 0 < l.length) : ∃ g c, v = .slice (some ⟨g, 0, none⟩) l.length c ∧ l.length ≤ c ∧ c ≤ maxLen ∧ g < w.heap.size ∧ ∀ j u, (cellsW l)[j]? = some u → w.cell? ⟨g, j, none⟩ = some u := by
  obtain ⟨h1, h2⟩ := h
  rcases h2 with ⟨_, h0⟩ | ⟨g, cap, cur, rfl, hg, hh, hc, hm, hs, ht⟩
  · omega
  · have hlt : g < w.heap.size := by
      rcases Nat.lt_or_ge g w.heap.size with hlt | hge
      · exact hlt
      · rw [Array.getElem?_eq_none hge] at hh; cases hh
    refine ⟨g, cap, rfl, hc, hm, hlt, fun j u hu => ?_⟩
    have hx : cur.toList[j]? = some u := by
      have hj : j < l.length * 5 := by
        rcases Nat.lt_or_ge j (l.length * 5) with hlt | hge
        · exact hlt
        · rw [List.getElem?_eq_none (by rw [cellsW_length]; exact hge)] at hu; cases hu
      rw [← ht] at hu
      rwa [List.getElem?_take, if_pos hj] at hu
    simp only [World.cell?, hh]
    simpa using hx
theorem OwnW.form {w : World} {base : Nat} {v : Value} {l : List Rec} (h : OwnW w base v l) : ∃ A c, v = .slice A l.length c := by
  obtain ⟨h1, h2⟩ := h
  rcases h2 with ⟨rfl, h0⟩ | ⟨g, cap, cur, rfl, _⟩
  · exact ⟨none, 0, by rw [h0]⟩
  · exact ⟨_, _, rfl⟩
theorem Tryd.info_word : (Tryd.prog.info? 24).map (fun i => (i.zero, i.size, i.bytes)) = some (some (.agg #[.int .u8 0, .string ⟨#[]⟩, .int .i64 0, .int .i64 0, .int .i64 0]), 5, 48) := by kernel_rfl
theorem cellsW_one (rs : List Rec) : ∀ u ∈ cellsW rs, u.oneCell' = true := by
  induction rs with
  | nil => intro u hu; cases hu
  | cons t r ih =>
    intro u hu
    simp only [cellsW, List.mem_cons] at hu
    rcases hu with rfl | rfl | rfl | rfl | rfl | hu
    · rfl
    · rfl
    · rfl
    · rfl
    · rfl
    · exact ih u hu
set_option maxRecDepth 100000 in
/-- one word more -/
theorem wpList_appW {W : World} {ops : Array Oper} {rest : List Oper} {o : Oper} {a : Act} {Q : Exit → Act → World → Prop} (hgd : o.guard = none) (s x : Operand)
    (ho : o.op = .call { callee := .builtin .append, args := #[s, x], argTypes := #[33, 33] })
    (base : Nat) (v : Value) (rs : List Rec) (hs : a.eval s = v) (hown : OwnW W base v rs) (r : Rec) (cs : Array Value) (hcs : cs = (cellsW [r]).toArray) (hx : a.eval x = .slice (some ⟨W.heap.size, 0, none⟩) 1 1)
    (hlen : rs.length ≤ 100000) (hbase : base ≤ W.heap.size)
    (h : ∀ v' w', Hid (OwnW w' base v' (rs ++ [r])) → Hid (Below base W w') → Hid (∀ b, b < W.heap.size → v.ownBlock ≠ some b → w'.heap[b]? = W.heap[b]?) → wpList Tryd.prog ops Q rest (a.put o.dst v') w') : wpList Tryd.prog ops Q (o :: rest) a (W.alloc (.cells cs 24)) := by
  subst hcs
  obtain ⟨i0, hi, hz0, hz1, hz2⟩ := info_parts Tryd.info_word
  refine wpList_append_own _ hgd s x 33 ho base 24 i0 (.agg #[.int .u8 0, .string ⟨#[]⟩, .int .i64 0, .int .i64 0, .int .i64 0]) 5 48 Tryd.underlying33 hi hz0 hz1 hz2 rfl (by decide) v rs.length (cellsW rs) hs (World.ownsRow.alloc hown _) ⟨W.heap.size, 0, none⟩ 1 1 (cellsW [r]) hx (cellsW_length [r])
    ?_ (cellsW_one [r]) (by simp only [maxLen]; omega) (by omega) (by simp; omega) ?_
  · intro j u hj
    have ha : ((⟨W.heap.size, 0, none⟩ : Addr).add j) = ⟨W.heap.size, j, none⟩ := by
      unfold Addr.add
      by_cases hj0 : j = 0 <;> simp [hj0]
    rw [ha]
    simp only [World.cell?, heap_alloc_new]
    simpa using hj
  · intro v' w' h1 h2 _
    refine h v' w' (Lib.hid ?_) (Lib.hid ((((Below.refl base W).alloc hbase _).grown h2 (by simp; omega) fun k hk => (World.ownsRow.lt hown k hk).1))) (Lib.hid fun b hb hne => ?_)
    rotate_left
    · rw [h2.block b (by simp; omega) (fun e => hne e.symm), Lib.alloc_old W _ b hb]
    unfold OwnW
    rw [List.length_append, cellsW_append]
    exact h1
/-- what the first loop knows -/
def BackRel (l : List UInt8) (w : World) (v7 v8 v9 v10 : Value) (wr : World) : Prop :=
  ∃ (rs : List Rec) (at_ : Nat), at_ ≤ l.length ∧ v9 = .int .i64 (at_ : Int) ∧ v10 = .int .i64 (rs.length : Int) ∧ v8 = .string ⟨(joinR rs).toArray⟩ ∧ OwnW wr w.heap.size v7 rs ∧ (∀ r ∈ rs, RecOk r) ∧ (joinR rs).length ≤ at_ * 10 ∧ rs.length ≤ at_ ∧ Below w.heap.size w wr
/-- and the second one -/
def AgainRel (rs : List Rec) (w : World) (v7 v9 t : Value) (wr : World) : Prop :=
  ∃ i : Nat, i ≤ rs.length ∧ t = .int .i64 (i : Int) ∧ v9 = .int .i64 (atI rs i : Int) ∧ OwnW wr w.heap.size v7 rs ∧ Below w.heap.size w wr
end Go.Proofs.YtfoepciempoakaaDoor
