/-
  Layer 13, eval: values in memory: a list of values that is read, one of the call's own. No conditions.
  Layer 13, eval: Like, of any texts that are not too long. Conditions: sizes.
  Layer 13, eval: expressions and what they come to, as mathematics. No conditions.
-/
import Derived.Test.YteijijoiifbjlaaGreatDoorVVal
import Derived.Test.YteijijoiifbjlaaGreatDoorVArgs
import Derived.Deep.AppendLies
import Derived.IntWalk
import Derived.Test.YteijijoiifbjlaaGreatDoorVLikeM
import Derived.Test.YteijijoiifbjlaaGreatDoorVHelp
namespace Go.Proofs.YteijijoiifbjlaaGreatDoor
open Go.ChangeShapes Go.WideShapes Go.ChangeAt Go.RowKit Go.Maps Go.Sort Go.Shelf Go.ChangeMaps Go.Lib
set_option linter.unusedVariables false
set_option linter.unusedSimpArgs false

def cellsT : List Trip → List Value
  | [] => []
  | t :: r => .int .u8 t.1 :: .int .i64 t.2.1 :: .string t.2.2 :: cellsT r
theorem cellsT_append : ∀ a b : List Trip, cellsT (a ++ b) = cellsT a ++ cellsT b
  | [], b => rfl
  | t :: r, b => by simp [cellsT, cellsT_append r b]
theorem cellsT_length : ∀ a : List Trip, (cellsT a).length = a.length * 3
  | [] => rfl
  | t :: r => by simp [cellsT, cellsT_length r]; omega
theorem cellsT_get : ∀ (l : List Trip) (i : Nat) (t : Trip), l[i]? = some t → (cellsT l)[i * 3]? = some (.int .u8 t.1) ∧ (cellsT l)[i * 3 + 1]? = some (.int .i64 t.2.1) ∧ (cellsT l)[i * 3 + 2]? = some (.string t.2.2) := by
  intro l
  induction l with
  | nil => intro i t h; simp at h
  | cons u r ih =>
    intro i t h
    match i, h with
    | 0, h => obtain rfl := Option.some.inj h; exact ⟨rfl, rfl, rfl⟩
    | i + 1, h =>
      obtain ⟨h1, h2, h3⟩ := ih i t h
      rw [show (i + 1) * 3 = i * 3 + 1 + 1 + 1 by omega]
      exact ⟨h1, h2, h3⟩
/-- a slice of values in memory of the call's own -/
def OwnT (w : World) (base : Nat) (v : Value) (vs : List Trip) : Prop := w.ownsRow base 38 3 v vs.length (cellsT vs)
theorem Tryz.info_trip : (Tryz.prog.info? 38).map (fun i => (i.zero, i.size, i.bytes)) = some (some (.agg #[.int .u8 0, .int .i64 0, .string ⟨#[]⟩]), 3, 32) := by kernel_rfl
theorem addT (a : Addr) (n : Nat) : (a.add n).block = a.block := by
  unfold Addr.add
  split <;> rfl
/-- values, cell by cell -/
def SrcT (w : World) (A : Option Addr) (l : List Trip) : Prop := l = [] ∨ ∃ ad, A = some ad ∧ ad.block < w.heap.size ∧ ∀ (j : Nat) (u : Value), (cellsT l)[j]? = some u → w.cell? (ad.add j) = some u
theorem cellsT_one (l : List Trip) : ∀ u ∈ cellsT l, u.oneCell' = true := by
  induction l with
  | nil => intro u hu; cases hu
  | cons t r ih =>
    intro u hu
    simp only [cellsT, List.mem_cons] at hu
    rcases hu with rfl | rfl | rfl | hu
    · rfl
    · rfl
    · rfl
    · exact ih u hu
theorem OwnT.alloc {w : World} {base : Nat} {v : Value} {l : List Trip} (h : OwnT w base v l) (o : Obj) : OwnT (w.alloc o) base v l := World.ownsRow.alloc h o
theorem OwnT.nil (w : World) (base : Nat) : OwnT w base (.slice none 0 0) [] := World.ownsRow_nil w base _ _
theorem OwnT.monoB {w : World} {base base' : Nat} {v : Value} {l : List Trip} (h : OwnT w base v l) (hb : base' ≤ base) : OwnT w base' v l := by
  obtain ⟨h1, h2⟩ := h
  refine ⟨h1, ?_⟩
  rcases h2 with h2 | ⟨g, cap, cur, hv, hg, r⟩
  · exact .inl h2
  · exact .inr ⟨g, cap, cur, hv, Nat.le_trans hb hg, r⟩
theorem OwnT.onB {w w' : World} {base : Nat} {v : Value} {l : List Trip} (h : OwnT w base v l) (hb : Below w.heap.size w w') : OwnT w' base v l := by
  obtain ⟨h1, h2⟩ := h
  refine ⟨h1, ?_⟩
  rcases h2 with h2 | ⟨g, cap, cur, hv, hg, hh, r⟩
  · exact .inl h2
  · have hlt : g < w.heap.size := by
      rcases Nat.lt_or_ge g w.heap.size with hlt | hge
      · exact hlt
      · rw [Array.getElem?_eq_none hge] at hh; cases hh
    exact .inr ⟨g, cap, cur, hv, hg, (hb.block g hlt).trans hh, r⟩
/-- a slice of values is read so -/
def RdT (w : World) (A : Option Addr) (vs : List Trip) : Prop := vs = [] ∨ ∃ b o, A = some ⟨b, o, none⟩ ∧ RdV w b o vs
theorem RdT.on {w w' : World} {A : Option Addr} {vs : List Trip} (h : RdT w A vs) (hb : Below w.heap.size w w') : RdT w' A vs := by
  rcases h with h | ⟨b, o, h1, h2⟩
  · exact .inl h
  · exact .inr ⟨b, o, h1, h2.on hb⟩
/-- what it is: nil, or a slice of a block, that is read -/
theorem OwnT.form {w : World} {base : Nat} {v : Value} {l : List Trip} (h : OwnT w base v l) : ∃ A c, v = .slice A l.length c ∧ l.length ≤ c ∧ c ≤ maxLen ∧ RdT w A l := by
  obtain ⟨h1, h2⟩ := h
  rcases h2 with ⟨rfl, h0⟩ | ⟨g, cap, cur, rfl, hg, hh, hc, hm, hs, ht⟩
  · have : l = [] := List.eq_nil_of_length_eq_zero h0
    subst this
    exact ⟨none, 0, rfl, Nat.le_refl _, Nat.zero_le _, .inl rfl⟩
  · have hlt : g < w.heap.size := by
      rcases Nat.lt_or_ge g w.heap.size with hlt | hge
      · exact hlt
      · rw [Array.getElem?_eq_none hge] at hh; cases hh
    have hx : ∀ (j : Nat) (u : Value), (cellsT l)[j]? = some u → w.cell? ⟨g, j, none⟩ = some u := fun j u hu => by
      have hx : cur.toList[j]? = some u := by
        have hj : j < l.length * 3 := by
          rcases Nat.lt_or_ge j (l.length * 3) with hlt | hge
          · exact hlt
          · rw [List.getElem?_eq_none (by rw [cellsT_length]; exact hge)] at hu; cases hu
        rw [← ht] at hu
        rwa [List.getElem?_take, if_pos hj] at hu
      simp only [World.cell?, hh]
      simpa using hx
    refine ⟨_, cap, rfl, hc, hm, .inr ⟨g, 0, rfl, hlt, fun j k n s hj => ?_⟩⟩
    obtain ⟨g1, g2, g3⟩ := cellsT_get l j _ hj
    rw [Nat.zero_add]
    exact ⟨hx _ _ g1, hx _ _ g2, hx _ _ g3⟩
section
variable {ops : Array Oper} {rest : List Oper} {o : Oper} {a : Act} {Q : Exit → Act → World → Prop}
/-- append onto a slice of the call's own, as an operation of its own -/
theorem wpList_appT {W : World} (hgd : o.guard = none) (s x : Operand)
    (hop : o.op = .call { callee := .builtin .append, args := #[s, x], argTypes := #[27, 27] })
    (base : Nat) (v : Value) (l l5 : List Trip) (hs : a.eval s = v) (ho : OwnT W base v l) (ad : Addr) (c5 : Nat) (hx : a.eval x = .slice (some ad) l5.length c5)
    (h5 : SrcT W (some ad) l5) (hlen : l.length + l5.length ≤ 100000) (hbase : base ≤ W.heap.size)
    (h : ∀ v' w', Hid (OwnT w' base v' (l ++ l5)) → Hid (Below base W w') → Hid (∀ b, b < W.heap.size → v.ownBlock ≠ some b → w'.heap[b]? = W.heap[b]?) → wpList Tryz.prog ops Q rest (a.put o.dst v') w') : wpList Tryz.prog ops Q (o :: rest) a W := by
  obtain ⟨i0, hi, hz0, hz1, hz2⟩ := info_parts Tryz.info_trip
  have hcells : ∀ (j : Nat) (u : Value), (cellsT l5)[j]? = some u → W.cell? (ad.add j) = some u := by
    rcases h5 with rfl | ⟨ad', h, _, hc⟩
    · intro j u hu
      simp [cellsT] at hu
    · obtain rfl := Option.some.inj h
      exact hc
  refine wpList_append_own _ hgd s x 27 hop base 38 i0 (.agg #[.int .u8 0, .int .i64 0, .string ⟨#[]⟩]) 3 32 Tryz.underlying27 hi hz0 hz1 hz2 rfl (by decide) v l.length (cellsT l) hs ho ad l5.length c5 (cellsT l5) hx (cellsT_length l5)
    hcells (cellsT_one l5) (by simp only [maxLen]; omega) (by omega) hbase ?_
  intro v' w' h1 h2 _
  refine h v' w' (Lib.hid ?_) (Lib.hid ((Below.refl base W).grown h2 hbase fun k hk => (World.ownsRow.lt ho k hk).1)) (Lib.hid fun b hb hne => h2.block b hb fun e => hne e.symm)
  unfold OwnT
  rw [List.length_append, cellsT_append]
  exact h1
end
theorem own_ne {w : World} {base b : Nat} {v : Value} {l : List Trip} (h : OwnT w base v l) (hb : w.heap.size ≤ b) : v.ownBlock ≠ some b := fun e => by
  have := (World.ownsRow.lt h _ e).2
  omega
theorem own_lt {w : World} {base b : Nat} {v : Value} {l : List Trip} (h : OwnT w base v l) (hb : b < base) : v.ownBlock ≠ some b := fun e => by
  have := (World.ownsRow.lt h _ e).1
  omega
/-- a new block of one value -/
theorem SrcT.one (W : World) (t : Trip) : SrcT (W.alloc (.cells #[.int .u8 t.1, .int .i64 t.2.1, .string t.2.2] 38)) (some ⟨W.heap.size, 0, none⟩) [t] := by
  refine .inr ⟨_, rfl, by simp, fun j u h => ?_⟩
  match j, h with
  | 0, h => obtain rfl := Option.some.inj h; simp [go_sem]
  | 1, h => obtain rfl := Option.some.inj h; simp [go_sem]
  | 2, h => obtain rfl := Option.some.inj h; simp [go_sem]
  | j + 3, h => simp [cellsT] at h
end Go.Proofs.YteijijoiifbjlaaGreatDoor

namespace Go.Proofs.YteijijoiifbjlaaGreatDoor
open Go.ChangeShapes Go.WideShapes Go.ChangeAt Go.RowKit
set_option linter.unusedVariables false
set_option linter.unusedSimpArgs false

/-- Like tells what the document says, by whichever Bool is just as true -/
theorem Like_is (s p : ByteArray) (b : Bool) (w : World) (hs : s.size ≤ 1000000) (hp : p.size ≤ 1000000) (h : b = true ↔ LikeP p.data.toList s.data.toList) :
    Calls Tryz.prog 127 #[.string s, .string p] w fun e w' => e = .returned (.bool b) ∧ Below w.heap.size w w' := by
  obtain ⟨n, R, h1, h2⟩ := like_ex s p
  obtain rfl : R = b := by rw [Bool.eq_iff_iff, h2, h]
  exact Like_any s p R n w (by omega) (by omega) h1
noncomputable def likeT (s p : ByteArray) : Bool := @decide (LikeP p.data.toList s.data.toList) (Classical.propDecidable _)
theorem likeT_iff (s p : ByteArray) : likeT s p = true ↔ LikeP p.data.toList s.data.toList := by
  unfold likeT
  exact @decide_eq_true_iff _ (Classical.propDecidable _)
theorem Like_b (s p : ByteArray) (w : World) (hs : s.size ≤ 1000000) (hp : p.size ≤ 1000000) :
    Calls Tryz.prog 127 #[.string s, .string p] w fun e w' => e = .returned (.bool (likeT s p)) ∧ Below w.heap.size w w' := Like_is s p _ w hs hp (likeT_iff s p)
end Go.Proofs.YteijijoiifbjlaaGreatDoor

namespace Go.Proofs.YteijijoiifbjlaaGreatDoor
open Go.ChangeShapes Go.WideShapes Go.ChangeAt Go.RowKit
set_option linter.unusedVariables false
set_option linter.unusedSimpArgs false

/-- an expression: its kind, texts, numbers, kids -/
inductive Ee where
  | mk (k : Int) (s t : ByteArray) (n a : Int) (kids : List Ee)
abbrev Rv := Trip × Int
abbrev nulT : Trip := (0, 0, ⟨#[]⟩)
abbrev intT (n : Int) : Trip := (1, n, ⟨#[]⟩)
abbrev flagT (b : Bool) : Trip := (1, if b then 1 else 0, ⟨#[]⟩)
abbrev vT (t : Trip) : Value := vv t.1 t.2.1 t.2.2
abbrev RtT (t : Trip) : Prop := Rt t.1 t.2.1 t.2.2
abbrev intOfT (t : Trip) : Int := intV t.1 t.2.1 t.2.2
abbrev textT (t : Trip) : ByteArray := textV t.1 t.2.1 t.2.2
abbrev cmpT (a b : Trip) : Int := cmpV a.1 a.2.1 a.2.2 b.1 b.2.1 b.2.2
abbrev trueT (a : Trip) : Bool := trueV a.1 a.2.1 a.2.2

abbrev sAdd : ByteArray := ⟨#[43]⟩
abbrev sSub : ByteArray := ⟨#[45]⟩
abbrev sMul : ByteArray := ⟨#[42]⟩
abbrev sQuo : ByteArray := ⟨#[47]⟩
abbrev sRem : ByteArray := ⟨#[37]⟩
abbrev sCat : ByteArray := ⟨#[124, 124]⟩
abbrev sEq : ByteArray := ⟨#[61]⟩
abbrev sNe : ByteArray := ⟨#[60, 62]⟩
abbrev sLt : ByteArray := ⟨#[60]⟩
abbrev sLe : ByteArray := ⟨#[60, 61]⟩
abbrev sGt : ByteArray := ⟨#[62]⟩
abbrev sGe : ByteArray := ⟨#[62, 61]⟩
abbrev sLike : ByteArray := ⟨#[108, 105, 107, 101]⟩
abbrev sAnd : ByteArray := ⟨#[97, 110, 100]⟩
abbrev sOr : ByteArray := ⟨#[111, 114]⟩
abbrev sNot : ByteArray := ⟨#[110, 111, 116]⟩
abbrev sInt : ByteArray := ⟨#[105, 110, 116]⟩
abbrev sText : ByteArray := ⟨#[116, 101, 120, 116]⟩

open Classical in
/-- a sign between two that are not NULL; the thirteen signs that need both -/
noncomputable def twoX (g : ByteArray) (a b : Trip) : Rv :=
  if g = sAdd then (if In64 (intOfT a + intOfT b) then (intT (intOfT a + intOfT b), 0) else (nulT, 20))
  else if g = sSub then (if In64 (intOfT a - intOfT b) then (intT (intOfT a - intOfT b), 0) else (nulT, 20))
  else if g = sMul then (if In64 (intOfT a * intOfT b) then (intT (intOfT a * intOfT b), 0) else (nulT, 20))
  else if g = sQuo then (if intOfT b = 0 then (nulT, 0) else if intOfT a = -9223372036854775808 ∧ intOfT b = -1 then (nulT, 20) else (intT ((intOfT a).tdiv (intOfT b)), 0))
  else if g = sRem then (if intOfT b = 0 then (nulT, 0) else (intT ((intOfT a).tmod (intOfT b)), 0))
  else if g = sCat then (if (textT a).size + (textT b).size ≤ 65536 then ((2, 0, textT a ++ textT b), 0) else (nulT, 3))
  else if g = sEq then (flagT (cmpT a b == 0), 0)
  else if g = sNe then (flagT (cmpT a b != 0), 0)
  else if g = sLt then (flagT (decide (cmpT a b < 0)), 0)
  else if g = sLe then (flagT (decide (cmpT a b ≤ 0)), 0)
  else if g = sGt then (flagT (decide (0 < cmpT a b)), 0)
  else if g = sGe then (flagT (decide (0 ≤ cmpT a b)), 0)
  else (if (textT b).size ≤ 1000 then (flagT (likeT (textT a) (textT b)), 0) else (nulT, 3))
def sgn : List ByteArray := [sAdd, sSub, sMul, sQuo, sRem, sCat, sEq, sNe, sLt, sLe, sGt, sGe, sLike]
abbrev andT (a b : Trip) : Trip := (andK (trueT a) (a.1 != 0) (trueT b) (b.1 != 0), andN (trueT a) (a.1 != 0) (trueT b) (b.1 != 0), ⟨#[]⟩)
abbrev orT (a b : Trip) : Trip := (orK (trueT a) (a.1 != 0) (trueT b) (b.1 != 0), orN (trueT a) (a.1 != 0) (trueT b) (b.1 != 0), ⟨#[]⟩)
open Classical in
noncomputable def opX (g : ByteArray) (a b : Trip) : Rv :=
  if ¬ (RtT a ∧ RtT b) then (nulT, 2)
  else if g = sAnd then (andT a b, 0)
  else if g = sOr then (orT a b, 0)
  else if g ∈ sgn then (if a.1 = 0 ∨ b.1 = 0 then (nulT, 0) else twoX g a b)
  else (nulT, 2)
open Classical in
noncomputable def oneX (g : ByteArray) (a : Trip) : Rv :=
  if ¬ RtT a then (nulT, 2)
  else if g = sNot then (if a.1 = 0 then (nulT, 0) else (flagT (!trueT a), 0))
  else if g = sSub then (if a.1 = 0 then (nulT, 0) else if In64 (0 - intOfT a) then (intT (0 - intOfT a), 0) else (nulT, 20))
  else (nulT, 2)
open Classical in
noncomputable def castX (g : ByteArray) (a : Trip) : Rv :=
  if ¬ RtT a then (nulT, 2)
  else if g = sInt then (if a.1 = 0 then (nulT, 0) else (intT (intOfT a), 0))
  else if g = sText then (if a.1 = 0 then (nulT, 0) else ((2, 0, textT a), 0))
  else (nulT, 2)

/-- sizes that values have -/
def OkT (t : Trip) : Prop := In64 t.2.1 ∧ t.2.2.size ≤ 65536
theorem okT_nul : OkT nulT := ⟨by decide, by show 0 ≤ _; omega⟩
/-- a call of a function by its name comes to that -/
def CallIs (g : ByteArray) (ts : List Trip) (r : Rv) : Prop :=
  ∀ (w : World) (A : Option Addr) (c : Nat), Wd w → RdT w A ts → ts.length ≤ c → Calls Tryz.prog 59 #[.string g, .slice A ts.length c] w (RetV (vT r.1) r.2 w)
open Classical in
/-- what it comes to, whatever that is -/
noncomputable def callX (g : ByteArray) (ts : List Trip) : Rv := if h : ∃ r, CallIs g ts r ∧ OkT r.1 then Classical.choose h else (nulT, 0)
theorem callX_is {g : ByteArray} {ts : List Trip} (h : ∃ r, CallIs g ts r ∧ OkT r.1) : CallIs g ts (callX g ts) := by
  unfold callX
  rw [dif_pos h]
  exact (Classical.choose_spec h).1
theorem callX_ok (g : ByteArray) (ts : List Trip) : OkT (callX g ts).1 := by
  unfold callX
  split
  · rename_i h
    exact (Classical.choose_spec h).2
  · exact okT_nul

/-- what expressions are computed of -/
structure EnvM where
  rows : List (List Trip)
  keys : List Trip
  totals : List Trip
  binds : List Trip
def atT (l : List Trip) (n : Int) : Trip := if n < 0 then nulT else l.getD n.toNat nulT
def atR (l : List (List Trip)) (n : Int) : List Trip := if n < 0 then [] else l.getD n.toNat []
/-- is it an expression, whatever its kids are? -/
def mayB (k : Int) (s : ByteArray) (n : Int) (l : Nat) : Bool :=
  if k = 1 ∨ k = 2 ∨ k = 5 ∨ k = 15 ∨ k = 14 ∨ k = 13 ∨ k = 10 then true
  else if k = 3 ∨ k = 4 then decide (s.size ≤ 65536)
  else if k = 7 then decide (l = 1) || decide (l = 2)
  else if k = 8 then decide (l = 1) && (decide (n = 0) || decide (n = 1))
  else if k = 9 then decide (2 ≤ l) && (decide (n = 0) || decide (n = 1))
  else if k = 11 then decide (l = 1)
  else false
/-- is the first one among the others? -/
noncomputable def amL (a : Trip) : Trip → List Trip → Rv
  | told, [] => (told, 0)
  | told, t :: r => if (opX sEq a t).2 = 0 then amL a (opX sOr told (opX sEq a t).1).1 r else (nulT, (opX sEq a t).2)
noncomputable def amX (n : Int) (ts : List Trip) : Rv :=
  let q := amL (ts.getD 0 nulT) (flagT false) ts.tail
  if q.2 = 0 then (if n = 1 then oneX sNot q.1 else q) else q
/-- what a kind comes to, of its kids' values -/
noncomputable def toldX (x : EnvM) (k : Int) (s : ByteArray) (n a : Int) (ts : List Trip) : Rv :=
  if k = 1 then (nulT, 0)
  else if k = 2 then (intT n, 0)
  else if k = 3 then ((2, 0, s), 0)
  else if k = 4 then ((3, 0, s), 0)
  else if k = 5 then (atT x.binds n, 0)
  else if k = 15 then (atT x.keys n, 0)
  else if k = 14 then (atT x.totals n, 0)
  else if k = 13 then (atT (atR x.rows a) n, 0)
  else if k = 7 then (if ts.length = 1 then oneX s (ts.getD 0 nulT) else opX s (ts.getD 0 nulT) (ts.getD 1 nulT))
  else if k = 8 then (flagT (decide ((ts.getD 0 nulT).1 = 0) == decide (n = 1)), 0)
  else if k = 9 then amX n ts
  else if k = 10 then callX s ts
  else castX s (ts.getD 0 nulT)
mutual
/-- the value of an expression -/
noncomputable def evX (x : EnvM) : Ee → Rv
  | .mk k s t n a kids => if mayB k s n kids.length = true then (if (evL x kids).2 = 0 then toldX x k s n a (evL x kids).1 else (nulT, (evL x kids).2)) else (nulT, 130)
/-- of kids, from left to right, up to the first error -/
noncomputable def evL (x : EnvM) : List Ee → List Trip × Int
  | [] => ([], 0)
  | e :: r => if (evX x e).2 = 0 then ((evX x e).1 :: (evL x r).1, (evL x r).2) else ([], (evX x e).2)
end
theorem evL_len (x : EnvM) : ∀ l : List Ee, (evL x l).2 = 0 → (evL x l).1.length = l.length
  | [], _ => by simp [evL]
  | e :: r, h => by
    simp only [evL] at h ⊢
    by_cases h0 : (evX x e).2 = 0
    · rw [if_pos h0] at h ⊢
      simp only at h ⊢
      simp [evL_len x r h]
    · rw [if_neg h0] at h
      exact absurd h h0
/-- the kids up to a place have these values, and one more -/
theorem evL_at (x : EnvM) : ∀ (l : List Ee) (i : Nat) (e : Ee), l[i]? = some e → (evL x (l.take i)).2 = 0 → evL x (l.take (i + 1)) = (if (evX x e).2 = 0 then ((evL x (l.take i)).1 ++ [(evX x e).1], 0) else ((evL x (l.take i)).1, (evX x e).2))
  | [], i, e, h, _ => by simp at h
  | u :: r, 0, e, h, _ => by
    obtain rfl := Option.some.inj h
    simp only [List.take_zero, List.take_succ_cons, evL]
    split <;> simp
  | u :: r, i + 1, e, h, h0 => by
    simp only [List.take_succ_cons, evL] at h0 ⊢
    by_cases h1 : (evX x u).2 = 0
    · rw [if_pos h1] at h0 ⊢
      have := evL_at x r i e (by simpa using h) h0
      rw [this]
      split <;> simp [h1]
    · rw [if_neg h1] at h0
      exact absurd h0 h1
theorem evL_stop (x : EnvM) : ∀ (l : List Ee) (i : Nat), (evL x (l.take i)).2 ≠ 0 → (evL x l).2 = (evL x (l.take i)).2
  | [], i, h => by simp [evL] at h
  | u :: r, 0, h => by simp [evL] at h
  | u :: r, i + 1, h => by
    simp only [List.take_succ_cons, evL] at h ⊢
    by_cases h1 : (evX x u).2 = 0
    · rw [if_pos h1] at h ⊢
      rw [if_pos h1]
      exact evL_stop x r i h
    · rw [if_neg h1, if_neg h1]
end Go.Proofs.YteijijoiifbjlaaGreatDoor
