/-
  Layer 13, eval: of which sources an expression tells, as mathematics: the value hangs on their rows alone. No conditions.
  Layer 13, eval: Sources of any expression: of each source that it tells of, and of no other. Conditions: sizes.
-/
import Derived.Test.YteijijoiifbjlaaGreatDoorEMath
import Derived.Test.YteijijoiifbjlaaGreatDoorEOpX
import Derived.Test.YteijijoiifbjlaaGreatDoorEShelf
import Derived.Test.YteijijoiifbjlaaGreatDoorESaf
import Derived.Test.YteijijoiifbjlaaGreatDoorEAwk
import Derived.OwnWalkIn
import Derived.TacticsInMore
import Derived.LoopNIn
import Derived.LoopIn
import Derived.Maps.OwnSet
namespace Go.Proofs.YteijijoiifbjlaaGreatDoor
open Go.ChangeShapes Go.WideShapes Go.ChangeAt Go.RowKit
set_option linter.unusedVariables false
set_option linter.unusedSimpArgs false
set_option maxRecDepth 100000

mutual
/-- the sources that an expression tells of -/
def srcX : Ee → List Int
  | .mk k s t n a kids => (if k = 13 then [a] else []) ++ srcL kids
def srcL : List Ee → List Int
  | [] => []
  | e :: r => srcX e ++ srcL r
end
theorem srcL_mem : ∀ (l : List Ee) (e : Ee), e ∈ l → ∀ a ∈ srcX e, a ∈ srcL l
  | [], _, h, _, _ => by cases h
  | u :: r, e, h, a, ha => by
    simp only [srcL, List.mem_append]
    rcases List.mem_cons.1 h with rfl | h
    · exact .inl ha
    · exact .inr (srcL_mem r e h a ha)
/-- the same but for rows of other sources -/
structure SameX (e : Ee) (x y : EnvM) : Prop where
  keys : y.keys = x.keys
  totals : y.totals = x.totals
  binds : y.binds = x.binds
  rows : ∀ a ∈ srcX e, atR y.rows a = atR x.rows a
theorem toldX_same (x y : EnvM) (k : Int) (s : ByteArray) (n a : Int) (ts : List Trip) (h1 : y.keys = x.keys) (h2 : y.totals = x.totals) (h3 : y.binds = x.binds) (h4 : k = 13 → atR y.rows a = atR x.rows a) : toldX y k s n a ts = toldX x k s n a ts := by
  unfold toldX
  rw [h1, h2, h3]
  by_cases h : k = 13
  · rw [h4 h]
  · simp only [if_neg h]
theorem evL_same (x y : EnvM) : ∀ l : List Ee, (∀ e ∈ l, evX y e = evX x e) → evL y l = evL x l
  | [], _ => by simp [evL]
  | e :: r, h => by
    simp only [evL]
    rw [h e List.mem_cons_self, evL_same x y r fun u hu => h u (List.mem_cons_of_mem _ hu)]
theorem evX_same_n (x y : EnvM) (h1 : y.keys = x.keys) (h2 : y.totals = x.totals) (h3 : y.binds = x.binds) : ∀ (m : Nat) (e : Ee), SizeOf.sizeOf e ≤ m → (∀ a ∈ srcX e, atR y.rows a = atR x.rows a) → evX y e = evX x e := by
  intro m
  induction m with
  | zero => intro e he; cases e; simp at he
  | succ m ih =>
    intro e he hs
    obtain ⟨k, s, t, n, a, kids⟩ := e
    simp only [Ee.mk.sizeOf_spec] at he
    have hk : evL y kids = evL x kids := evL_same x y kids fun e hm => ih e (by have := List.sizeOf_lt_of_mem hm; omega) fun b hb => hs b (by simp only [srcX, List.mem_append]; exact .inr (srcL_mem kids e hm b hb))
    simp only [evX]
    rw [hk, toldX_same x y k s n a _ h1 h2 h3 fun h => hs a (by simp [srcX, h])]
theorem evX_same {x y : EnvM} {e : Ee} (h : SameX e x y) : evX y e = evX x e := evX_same_n x y h.keys h.totals h.binds _ e (Nat.le_refl _) h.rows
theorem SameX.kid {x y : EnvM} {k : Int} {s t : ByteArray} {n a : Int} {kids : List Ee} (h : SameX (.mk k s t n a kids) x y) {e : Ee} (hm : e ∈ kids) : SameX e x y := ⟨h.keys, h.totals, h.binds, fun b hb => h.rows b (by simp only [srcX, List.mem_append]; exact .inr (srcL_mem kids e hm b hb))⟩
end Go.Proofs.YteijijoiifbjlaaGreatDoor

namespace Go.Proofs.YteijijoiifbjlaaGreatDoor
open Go.ChangeShapes Go.WideShapes Go.ChangeAt Go.RowKit Go.Maps Go.Sort Go.Shelf Go.Proofs
set_option linter.unusedVariables false
set_option linter.unusedSimpArgs false
set_option maxRecDepth 100000

theorem sortsI (m : Nat) : AnyZI.SortsIn Tryz.prog Tryz.sortedI_ren Fence.wide m :=
  ⟨fun blk off cap ss W hH hblk hsz => callsIn_wide.2 (AnyM.slices_Sort_int Tryz.sortI blk off cap ss W hH hblk hsz),
   fun p cap W => callsIn_wide.2 (AnyM.slices_Sort_int_none Tryz.sortI p cap W)⟩
theorem keys_any (b : Nat) (w : World) :
    Calls Tryz.prog 20 #[.map (some b)] w fun e w' => e = .returned (.func (.func 30) #[] #[.pointer (some ⟨w.heap.size, 0, none⟩)]) ∧ w' = w.alloc (.cells #[.map (some b)] 57) :=
  callsIn_wide.1 (AnyZI.keys_in Tryz.keysI Fence.wide 5 trivial rfl (some b) w)
/-- how an entry's value is read: it says nothing -/
abbrev SR : Value → Option (DataW Unit × List MemPlace) := fun _ => some (.lit (.bool true), [])
theorem intKd : Keyed Tryz.prog 3 := int_keyed Tryz.underlying3
theorem wf_of {a : Int} (h : In64 a) : (Lit.int .i64 a).wf = true := by
  unfold In64 at h
  simpa [Lit.wf, IntKind.min, IntKind.max, IntKind.signed, IntKind.bits] using h
theorem of_wf {a : Int} (h : (Lit.int .i64 a).wf = true) : In64 a := by
  unfold In64
  simpa [Lit.wf, IntKind.min, IntKind.max, IntKind.signed, IntKind.bits] using h
/-- the map has just these keys -/
def HasS (w : World) (B n : Nat) (S : List Int) : Prop := ∃ D, w.ownsMap (H := Unit) Tryz.prog 3 SR B n D ∧ ∀ z, In64 z → (Maps.has D (.int .i64 z) = true ↔ z ∈ S)
theorem HasS.block {w w' : World} {B n : Nat} {S : List Int} (h : HasS w B n S) (hb : w'.heap[B]? = w.heap[B]?) : HasS w' B n S := by
  obtain ⟨D, ⟨es, clock, h1, h2⟩, h3⟩ := h
  exact ⟨D, ⟨es, clock, hb.trans h1, h2⟩, h3⟩
theorem HasS.lt {w : World} {B n : Nat} {S : List Int} (h : HasS w B n S) : B < w.heap.size := by
  obtain ⟨D, h1, -⟩ := h
  exact h1.lt
theorem HasS.made (w : World) (b : Nat) (hm : w.heap[b]? = some (.map #[] 0)) : HasS w b 0 [] := by
  obtain ⟨es, clock, hb, hF, hs, hD⟩ := World.ownsMap_made (H := Unit) w Tryz.prog 3 SR
  have h1 : (w.alloc (.map #[] 0)).heap[w.heap.size]? = some (.map #[] 0) := World.alloc_heap_new w _
  have h2 := Option.some.inj (hb.symm.trans h1)
  obtain ⟨rfl, rfl⟩ : es = #[] ∧ clock = 0 := by injection h2 with a b; exact ⟨a, b⟩
  exact ⟨.map [], ⟨#[], 0, hm, hF, hs, hD⟩, fun z hz => by simp [Maps.has]⟩
theorem has_add {D : DataW Unit} {S : List Int} {a : Int} (hD : Maps.IsMap D) (ha : In64 a) (h : ∀ z, In64 z → (Maps.has D (.int .i64 z) = true ↔ z ∈ S)) (d : DataW Unit) : ∀ z, In64 z → (Maps.has (D.put (.int .i64 a) d) (.int .i64 z) = true ↔ z ∈ S ++ [a]) := by
  intro z hz
  by_cases e : z = a
  · subst e
    rw [has_put_same hD (by trivial) d]
    simp
  · rw [has_put_other (by simpa using e) d, h z hz]
    simp [e]
mutual
/-- how many parts it has -/
def cntX : Ee → Nat
  | .mk k s t n a kids => 1 + cntL kids
def cntL : List Ee → Nat
  | [] => 0
  | e :: r => cntX e + cntL r
end
theorem cntL_take (l : List Ee) : ∀ (i : Nat) (e : Ee), l[i]? = some e → cntL (l.take (i + 1)) = cntL (l.take i) + cntX e ∧ srcL (l.take (i + 1)) = srcL (l.take i) ++ srcX e ∧ cntL (l.take (i + 1)) ≤ cntL l := by
  induction l with
  | nil => intro i e h; simp at h
  | cons u r ih =>
    intro i e h
    match i, h with
    | 0, h =>
      obtain rfl := Option.some.inj h
      simp [cntL, srcL]
    | i + 1, h =>
      obtain ⟨h1, h2, h3⟩ := ih i e (by simpa using h)
      simp only [List.take_succ_cons, cntL, srcL, h1, h2, List.append_assoc]
      rw [h1] at h3
      exact ⟨by omega, by first | rfl | trivial, by omega⟩
/-- what is known while it is looked -/
structure LkS (W0 : World) (p3 p4 B : Nat) (S : List Int) (n : Nat) (w : World) : Prop where
  below : Below W0.heap.size W0 w
  clo : w.cell? ⟨p4, 0, none⟩ = some (.func (.func 18) #[] #[.pointer (some ⟨p3, 0, none⟩), .pointer (some ⟨p4, 0, none⟩)])
  box : w.cell? ⟨p3, 0, none⟩ = some (.map (some B))
  own : HasS w B n S
  ne3 : p3 ≠ B
  ne4 : p4 ≠ B
  hB : W0.heap.size ≤ B
theorem LkS.on {W0 w w' : World} {p3 p4 B n : Nat} {S : List Int} (h : LkS W0 p3 p4 B S n w) (hb : Below w.heap.size w w') : LkS W0 p3 p4 B S n w' :=
  ⟨h.below.trans (hb.mono h.below.size), (hb.cell (p := ⟨p4, 0, none⟩) (block_lt_of_cell h.clo)).trans h.clo, (hb.cell (p := ⟨p3, 0, none⟩) (block_lt_of_cell h.box)).trans h.box, h.own.block (hb.block _ h.own.lt), h.ne3, h.ne4, h.hB⟩
theorem LkS.set {W0 w w' : World} {p3 p4 B n m : Nat} {S S' : List Int} (h : LkS W0 p3 p4 B S n w) (hg : w.grownBy w' (some B)) (ho : HasS w' B m S') : LkS W0 p3 p4 B S' m w' := by
  have hc : ∀ p, p ≠ B → p < w.heap.size → w'.cell? ⟨p, 0, none⟩ = w.cell? ⟨p, 0, none⟩ := fun p hp hl => World.cell?_of_block (a := ⟨p, 0, none⟩) (hg.block p hl fun e => hp (Option.some.inj e))
  exact ⟨h.below.grown hg h.below.size (fun k e => by have := h.hB; cases e; exact this), (hc p4 h.ne4 (block_lt_of_cell h.clo)).trans h.clo, (hc p3 h.ne3 (block_lt_of_cell h.box)).trans h.box, ho, h.ne3, h.ne4, h.hB⟩
def LookS (W0 : World) (e : Ee) : Prop := ∀ (W : World) (p3 p4 B n : Nat) (S : List Int) (v : Value), LkS W0 p3 p4 B S n W → ExV W0 e v → n + cntX e ≤ 100000 →
  Calls Tryz.prog 18 #[v, .pointer (some ⟨p3, 0, none⟩), .pointer (some ⟨p4, 0, none⟩)] W fun e' w' => e' = .returned (.tuple #[]) ∧ LkS W0 p3 p4 B (S ++ srcX e) (n + cntX e) w'
theorem enters_look : ∀ (args : Array Value) (W : World), (callFunc 18 args).run Tryz.prog W = .ok (.enter 18 args) W := enters_of Tryz.func18 (by kernel_rfl) rfl
def LookRel (W0 : World) (p3 p4 B : Nat) (S : List Int) (n : Nat) (kids : List Ee) (i : Value) (wr : World) : Prop := ∃ k : Nat, k ≤ kids.length ∧ i = .int .i64 (k : Int) ∧ LkS W0 p3 p4 B (S ++ srcL (kids.take k)) (n + cntL (kids.take k)) wr
set_option maxHeartbeats 2000000 in
theorem lookS_other (W0 : World) (k : Int) (s t : ByteArray) (n0 a : Int) (kids : List Ee) (h13 : k ≠ 13) (hlen : kids.length ≤ 100000) (hk : ∀ e ∈ kids, LookS W0 e) : LookS W0 (.mk k s t n0 a kids) := by
  intro w p3 p4 B n S v hL hv hcn
  simp only [ExV] at hv
  obtain ⟨A, cap, rfl, hcap, hE⟩ := hv
  simp only [cntX] at hcn
  obtain ⟨w1, hw1⟩ : ∃ X, w.alloc (.cells #[.int .u8 k, .string s, .string t, .int .i64 n0, .int .i64 a, .slice A kids.length cap] 25) = X := ⟨_, rfl⟩
  have hal : Below w.heap.size w w1 := by rw [← hw1]; exact (Below.refl _ _).alloc (Nat.le_refl _) _
  have hc : ECell w1 w.heap.size 0 k s t n0 a A kids.length cap := by rw [← hw1]; exact ecell_new _ _ _ _ _ _ _ _ _
  have hneB : w.heap.size ≠ B := by have := hL.own.lt; omega
  have hlt1 : w.heap.size < w1.heap.size := by rw [← hw1]; simp
  have hL1 := hL.on hal
  have HCB := Lib.hid hc
  obtain ⟨c0, c1, c2, c3, c4, c5⟩ := hc
  simp only [Nat.zero_add] at c0 c1 c2 c3 c4 c5
  have HE := Lib.hid hE
  have HK := Lib.hid hk
  have HCN := Lib.hid hcn
  clear hE hk hal hcn
  have e0 : (k == 13) = false := by simpa using h13
  have HL1 := Lib.hid hL1
  clear hL hL1
  go_enter Tryz.func18, Tryz.ntmps18
  go_wp2_with fail
  clear c0 c1 c2 c3 c4 c5 hw1
  go_loopw [16] (fun i wr => LookRel W0 p3 p4 B S n kids i wr) (fun i _ => kids.length - (intOf i).toNat)
  case atStart => exact ⟨0, Nat.zero_le _, rfl, by simpa [srcL, cntL] using HL1.out⟩
  case round =>
    obtain ⟨i, hi, rfl, hb⟩ := hrel
    by_cases hlt : i < kids.length
    · obtain ⟨e1, he⟩ : ∃ e1, kids[i]? = some e1 := ⟨_, List.getElem?_eq_getElem hlt⟩
      have HEV := Lib.hid (HK.out e1 (List.mem_of_getElem? he))
      obtain ⟨hc1, hc2, hc3⟩ := cntL_take kids i e1 he
      have HCT := Lib.hid (And.intro hc1 (And.intro hc2 hc3))
      obtain ⟨p, o, rfl, k', s', t', n', a', A', kids', cap', he0, hc, hcp, hkk⟩ := HE.out.at kids _ i e1 he
      have HC8 := Lib.hid hc
      obtain ⟨y0, y1, y2, y3, y4, y5⟩ := hc.on hb.below
      have HKK := Lib.hid hkk
      have HB := Lib.hid hb
      have HI := Lib.hid hlt
      have q1 : (i : Int) < (kids.length : Int) := by omega
      have q2 : (0 : Int) ≤ (i : Int) := by omega
      clear he hlt hkk hb hc hc1 hc2 hc3
      go_upto_region 6 with (fail)
      obtain ⟨w3, hw3⟩ : ∃ X, wr.alloc (.cells #[.int .u8 k', .string s', .string t', .int .i64 n', .int .i64 a', .slice A' kids'.length cap'] 25) = X := ⟨_, rfl⟩
      have hal3 : Below wr.heap.size wr w3 := by rw [← hw3]; exact (Below.refl _ _).alloc (Nat.le_refl _) _
      have hc8 : ECell w3 wr.heap.size 0 k' s' t' n' a' A' kids'.length cap' := by rw [← hw3]; exact ecell_new _ _ _ _ _ _ _ _ _
      rw [hw3]
      have HB3 := Lib.hid (HB.out.on hal3)
      have hg1 : w3.cell? ⟨p4, 0, none⟩ = some (.func (.func 18) #[] #[.pointer (some ⟨p3, 0, none⟩), .pointer (some ⟨p4, 0, none⟩)]) := HB3.out.clo
      have HC := Lib.hid (HEV.out w3 p3 p4 B _ _ (exprV k' s' t' n' a' A' kids'.length cap') HB3.out (by rw [he0]; simp only [ExV]; exact ⟨A', cap', rfl, hcp, HKK.out⟩) (by have := HCT.out; have := HCN.out; omega))
      obtain ⟨d0, d1, d2, d3, d4, d5⟩ := hc8
      simp only [Nat.zero_add] at d0 d1 d2 d3 d4 d5
      have hE3 := enters_look
      clear hw3 hal3 HKK HEV hcp he0 y0 y1 y2 y3 y4 y5
      go_wp2_with ((with_reducible refine HC.out.mono ?_); rintro e wb ⟨rfl, bb⟩; have HB4 := Lib.hid bb; clear bb)
      exact ⟨⟨i + 1, HI.out, rfl, by rw [HCT.out.1, HCT.out.2.1, ← List.append_assoc, ← Nat.add_assoc]; exact HB4.out⟩, by
        have := HI.out
        simp [intOf]
        omega⟩
    · have q1 : ¬ (i : Int) < (kids.length : Int) := by omega
      obtain rfl : i = kids.length := by omega
      rw [List.take_length] at hb
      go_wp2_with fail
      exact bodyPost_end (results_none rfl _ _ _) rfl ⟨rfl, by simp only [srcX, if_neg h13, cntX, List.nil_append]; obtain ⟨D, h1, h2⟩ := hb.own; exact { hb with own := ⟨D, h1.mono (by omega), h2⟩ }⟩
set_option maxHeartbeats 2000000 in
theorem lookS_this (W0 : World) (s t : ByteArray) (n0 a : Int) (kids : List Ee) (ha : In64 a) (hlen : kids.length ≤ 100000) (hk : ∀ e ∈ kids, LookS W0 e) : LookS W0 (.mk 13 s t n0 a kids) := by
  intro w p3 p4 B n S v hL hv hcn
  simp only [ExV] at hv
  obtain ⟨A, cap, rfl, hcap, hE⟩ := hv
  simp only [cntX] at hcn
  obtain ⟨w1, hw1⟩ : ∃ X, w.alloc (.cells #[.int .u8 13, .string s, .string t, .int .i64 n0, .int .i64 a, .slice A kids.length cap] 25) = X := ⟨_, rfl⟩
  have hal : Below w.heap.size w w1 := by rw [← hw1]; exact (Below.refl _ _).alloc (Nat.le_refl _) _
  have hc : ECell w1 w.heap.size 0 13 s t n0 a A kids.length cap := by rw [← hw1]; exact ecell_new _ _ _ _ _ _ _ _ _
  have hneB : w.heap.size ≠ B := by have := hL.own.lt; omega
  have hlt1 : w.heap.size < w1.heap.size := by rw [← hw1]; simp
  have hL1 := hL.on hal
  have HCB := Lib.hid hc
  obtain ⟨c0, c1, c2, c3, c4, c5⟩ := hc
  simp only [Nat.zero_add] at c0 c1 c2 c3 c4 c5
  have HE := Lib.hid hE
  have HK := Lib.hid hk
  have HCN := Lib.hid hcn
  clear hE hk hal hcn
  obtain ⟨D, hown, hD⟩ := hL1.own
  have hbx := hL1.box
  have hkey := Maps.keyOf_int_mk (P := Tryz.prog) Tryz.underlying3 (wf_of ha)
  have HD := Lib.hid (has_add hown.isMap ha hD (.lit (.bool true)))
  have HLL := Lib.hid hL1
  have hn9 : n < maxLen := by have := HCN.out; simp only [maxLen]; omega
  clear hL hL1 hD
  go_enter Tryz.func18, Tryz.ntmps18
  go_upto_region 3 with (at_mapUpdate; refine wpList_mapUpdate_own _ rfl _ _ _ 57 rfl 3 _ intKd Tryz.underlying57 SR B n D rfl hown hn9 _ _ (.int .i64 a) rfl rfl hkey (.lit (.bool true)) [] rfl ?_; intro w2 hown2 hgrow2; have HL1 := Lib.hid (HLL.out.set hgrow2 ⟨_, hown2, HD.out⟩); have HG2 := Lib.hid hgrow2; clear hown2 hgrow2)
  have hb2 : w2.heap[w.heap.size]? = w1.heap[w.heap.size]? := HG2.out.block _ hlt1 fun e => hneB (Option.some.inj e)
  have hcc : ∀ o, w2.cell? ⟨w.heap.size, o, none⟩ = w1.cell? ⟨w.heap.size, o, none⟩ := fun o => World.cell?_of_block (a := ⟨w.heap.size, o, none⟩) hb2
  have e5 : w2.cell? ⟨w.heap.size, 5, none⟩ = some (.slice A kids.length cap) := (hcc 5).trans c5
  clear c0 c1 c2 c3 c4 c5 hw1 hown hbx hkey hb2 hcc
  go_wp2_with fail
  clear e5
  go_loopw [16] (fun i wr => LookRel W0 p3 p4 B (S ++ [a]) (n + 1) kids i wr) (fun i _ => kids.length - (intOf i).toNat)
  case atStart => exact ⟨0, Nat.zero_le _, rfl, by simpa [srcL, cntL] using HL1.out⟩
  case round =>
    obtain ⟨i, hi, rfl, hb⟩ := hrel
    by_cases hlt : i < kids.length
    · obtain ⟨e1, he⟩ : ∃ e1, kids[i]? = some e1 := ⟨_, List.getElem?_eq_getElem hlt⟩
      have HEV := Lib.hid (HK.out e1 (List.mem_of_getElem? he))
      obtain ⟨hc1, hc2, hc3⟩ := cntL_take kids i e1 he
      have HCT := Lib.hid (And.intro hc1 (And.intro hc2 hc3))
      obtain ⟨p, o, rfl, k', s', t', n', a', A', kids', cap', he0, hc, hcp, hkk⟩ := HE.out.at kids _ i e1 he
      have HC8 := Lib.hid hc
      obtain ⟨y0, y1, y2, y3, y4, y5⟩ := hc.on hb.below
      have HKK := Lib.hid hkk
      have HB := Lib.hid hb
      have HI := Lib.hid hlt
      have q1 : (i : Int) < (kids.length : Int) := by omega
      have q2 : (0 : Int) ≤ (i : Int) := by omega
      clear he hlt hkk hb hc hc1 hc2 hc3
      go_upto_region 6 with (fail)
      obtain ⟨w3, hw3⟩ : ∃ X, wr.alloc (.cells #[.int .u8 k', .string s', .string t', .int .i64 n', .int .i64 a', .slice A' kids'.length cap'] 25) = X := ⟨_, rfl⟩
      have hal3 : Below wr.heap.size wr w3 := by rw [← hw3]; exact (Below.refl _ _).alloc (Nat.le_refl _) _
      have hc8 : ECell w3 wr.heap.size 0 k' s' t' n' a' A' kids'.length cap' := by rw [← hw3]; exact ecell_new _ _ _ _ _ _ _ _ _
      rw [hw3]
      have HB3 := Lib.hid (HB.out.on hal3)
      have hg1 : w3.cell? ⟨p4, 0, none⟩ = some (.func (.func 18) #[] #[.pointer (some ⟨p3, 0, none⟩), .pointer (some ⟨p4, 0, none⟩)]) := HB3.out.clo
      have HC := Lib.hid (HEV.out w3 p3 p4 B _ _ (exprV k' s' t' n' a' A' kids'.length cap') HB3.out (by rw [he0]; simp only [ExV]; exact ⟨A', cap', rfl, hcp, HKK.out⟩) (by have := HCT.out; have := HCN.out; omega))
      obtain ⟨d0, d1, d2, d3, d4, d5⟩ := hc8
      simp only [Nat.zero_add] at d0 d1 d2 d3 d4 d5
      have hE3 := enters_look
      clear hw3 hal3 HKK HEV hcp he0 y0 y1 y2 y3 y4 y5
      go_wp2_with ((with_reducible refine HC.out.mono ?_); rintro e wb ⟨rfl, bb⟩; have HB4 := Lib.hid bb; clear bb)
      exact ⟨⟨i + 1, HI.out, rfl, by rw [HCT.out.1, HCT.out.2.1, ← List.append_assoc, ← Nat.add_assoc]; exact HB4.out⟩, by
        have := HI.out
        simp [intOf]
        omega⟩
    · have q1 : ¬ (i : Int) < (kids.length : Int) := by omega
      obtain rfl : i = kids.length := by omega
      rw [List.take_length] at hb
      go_wp2_with fail
      exact bodyPost_end (results_none rfl _ _ _) rfl ⟨rfl, by simp only [srcX, if_true, cntX]; rw [← List.append_assoc, ← Nat.add_assoc]; exact hb⟩
theorem lookS_all (W0 : World) : ∀ (m : Nat) (e : Ee), SizeOf.sizeOf e ≤ m → OkE e → cntX e ≤ 100000 → LookS W0 e := by
  intro m
  induction m with
  | zero => intro e he; cases e; simp at he
  | succ m ih =>
    intro e he ho hc
    obtain ⟨k, s, t, n, a, kids⟩ := e
    simp only [OkE] at ho
    simp only [Ee.mk.sizeOf_spec] at he
    simp only [cntX] at hc
    have hl : ∀ l : List Ee, l.length ≤ cntL l := by
      intro l
      induction l with
      | nil => simp
      | cons e r ih =>
        obtain ⟨k, s, t, n, a, kids⟩ := e
        simp only [List.length_cons, cntL, cntX]
        omega
    have hm : ∀ (l : List Ee) (e : Ee), e ∈ l → cntX e ≤ cntL l := by
      intro l
      induction l with
      | nil => intro e h; cases h
      | cons u r ih =>
        intro e h
        simp only [cntL]
        rcases List.mem_cons.1 h with rfl | h
        · omega
        · have := ih e h; omega
    have ho' : ∀ (l : List Ee), OkEL l → ∀ e ∈ l, OkE e := by
      intro l
      induction l with
      | nil => intro _ e h; cases h
      | cons u r ih =>
        intro h e he
        simp only [OkEL] at h
        rcases List.mem_cons.1 he with rfl | he
        · exact h.1
        · exact ih h.2 e he
    have hk : ∀ e ∈ kids, LookS W0 e := fun e he2 => ih e (by have := sizeOf_mem he2; omega) (ho' kids ho.2.2.2.2.2.2 e he2) (by have := hm kids e he2; omega)
    have := hl kids
    by_cases h13 : k = 13
    · subst h13
      exact lookS_this W0 s t n a kids ho.2.2.1 (by omega) hk
    · exact lookS_other W0 k s t n a kids h13 (by omega) hk
theorem mem_keys {w : World} {B n : Nat} {D : DataW Unit} (hown : w.ownsMap (H := Unit) Tryz.prog 3 SR B n D) : ∀ x, x ∈ intKeys D ↔ Maps.has D (.int .i64 x) = true := by
  obtain ⟨es, rfl, hko⟩ := hown.keysOf
  have hk : ∀ p ∈ es, ∃ x, p.1 = .int .i64 x := fun p hp => by
    obtain ⟨v, hv⟩ := hko p hp
    obtain ⟨x, _, hx, _⟩ := Maps.keyOf_i64 Tryz.underlying3 hv
    exact ⟨x, hx⟩
  intro x
  rw [Maps.has_eq, List.any_eq_true]
  show x ∈ es.map (fun p => Go.intOf p.1) ↔ _
  rw [List.mem_map]
  constructor
  · rintro ⟨p, hp, rfl⟩
    obtain ⟨a, ha⟩ := hk p hp
    exact ⟨p, hp, by rw [ha]; simp [Lit.sameKey, Go.intOf]⟩
  · rintro ⟨p, hp, hs⟩
    obtain ⟨a, ha⟩ := hk p hp
    rw [ha] at hs
    exact ⟨p, hp, by rw [ha]; simpa [Lit.sameKey, Go.intOf] using hs⟩
/-- a slice of ints that is read -/
def RdI (w : World) (A : Option Addr) (l : List Int) : Prop := l = [] ∨ ∃ b, A = some ⟨b, 0, none⟩ ∧ ∀ (j : Nat) (z : Int), l[j]? = some z → w.cell? ⟨b, j, none⟩ = some (.int .i64 z)
def SrtRet (n : Nat) (S : List Int) (w : World) (e : Ending) (w' : World) : Prop := ∃ A c ss, e = .returned (.slice A (List.length ss) c) ∧ ss.length ≤ n ∧ RdI w' A ss ∧ (∀ z, In64 z → (z ∈ ss ↔ z ∈ S)) ∧ (∀ z ∈ ss, In64 z) ∧ Below w.heap.size w w'
theorem sorted_any (B n : Nat) (S : List Int) (w : World) (hH : HasS w B n S) (hn : n ≤ 100000) :
    Calls Tryz.prog 19 #[.func (.func 30) #[] #[.pointer (some ⟨w.heap.size, 0, none⟩)]] (w.alloc (.cells #[.map (some B)] 57)) (SrtRet n S (w.alloc (.cells #[.map (some B)] 57))) := by
  obtain ⟨D, hown, hD⟩ := hH
  have hsz := hown.size_le
  have hmem := mem_keys hown
  have hwf := intKeys_wf hown Tryz.underlying3
  have hseq : SeqGives Fence.wide 2 Tryz.prog 30 #[.pointer (some ⟨w.heap.size, 0, none⟩)] encZ (fun ss => ss.Perm (intKeys D)) (Maps.size D) (w.alloc (.cells #[.map (some B)] 57)) :=
    AnyZI.keys_gives (ρ := Tryz.keysI_ren) { Tryz.keysI with } Fence.wide _ trivial rfl (by omega) w.heap.size B n D _ (by simp) (by simp) (hown.alloc _)
  have cS := AnyZI.sorted_in Tryz.sortedI Fence.wide 5 trivial trivial trivial trivial rfl (by omega) (sortsI _) (enters_of Tryz.func29 (by kernel_rfl) rfl) 30 #[.pointer (some ⟨w.heap.size, 0, none⟩)] trivial (enters_of Tryz.func30 (by kernel_rfl) rfl) _ _ (by simp only [maxLen]; omega) (by omega) _ hseq
  change CallsIn _ _ Tryz.prog 19 _ _ _ at cS
  refine (callsIn_wide.1 cS).mono ?_
  rintro e w' ⟨v, ss, rfl, hS, hrow, hnil, hb⟩
  have hp : (ss.mergeSort (fun x y => decide (x ≤ y))).Perm (intKeys D) := (List.mergeSort_perm ss _).trans hS
  have hlen : (ss.mergeSort (fun x y => decide (x ≤ y))).length = ss.length := List.length_mergeSort ss
  have hl2 : ss.length ≤ n := by
    have h1 : (intKeys D).length = Maps.size D := by
      obtain ⟨es, rfl⟩ := hown.isMap
      simp [intKeys, Maps.size]
    have := hS.length_eq
    omega
  have hm1 : ∀ z, In64 z → (z ∈ ss.mergeSort (fun x y => decide (x ≤ y)) ↔ z ∈ S) := fun z hz => by rw [hp.mem_iff, hmem z, hD z hz]
  have hm2 : ∀ z ∈ ss.mergeSort (fun x y => decide (x ≤ y)), In64 z := fun z hz => of_wf (hwf z (hp.mem_iff.1 hz))
  generalize ss.mergeSort (fun x y => decide (x ≤ y)) = l at hrow hlen hm1 hm2
  rw [← hlen] at hrow
  obtain ⟨h1, h2⟩ := hrow
  rcases h2 with ⟨rfl, h0⟩ | ⟨g, cap, cur, rfl, hg, hh, hc, hm, hs, ht⟩
  · have hl0 : l = [] := List.eq_nil_of_length_eq_zero h0
    subst hl0
    exact ⟨none, 0, [], rfl, by simp, .inl rfl, hm1, hm2, hb⟩
  · refine ⟨_, cap, l, rfl, by omega, .inr ⟨g, rfl, fun j z hj => ?_⟩, hm1, hm2, hb⟩
    have hjl : j < l.length := (List.getElem?_eq_some_iff.1 hj).1
    have hx : cur.toList[j]? = some (encZ z) := by
      have h3 : (l.map encZ)[j]? = some (encZ z) := by rw [List.getElem?_map, hj]; rfl
      rw [← ht, List.getElem?_take] at h3
      split at h3
      · exact h3
      · cases h3
    simp only [World.cell?, hh]
    simpa [encZ] using hx
set_option maxHeartbeats 2000000 in
theorem Sources_any (e : Ee) (ho : OkE e) (hcn : cntX e ≤ 1000) (w : World) (v : Value) (hv : ExV w e v) : Calls Tryz.prog 9 #[v] w (SrtRet 1000 (srcX e) w) := by
  have hL := lookS_all w _ e (Nat.le_refl _) ho (by omega)
  have hv1 := hv
  obtain ⟨k, s, t, n, a, A, len, cap, rfl⟩ := exv_form hv
  have hmm := @run_makeMap Tryz.prog
  have HV := Lib.hid hv1
  have HL := Lib.hid hL
  have HCN := Lib.hid hcn
  clear hv hL hv1 hcn
  go_enter Tryz.func9, Tryz.ntmps9
  go_upto_region 4 with (fail)
  obtain ⟨w4, hw4⟩ : ∃ X, (((w.alloc (.cells #[.int .u8 k, .string s, .string t, .int .i64 n, .int .i64 a, .slice A len cap] 25)).alloc (.map #[] 0)).alloc (.cells #[.map (some (w.heap.size + 1))] 57)).alloc (.cells #[.func (.func 18) #[] #[.pointer (some ⟨w.heap.size + 1 + 1, 0, none⟩), .pointer (some ⟨w.heap.size + 1 + 1 + 1, 0, none⟩)]] 58) = X := ⟨_, rfl⟩
  have hal : Below w.heap.size w w4 := by rw [← hw4]; exact ((((Below.refl _ _).alloc (Nat.le_refl _) _).alloc (by simp) _).alloc (by simp; omega) _).alloc (by simp; omega) _
  have hc : ECell w4 w.heap.size 0 k s t n a A len cap := by
    rw [← hw4]
    refine ⟨?_, ?_, ?_, ?_, ?_, ?_⟩ <;> simp [go_sem]
  have hm : w4.heap[w.heap.size + 1]? = some (.map #[] 0) := by
    have h1 : ((w.alloc (.cells #[.int .u8 k, .string s, .string t, .int .i64 n, .int .i64 a, .slice A len cap] 25)).alloc (.map #[] 0)).heap[(w.alloc (.cells #[.int .u8 k, .string s, .string t, .int .i64 n, .int .i64 a, .slice A len cap] 25)).heap.size]? = some (.map #[] 0) := World.alloc_heap_new _ _
    rw [show (w.alloc (.cells #[.int .u8 k, .string s, .string t, .int .i64 n, .int .i64 a, .slice A len cap] 25)).heap.size = w.heap.size + 1 by simp] at h1
    rw [← hw4]
    exact (Below.heap_alloc _ _ _ (by simp)).trans ((Below.heap_alloc _ _ _ (by simp)).trans h1)
  have h3 : w4.cell? ⟨w.heap.size + 1 + 1, 0, none⟩ = some (.map (some (w.heap.size + 1))) := by rw [← hw4]; simp [go_sem]
  have h4 : w4.cell? ⟨w.heap.size + 1 + 1 + 1, 0, none⟩ = some (.func (.func 18) #[] #[.pointer (some ⟨w.heap.size + 1 + 1, 0, none⟩), .pointer (some ⟨w.heap.size + 1 + 1 + 1, 0, none⟩)]) := by rw [← hw4]; simp [go_sem]
  have hLk : LkS w (w.heap.size + 1 + 1) (w.heap.size + 1 + 1 + 1) (w.heap.size + 1) [] 0 w4 := ⟨hal, h4, h3, HasS.made w4 _ hm, by omega, by omega, by omega⟩
  have HC := Lib.hid (HL.out w4 _ _ _ 0 [] _ hLk HV.out (by have := HCN.out; omega))
  obtain ⟨c0, c1, c2, c3, c4, c5⟩ := hc
  simp only [Nat.zero_add] at c0 c1 c2 c3 c4 c5
  rw [hw4]
  have hE := enters_look
  clear hw4 hal hm h3 hLk HV HL
  go_wp2_with (first
    | ((with_reducible refine HC.out.mono ?_); rintro e wb ⟨rfl, bb⟩; have HBB := Lib.hid bb; have h35 := bb.box; clear bb)
    | (go_at_call 20; refine (keys_any _ _).mono ?_; rintro e wc ⟨rfl, rfl⟩)
    | (go_at_call 19; refine (sorted_any _ _ _ _ HBB.out.own (by have := HCN.out; omega)).mono ?_; rintro e wd ⟨A9, c9, ss9, rfl, hq1, hq2, hq3, hq4, hq5⟩; have HQ := Lib.hid (And.intro hq1 (And.intro hq2 (And.intro hq3 (And.intro hq4 hq5)))); clear hq1 hq2 hq3 hq4 hq5))
  go_ret
  obtain ⟨hq1, hq2, hq3, hq4, hq5⟩ := HQ.out
  exact ⟨A9, c9, ss9, rfl, by have := HCN.out; omega, hq2, by simpa using hq3, hq4, HBB.out.below.trans (((Below.refl _ _).alloc (Nat.le_refl _) _ |>.trans (hq5.mono (by simp))).mono HBB.out.below.size)⟩
end Go.Proofs.YteijijoiifbjlaaGreatDoor
