/-
  Layer 7, sorter: the law's helper sorted. Conditions: right keys of two columns, no more than 120.
-/
import Derived.Test.YtbeaiaepbmldbaaQHelp
namespace Go.Proofs.Ytbeaiaepbmldbaa
open Go.ChangeShapes Go.WideShapes Go.ChangeAt Go.RowKit
set_option linter.unusedVariables false

/-- the pairs are right -/
def GoodQ (ps : List Pr) : Prop := ps.length ≤ 120 ∧ ∀ p ∈ ps, GoodR [p.1, p.2]
def row3 (p : Pr) (i : Nat) : List Trip := [p.1, p.2, (1, (i : Int), ⟨#[]⟩)]
theorem good_row3 {p : Pr} (h : GoodR [p.1, p.2]) (i : Nat) (hi : i ≤ 1000) : GoodR (row3 p i) := by
  intro t ht
  simp only [row3, List.mem_cons, List.mem_nil_iff, or_false] at ht
  rcases ht with rfl | rfl | rfl
  · exact h _ (by simp)
  · exact h _ (by simp)
  · exact ⟨.inr (.inl ⟨rfl, rfl⟩), by show 0 ≤ 100; omega, by show In64 (i : Int); unfold In64; omega⟩
/-- what sorted adds -/
def krs (ds : List Bool) : List Pr → Nat → List KR
  | [], _ => []
  | p :: r, i => (keyL [p.1, p.2] ds, putL (row3 p i)) :: krs ds r (i + 1)
theorem krs_snoc (ds : List Bool) : ∀ (a : List Pr) (i : Nat) (k : Pr), krs ds (a ++ [k]) i = krs ds a i ++ [(keyL [k.1, k.2] ds, putL (row3 k (i + a.length)))]
  | [], i, k => rfl
  | x :: a, i, k => by
    have ih := krs_snoc ds a (i + 1) k
    simp only [List.cons_append, krs, ih, List.length_cons]
    rw [show i + 1 + a.length = i + (a.length + 1) by omega]
theorem krs_length (ds : List Bool) : ∀ (a : List Pr) (i : Nat), (krs ds a i).length = a.length
  | [], i => rfl
  | x :: a, i => by simp [krs, krs_length ds a (i + 1)]
theorem rd_three {X Z : World} {k n k' n' i : Int} {s s' : ByteArray} (he : Eqv Z (X.alloc (.cells #[.int .u8 k, .int .i64 n, .string s, .int .u8 k', .int .i64 n', .string s', .int .u8 1, .int .i64 i, .string ⟨#[]⟩] 29))) :
    RdR Z Z.heap.size (some ⟨X.heap.size, 0, none⟩) [(k, n, s), (k', n', s'), (1, i, ⟨#[]⟩)] := by
  refine he.rdR fun _ => ⟨_, rfl, by simp, fun j a b c hj => ?_⟩
  have hb := heap_alloc_new X (.cells #[.int .u8 k, .int .i64 n, .string s, .int .u8 k', .int .i64 n', .string s', .int .u8 1, .int .i64 i, .string ⟨#[]⟩] 29)
  rw [add0]
  match j, hj with
  | 0, hj => obtain ⟨rfl, rfl, rfl⟩ : k = a ∧ n = b ∧ s = c := by simpa using hj
             exact ⟨by rw [cell_of_row _ _ _ _ _ _ hb]; rfl, by rw [cell_of_row _ _ _ _ _ _ hb]; rfl, by rw [cell_of_row _ _ _ _ _ _ hb]; rfl⟩
  | 1, hj => obtain ⟨rfl, rfl, rfl⟩ : k' = a ∧ n' = b ∧ s' = c := by simpa using hj
             exact ⟨by rw [cell_of_row _ _ _ _ _ _ hb]; rfl, by rw [cell_of_row _ _ _ _ _ _ hb]; rfl, by rw [cell_of_row _ _ _ _ _ _ hb]; rfl⟩
  | 2, hj => obtain ⟨rfl, rfl, rfl⟩ : (1 : Int) = a ∧ i = b ∧ (⟨#[]⟩ : ByteArray) = c := by simpa using hj
             exact ⟨by rw [cell_of_row _ _ _ _ _ _ hb]; rfl, by rw [cell_of_row _ _ _ _ _ _ hb]; rfl, by rw [cell_of_row _ _ _ _ _ _ hb]; rfl⟩
  | j + 3, hj => simp at hj
/-- a row that a slice reads -/
structure Rv where
  A : Option Addr
  c : Nat
  r : List Trip
def Rv.v (x : Rv) : Value := .slice x.A x.r.length x.c
/-- rows of the call's own, in a slice of its own -/
def OwnRR (w : World) (base : Nat) (v : Value) (L : List Rv) : Prop := w.ownsRow base 31 1 v L.length (L.map Rv.v) ∧ ∀ x ∈ L, OwnR w base x.v x.r
theorem row_keep {w w' : World} {base : Nat} {e : TypeId} {size n : Nat} {v : Value} {xs : List Value} (h : w.ownsRow base e size v n xs) (hk : ∀ g cur, v.ownBlock = some g → base ≤ g → w.heap[g]? = some (.cells cur e (0, 0)) → w'.heap[g]? = w.heap[g]?) : w'.ownsRow base e size v n xs := by
  obtain ⟨h1, h2⟩ := h
  refine ⟨h1, ?_⟩
  rcases h2 with h2 | ⟨g, cap, cur, rfl, hg, hh, r⟩
  · exact .inl h2
  · exact .inr ⟨g, cap, cur, rfl, hg, (hk g cur rfl hg hh).trans hh, r⟩
theorem OwnRR.but {P : Nat → Prop} {w w' : World} {base : Nat} {v : Value} {L : List Rv} (h : OwnRR w base v L) (hb : But P w w') (hn : ∀ k, base ≤ k → k < w.heap.size → ¬ P k) : OwnRR w' base v L :=
  ⟨row_keep h.1 fun g _ _ hg hh => hb.block g (heap_lt hh) (hn g hg (heap_lt hh)), fun x hx => row_keep (h.2 x hx) fun g _ _ hg hh => hb.block g (heap_lt hh) (hn g hg (heap_lt hh))⟩
theorem OwnRR.on {w w' : World} {base : Nat} {v : Value} {L : List Rv} (h : OwnRR w base v L) (hb : Below w.heap.size w w') : OwnRR w' base v L :=
  h.but (P := fun _ => False) ⟨hb.os, hb.tape, hb.output, hb.size, fun k hk _ => hb.block k hk⟩ (fun _ _ _ h => h)
theorem OwnRR.nil (w : World) (base : Nat) : OwnRR w base (.slice none 0 0) [] := ⟨World.ownsRow_nil w base _ _, fun x hx => by simp at hx⟩
theorem OwnRR.far {w : World} {base : Nat} {v : Value} {L : List Rv} (h : OwnRR w base v L) : Far w (fun k => v.ownBlock = some k) := by
  intro k hk
  obtain ⟨⟨_, h2⟩, _⟩ := h
  rcases h2 with ⟨rfl, _⟩ | ⟨g, cap, cur, rfl, hg, hh, r⟩
  · exact absurd hk (by simp [Value.ownBlock])
  · obtain rfl : g = k := by simpa [Value.ownBlock] using hk
    exact ⟨cur, _, _, hh, .inr (.inr rfl)⟩
theorem OwnRR.form {w : World} {base : Nat} {v : Value} {L : List Rv} (h : OwnRR w base v L) : ∃ A c, v = .slice A L.length c := by
  obtain ⟨⟨_, h2⟩, _⟩ := h
  rcases h2 with ⟨rfl, h0⟩ | ⟨g, cap, cur, rfl, _⟩
  · exact ⟨none, 0, by rw [h0]⟩
  · exact ⟨_, _, rfl⟩
theorem OwnRR.mono {w : World} {base base' : Nat} {v : Value} {L : List Rv} (h : OwnRR w base v L) (hb : base' ≤ base) : OwnRR w base' v L := by
  refine ⟨⟨h.1.1, ?_⟩, fun x hx => ownR_mono (h.2 x hx) hb⟩
  rcases h.1.2 with h2 | ⟨g, cap, cur, e, hg, r⟩
  · exact .inl h2
  · exact .inr ⟨g, cap, cur, e, Nat.le_trans hb hg, r⟩
theorem Try.info_rows : (Try.prog.info? 31).map (fun i => (i.zero, i.size, i.bytes)) = some (some (.slice none 0 0), 1, 24) := by kernel_rfl
/-- append of one row of the call's own -/
theorem wpList_appRR {W : World} {ops : Array Oper} {rest : List Oper} {o : Oper} {a : Act} {Q : Exit → Act → World → Prop} (hgd : o.guard = none) (s x : Operand)
    (ho : o.op = .call { callee := .builtin .append, args := #[s, x], argTypes := #[59, 59] })
    (base : Nat) (v : Value) (L : List Rv) (hs : a.eval s = v) (hown : OwnRR W base v L) (u : Rv) (hu : OwnR W base u.v u.r) (hx : a.eval x = .slice (some ⟨W.heap.size, 0, none⟩) 1 1)
    (hlen : L.length + 1 ≤ 100000) (hbase : base ≤ W.heap.size)
    (h : ∀ v' w', OwnRR w' base v' (L ++ [u]) → But (fun k => v.ownBlock = some k) W w' → wpList Try.prog ops Q rest (a.put o.dst v') w') : wpList Try.prog ops Q (o :: rest) a (W.alloc (.cells #[u.v] 31)) := by
  obtain ⟨i0, hi, hz0, hz1, hz2⟩ := info_parts Try.info_rows
  have hfar := hown.far
  obtain ⟨hrow, hin⟩ := hown
  refine wpList_append_own_at _ hgd s x 59 ho base 31 i0 (.slice none 0 0) 1 24 Try.underlying59 hi hz0 hz1 hz2 rfl (by decide) v L.length (L.map Rv.v) hs (hrow.alloc _) ⟨W.heap.size, 0, none⟩ 1 1 [u.v] hx rfl (cell_one_new _ _ _) (by intro q hq; rw [List.mem_singleton] at hq; rw [hq]; rfl) (by simp only [maxLen]; omega) (by omega) (by simp; omega) ?_
  intro v' w' h1 h2 _ _
  have hsz : (W.alloc (.cells #[u.v] 31)).heap.size = W.heap.size + 1 := by simp
  have hkeep : ∀ k, k < W.heap.size → ¬ v.ownBlock = some k → w'.heap[k]? = W.heap[k]? := fun k hk hne => (h2.block k (by omega) (fun e => hne e.symm)).trans (heap_alloc_old W _ hk)
  have hrw : ∀ y : Rv, OwnR W base y.v y.r → OwnR w' base y.v y.r := fun y hy => row_keep hy fun g cur _ _ hh => hkeep g (heap_lt hh) fun e => hfar.not hh (by decide) (by decide) (by decide) e
  refine h v' w' ⟨by rw [List.length_append, List.map_append]; exact h1, fun y hy => ?_⟩ ⟨h2.os, h2.tape, h2.output, by have := h2.size; omega, hkeep⟩
  rcases List.mem_append.1 hy with hy | hy
  · exact hrw y (hin y hy)
  · obtain rfl : y = u := by simpa using hy
    exact hrw y hu
theorem drewR {B : Nat} {a w : World} (h : Below B a w) : Below B a w.drew := ⟨h.os, h.tape, h.output, h.size, h.block⟩
theorem srt_add {wr w3 Z : World} {lo s : Nat} {va : Value} {ds : List Bool} {dist : Bool} {L : List KR} {A : Option Addr} {k n k' n' : Int} {t t' : ByteArray} {j : Nat} (h : SorU wr lo s va ds dist L) (hlo : lo ≤ wr.heap.size) (hb : Below wr.heap.size wr w3)
    (he : Eqv Z (w3.alloc (.cells #[.int .u8 k, .int .i64 n, .string t, .int .u8 k', .int .i64 n', .string t', .int .u8 1, .int .i64 (j : Int), .string ⟨#[]⟩] 29))) (hA : ∀ X : World, Below wr.heap.size wr X → RdR X X.heap.size A [(k, n, t), (k', n', t')]) (hg : GoodR [(k, n, t), (k', n', t')]) (hj : j ≤ 1000) (hd : ds.length = 2) (hL : L.length < 65536) (ca cb : Nat) :
    Calls Try.prog 10 #[.pointer (some ⟨s, 0, none⟩), .slice A 2 ca, .slice (some ⟨w3.heap.size, 0, none⟩) 3 cb] Z fun e w' => e = .returned (.int .i64 0) ∧ ∃ va', SorU w' lo s va' ds dist (L ++ [(keyL [(k, n, t), (k', n', t')] ds, putL (row3 ((k, n, t), (k', n', t')) j))]) ∧ Below lo wr w' := by
  have hZ : Below wr.heap.size wr Z := he.below (hb.alloc hb.size _)
  have hs := h.on hZ
  refine (Add_u hs (Nat.le_trans hlo hZ.size) A ca [(k, n, t), (k', n', t')] _ cb (row3 ((k, n, t), (k', n', t')) j) (hA Z hZ) (rd_three he) (keyOk_good _ (by show 2 ≤ 150; omega) hg) (rowOk_good _ (by show 3 ≤ 150; omega) (good_row3 hg j hj)) hd hL 2 3 rfl rfl).mono ?_
  rintro e w' ⟨rfl, va', hs2, _, hb2⟩
  exact ⟨rfl, va', hs2, (hZ.mono hlo).trans (hb2.below (Nat.le_trans hlo hZ.size) fun i hi => (hs.lo i hi).1)⟩
def SdRel1 (w : World) (s : Nat) (ds : List Bool) (dist : Bool) (ps : List Pr) (v : Value) (wr : World) : Prop :=
  ∃ (j : Nat) (va : Value), j ≤ ps.length ∧ v = .int .i64 (j : Int) ∧ SorU wr w.heap.size s va ds dist (krs ds (ps.take j) 0) ∧ Below w.heap.size w wr
def SdRel2 (w : World) (s : Nat) (Rs : List (List Trip)) (v11 v12 : Value) (wr : World) : Prop :=
  ∃ (j : Nat) (L : List Rv), j ≤ Rs.length ∧ v12 = .int .i64 (j : Int) ∧ L.map Rv.r = Rs.take j ∧ OwnRR wr (s + 1) v11 L ∧ s < wr.heap.size ∧ SorS wr w.heap.size s (Rs.map putL) j ∧ Below w.heap.size w wr
set_option maxRecDepth 100000 in
set_option maxHeartbeats 4000000 in
theorem sorted7 (A : Option Addr) (n c : Nat) (ps : List Pr) (d0 d1 dist : Bool) (w : World) (hn : n = ps.length) (hR : RdR w w.heap.size A (flat ps)) (hg : GoodQ ps) (Rs : List (List Trip)) (hRs : (left dist (krs [d0, d1] ps 0)).map Prod.snd = Rs.map putL) (hgr : ∀ r ∈ Rs, GoodR r ∧ r.length = 3) :
    Calls Try.prog 27 #[.slice A n c, .agg #[.bool d0, .bool d1], .bool dist] w fun e w' => ∃ v L, e = .returned (.tuple #[v, .bool true]) ∧ L.map Rv.r = Rs ∧ OwnRR w' w.heap.size v L ∧ Below w.heap.size w w' := by
  have HR := Lib.hid hR
  have HG := Lib.hid hg
  have HN := Lib.hid hn
  have HRS := Lib.hid hRs
  have HGR := Lib.hid hgr
  have hn2 : n ≤ 120 := by rw [hn]; exact hg.1
  have HF0 := Lib.hid (show RdF (w.alloc (.cells #[.bool d0, .bool d1] 57)) (w.alloc (.cells #[.bool d0, .bool d1] 57)).heap.size (some ⟨w.heap.size, 0, none⟩) [d0, d1] from fun _ => ⟨_, rfl, by simp, fun j d hj => by
    rw [add0]
    match j, hj with
    | 0, hj =>
      obtain rfl : d0 = d := by simpa using hj
      simp [go_sem]
    | 1, hj =>
      obtain rfl : d1 = d := by simpa using hj
      simp [go_sem]
    | j + 2, hj => simp at hj⟩)
  clear hR hg hn hRs hgr
  go_enter Try.func27, Try.ntmps27
  go_wp2_with fail
  refine (New_u _ _ _ [d0, d1] dist _ rfl HF0.out (by simp) (fun h => by cases h)).mono ?_
  rintro e w1 ⟨s, rfl, hs, hb⟩
  have hal : Below w.heap.size w (w.alloc (.cells #[.bool d0, .bool d1] 57)) := (Below.refl _ _).alloc (Nat.le_refl _) _
  have HS := Lib.hid (hs.mono (show w.heap.size ≤ _ by simp))
  have HB := Lib.hid (hal.trans (hb.mono (by simp)))
  clear hs hb hal
  go_wp2_with fail
  go_loopw [10] (fun v wr => SdRel1 w s [d0, d1] dist ps v wr) (fun v _ => n - (intOf v).toNat)
  case atStart => exact ⟨0, _, Nat.zero_le _, rfl, HS.out, HB.out⟩
  case round =>
    obtain ⟨j, va, hj, rfl, hs, hb⟩ := hrel
    have hnl := HN.out
    have hj1 : j < n → j + 1 ≤ ps.length := by omega
    by_cases hlt : j < n
    · obtain ⟨⟨⟨kk, nn, tt⟩, ⟨kk', nn', tt'⟩⟩, hp⟩ : ∃ p, ps[j]? = some p := ⟨ps[j]'(by omega), List.getElem?_eq_getElem _⟩
      have hR2 := HR.out.below hb
      obtain ⟨ad, rfl, hal, _⟩ := hR2 (by rw [flat_length]; omega)
      obtain ⟨⟨x0, x1, x2⟩, y0, y1, y2⟩ := pair_at hR2 j _ hp
      have q1 : (j : Int) < (n : Int) := by omega
      have q2 : (0 : Int) ≤ (j : Int) := by omega
      have HS2 := Lib.hid hs
      have HB2 := Lib.hid hb
      have HP := Lib.hid hp
      have HGP := Lib.hid (HG.out.2 _ (List.mem_of_getElem? hp))
      have HLL := Lib.hid (show (krs [d0, d1] (ps.take j) 0).length < 65536 by rw [krs_length, List.length_take]; omega)
      clear hs hb hp hnl hR2
      have HSS := Lib.hid (show ∀ X : World, Below w.heap.size wr X → X.cell? (ad.add (j * 6)) = some (.int .u8 kk) ∧ X.cell? ⟨(ad.add (j * 6)).block, (ad.add (j * 6)).off + 1, none⟩ = some (.int .i64 nn) ∧ X.cell? ⟨(ad.add (j * 6)).block, (ad.add (j * 6)).off + 2, none⟩ = some (.string tt) ∧ X.cell? ⟨(ad.add (j * 6)).block, (ad.add (j * 6)).off + 3, none⟩ = some (.int .u8 kk') ∧ X.cell? ⟨(ad.add (j * 6)).block, (ad.add (j * 6)).off + 3 + 1, none⟩ = some (.int .i64 nn') ∧ X.cell? ⟨(ad.add (j * 6)).block, (ad.add (j * 6)).off + 3 + 2, none⟩ = some (.string tt') from fun X hX =>
        have hq : (ad.add (j * 6)).block < w.heap.size := by rw [blockAdd]; exact hal
        ⟨(hX.cell hq).trans x0, (hX.cell (p := ⟨_, _, none⟩) hq).trans x1, (hX.cell (p := ⟨_, _, none⟩) hq).trans x2, (hX.cell (p := ⟨_, _, none⟩) hq).trans y0, (hX.cell (p := ⟨_, _, none⟩) hq).trans y1, (hX.cell (p := ⟨_, _, none⟩) hq).trans y2⟩)
      have HRP := Lib.hid (show ∀ X : World, Below wr.heap.size wr X → RdR X X.heap.size (some (ad.add (j * 6))) [(kk, nn, tt), (kk', nn', tt')] from fun X hX => by
        have h1 := pair_rd (HR.out.below (HB2.out.trans (hX.mono HB2.out.size))) j _ HP.out
        intro hp
        obtain ⟨x, e, hx, hc⟩ := h1 hp
        exact ⟨x, e, Nat.lt_of_lt_of_le hx (Nat.le_trans HB2.out.size hX.size), hc⟩)
      have HBX := Lib.hid (Below.refl wr.heap.size wr)
      have HR3 := Lib.hid (rowOk_good _ (by show 3 ≤ 150; omega) (good_row3 HGP.out j (by omega)))
      have HBY := Lib.hid (Below.refl w.heap.size wr)
      clear x0 x1 x2 y0 y1 y2 hal
      go_wp2_with fail
      go_region_held3 (fun X => X.cell? (ad.add (j * 6)) = some (.int .u8 kk) ∧ X.cell? ⟨(ad.add (j * 6)).block, (ad.add (j * 6)).off + 1, none⟩ = some (.int .i64 nn) ∧ X.cell? ⟨(ad.add (j * 6)).block, (ad.add (j * 6)).off + 2, none⟩ = some (.string tt) ∧ X.cell? ⟨(ad.add (j * 6)).block, (ad.add (j * 6)).off + 3, none⟩ = some (.int .u8 kk') ∧ X.cell? ⟨(ad.add (j * 6)).block, (ad.add (j * 6)).off + 3 + 1, none⟩ = some (.int .i64 nn') ∧ X.cell? ⟨(ad.add (j * 6)).block, (ad.add (j * 6)).off + 3 + 2, none⟩ = some (.string tt'))
        (first | exact HSS.out _ HBY.out | exact HSS.out _ (drewR HBY.out) | exact HSS.out _ (HBY.out.alloc (Nat.le_trans HB2.out.size HBX.out.size) _) | exact HSS.out _ (drewR (HBY.out.alloc (Nat.le_trans HB2.out.size HBX.out.size) _)))
        (first
          | (go_at_call 9; refine (num7_any _ _).mono ?_; rintro e w3 ⟨rfl, hb3⟩; have HBX := Lib.hid (show Below wr.heap.size wr w3 from ⟨hb3.os, hb3.tape, hb3.output, hb3.size, hb3.block⟩); have HBY := Lib.hid (HBX.out.mono HB2.out.size); clear hb3)
          | (go_at_call 10; refine (srt_add (j := j) HS2.out HB2.out.size HBX.out (by exact ⟨rfl, rfl, rfl, rfl⟩) HRP.out HGP.out (by omega) rfl HLL.out _ _).mono ?_; rintro e w4 ⟨rfl, va', hs4, hb4⟩; have HS4 := Lib.hid hs4; have HB4 := Lib.hid hb4; have HBY := Lib.hid hb4; clear hs4 hb4))
      have hkr : krs [d0, d1] (ps.take (j + 1)) 0 = krs [d0, d1] (ps.take j) 0 ++ [(keyL [(kk, nn, tt), (kk', nn', tt')] [d0, d1], putL (row3 ((kk, nn, tt), (kk', nn', tt')) j))] := by
        rw [List.take_add_one, HP.out, Option.toList, krs_snoc, List.length_take, Nat.min_eq_left hj, Nat.zero_add]
      have hs5 := HS4.out
      rw [← hkr] at hs5
      go_wp2_with fail
      exact ⟨⟨j + 1, _, hj1 hlt, rfl, hs5, HB2.out.trans HB4.out⟩, by simp [intOf]; omega⟩
    · have hjn : j = ps.length := by omega
      rw [hjn, List.take_length] at hs
      have q1 : ¬ (j : Int) < (n : Int) := by omega
      have hwl := hb.size
      have hsl := hs.lo s (.inl rfl)
      have HS2 := Lib.hid hs
      have HB2 := Lib.hid hb
      have hlr : Rs.length ≤ n := by
        have h1 := congrArg List.length HRS.out
        rw [List.length_map, List.length_map] at h1
        have h2 := left_length dist (krs [d0, d1] ps 0)
        rw [krs_length] at h2
        omega
      clear hs hb
      go_wp2_with fail
      refine (Sort_u HS2.out hwl (by rw [krs_length]; omega)).mono ?_
      rintro e w2 ⟨rfl, hs4, hb4⟩
      rw [HRS.out] at hs4
      have HS4 := Lib.hid hs4
      have HB4 := Lib.hid (HB2.out.trans (hb4.below hwl fun i hi => by rw [hi]; exact hsl.1))
      have HSL := Lib.hid (Nat.lt_of_lt_of_le hsl.2 hb4.size)
      clear hs4 hb4
      go_wp2_with fail
      go_loopw [11, 12] (fun v i wr => SdRel2 w s Rs v i wr) (fun _ i _ => n + 1 - (intOf i).toNat)
      case atStart => exact ⟨0, [], Nat.zero_le _, rfl, by simp, OwnRR.nil _ _, HSL.out, HS4.out, HB4.out⟩
      case round =>
        obtain ⟨i, L, hi, rfl, hL, ho, hs, hrs, hb⟩ := hrel
        have q2 : (i : Int) ≤ (n : Int) := by omega
        have HO := Lib.hid ho
        have HS5 := Lib.hid hrs
        have HB5 := Lib.hid hb
        have HL := Lib.hid hL
        clear ho hrs hb hL
        have hrl : i < Rs.length → i + 1 ≤ Rs.length := id
        go_wp2_with fail
        by_cases hil : i < Rs.length
        · obtain ⟨r, hri⟩ : ∃ r, Rs[i]? = some r := ⟨_, List.getElem?_eq_getElem hil⟩
          obtain ⟨hgr, h3⟩ := HGR.out r (List.mem_of_getElem? hri)
          obtain ⟨t1, t2, t3, rfl⟩ : ∃ t1 t2 t3, r = [t1, t2, t3] := by
            match r, h3 with
            | [t1, t2, t3], _ => exact ⟨t1, t2, t3, rfl⟩
          refine (Next_s HS5.out (putL [t1, t2, t3]) (by rw [List.getElem?_map, hri]; rfl) [t1, t2, t3] (getN_good _ (by show 3 ≤ 150; omega) hgr) (by rw [List.length_map]; omega)).mono ?_
          rintro e w5 ⟨v5, rfl, hv5, hs5, hb5⟩
          obtain ⟨A5, c5, rfl, _, _, _⟩ := hv5.form
          have HS6 := Lib.hid hs5
          have HSL6 := Lib.hid (Nat.lt_of_lt_of_le hs hb5.size)
          have HO6 := Lib.hid (HO.out.but hb5 (fun k hk _ e => by subst e; omega))
          have HV6 := Lib.hid (show OwnR w5 (s + 1) (Rv.v ⟨A5, c5, [t1, t2, t3]⟩) [t1, t2, t3] from ownR_mono hv5 hs)
          have HB6 := Lib.hid (HB5.out.trans (hb5.below HB5.out.size fun k hk => by rw [hk]; exact hsl.1))
          have HL6 := Lib.hid (show (L ++ [(⟨A5, c5, [t1, t2, t3]⟩ : Rv)]).map Rv.r = Rs.take (i + 1) by rw [List.map_append, HL.out, List.take_add_one, hri]; rfl)
          have hLl : L.length ≤ 120 := by
            have h1 := congrArg List.length HL.out
            rw [List.length_map, List.length_take] at h1
            omega
          clear hv5 hs5 hb5
          go_wp2_with (at_builtin; refine wpList_appRR rfl (.tmp 68) (.tmp 70) rfl (s + 1) u11 L rfl HO6.out ⟨A5, c5, [t1, t2, t3]⟩ HV6.out rfl (by omega) HSL6.out ?_; intro v9 w9 ho9 hb9; have HO9 := Lib.hid ho9; have HB9 := Lib.hid hb9; clear ho9 hb9)
          have hsz := HB9.out.size
          have hs9 := HS6.out.but HB9.out HO6.out.far (fun e => by have := (HO6.out.1.lt s e).1; omega)
          have hb9 := HB6.out.trans (HB9.out.below HB6.out.size fun k hk => by have := (HO6.out.1.lt k hk).1; have := hsl.1; omega)
          exact ⟨⟨i + 1, _, hrl hil, rfl, HL6.out, HO9.out, Nat.lt_of_lt_of_le HSL6.out hsz, hs9, hb9⟩, by simp [intOf]; omega⟩
        · have hiR : i = Rs.length := by omega
          refine (Next_s_end HS5.out (by rw [List.length_map]; omega) (by omega)).mono ?_
          rintro e w5 ⟨rfl, hs5, hb5⟩
          have HS6 := Lib.hid hs5
          have HB6 := Lib.hid (HB5.out.trans (hb5.mono HB5.out.size))
          have HO6 := Lib.hid (HO.out.on hb5)
          clear hs5 hb5
          have hLl : L.length = Rs.length := by
            have h1 := congrArg List.length HL.out
            rw [List.length_map, List.length_take] at h1
            omega
          obtain ⟨A6, c6, rfl⟩ := HO6.out.form
          have hmap : L.map Rv.r = Rs := by rw [HL.out, hiR, List.take_length]
          rw [hLl] at *
          go_wp2_with fail
          refine (Len_s HS6.out (by rw [List.length_map]; omega)).mono ?_
          rintro e w6 ⟨rfl, hb6⟩
          rw [List.length_map]
          have HO7 := Lib.hid (HO6.out.on hb6)
          have HB7 := Lib.hid (HB6.out.trans (hb6.mono HB6.out.size))
          clear hb6
          go_wp2_with fail
          refine bodyPost_ret (results_tmp2 rfl _ _ _) rfl ?_
          exact ⟨_, L, rfl, hmap, HO7.out.mono (Nat.le_succ_of_le hsl.1), HB7.out⟩
end Go.Proofs.Ytbeaiaepbmldbaa
