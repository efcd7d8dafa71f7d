/-
  The document's own Unkey (layer 3, record). Conditions: at most 3000 bytes, at most 1000 flags.
-/
import Derived.Test.YtcpmfagnnidodaaRRefN
import Derived.Test.YtcpmfagnnidodaaRRefH
import Derived.Test.YtcpmfagnnidodaaRRefK
import Derived.Test.YtcpmfagnnidodaaRRefP
import Derived.StillTailTactics
import Derived.IntWalk
import Derived.Deep.RegionHeld3
namespace Go.Proofs.Ytcpmfagnnidodaa
open Go.ChangeShapes Go.WideShapes Go.ChangeAt Go.RowKit
set_option linter.unusedVariables false

set_option maxRecDepth 100000 in
/-- append of values onto a slice of the call's own: every other block stays -/
theorem wpList_appRG {w : World} {ops : Array Oper} {rest : List Oper} {o : Oper} {a : Act} {Q : Exit → Act → World → Prop} (hgd : o.guard = none) (s x : Operand)
    (ho : o.op = .call { callee := .builtin .append, args := #[s, x], argTypes := #[46, 46] })
    (base : Nat) (v : Value) (vs : List Trip) (hs : a.eval s = v) (hown : OwnR w base v vs) (ad : Addr) (c : Nat) (us : List Trip) (n : Nat) (hn : n = us.length) (hx : a.eval x = .slice (some ad) n c) (hr : ∀ j u, (cellsL us)[j]? = some u → w.cell? (ad.add j) = some u)
    (hlen : vs.length + us.length ≤ 1099511627776) (hbase : base ≤ w.heap.size)
    (h : ∀ v' w', OwnR w' base v' (vs ++ us) → w.grownBy w' v.ownBlock → wpList Try.prog ops Q rest (a.put o.dst v') w') : wpList Try.prog ops Q (o :: rest) a w := by
  subst hn
  obtain ⟨i0, hi, hz0, hz1, hz2⟩ := info_parts Try.info_V
  refine wpList_append_own w hgd s x 46 ho base 44 i0 _ 3 32 Try.underlying46 hi hz0 hz1 hz2 rfl (by decide) v vs.length (cellsL vs) hs hown ad us.length c (cellsL us) hx (cellsL_length us) hr (cellsL_one us) (by simp only [maxLen]; omega) (by omega) hbase ?_
  intro v' w' h1 h2 _
  refine h v' w' ?_ h2
  unfold OwnR
  rw [List.length_append, cellsL_append]
  exact h1
/-- a box's cells and a flag, in every world from there on -/
def BoxF (B : Nat) (k n : Int) (s : ByteArray) (f : Addr) (d : Bool) (X : World) : Prop :=
  X.cell? ⟨B, 0, none⟩ = some (.int .u8 k) ∧ X.cell? ⟨B, 1, none⟩ = some (.int .i64 n) ∧ X.cell? ⟨B, 2, none⟩ = some (.string s) ∧ X.cell? f = some (.bool d)
theorem BoxF.on {B : Nat} {k n : Int} {s : ByteArray} {f : Addr} {d : Bool} {W X : World} (h : BoxF B k n s f d W) (hB : B < W.heap.size) (hf : f.block < W.heap.size) (hb : Below W.heap.size W X) : BoxF B k n s f d X :=
  ⟨(hb.cell hB).trans h.1, (hb.cell hB).trans h.2.1, (hb.cell hB).trans h.2.2.1, (hb.cell hf).trans h.2.2.2⟩
theorem BoxF.grown {B : Nat} {k n : Int} {s : ByteArray} {f : Addr} {d : Bool} {W X : World} {v : Value} (h : BoxF B k n s f d W) (hB : B < W.heap.size) (hf : f.block < W.heap.size) (hg : W.grownBy X v.ownBlock) (h1 : v.ownBlock ≠ some B) (h2 : v.ownBlock ≠ some f.block) : BoxF B k n s f d X := by
  have e1 : ∀ j, X.cell? ⟨B, j, none⟩ = W.cell? ⟨B, j, none⟩ := fun j => World.cell?_of_block (hg.block _ hB fun e => h1 e.symm)
  have e2 : X.cell? f = W.cell? f := World.cell?_of_block (hg.block _ hf fun e => h2 e.symm)
  exact ⟨(e1 0).trans h.1, (e1 1).trans h.2.1, (e1 2).trans h.2.2.1, e2.trans h.2.2.2⟩
theorem row_cellsAt (X : World) (g : Nat) (hg : g = X.heap.size) (k n : Int) (s : ByteArray) : ∀ j u, (cellsL [(k, n, s)])[j]? = some u → (X.alloc (cell3 k n s)).cell? ((⟨g, 0, none⟩ : Addr).add j) = some u := by
  subst hg
  exact row_cells1 X k n s
def goodK (t : Trip) : Prop := Rt t.1 t.2.1 t.2.2 ∧ In64 t.2.1 ∧ t.2.2.size ≤ 3000
def C4 (b : List UInt8) (ds : List Bool) (rs : List Trip) (p : Nat) : Prop := C3 b ds rs p ∧ p = (keyL rs (ds.take rs.length)).length
theorem C4_zero (b : List UInt8) (ds : List Bool) : C4 b ds [] 0 := ⟨C3_zero b ds, by simp [keyL]⟩
theorem C4_step {b : List UInt8} {ds : List Bool} {rs : List Trip} {p : Nat} {d : Bool} {k n : Int} {s : ByteArray} (h : C4 b ds rs p) (hd : ds[rs.length]? = some d) (hv : refKVal (turnL (turnU d) (b.drop p)) = (k, n, s)) : C4 b ds (rs ++ [(k, n, s)]) (p + (turnL (turnU d) (partL k n s)).length) := by
  refine ⟨C3_step h.1 hd hv, ?_⟩
  have hlt : rs.length < ds.length := (List.getElem?_eq_some_iff.1 hd).1
  have hl : (rs ++ [((k, n, s) : Trip)]).length = rs.length + 1 := by simp
  rw [hl, List.take_add_one, hd]
  show _ = (keyL (rs ++ [(k, n, s)]) (ds.take rs.length ++ [d])).length
  rw [keyL_append _ _ _ _ (by rw [List.length_take]; omega), List.length_append, ← h.2]
  simp [keyL]
/-- the loop over the flags -/
def UnkRelR (b : List UInt8) (ds : List Bool) (w : World) (row p i : Value) (wr : World) : Prop :=
  ∃ (rs : List Trip) (q : Nat), rs.length ≤ ds.length ∧ i = .int .i64 rs.length ∧ p = .int .i64 q ∧ q ≤ b.length + 10000 ∧ C4 b ds rs q ∧ (∀ t ∈ rs, goodK t) ∧ OwnR wr w.heap.size row rs ∧ Below w.heap.size w wr
/-- the loop over what is left -/
def LeftRel (b : List UInt8) (d : Bool) (q : Nat) (w : World) (x k : Value) (wr : World) : Prop :=
  ∃ j : Nat, j ≤ b.length - q ∧ k = .int .i64 ((q + j : Nat) : Int) ∧ Own wr w.heap.size x (turnL (turnU d) ((b.drop q).take j)) ∧ Below w.heap.size w wr
theorem left_take {b : List UInt8} {d : Bool} {q j : Nat} {u : UInt8} (h : b[q + j]? = some u) : turnL (turnU d) ((b.drop q).take (j + 1)) = turnL (turnU d) ((b.drop q).take j) ++ [u ^^^ turnU d] := by
  rw [List.take_add_one, List.getElem?_drop, h, turnL_append]
  rfl

theorem part_len3 (k n : Int) (s : ByteArray) (h : s.size ≤ 3000) : (partL k n s).length ≤ 6010 := by
  have he := escL_len s.data.toList
  have hs : s.data.toList.length ≤ 3000 := by rw [Array.length_toList]; exact h
  unfold partL strN
  split
  · rw [List.length_cons, beN_length]; omega
  · split
    · simp; omega
    · split
      · simp; omega
      · simp

theorem xor_min (m : Int) (h : In64 m) : bits .xor .i64 m (-9223372036854775808) = xminR m := by
  obtain ⟨h1, h2⟩ := h
  show IntKind.i64.wrap ((BitVec.ofInt 64 m ^^^ BitVec.ofInt 64 (-9223372036854775808)).toNat : Int) = _
  have e : (BitVec.ofInt 64 (-9223372036854775808)).toNat = 9223372036854775808 := by decide
  rw [BitVec.toNat_xor, e, BitVec.toNat_ofInt]
  unfold xminR
  by_cases h0 : m < 0
  · obtain ⟨r, hr⟩ : ∃ r : Nat, m + 9223372036854775808 = r := ⟨(m + 9223372036854775808).toNat, by omega⟩
    have hw : (m % ((2 ^ 64 : Nat) : Int)).toNat = 9223372036854775808 + r := by
      have : ((2 ^ 64 : Nat) : Int) = 18446744073709551616 := by decide
      rw [this]
      omega
    rw [hw, xor63b r (by omega), if_pos h0, hr]
    exact IntWalk.i64_in _ (by omega)
  · obtain ⟨r, hr⟩ : ∃ r : Nat, m = r := ⟨m.toNat, by omega⟩
    have hw : (m % ((2 ^ 64 : Nat) : Int)).toNat = r := by
      have : ((2 ^ 64 : Nat) : Int) = 18446744073709551616 := by decide
      rw [this]
      omega
    rw [hw, xor63 r (by omega), if_neg h0, hr]
    rw [show IntKind.i64.wrap ((9223372036854775808 + r : Nat) : Int) = (((9223372036854775808 + r : Nat) : Int) + 9223372036854775808) % 18446744073709551616 - 9223372036854775808 by simp [IntKind.wrap, IntKind.bits, IntKind.signed]; omega]
    omega
/-- the loop over the bytes of a number -/
def NumRelK (l : List UInt8) (w : World) (i : Value) (wr : World) : Prop :=
  ∃ j : Nat, j ≤ 8 ∧ i = .int .i64 ((1 + j : Nat) : Int) ∧ Below w.heap.size w wr ∧ w.heap.size < wr.heap.size ∧ wr.cell? ⟨w.heap.size, 0, none⟩ = some (.int .u8 1) ∧ wr.cell? ⟨w.heap.size, 1, none⟩ = some (.int .i64 ((l.take j).foldl stepR 0)) ∧ wr.cell? ⟨w.heap.size, 2, none⟩ = some (.string ⟨#[]⟩) ∧ wr.frozen? ⟨w.heap.size, 1, none⟩ = false

/-- the loop over the bytes of a text -/
def TxtRel (l : List UInt8) (wb : World) (s i : Value) (wr : World) : Prop :=
  ∃ (xs : List UInt8) (j : Nat), j ≤ l.length ∧ i = .int .i64 ((1 + j : Nat) : Int) ∧ xs.length ≤ j ∧ unR l = xs ++ unR (l.drop j) ∧ Own wr wb.heap.size s xs ∧ Below wb.heap.size wb wr
theorem unR_short (l : List UInt8) (h : l.length ≤ 1) : unR l = [] := by
  rcases l with _ | ⟨c, _ | ⟨d, l⟩⟩
  · rfl
  · rfl
  · simp at h
theorem unR_end (a b : UInt8) (l : List UInt8) (ha : a.toNat = 0) (hb : b.toNat = 0) : unR (a :: b :: l) = [] := by rw [unR, if_pos ha, if_pos hb]
theorem unR_zero (a b : UInt8) (l : List UInt8) (ha : a.toNat = 0) (hb : ¬ b.toNat = 0) : unR (a :: b :: l) = a :: unR l := by
  rw [unR, if_pos ha, if_neg hb, show a = 0 from UInt8.toNat_inj.1 ha]
theorem unR_one (a b : UInt8) (l : List UInt8) (ha : ¬ a.toNat = 0) : unR (a :: b :: l) = a :: unR (b :: l) := by rw [unR, if_neg ha]
theorem eq_zero_of {a : UInt8} (h : a.toNat = 0) : ((a.toNat : Int) == 0) = true := by simp [h]
theorem ne_zero_of {a : UInt8} (h : ¬ a.toNat = 0) : ((a.toNat : Int) == 0) = false := by
  have : ¬ (a.toNat : Int) = 0 := by omega
  simpa using this

set_option maxRecDepth 100000 in
set_option maxHeartbeats 4000000 in
theorem refUnkey_any (A : Option Addr) (cap : Nat) (b : List UInt8) (F : Option Addr) (fcap : Nat) (ds : List Bool) (w : World) (hR : Rd w w.heap.size A b) (hF : RdF w w.heap.size F ds) (hb : b.length ≤ 3000) (hds : ds.length ≤ 1000) :
    Calls Try.prog 35 #[.slice A b.length cap, .slice F ds.length fcap] w fun e w' => UnkPost w (unkN ds b) e w' := by
  by_cases h200 : 200 < ds.length
  · have t1 : decide ((200 : Int) < ds.length) = true := decide_eq_true (by omega)
    have HN := Lib.hid (show unkN ds b = none by unfold unkN; rw [if_neg (by omega)])
    go_enter Try.func35, Try.ntmps35
    go_wp2_with fail
    go_ret2
    rw [HN.out]
    exact ⟨rfl, Below.refl _ _⟩
  · have t1 : decide ((200 : Int) < ds.length) = false := decide_eq_false (by omega)
    have hd200 : ds.length ≤ 200 := by omega
    have HZ := Lib.hid (C4_zero b ds)
    go_enter Try.func35, Try.ntmps35
    go_wp2_with fail
    go_loopw [6, 7, 8] (fun row p i wr => UnkRelR b ds w row p i wr) (fun _ _ i _ => ds.length - (intOf i).toNat)
    case atStart => exact ⟨[], 0, by simp, rfl, rfl, by omega, HZ.out, by simp, World.ownsRow_nil _ _ _ _, Below.refl _ _⟩
    case round =>
      obtain ⟨rs, q, hrd, rfl, rfl, hq, hC, hgood, ho, hbw⟩ := hrel
      have hsw := hbw.size
      by_cases hlt : rs.length < ds.length
      · have hget2 : ds[rs.length]? = some ds[rs.length] := List.getElem?_eq_getElem hlt
        obtain ⟨ad2, rfl, hal2, hcs2⟩ := (hF.below hbw) (by omega)
        generalize ds[rs.length] = d at *
        have hkeep : ∀ X : World, Below w.heap.size w X → X.cell? (ad2.add rs.length) = some (.bool d) := by
          intro X h
          obtain ⟨ad'', e, _, hc'⟩ := (hF.below h) (by omega)
          injection e with e
          subst e
          exact hc' _ d hget2
        have HK := Lib.hid hkeep
        have c3 := hcs2 _ d hget2
        have hki2 : (rs.length : Int) < ds.length := by omega
        have hrs : rs.length ≤ 200 := by omega
        have HST := Lib.hid (fun k n s => C4_step (k := k) (n := n) (s := s) hC hget2)
        have HBAD := Lib.hid (fun h => noneK_of (C3_bad hC.1 hget2 h))
        have HO := Lib.hid ho
        have HGD := Lib.hid hgood
        have HBW := Lib.hid hbw
        have HRW := Lib.hid (show Rd wr wr.heap.size A b from (hR.below hbw).more hsw)
        obtain ⟨A12, c12, rfl, _, _, _⟩ := OwnR.form ho
        clear hkeep hget2 hcs2 hC hgood ho hbw
        go_wp2_with fail
        obtain ⟨wo, rfl⟩ : ∃ wo : World, wo = wr := ⟨_, rfl⟩
        go_loopw [9, 10] (fun x k wr => LeftRel b d q wo x k wr) (fun _ k _ => b.length + 20000 - (intOf k).toNat)
        case atStart => exact ⟨0, by omega, rfl, World.ownsRow_nil _ _ _ _, Below.refl _ _⟩
        case round =>
          obtain ⟨j, hj, rfl, hx, hbx⟩ := hrel
          have hsx := hbx.size
          have hall := HBW.out.trans (hbx.mono hsw)
          have c4 := HK.out wr hall
          have HALL := Lib.hid hall
          clear hall c3
          by_cases hjl : q + j < b.length
          · obtain ⟨ad, uj, rfl, _, hgetj, hcellj⟩ := (HRW.out.below hbx).cell hjl
            unfold b8 at hcellj
            have hul := uj.toNat_lt
            have HT := Lib.hid (left_take (d := d) hgetj)
            have hxl : (turnL (turnU d) ((b.drop q).take j)).length ≤ 3000 := by rw [turnL_length, List.length_take, List.length_drop]; omega
            generalize turnL (turnU d) ((b.drop q).take j) = xs at *
            have HX := Lib.hid hx
            obtain ⟨A9, c9, rfl, _, _, _⟩ := hx.form
            have hji : ((q + j : Nat) : Int) < b.length := by omega
            have HBX := Lib.hid hbx
            clear hgetj hx hbx
            cases d
            · have HU := Lib.hid (show (uj.toNat : Int) = ((uj ^^^ turnU false).toNat : Int) by simp [turnU])
              go_wp2_with (at_builtin; refine wpList_app1 rfl (.tmp 45) (.tmp 50) rfl wo.heap.size (.slice A9 xs.length c9) xs rfl HX.out _ (uj ^^^ turnU false) HU.out rfl (by omega) (by omega) ?_; intro v1 w1 ho1 hb1; have HO1 := Lib.hid ho1; have HB1 := Lib.hid hb1; clear ho1 hb1)
              go_roundw
              case rel => exact ⟨j + 1, by omega, by go_num, by rw [HT.out]; exact HO1.out, HBX.out.trans HB1.out⟩
              case measure => simp [intOf]; omega
            · have HU := Lib.hid (show (255 : Int) - (uj.toNat : Int) = ((uj ^^^ turnU true).toNat : Int) from turn255 uj)
              go_wp2_with (at_builtin; refine wpList_app1 rfl (.tmp 37) (.tmp 43) rfl wo.heap.size (.slice A9 xs.length c9) xs rfl HX.out _ (uj ^^^ turnU true) HU.out rfl (by omega) (by omega) ?_; intro v1 w1 ho1 hb1; have HO1 := Lib.hid ho1; have HB1 := Lib.hid hb1; clear ho1 hb1)
              go_roundw
              case rel => exact ⟨j + 1, by omega, by go_num, by rw [HT.out]; exact HO1.out, HBX.out.trans HB1.out⟩
              case measure => simp [intOf]; omega
          · have hjb : j = b.length - q := by omega
            have hxe : turnL (turnU d) ((b.drop q).take j) = turnL (turnU d) (b.drop q) := by
              rw [List.take_of_length_le (by rw [List.length_drop]; omega)]
            rw [hxe] at hx
            have hxl : (turnL (turnU d) (b.drop q)).length ≤ 3000 := by rw [turnL_length, List.length_drop]; omega
            have hqx : q ≤ b.length ∨ (turnL (turnU d) (b.drop q)).length = 0 := by
              rcases Nat.lt_or_ge b.length q with h | h
              · right; rw [turnL_length, List.length_drop]; omega
              · left; exact h
            have hjf : ¬ ((q + j : Nat) : Int) < b.length := by omega
            have hjf2 : decide ((q : Int) + (j : Int) < b.length) = false := decide_eq_false (by omega)
            clear hxe hjb
            generalize turnL (turnU d) (b.drop q) = X at *
            have HX := Lib.hid hx
            have HBX := Lib.hid hbx
            obtain ⟨A9, c9, rfl, _, _, hrx⟩ := hx.form
            have HRX := Lib.hid hrx
            clear hx hbx hrx
            rcases X with _ | ⟨c, l⟩
            · have HN := Lib.hid (HBAD.out (fun c l h => by cases h))
              go_wp2_with fail
              go_ret2
              rw [HN.out]
              exact ⟨rfl, HALL.out.alloc HALL.out.size _⟩
            · have hcl := c.toNat_lt
              obtain ⟨ad9, c0', hA9, hbk9, hget9, hcl9⟩ := HRX.out.cell (show 0 < (c :: l).length by simp)
              have hcl9' : wr.cell? (ad9.add 0) = some (.int .u8 (c.toNat : Int)) := by
                have : c0' = c := by simpa using hget9.symm
                rw [← this]
                exact hcl9
              have haz : ad9.add 0 = ad9 := by simp [Addr.add]
              rw [haz] at hcl9'
              have HC9 := Lib.hid hcl9'
              subst hA9
              clear hcl9 hget9
              have hX9 := fun o => (World.cell?_alloc_lt wr o ad9 hbk9).trans HC9.out
              by_cases hcb : c.toNat < 1 ∨ 4 < c.toNat
              · have HN := Lib.hid (HBAD.out (fun c' l' h => by cases h; omega))
                by_cases hc1 : c.toNat < 1
                · have e1 : decide ((c.toNat : Int) < 1) = true := decide_eq_true (by omega)
                  clear hcb
                  go_wp2_with fail
                  go_ret2
                  rw [HN.out]
                  exact ⟨rfl, HALL.out.alloc HALL.out.size _⟩
                · have e1 : decide ((c.toNat : Int) < 1) = false := decide_eq_false (by omega)
                  have e4 : decide ((4 : Int) < (c.toNat : Int)) = true := decide_eq_true (by omega)
                  clear hcb
                  go_wp2_with fail
                  go_ret2
                  rw [HN.out]
                  exact ⟨rfl, HALL.out.alloc HALL.out.size _⟩
              · have e1 : decide ((c.toNat : Int) < 1) = false := decide_eq_false (by omega)
                have e4 : decide ((4 : Int) < (c.toNat : Int)) = false := decide_eq_false (by omega)
                have hqb : q ≤ b.length := by simp at hqx; exact hqx
                have hc14 : c.toNat = 1 ∨ c.toNat = 2 ∨ c.toNat = 3 ∨ c.toNat = 4 := by omega
                clear hcb hqx hjf hjl hj
                have HLT := Lib.hid (fun g (e : (Value.slice A12 rs.length c12).ownBlock = some g) => (World.ownsRow.lt HO.out g e).2)
                have HGE := Lib.hid (fun g (e : (Value.slice A12 rs.length c12).ownBlock = some g) => (World.ownsRow.lt HO.out g e).1)
                rcases hc14 with hc | hc | hc | hc
                · have HV := Lib.hid (show refKVal (c :: l) = (0, 0, ⟨#[]⟩) by rw [refKVal, if_pos hc])
                  have hX1 : ∀ o, (wr.alloc o).cell? ad9 = some (.int .u8 1) := fun o => by rw [hX9 o, hc]; rfl
                  clear hX9 hcl9' HC9 e1 e4 hc hcl
                  have HOX := Lib.hid (fun (o o2 : Obj) => show OwnR ((wr.alloc o).alloc o2) w.heap.size (.slice A12 rs.length c12) rs from ownR_below HO.out ((HBX.out.alloc hsx o).alloc (by simp; omega) o2))
                  go_wp2_with (at_builtin; refine wpList_appRG rfl (.tmp 145) (.tmp 147) rfl w.heap.size (.slice A12 rs.length c12) rs rfl (HOX.out _ _) ⟨wr.heap.size + 1, 0, none⟩ 1 [(0, 0, ⟨#[]⟩)] 1 rfl rfl (row_cells wr 0 0 ⟨#[]⟩) (by simp; omega) (by have := HALL.out.size; simp; omega) ?_; intro v9 w9 ho9 hg9; have HO9 := Lib.hid ho9; have HG9 := Lib.hid hg9; clear ho9 hg9)
                  have HX1 := Lib.hid (show BoxF wr.heap.size 0 0 ⟨#[]⟩ (ad2.add rs.length) d ((wr.alloc (cell3 0 0 ⟨#[]⟩)).alloc (cell3 0 0 ⟨#[]⟩)) from ⟨by simp [go_sem], by simp [go_sem], by simp [go_sem], HK.out _ ((HALL.out.alloc HALL.out.size _).alloc (by have := HALL.out.size; simp; omega) _)⟩)
                  have HF9 := Lib.hid (HX1.out.grown (by simp; omega) (by rw [blockAdd]; have := HALL.out.size; simp; omega) HG9.out (fun e => by have := HLT.out _ e; omega) (fun e => by rw [blockAdd] at e; have := HGE.out _ e; omega))
                  have HW9 := Lib.hid (show Below w.heap.size w w9 from ((HALL.out.alloc HALL.out.size _).alloc (by have := HALL.out.size; simp; omega) _).grown HG9.out (by have := HALL.out.size; simp; omega) HGE.out)
                  have hz9 : wr.heap.size < w9.heap.size := by have := HG9.out.size; simp at this; omega
                  have HFX := Lib.hid (fun X (h : Below w9.heap.size w9 X) => HF9.out.on hz9 (by rw [blockAdd]; have := HALL.out.size; omega) h)
                  have HP := Lib.hid (fun W => refPart_any 0 0 ⟨#[]⟩ d W (.inl rfl) ⟨by decide, by decide⟩ (by decide))
                  have hml := part_len3 0 0 ⟨#[]⟩ (by decide)
                  have hml2 : (turnL (turnU d) (partL 0 0 ⟨#[]⟩)).length ≤ 6010 := by rw [turnL_length]; exact hml
                  have HSTP := Lib.hid (HST.out 0 0 ⟨#[]⟩ HV.out)
                  clear hml
                  generalize turnL (turnU d) (partL 0 0 ⟨#[]⟩) = m at *
                  go_region_held3 (fun X => X.cell? ⟨wr.heap.size, 0, none⟩ = some (.int .u8 0) ∧ X.cell? ⟨wr.heap.size, 1, none⟩ = some (.int .i64 0) ∧ X.cell? ⟨wr.heap.size, 2, none⟩ = some (.string ⟨#[]⟩) ∧ X.cell? (ad2.add rs.length) = some (.bool d))
                    (first
                      | exact HFX.out _ (Below.refl _ _).drew
                      | exact HFX.out _ ((Below.refl w9.heap.size w9).drew.trans HB7.out))
                    (first
                      | (go_at_call 79; refine (HP.out _).mono ?_; rintro e w7 ⟨v7, rfl, ho7, hb7⟩; obtain ⟨A7, c7, rfl, _, _, _⟩ := ho7.form; have HB7 := Lib.hid hb7; clear hb7 ho7))
                  go_wp2_with fail
                  go_roundw
                  case rel => exact ⟨rs ++ [(0, 0, ⟨#[]⟩)], q + m.length, by simp; omega, by simp, congrArg (Value.int IntKind.i64) (by rw [IntWalk.i64_in _ (by omega)]; omega), by omega, HSTP.out, (by intro t ht; rcases List.mem_append.1 ht with ht | ht; exact HGD.out t ht; (rw [show t = (0, 0, ⟨#[]⟩) by simpa using ht]; exact ⟨.inl ⟨rfl, rfl, rfl⟩, ⟨by decide, by decide⟩, by decide⟩)), ownR_below HO9.out ((Below.refl w9.heap.size w9).drew.trans HB7.out), HW9.out.trans (((Below.refl w9.heap.size w9).drew.trans HB7.out).mono HW9.out.size)⟩
                  case measure => simp [intOf]; omega
                · have hX1 : ∀ o, (wr.alloc o).cell? ad9 = some (.int .u8 2) := fun o => by rw [hX9 o, hc]; rfl
                  by_cases hl8 : l.length < 8
                  · have HN := Lib.hid (HBAD.out (fun c' l' h => by cases h; omega))
                    have e9 : decide ((l.length : Int) + 1 < 9) = true := decide_eq_true (by omega)
                    clear hX9 hcl9' HC9 e1 e4 hc hcl
                    go_wp2_with fail
                    go_ret2
                    rw [HN.out]
                    exact ⟨rfl, HALL.out.alloc HALL.out.size _⟩
                  · have e9 : decide ((l.length : Int) + 1 < 9) = false := decide_eq_false (by omega)
                    have HVF := Lib.hid (show refKVal (c :: l) = (1, numK l, ⟨#[]⟩) by rw [refKVal, if_neg (by omega), if_pos hc])
                    clear hX9 hcl9' HC9 e1 e4 hc hcl
                    go_wp2_with fail
                    obtain ⟨wb, hwb⟩ : ∃ wb, wb = wr.alloc (.cells #[.int .u8 1, .int .i64 0, .string ⟨#[]⟩] 44) := ⟨_, rfl⟩
                    rw [← hwb]
                    obtain ⟨wv, rfl⟩ : ∃ wv : World, wv = wr := ⟨_, rfl⟩
                    have HN0 := Lib.hid (show NumRelK l wv (.int .i64 1) wb by
                      refine ⟨0, by omega, rfl, by rw [hwb]; exact (Below.refl _ _).alloc (Nat.le_refl _) _, by rw [hwb]; simp, ?_, ?_, ?_, ?_⟩
                      · rw [hwb]; simp [go_sem]
                      · rw [hwb]; simp [go_sem]
                      · rw [hwb]; simp [go_sem]
                      · rw [hwb]; simp [go_sem])
                    clear hwb
                    have hlv := HALL.out.size
                    go_loopw [12] (fun i wr => NumRelK l wv i wr) (fun i _ => 9 - (intOf i).toNat)
                    case atStart => exact HN0.out
                    case round =>
                      obtain ⟨j9, hj9, rfl, hbj, hlb, hx0, hx1, hx2, hfz⟩ := hrel
                      have hsj := hbj.size
                      by_cases hjk : j9 < 8
                      · obtain ⟨ad', uj, hade, _, hgetj, hcellj⟩ := (HRX.out.below hbj).cell (show 1 + j9 < (c :: l).length by simp; omega)
                        injection hade with hade
                        subst hade
                        unfold b8 at hcellj
                        have hul := uj.toNat_lt
                        have hgl : l[j9]? = some uj := by rw [Nat.add_comm, List.getElem?_cons_succ] at hgetj; exact hgetj
                        have HSTP := Lib.hid (show (l.take (j9 + 1)).foldl stepR 0 = stepR ((l.take j9).foldl stepR 0) uj by
                          rw [List.take_add_one, hgl, List.foldl_append]
                          rfl)
                        generalize (l.take j9).foldl stepR 0 = m at *
                        have hji : (1 : Int) + (j9 : Int) < 9 := by omega
                        have hji2 : (1 : Int) + (j9 : Int) < (l.length : Int) + 1 := by omega
                        have hx1' : ({ heap := wr.heap, tape := wr.tape, drawn := wr.drawn + 1, os := wr.os, output := wr.output } : World).cell? ⟨wv.heap.size, 1, none⟩ = some (.int .i64 m) := hx1
                        have hcj' : ({ heap := wr.heap, tape := wr.tape, drawn := wr.drawn + 1, os := wr.os, output := wr.output } : World).cell? (ad9.add (1 + j9)) = some (.int .u8 (uj.toNat : Int)) := hcellj
                        clear hgetj hgl
                        go_wp2_with fail
                        have k2 : (0 : Int) ≤ (1 : Int) + (j9 : Int) := by omega
                        have k3 : ((1 : Int) + (j9 : Int)).toNat = 1 + j9 := by omega
                        go_still_tail 10, (by kernel_rfl)
                        clear k2 k3 hx1' hcj'
                        obtain ⟨wd, hwd⟩ : ∃ wd : World, wd = wr.drew := ⟨_, rfl⟩
                        change wpList _ _ _ _ _ wr.drew
                        rw [← hwd]
                        have hbd : Below wv.heap.size wv wd := by rw [hwd]; exact hbj.drew
                        have hy0 : wd.cell? ⟨wv.heap.size, 0, none⟩ = some (.int .u8 1) := by rw [hwd]; exact hx0
                        have hy1 : wd.cell? ⟨wv.heap.size, 1, none⟩ = some (.int .i64 m) := by rw [hwd]; exact hx1
                        have hy2 : wd.cell? ⟨wv.heap.size, 2, none⟩ = some (.string ⟨#[]⟩) := by rw [hwd]; exact hx2
                        have hyf : wd.frozen? ⟨wv.heap.size, 1, none⟩ = false := by rw [hwd]; exact hfz
                        have hyl : wv.heap.size < wd.heap.size := by rw [hwd]; exact hlb
                        clear hwd hx0 hx1 hx2 hfz hbj hlb hsj hcellj
                        go_wp2_with fail
                        go_roundw
                        case rel =>
                          refine ⟨_, _, _, _, _, _, _, _, _, _, _, _, _, _, _, ?_, rfl⟩
                          refine ⟨j9 + 1, by omega, by go_num, hbd.setCell (Nat.le_refl _) _, by simpa using hyl, ?_, ?_, ?_, ?_⟩
                          · rw [World.cell?_setCell_other (h := by simp)]; exact hy0
                          · rw [World.cell?_setCell_same (h := hy1), HSTP.out]; simp only [stepR]
                          · rw [World.cell?_setCell_other (h := by simp)]; exact hy2
                          · rw [World.frozen?_setCell]; exact hyf
                        case measure => simp [intOf]; omega
                      · obtain rfl : j9 = 8 := by omega
                        obtain ⟨N, hN⟩ : ∃ N, N = (l.take 8).foldl stepR 0 := ⟨_, rfl⟩
                        rw [← hN] at hx1
                        have h64 : In64 N := by
                          rw [hN]
                          exact foldR_64 _ _ (by rw [List.length_take]; omega)
                        obtain ⟨M, hM⟩ : ∃ M, M = xminR N := ⟨_, rfl⟩
                        have hxor : bits .xor .i64 N (-9223372036854775808) = M := by rw [hM]; exact xor_min N h64
                        have HV := Lib.hid (show refKVal (c :: l) = (1, M, ⟨#[]⟩) by rw [HVF.out, hM, hN]; rfl)
                        have H64 := Lib.hid (show In64 M by rw [hM]; exact xmin_64 h64)
                        have HBV := Lib.hid hbj
                        have HBW2' := Lib.hid (HALL.out.trans (hbj.mono HALL.out.size))
                        have HY := Lib.hid (And.intro hx0 (And.intro hx1 hx2))
                        have hk4 := HK.out _ HBW2'.out
                        clear hN hM h64
                        have HXW := Lib.hid (show BoxF wv.heap.size 1 M ⟨#[]⟩ (ad2.add rs.length) d (wr.setCell ⟨wv.heap.size, 1, none⟩ (.int .i64 M)) from ⟨by rw [World.cell?_setCell_other (h := by simp)]; exact hx0, by rw [World.cell?_setCell_same (h := hx1)], by rw [World.cell?_setCell_other (h := by simp)]; exact hx2, by rw [World.cell?_setCell_other (h := by intro h; have h2 := congrArg Addr.block h; rw [blockAdd] at h2; have := HALL.out.size; simp only at h2; omega)]; exact hk4⟩)
                        have hzw : wv.heap.size < (wr.setCell ⟨wv.heap.size, 1, none⟩ (.int .i64 M)).heap.size := by simpa using hlb
                        have hlv2 : wv.heap.size < wr.heap.size := hlb
                        have hsj2 := HBV.out.size
                        have HBW2 := Lib.hid (show Below w.heap.size w (wr.setCell ⟨wv.heap.size, 1, none⟩ (.int .i64 M)) from HBW2'.out.setCell (show w.heap.size ≤ wv.heap.size from HALL.out.size) _)
                        have HOW := Lib.hid (fun o => show OwnR ((wr.setCell ⟨wv.heap.size, 1, none⟩ (.int .i64 M)).alloc o) w.heap.size (.slice A12 rs.length c12) rs from ownR_below HO.out (((HBX.out.trans (HBV.out.mono hsx)).setCell (show wo.heap.size ≤ wv.heap.size from hsx) _).alloc (by simp; omega) o))
                        clear hbj hk4
                        go_wp2_with (at_builtin; refine wpList_appRG rfl (.tmp 145) (.tmp 147) rfl w.heap.size (.slice A12 rs.length c12) rs rfl (HOW.out _) ⟨wr.heap.size, 0, none⟩ 1 [(1, M, ⟨#[]⟩)] 1 rfl rfl (row_cellsAt (wr.setCell ⟨wv.heap.size, 1, none⟩ (.int .i64 M)) wr.heap.size (by simp) 1 M ⟨#[]⟩) (by simp; omega) (by have := HBW2.out.size; simp; omega) ?_; intro v9 w9 ho9 hg9; have HO9 := Lib.hid ho9; have HG9 := Lib.hid hg9; clear ho9 hg9)
                        have HX1 := Lib.hid (show BoxF wv.heap.size 1 M ⟨#[]⟩ (ad2.add rs.length) d ((wr.setCell ⟨wv.heap.size, 1, none⟩ (.int .i64 M)).alloc (cell3 1 M ⟨#[]⟩)) from HXW.out.on hzw (by rw [blockAdd]; have := HBV.out.size; have := HALL.out.size; omega) ((Below.refl _ _).alloc (Nat.le_refl _) _))
                        have HF9 := Lib.hid (HX1.out.grown (by simp; omega) (by rw [blockAdd]; have := HALL.out.size; simp; omega) HG9.out (fun e => by have := HLT.out _ e; omega) (fun e => by rw [blockAdd] at e; have := HGE.out _ e; omega))
                        have HW9 := Lib.hid (show Below w.heap.size w w9 from (HBW2.out.alloc HBW2.out.size _).grown HG9.out (by have := HBW2.out.size; simp; omega) HGE.out)
                        have hz9 : wv.heap.size < w9.heap.size := by have := HG9.out.size; simp at this; omega
                        have HFX := Lib.hid (fun X (h : Below w9.heap.size w9 X) => HF9.out.on hz9 (by rw [blockAdd]; have := HALL.out.size; omega) h)
                        have HP := Lib.hid (fun W => refPart_any 1 M ⟨#[]⟩ d W (.inr (.inl rfl)) H64.out (by decide))
                        have hml := part_len3 1 M ⟨#[]⟩ (by decide)
                        have hml2 : (turnL (turnU d) (partL 1 M ⟨#[]⟩)).length ≤ 6010 := by rw [turnL_length]; exact hml
                        have HSTP := Lib.hid (HST.out 1 M ⟨#[]⟩ HV.out)
                        clear hml
                        generalize turnL (turnU d) (partL 1 M ⟨#[]⟩) = m at *
                        go_region_held3 (fun X => X.cell? ⟨wv.heap.size, 0, none⟩ = some (.int .u8 1) ∧ X.cell? ⟨wv.heap.size, 1, none⟩ = some (.int .i64 M) ∧ X.cell? ⟨wv.heap.size, 2, none⟩ = some (.string ⟨#[]⟩) ∧ X.cell? (ad2.add rs.length) = some (.bool d))
                          (first
                            | exact HFX.out _ (Below.refl _ _).drew
                            | exact HFX.out _ ((Below.refl w9.heap.size w9).drew.trans HB7.out))
                          (first
                            | (go_at_call 79; refine (HP.out _).mono ?_; rintro e w7 ⟨v7, rfl, ho7, hb7⟩; obtain ⟨A7, c7, rfl, _, _, _⟩ := ho7.form; have HB7 := Lib.hid hb7; clear hb7 ho7))
                        go_wp2_with fail
                        go_roundw
                        case rel => exact ⟨rs ++ [(1, M, ⟨#[]⟩)], q + m.length, by simp; omega, by simp, congrArg (Value.int IntKind.i64) (by rw [IntWalk.i64_in _ (by omega)]; omega), by omega, HSTP.out, (by intro t ht; rcases List.mem_append.1 ht with ht | ht; exact HGD.out t ht; (rw [show t = (1, M, ⟨#[]⟩) by simpa using ht]; exact ⟨.inr (.inl ⟨rfl, rfl⟩), H64.out, show (⟨#[]⟩ : ByteArray).size ≤ 3000 by decide⟩)), ownR_below HO9.out ((Below.refl w9.heap.size w9).drew.trans HB7.out), HW9.out.trans (((Below.refl w9.heap.size w9).drew.trans HB7.out).mono HW9.out.size)⟩
                        case measure => simp [intOf]; omega
                · have hX1 : ∀ o, (wr.alloc o).cell? ad9 = some (.int .u8 3) := fun o => by rw [hX9 o, hc]; rfl
                  have HVF := Lib.hid (show refKVal (c :: l) = (2, 0, ⟨(unR l).toArray⟩) by rw [refKVal, if_neg (by omega), if_neg (by omega), if_pos hc])
                  clear hX9 hcl9' HC9 e1 e4 hc hcl
                  go_wp2_with fail
                  obtain ⟨wb, hwb⟩ : ∃ wb, wb = wr.alloc (.cells #[.int .u8 2, .int .i64 0, .string ⟨#[]⟩] 44) := ⟨_, rfl⟩
                  rw [← hwb]
                  obtain ⟨wv, rfl⟩ : ∃ wv : World, wv = wr := ⟨_, rfl⟩
                  have HB0 := Lib.hid (show Below wv.heap.size wv wb by rw [hwb]; exact (Below.refl _ _).alloc (Nat.le_refl _) _)
                  have hb1 : wb.heap.size = wv.heap.size + 1 := by rw [hwb]; simp
                  have hx00 : wb.cell? ⟨wv.heap.size, 0, none⟩ = some (.int .u8 2) := by rw [hwb]; simp [go_sem]
                  have hx01 : wb.cell? ⟨wv.heap.size, 1, none⟩ = some (.int .i64 0) := by rw [hwb]; simp [go_sem]
                  have hx02 : wb.cell? ⟨wv.heap.size, 2, none⟩ = some (.string ⟨#[]⟩) := by rw [hwb]; simp [go_sem]
                  have hx0f : wb.frozen? ⟨wv.heap.size, 2, none⟩ = false := by rw [hwb]; simp [go_sem]
                  have HX0 := Lib.hid (And.intro hx00 (And.intro hx01 (And.intro hx02 hx0f)))
                  clear hwb hx00 hx01 hx02 hx0f
                  have hxl0 := hxl
                  have hll : l.length ≤ 2999 := by simp only [List.length_cons] at hxl; omega
                  have hlv := HALL.out.size
                  go_loopw [13, 14] (fun s i wr => TxtRel l wb s i wr) (fun _ i _ => l.length + 2 - (intOf i).toNat)
                  case atStart => exact ⟨[], 0, by omega, rfl, by simp, by simp, World.ownsRow_nil _ _ _ _, Below.refl _ _⟩
                  case round =>
                    obtain ⟨xs, j9, hj9, rfl, hxs, hun, ho9, hbj⟩ := hrel
                    have hsj := hbj.size
                    have HBV := Lib.hid (show Below wv.heap.size wv wr from HB0.out.trans (hbj.mono (by omega)))
                    have HBW2' := Lib.hid (HALL.out.trans (HBV.out.mono HALL.out.size))
                    obtain ⟨y0, y1, y2, yf⟩ := HX0.out
                    have hx0 := (hbj.cell (p := ⟨wv.heap.size, 0, none⟩) (by simp only; omega)).trans y0
                    have hx1 := (hbj.cell (p := ⟨wv.heap.size, 1, none⟩) (by simp only; omega)).trans y1
                    have hx2 := (hbj.cell (p := ⟨wv.heap.size, 2, none⟩) (by simp only; omega)).trans y2
                    have hfz : wr.frozen? ⟨wv.heap.size, 2, none⟩ = false := (hbj.frozen (p := ⟨wv.heap.size, 2, none⟩) (by simp only; omega)).trans yf
                    have hlv2 : wv.heap.size < wr.heap.size := by omega
                    clear y0 y1 y2 yf
                    obtain ⟨As, cs, rfl, _, _, _⟩ := ho9.form
                    by_cases hin : j9 + 1 < l.length
                    · obtain ⟨ad', ua, hade, _, hgeta, hcella⟩ := (HRX.out.below HBV.out).cell (show 1 + j9 < (c :: l).length by simp; omega)
                      injection hade with hade
                      subst hade
                      obtain ⟨ad', ub, hade, _, hgetb, hcellb⟩ := (HRX.out.below HBV.out).cell (show 1 + j9 + 1 < (c :: l).length by simp; omega)
                      injection hade with hade
                      subst hade
                      unfold b8 at hcella hcellb
                      have hula := ua.toNat_lt
                      have hulb := ub.toNat_lt
                      have hga : l[j9]? = some ua := by rw [Nat.add_comm, List.getElem?_cons_succ] at hgeta; exact hgeta
                      have hgb : l[j9 + 1]? = some ub := by rw [show 1 + j9 + 1 = (j9 + 1) + 1 by omega, List.getElem?_cons_succ] at hgetb; exact hgetb
                      have hdr : l.drop j9 = ua :: ub :: l.drop (j9 + 2) := by rw [drop_cons hga, drop_cons hgb]
                      have hdr1 : l.drop (j9 + 1) = ub :: l.drop (j9 + 2) := drop_cons hgb
                      have hji : (1 : Int) + (j9 : Int) + 1 < (l.length : Int) + 1 := by omega
                      have k2b : (0 : Int) ≤ (1 : Int) + (j9 : Int) + 1 := by omega
                      have k3b : ((1 : Int) + (j9 : Int) + 1).toNat = 1 + j9 + 1 := by omega
                      have hcellb2 : wr.cell? ⟨ad9.block, ad9.off + (1 + j9 + 1), none⟩ = some (.int .u8 (ub.toNat : Int)) := by simpa [Addr.add] using hcellb
                      clear hgeta hgetb hga hgb
                      by_cases ha : ua.toNat = 0
                      · have ea := eq_zero_of ha
                        by_cases hb0 : ub.toNat = 0
                        · have eb := eq_zero_of hb0
                          rw [hdr, unR_end ua ub _ ha hb0, List.append_nil] at hun
                          clear hdr hdr1 ha hb0
                          have HSZ := Lib.hid (show (⟨xs.toArray⟩ : ByteArray).size ≤ 3000 by show xs.toArray.size ≤ 3000; rw [List.size_toArray]; simp at hxl0; omega)
                          have hcv := run_str (own_rd ho9) cs
                          have HV := Lib.hid (show refKVal (c :: l) = (2, 0, ⟨xs.toArray⟩) by rw [HVF.out, hun])
                          generalize hS : (⟨xs.toArray⟩ : ByteArray) = S at *
                          clear hS hun ho9 hbj
                          have HS3 : S.size ≤ 3000 := HSZ.out
                          have HS65 := Lib.hid (show S.size ≤ 65536 by omega)
                          have z64 : In64 0 := ⟨by decide, by decide⟩
                          have hk4 := HK.out _ HBW2'.out
                          have HXW := Lib.hid (show BoxF wv.heap.size 2 0 S (ad2.add rs.length) d (wr.setCell ⟨wv.heap.size, 2, none⟩ (.string S)) from ⟨by rw [World.cell?_setCell_other (h := by simp)]; exact hx0, by rw [World.cell?_setCell_other (h := by simp)]; exact hx1, by rw [World.cell?_setCell_same (h := hx2)], by rw [World.cell?_setCell_other (h := by intro h; have h2 := congrArg Addr.block h; rw [blockAdd] at h2; have := HALL.out.size; simp only at h2; omega)]; exact hk4⟩)
                          have hzw : wv.heap.size < (wr.setCell ⟨wv.heap.size, 2, none⟩ (.string S)).heap.size := by simpa using hlv2
                          have hsj2 := HBV.out.size
                          have HBW2 := Lib.hid (show Below w.heap.size w (wr.setCell ⟨wv.heap.size, 2, none⟩ (.string S)) from HBW2'.out.setCell (show w.heap.size ≤ wv.heap.size from HALL.out.size) _)
                          have HOW := Lib.hid (fun o => show OwnR ((wr.setCell ⟨wv.heap.size, 2, none⟩ (.string S)).alloc o) w.heap.size (.slice A12 rs.length c12) rs from ownR_below HO.out (((HBX.out.trans (HBV.out.mono hsx)).setCell (show wo.heap.size ≤ wv.heap.size from hsx) _).alloc (by simp; omega) o))
                          clear hk4
                          go_wp2_with (at_builtin; refine wpList_appRG rfl (.tmp 145) (.tmp 147) rfl w.heap.size (.slice A12 rs.length c12) rs rfl (HOW.out _) ⟨wr.heap.size, 0, none⟩ 1 [(2, 0, S)] 1 rfl rfl (row_cellsAt (wr.setCell ⟨wv.heap.size, 2, none⟩ (.string S)) wr.heap.size (by simp) 2 0 S) (by simp; omega) (by have := HBW2.out.size; simp; omega) ?_; intro v9 w9 ho9 hg9; have HO9 := Lib.hid ho9; have HG9 := Lib.hid hg9; clear ho9 hg9)
                          have HX1 := Lib.hid (show BoxF wv.heap.size 2 0 S (ad2.add rs.length) d ((wr.setCell ⟨wv.heap.size, 2, none⟩ (.string S)).alloc (cell3 2 0 S)) from HXW.out.on hzw (by rw [blockAdd]; have := HBV.out.size; have := HALL.out.size; omega) ((Below.refl _ _).alloc (Nat.le_refl _) _))
                          have HF9 := Lib.hid (HX1.out.grown (by simp; omega) (by rw [blockAdd]; have := HALL.out.size; simp; omega) HG9.out (fun e => by have := HLT.out _ e; omega) (fun e => by rw [blockAdd] at e; have := HGE.out _ e; omega))
                          have HW9 := Lib.hid (show Below w.heap.size w w9 from (HBW2.out.alloc HBW2.out.size _).grown HG9.out (by have := HBW2.out.size; simp; omega) HGE.out)
                          have hz9 : wv.heap.size < w9.heap.size := by have := HG9.out.size; simp at this; omega
                          have HFX := Lib.hid (fun X (h : Below w9.heap.size w9 X) => HF9.out.on hz9 (by rw [blockAdd]; have := HALL.out.size; omega) h)
                          have HP := Lib.hid (fun W => refPart_any 2 0 S d W (.inr (.inr (.inl rfl))) z64 (by have := HS3; omega))
                          have hml := part_len3 2 0 S HS3
                          have hml2 : (turnL (turnU d) (partL 2 0 S)).length ≤ 6010 := by rw [turnL_length]; exact hml
                          have HSTP := Lib.hid (HST.out 2 0 S HV.out)
                          clear hml
                          generalize turnL (turnU d) (partL 2 0 S) = m at *
                          go_region_held3 (fun X => X.cell? ⟨wv.heap.size, 0, none⟩ = some (.int .u8 2) ∧ X.cell? ⟨wv.heap.size, 1, none⟩ = some (.int .i64 0) ∧ X.cell? ⟨wv.heap.size, 2, none⟩ = some (.string S) ∧ X.cell? (ad2.add rs.length) = some (.bool d))
                            (first
                              | exact HFX.out _ (Below.refl _ _).drew
                              | exact HFX.out _ ((Below.refl w9.heap.size w9).drew.trans HB7.out))
                            (first
                              | (go_at_call 79; refine (HP.out _).mono ?_; rintro e w7 ⟨v7, rfl, ho7, hb7⟩; obtain ⟨A7, c7, rfl, _, _, _⟩ := ho7.form; have HB7 := Lib.hid hb7; clear hb7 ho7))
                          go_wp2_with fail
                          go_roundw
                          case rel => exact ⟨rs ++ [(2, 0, S)], q + m.length, by simp; omega, by simp, congrArg (Value.int IntKind.i64) (by rw [IntWalk.i64_in _ (by omega)]; omega), by omega, HSTP.out, (by intro t ht; rcases List.mem_append.1 ht with ht | ht; exact HGD.out t ht; (rw [show t = (2, 0, S) by simpa using ht]; exact ⟨.inr (.inr ⟨.inl rfl, rfl, HS65.out⟩), z64, HS3⟩)), ownR_below HO9.out ((Below.refl w9.heap.size w9).drew.trans HB7.out), HW9.out.trans (((Below.refl w9.heap.size w9).drew.trans HB7.out).mono HW9.out.size)⟩
                          case measure => simp [intOf]; omega
                        · have eb := ne_zero_of hb0
                          rw [hdr, unR_zero ua ub _ ha hb0] at hun
                          have HUN := Lib.hid (show unR l = (xs ++ [ua]) ++ unR (l.drop (j9 + 2)) by rw [hun]; simp)
                          have HO9 := Lib.hid ho9
                          have HBJ := Lib.hid hbj
                          clear hdr hdr1 ha hb0 hun ho9 hbj
                          go_wp2_with (at_builtin; refine wpList_app1 rfl (.tmp 126) (.tmp 131) rfl wb.heap.size (.slice As xs.length cs) xs rfl HO9.out _ ua rfl rfl (by omega) (by omega) ?_; intro v1 w1 ho1 hb1; have HO1 := Lib.hid ho1; have HB1 := Lib.hid hb1; clear ho1 hb1; have hcella1 := ((HB1.out.mono (show wv.heap.size ≤ wb.heap.size by omega)).cell (p := ad9.add (1 + j9)) (by rw [blockAdd]; exact hbk9)).trans hcella)
                          go_roundw
                          case rel =>
                            refine ⟨_, _, _, _, _, _, _, _, _, _, _, _, _, _, _, _, _, _, _, _, _, _, _, _, _, _, _, _, _, _, _, _, _, _, _, _, _, _, _, ?_, rfl⟩
                            exact ⟨xs ++ [ua], j9 + 2, by omega, by go_num, by simp; omega, HUN.out, HO1.out, HBJ.out.trans HB1.out⟩
                          case measure => simp [intOf]; omega
                      · have ea := ne_zero_of ha
                        rw [hdr, unR_one ua ub _ ha, ← hdr1] at hun
                        have HUN := Lib.hid (show unR l = (xs ++ [ua]) ++ unR (l.drop (j9 + 1)) by rw [hun]; simp)
                        have HO9 := Lib.hid ho9
                        have HBJ := Lib.hid hbj
                        clear hdr hdr1 ha hun ho9 hbj
                        go_wp2_with (at_builtin; refine wpList_app1 rfl (.tmp 126) (.tmp 131) rfl wb.heap.size (.slice As xs.length cs) xs rfl HO9.out _ ua rfl rfl (by omega) (by omega) ?_; intro v1 w1 ho1 hb1; have HO1 := Lib.hid ho1; have HB1 := Lib.hid hb1; clear ho1 hb1; have hcella1 := ((HB1.out.mono (show wv.heap.size ≤ wb.heap.size by omega)).cell (p := ad9.add (1 + j9)) (by rw [blockAdd]; exact hbk9)).trans hcella)
                        go_roundw
                        case rel =>
                          refine ⟨_, _, _, _, _, _, _, _, _, _, _, _, _, _, _, _, _, _, _, _, _, _, _, _, _, _, _, _, _, _, _, _, _, _, _, _, _, _, _, ?_, rfl⟩
                          exact ⟨xs ++ [ua], j9 + 1, by omega, by go_num, by simp; omega, HUN.out, HO1.out, HBJ.out.trans HB1.out⟩
                        case measure => simp [intOf]; omega
                    · have hji : ¬ (1 : Int) + (j9 : Int) + 1 < (l.length : Int) + 1 := by omega
                      rw [unR_short (l.drop j9) (by rw [List.length_drop]; omega), List.append_nil] at hun
                      have HSZ := Lib.hid (show (⟨xs.toArray⟩ : ByteArray).size ≤ 3000 by show xs.toArray.size ≤ 3000; rw [List.size_toArray]; simp at hxl0; omega)
                      have hcv := run_str (own_rd ho9) cs
                      have HV := Lib.hid (show refKVal (c :: l) = (2, 0, ⟨xs.toArray⟩) by rw [HVF.out, hun])
                      generalize hS : (⟨xs.toArray⟩ : ByteArray) = S at *
                      clear hS hun ho9 hbj
                      have HS3 : S.size ≤ 3000 := HSZ.out
                      have HS65 := Lib.hid (show S.size ≤ 65536 by omega)
                      have z64 : In64 0 := ⟨by decide, by decide⟩
                      have hk4 := HK.out _ HBW2'.out
                      have HXW := Lib.hid (show BoxF wv.heap.size 2 0 S (ad2.add rs.length) d (wr.setCell ⟨wv.heap.size, 2, none⟩ (.string S)) from ⟨by rw [World.cell?_setCell_other (h := by simp)]; exact hx0, by rw [World.cell?_setCell_other (h := by simp)]; exact hx1, by rw [World.cell?_setCell_same (h := hx2)], by rw [World.cell?_setCell_other (h := by intro h; have h2 := congrArg Addr.block h; rw [blockAdd] at h2; have := HALL.out.size; simp only at h2; omega)]; exact hk4⟩)
                      have hzw : wv.heap.size < (wr.setCell ⟨wv.heap.size, 2, none⟩ (.string S)).heap.size := by simpa using hlv2
                      have hsj2 := HBV.out.size
                      have HBW2 := Lib.hid (show Below w.heap.size w (wr.setCell ⟨wv.heap.size, 2, none⟩ (.string S)) from HBW2'.out.setCell (show w.heap.size ≤ wv.heap.size from HALL.out.size) _)
                      have HOW := Lib.hid (fun o => show OwnR ((wr.setCell ⟨wv.heap.size, 2, none⟩ (.string S)).alloc o) w.heap.size (.slice A12 rs.length c12) rs from ownR_below HO.out (((HBX.out.trans (HBV.out.mono hsx)).setCell (show wo.heap.size ≤ wv.heap.size from hsx) _).alloc (by simp; omega) o))
                      clear hk4
                      go_wp2_with (at_builtin; refine wpList_appRG rfl (.tmp 145) (.tmp 147) rfl w.heap.size (.slice A12 rs.length c12) rs rfl (HOW.out _) ⟨wr.heap.size, 0, none⟩ 1 [(2, 0, S)] 1 rfl rfl (row_cellsAt (wr.setCell ⟨wv.heap.size, 2, none⟩ (.string S)) wr.heap.size (by simp) 2 0 S) (by simp; omega) (by have := HBW2.out.size; simp; omega) ?_; intro v9 w9 ho9 hg9; have HO9 := Lib.hid ho9; have HG9 := Lib.hid hg9; clear ho9 hg9)
                      have HX1 := Lib.hid (show BoxF wv.heap.size 2 0 S (ad2.add rs.length) d ((wr.setCell ⟨wv.heap.size, 2, none⟩ (.string S)).alloc (cell3 2 0 S)) from HXW.out.on hzw (by rw [blockAdd]; have := HBV.out.size; have := HALL.out.size; omega) ((Below.refl _ _).alloc (Nat.le_refl _) _))
                      have HF9 := Lib.hid (HX1.out.grown (by simp; omega) (by rw [blockAdd]; have := HALL.out.size; simp; omega) HG9.out (fun e => by have := HLT.out _ e; omega) (fun e => by rw [blockAdd] at e; have := HGE.out _ e; omega))
                      have HW9 := Lib.hid (show Below w.heap.size w w9 from (HBW2.out.alloc HBW2.out.size _).grown HG9.out (by have := HBW2.out.size; simp; omega) HGE.out)
                      have hz9 : wv.heap.size < w9.heap.size := by have := HG9.out.size; simp at this; omega
                      have HFX := Lib.hid (fun X (h : Below w9.heap.size w9 X) => HF9.out.on hz9 (by rw [blockAdd]; have := HALL.out.size; omega) h)
                      have HP := Lib.hid (fun W => refPart_any 2 0 S d W (.inr (.inr (.inl rfl))) z64 (by have := HS3; omega))
                      have hml := part_len3 2 0 S HS3
                      have hml2 : (turnL (turnU d) (partL 2 0 S)).length ≤ 6010 := by rw [turnL_length]; exact hml
                      have HSTP := Lib.hid (HST.out 2 0 S HV.out)
                      clear hml
                      generalize turnL (turnU d) (partL 2 0 S) = m at *
                      go_region_held3 (fun X => X.cell? ⟨wv.heap.size, 0, none⟩ = some (.int .u8 2) ∧ X.cell? ⟨wv.heap.size, 1, none⟩ = some (.int .i64 0) ∧ X.cell? ⟨wv.heap.size, 2, none⟩ = some (.string S) ∧ X.cell? (ad2.add rs.length) = some (.bool d))
                        (first
                          | exact HFX.out _ (Below.refl _ _).drew
                          | exact HFX.out _ ((Below.refl w9.heap.size w9).drew.trans HB7.out))
                        (first
                          | (go_at_call 79; refine (HP.out _).mono ?_; rintro e w7 ⟨v7, rfl, ho7, hb7⟩; obtain ⟨A7, c7, rfl, _, _, _⟩ := ho7.form; have HB7 := Lib.hid hb7; clear hb7 ho7))
                      go_wp2_with fail
                      go_roundw
                      case rel => exact ⟨rs ++ [(2, 0, S)], q + m.length, by simp; omega, by simp, congrArg (Value.int IntKind.i64) (by rw [IntWalk.i64_in _ (by omega)]; omega), by omega, HSTP.out, (by intro t ht; rcases List.mem_append.1 ht with ht | ht; exact HGD.out t ht; (rw [show t = (2, 0, S) by simpa using ht]; exact ⟨.inr (.inr ⟨.inl rfl, rfl, HS65.out⟩), z64, HS3⟩)), ownR_below HO9.out ((Below.refl w9.heap.size w9).drew.trans HB7.out), HW9.out.trans (((Below.refl w9.heap.size w9).drew.trans HB7.out).mono HW9.out.size)⟩
                      case measure => simp [intOf]; omega
                · have hX1 : ∀ o, (wr.alloc o).cell? ad9 = some (.int .u8 4) := fun o => by rw [hX9 o, hc]; rfl
                  have HVF := Lib.hid (show refKVal (c :: l) = (3, 0, ⟨(unR l).toArray⟩) by rw [refKVal, if_neg (by omega), if_neg (by omega), if_neg (by omega)])
                  clear hX9 hcl9' HC9 e1 e4 hc hcl
                  go_wp2_with fail
                  obtain ⟨wb, hwb⟩ : ∃ wb, wb = wr.alloc (.cells #[.int .u8 3, .int .i64 0, .string ⟨#[]⟩] 44) := ⟨_, rfl⟩
                  rw [← hwb]
                  obtain ⟨wv, rfl⟩ : ∃ wv : World, wv = wr := ⟨_, rfl⟩
                  have HB0 := Lib.hid (show Below wv.heap.size wv wb by rw [hwb]; exact (Below.refl _ _).alloc (Nat.le_refl _) _)
                  have hb1 : wb.heap.size = wv.heap.size + 1 := by rw [hwb]; simp
                  have hx00 : wb.cell? ⟨wv.heap.size, 0, none⟩ = some (.int .u8 3) := by rw [hwb]; simp [go_sem]
                  have hx01 : wb.cell? ⟨wv.heap.size, 1, none⟩ = some (.int .i64 0) := by rw [hwb]; simp [go_sem]
                  have hx02 : wb.cell? ⟨wv.heap.size, 2, none⟩ = some (.string ⟨#[]⟩) := by rw [hwb]; simp [go_sem]
                  have hx0f : wb.frozen? ⟨wv.heap.size, 2, none⟩ = false := by rw [hwb]; simp [go_sem]
                  have HX0 := Lib.hid (And.intro hx00 (And.intro hx01 (And.intro hx02 hx0f)))
                  clear hwb hx00 hx01 hx02 hx0f
                  have hxl0 := hxl
                  have hll : l.length ≤ 2999 := by simp only [List.length_cons] at hxl; omega
                  have hlv := HALL.out.size
                  go_loopw [13, 14] (fun s i wr => TxtRel l wb s i wr) (fun _ i _ => l.length + 2 - (intOf i).toNat)
                  case atStart => exact ⟨[], 0, by omega, rfl, by simp, by simp, World.ownsRow_nil _ _ _ _, Below.refl _ _⟩
                  case round =>
                    obtain ⟨xs, j9, hj9, rfl, hxs, hun, ho9, hbj⟩ := hrel
                    have hsj := hbj.size
                    have HBV := Lib.hid (show Below wv.heap.size wv wr from HB0.out.trans (hbj.mono (by omega)))
                    have HBW2' := Lib.hid (HALL.out.trans (HBV.out.mono HALL.out.size))
                    obtain ⟨y0, y1, y2, yf⟩ := HX0.out
                    have hx0 := (hbj.cell (p := ⟨wv.heap.size, 0, none⟩) (by simp only; omega)).trans y0
                    have hx1 := (hbj.cell (p := ⟨wv.heap.size, 1, none⟩) (by simp only; omega)).trans y1
                    have hx2 := (hbj.cell (p := ⟨wv.heap.size, 2, none⟩) (by simp only; omega)).trans y2
                    have hfz : wr.frozen? ⟨wv.heap.size, 2, none⟩ = false := (hbj.frozen (p := ⟨wv.heap.size, 2, none⟩) (by simp only; omega)).trans yf
                    have hlv2 : wv.heap.size < wr.heap.size := by omega
                    clear y0 y1 y2 yf
                    obtain ⟨As, cs, rfl, _, _, _⟩ := ho9.form
                    by_cases hin : j9 + 1 < l.length
                    · obtain ⟨ad', ua, hade, _, hgeta, hcella⟩ := (HRX.out.below HBV.out).cell (show 1 + j9 < (c :: l).length by simp; omega)
                      injection hade with hade
                      subst hade
                      obtain ⟨ad', ub, hade, _, hgetb, hcellb⟩ := (HRX.out.below HBV.out).cell (show 1 + j9 + 1 < (c :: l).length by simp; omega)
                      injection hade with hade
                      subst hade
                      unfold b8 at hcella hcellb
                      have hula := ua.toNat_lt
                      have hulb := ub.toNat_lt
                      have hga : l[j9]? = some ua := by rw [Nat.add_comm, List.getElem?_cons_succ] at hgeta; exact hgeta
                      have hgb : l[j9 + 1]? = some ub := by rw [show 1 + j9 + 1 = (j9 + 1) + 1 by omega, List.getElem?_cons_succ] at hgetb; exact hgetb
                      have hdr : l.drop j9 = ua :: ub :: l.drop (j9 + 2) := by rw [drop_cons hga, drop_cons hgb]
                      have hdr1 : l.drop (j9 + 1) = ub :: l.drop (j9 + 2) := drop_cons hgb
                      have hji : (1 : Int) + (j9 : Int) + 1 < (l.length : Int) + 1 := by omega
                      have k2b : (0 : Int) ≤ (1 : Int) + (j9 : Int) + 1 := by omega
                      have k3b : ((1 : Int) + (j9 : Int) + 1).toNat = 1 + j9 + 1 := by omega
                      have hcellb2 : wr.cell? ⟨ad9.block, ad9.off + (1 + j9 + 1), none⟩ = some (.int .u8 (ub.toNat : Int)) := by simpa [Addr.add] using hcellb
                      clear hgeta hgetb hga hgb
                      by_cases ha : ua.toNat = 0
                      · have ea := eq_zero_of ha
                        by_cases hb0 : ub.toNat = 0
                        · have eb := eq_zero_of hb0
                          rw [hdr, unR_end ua ub _ ha hb0, List.append_nil] at hun
                          clear hdr hdr1 ha hb0
                          have HSZ := Lib.hid (show (⟨xs.toArray⟩ : ByteArray).size ≤ 3000 by show xs.toArray.size ≤ 3000; rw [List.size_toArray]; simp at hxl0; omega)
                          have hcv := run_str (own_rd ho9) cs
                          have HV := Lib.hid (show refKVal (c :: l) = (3, 0, ⟨xs.toArray⟩) by rw [HVF.out, hun])
                          generalize hS : (⟨xs.toArray⟩ : ByteArray) = S at *
                          clear hS hun ho9 hbj
                          have HS3 : S.size ≤ 3000 := HSZ.out
                          have HS65 := Lib.hid (show S.size ≤ 65536 by omega)
                          have z64 : In64 0 := ⟨by decide, by decide⟩
                          have hk4 := HK.out _ HBW2'.out
                          have HXW := Lib.hid (show BoxF wv.heap.size 3 0 S (ad2.add rs.length) d (wr.setCell ⟨wv.heap.size, 2, none⟩ (.string S)) from ⟨by rw [World.cell?_setCell_other (h := by simp)]; exact hx0, by rw [World.cell?_setCell_other (h := by simp)]; exact hx1, by rw [World.cell?_setCell_same (h := hx2)], by rw [World.cell?_setCell_other (h := by intro h; have h2 := congrArg Addr.block h; rw [blockAdd] at h2; have := HALL.out.size; simp only at h2; omega)]; exact hk4⟩)
                          have hzw : wv.heap.size < (wr.setCell ⟨wv.heap.size, 2, none⟩ (.string S)).heap.size := by simpa using hlv2
                          have hsj2 := HBV.out.size
                          have HBW2 := Lib.hid (show Below w.heap.size w (wr.setCell ⟨wv.heap.size, 2, none⟩ (.string S)) from HBW2'.out.setCell (show w.heap.size ≤ wv.heap.size from HALL.out.size) _)
                          have HOW := Lib.hid (fun o => show OwnR ((wr.setCell ⟨wv.heap.size, 2, none⟩ (.string S)).alloc o) w.heap.size (.slice A12 rs.length c12) rs from ownR_below HO.out (((HBX.out.trans (HBV.out.mono hsx)).setCell (show wo.heap.size ≤ wv.heap.size from hsx) _).alloc (by simp; omega) o))
                          clear hk4
                          go_wp2_with (at_builtin; refine wpList_appRG rfl (.tmp 145) (.tmp 147) rfl w.heap.size (.slice A12 rs.length c12) rs rfl (HOW.out _) ⟨wr.heap.size, 0, none⟩ 1 [(3, 0, S)] 1 rfl rfl (row_cellsAt (wr.setCell ⟨wv.heap.size, 2, none⟩ (.string S)) wr.heap.size (by simp) 3 0 S) (by simp; omega) (by have := HBW2.out.size; simp; omega) ?_; intro v9 w9 ho9 hg9; have HO9 := Lib.hid ho9; have HG9 := Lib.hid hg9; clear ho9 hg9)
                          have HX1 := Lib.hid (show BoxF wv.heap.size 3 0 S (ad2.add rs.length) d ((wr.setCell ⟨wv.heap.size, 2, none⟩ (.string S)).alloc (cell3 3 0 S)) from HXW.out.on hzw (by rw [blockAdd]; have := HBV.out.size; have := HALL.out.size; omega) ((Below.refl _ _).alloc (Nat.le_refl _) _))
                          have HF9 := Lib.hid (HX1.out.grown (by simp; omega) (by rw [blockAdd]; have := HALL.out.size; simp; omega) HG9.out (fun e => by have := HLT.out _ e; omega) (fun e => by rw [blockAdd] at e; have := HGE.out _ e; omega))
                          have HW9 := Lib.hid (show Below w.heap.size w w9 from (HBW2.out.alloc HBW2.out.size _).grown HG9.out (by have := HBW2.out.size; simp; omega) HGE.out)
                          have hz9 : wv.heap.size < w9.heap.size := by have := HG9.out.size; simp at this; omega
                          have HFX := Lib.hid (fun X (h : Below w9.heap.size w9 X) => HF9.out.on hz9 (by rw [blockAdd]; have := HALL.out.size; omega) h)
                          have HP := Lib.hid (fun W => refPart_any 3 0 S d W (.inr (.inr (.inr rfl))) z64 (by have := HS3; omega))
                          have hml := part_len3 3 0 S HS3
                          have hml2 : (turnL (turnU d) (partL 3 0 S)).length ≤ 6010 := by rw [turnL_length]; exact hml
                          have HSTP := Lib.hid (HST.out 3 0 S HV.out)
                          clear hml
                          generalize turnL (turnU d) (partL 3 0 S) = m at *
                          go_region_held3 (fun X => X.cell? ⟨wv.heap.size, 0, none⟩ = some (.int .u8 3) ∧ X.cell? ⟨wv.heap.size, 1, none⟩ = some (.int .i64 0) ∧ X.cell? ⟨wv.heap.size, 2, none⟩ = some (.string S) ∧ X.cell? (ad2.add rs.length) = some (.bool d))
                            (first
                              | exact HFX.out _ (Below.refl _ _).drew
                              | exact HFX.out _ ((Below.refl w9.heap.size w9).drew.trans HB7.out))
                            (first
                              | (go_at_call 79; refine (HP.out _).mono ?_; rintro e w7 ⟨v7, rfl, ho7, hb7⟩; obtain ⟨A7, c7, rfl, _, _, _⟩ := ho7.form; have HB7 := Lib.hid hb7; clear hb7 ho7))
                          go_wp2_with fail
                          go_roundw
                          case rel => exact ⟨rs ++ [(3, 0, S)], q + m.length, by simp; omega, by simp, congrArg (Value.int IntKind.i64) (by rw [IntWalk.i64_in _ (by omega)]; omega), by omega, HSTP.out, (by intro t ht; rcases List.mem_append.1 ht with ht | ht; exact HGD.out t ht; (rw [show t = (3, 0, S) by simpa using ht]; exact ⟨.inr (.inr ⟨.inr rfl, rfl, HS65.out⟩), z64, HS3⟩)), ownR_below HO9.out ((Below.refl w9.heap.size w9).drew.trans HB7.out), HW9.out.trans (((Below.refl w9.heap.size w9).drew.trans HB7.out).mono HW9.out.size)⟩
                          case measure => simp [intOf]; omega
                        · have eb := ne_zero_of hb0
                          rw [hdr, unR_zero ua ub _ ha hb0] at hun
                          have HUN := Lib.hid (show unR l = (xs ++ [ua]) ++ unR (l.drop (j9 + 2)) by rw [hun]; simp)
                          have HO9 := Lib.hid ho9
                          have HBJ := Lib.hid hbj
                          clear hdr hdr1 ha hb0 hun ho9 hbj
                          go_wp2_with (at_builtin; refine wpList_app1 rfl (.tmp 126) (.tmp 131) rfl wb.heap.size (.slice As xs.length cs) xs rfl HO9.out _ ua rfl rfl (by omega) (by omega) ?_; intro v1 w1 ho1 hb1; have HO1 := Lib.hid ho1; have HB1 := Lib.hid hb1; clear ho1 hb1; have hcella1 := ((HB1.out.mono (show wv.heap.size ≤ wb.heap.size by omega)).cell (p := ad9.add (1 + j9)) (by rw [blockAdd]; exact hbk9)).trans hcella)
                          go_roundw
                          case rel =>
                            refine ⟨_, _, _, _, _, _, _, _, _, _, _, _, _, _, _, _, _, _, _, _, _, _, _, _, _, _, _, _, _, _, _, _, _, _, _, _, _, _, _, ?_, rfl⟩
                            exact ⟨xs ++ [ua], j9 + 2, by omega, by go_num, by simp; omega, HUN.out, HO1.out, HBJ.out.trans HB1.out⟩
                          case measure => simp [intOf]; omega
                      · have ea := ne_zero_of ha
                        rw [hdr, unR_one ua ub _ ha, ← hdr1] at hun
                        have HUN := Lib.hid (show unR l = (xs ++ [ua]) ++ unR (l.drop (j9 + 1)) by rw [hun]; simp)
                        have HO9 := Lib.hid ho9
                        have HBJ := Lib.hid hbj
                        clear hdr hdr1 ha hun ho9 hbj
                        go_wp2_with (at_builtin; refine wpList_app1 rfl (.tmp 126) (.tmp 131) rfl wb.heap.size (.slice As xs.length cs) xs rfl HO9.out _ ua rfl rfl (by omega) (by omega) ?_; intro v1 w1 ho1 hb1; have HO1 := Lib.hid ho1; have HB1 := Lib.hid hb1; clear ho1 hb1; have hcella1 := ((HB1.out.mono (show wv.heap.size ≤ wb.heap.size by omega)).cell (p := ad9.add (1 + j9)) (by rw [blockAdd]; exact hbk9)).trans hcella)
                        go_roundw
                        case rel =>
                          refine ⟨_, _, _, _, _, _, _, _, _, _, _, _, _, _, _, _, _, _, _, _, _, _, _, _, _, _, _, _, _, _, _, _, _, _, _, _, _, _, _, ?_, rfl⟩
                          exact ⟨xs ++ [ua], j9 + 1, by omega, by go_num, by simp; omega, HUN.out, HO1.out, HBJ.out.trans HB1.out⟩
                        case measure => simp [intOf]; omega
                    · have hji : ¬ (1 : Int) + (j9 : Int) + 1 < (l.length : Int) + 1 := by omega
                      rw [unR_short (l.drop j9) (by rw [List.length_drop]; omega), List.append_nil] at hun
                      have HSZ := Lib.hid (show (⟨xs.toArray⟩ : ByteArray).size ≤ 3000 by show xs.toArray.size ≤ 3000; rw [List.size_toArray]; simp at hxl0; omega)
                      have hcv := run_str (own_rd ho9) cs
                      have HV := Lib.hid (show refKVal (c :: l) = (3, 0, ⟨xs.toArray⟩) by rw [HVF.out, hun])
                      generalize hS : (⟨xs.toArray⟩ : ByteArray) = S at *
                      clear hS hun ho9 hbj
                      have HS3 : S.size ≤ 3000 := HSZ.out
                      have HS65 := Lib.hid (show S.size ≤ 65536 by omega)
                      have z64 : In64 0 := ⟨by decide, by decide⟩
                      have hk4 := HK.out _ HBW2'.out
                      have HXW := Lib.hid (show BoxF wv.heap.size 3 0 S (ad2.add rs.length) d (wr.setCell ⟨wv.heap.size, 2, none⟩ (.string S)) from ⟨by rw [World.cell?_setCell_other (h := by simp)]; exact hx0, by rw [World.cell?_setCell_other (h := by simp)]; exact hx1, by rw [World.cell?_setCell_same (h := hx2)], by rw [World.cell?_setCell_other (h := by intro h; have h2 := congrArg Addr.block h; rw [blockAdd] at h2; have := HALL.out.size; simp only at h2; omega)]; exact hk4⟩)
                      have hzw : wv.heap.size < (wr.setCell ⟨wv.heap.size, 2, none⟩ (.string S)).heap.size := by simpa using hlv2
                      have hsj2 := HBV.out.size
                      have HBW2 := Lib.hid (show Below w.heap.size w (wr.setCell ⟨wv.heap.size, 2, none⟩ (.string S)) from HBW2'.out.setCell (show w.heap.size ≤ wv.heap.size from HALL.out.size) _)
                      have HOW := Lib.hid (fun o => show OwnR ((wr.setCell ⟨wv.heap.size, 2, none⟩ (.string S)).alloc o) w.heap.size (.slice A12 rs.length c12) rs from ownR_below HO.out (((HBX.out.trans (HBV.out.mono hsx)).setCell (show wo.heap.size ≤ wv.heap.size from hsx) _).alloc (by simp; omega) o))
                      clear hk4
                      go_wp2_with (at_builtin; refine wpList_appRG rfl (.tmp 145) (.tmp 147) rfl w.heap.size (.slice A12 rs.length c12) rs rfl (HOW.out _) ⟨wr.heap.size, 0, none⟩ 1 [(3, 0, S)] 1 rfl rfl (row_cellsAt (wr.setCell ⟨wv.heap.size, 2, none⟩ (.string S)) wr.heap.size (by simp) 3 0 S) (by simp; omega) (by have := HBW2.out.size; simp; omega) ?_; intro v9 w9 ho9 hg9; have HO9 := Lib.hid ho9; have HG9 := Lib.hid hg9; clear ho9 hg9)
                      have HX1 := Lib.hid (show BoxF wv.heap.size 3 0 S (ad2.add rs.length) d ((wr.setCell ⟨wv.heap.size, 2, none⟩ (.string S)).alloc (cell3 3 0 S)) from HXW.out.on hzw (by rw [blockAdd]; have := HBV.out.size; have := HALL.out.size; omega) ((Below.refl _ _).alloc (Nat.le_refl _) _))
                      have HF9 := Lib.hid (HX1.out.grown (by simp; omega) (by rw [blockAdd]; have := HALL.out.size; simp; omega) HG9.out (fun e => by have := HLT.out _ e; omega) (fun e => by rw [blockAdd] at e; have := HGE.out _ e; omega))
                      have HW9 := Lib.hid (show Below w.heap.size w w9 from (HBW2.out.alloc HBW2.out.size _).grown HG9.out (by have := HBW2.out.size; simp; omega) HGE.out)
                      have hz9 : wv.heap.size < w9.heap.size := by have := HG9.out.size; simp at this; omega
                      have HFX := Lib.hid (fun X (h : Below w9.heap.size w9 X) => HF9.out.on hz9 (by rw [blockAdd]; have := HALL.out.size; omega) h)
                      have HP := Lib.hid (fun W => refPart_any 3 0 S d W (.inr (.inr (.inr rfl))) z64 (by have := HS3; omega))
                      have hml := part_len3 3 0 S HS3
                      have hml2 : (turnL (turnU d) (partL 3 0 S)).length ≤ 6010 := by rw [turnL_length]; exact hml
                      have HSTP := Lib.hid (HST.out 3 0 S HV.out)
                      clear hml
                      generalize turnL (turnU d) (partL 3 0 S) = m at *
                      go_region_held3 (fun X => X.cell? ⟨wv.heap.size, 0, none⟩ = some (.int .u8 3) ∧ X.cell? ⟨wv.heap.size, 1, none⟩ = some (.int .i64 0) ∧ X.cell? ⟨wv.heap.size, 2, none⟩ = some (.string S) ∧ X.cell? (ad2.add rs.length) = some (.bool d))
                        (first
                          | exact HFX.out _ (Below.refl _ _).drew
                          | exact HFX.out _ ((Below.refl w9.heap.size w9).drew.trans HB7.out))
                        (first
                          | (go_at_call 79; refine (HP.out _).mono ?_; rintro e w7 ⟨v7, rfl, ho7, hb7⟩; obtain ⟨A7, c7, rfl, _, _, _⟩ := ho7.form; have HB7 := Lib.hid hb7; clear hb7 ho7))
                      go_wp2_with fail
                      go_roundw
                      case rel => exact ⟨rs ++ [(3, 0, S)], q + m.length, by simp; omega, by simp, congrArg (Value.int IntKind.i64) (by rw [IntWalk.i64_in _ (by omega)]; omega), by omega, HSTP.out, (by intro t ht; rcases List.mem_append.1 ht with ht | ht; exact HGD.out t ht; (rw [show t = (3, 0, S) by simpa using ht]; exact ⟨.inr (.inr ⟨.inr rfl, rfl, HS65.out⟩), z64, HS3⟩)), ownR_below HO9.out ((Below.refl w9.heap.size w9).drew.trans HB7.out), HW9.out.trans (((Below.refl w9.heap.size w9).drew.trans HB7.out).mono HW9.out.size)⟩
                      case measure => simp [intOf]; omega
      · have hl : rs.length = ds.length := by omega
        have hrs : rs.length ≤ 200 := by omega
        have hfine : FineR rs := fun t ht => ⟨(hgood t ht).1, (hgood t ht).2.1⟩
        have hkl : (keyL rs ds).length ≤ 1048576 := by
          have h1 := hC.2
          rw [hl, List.take_length] at h1
          omega
        have HP := Lib.hid (fun A c X (hX : RdR X X.heap.size A rs) (hY : RdF X X.heap.size F ds) => refKey_ok A c rs F fcap ds X hX hY hrs hl.symm hfine hkl)
        have HSO := Lib.hid (fun h : keyL rs ds = b => someK_of ⟨hfine, hl, h.symm⟩ hd200 (by omega))
        have HNO := Lib.hid (fun h : ¬ keyL rs ds = b => noneK_of (b := b) (ds := ds) (fun vs hf => h (by have := C3_end hC.1 hl hf; subst this; exact hf.2.2.symm)))
        have HO := Lib.hid ho
        obtain ⟨A12, c12, rfl, _, _, hrr⟩ := OwnR.form ho
        have HRR := Lib.hid hrr
        have HRB := Lib.hid ((hR.below hbw).more hsw)
        have HFB := Lib.hid (show RdF wr wr.heap.size F ds from hF.on hbw)
        have HBW := Lib.hid hbw
        have HKL := Lib.hid hkl
        clear hC hgood ho hbw hfine hrr hkl hl
        go_wp2_with fail
        refine (HP.out A12 c12 wr HRR.out HFB.out).mono ?_
        rintro e w8 ⟨v8, rfl, ho8, hb8⟩
        obtain ⟨A8, c8, rfl, _, _, hr8⟩ := ho8.form
        have HR8 := Lib.hid hr8
        have HB8 := Lib.hid hb8
        have hs8 := hb8.size
        have HSM := fun β hβ => Lib.hid (refSame_any A8 c8 (keyL rs ds) A cap b w8 (by have := HKL.out; omega) (by omega) HR8.out (HRB.out.on HB8.out) β hβ)
        have HWB := Lib.hid (HBW.out.trans (hb8.mono hsw))
        have HO8 := Lib.hid (ownR_below HO.out hb8)
        have hlp := HKL.out
        clear ho8 hr8 hb8
        by_cases hq2 : keyL rs ds = b
        · have HM := HSM true (decide_eq_true hq2)
          have HN := Lib.hid (HSO.out hq2)
          generalize (keyL rs ds).length = L at *
          clear HSM hq2
          go_wp2_with fail
          refine HM.out.mono ?_
          rintro e w9 ⟨rfl, hb9⟩
          go_wp2_with fail
          go_ret2
          rw [HN.out]
          exact ⟨⟨_, rfl, ownR_below HO8.out hb9⟩, HWB.out.trans (hb9.mono HWB.out.size)⟩
        · have HM := HSM false (decide_eq_false hq2)
          have HN := Lib.hid (HNO.out hq2)
          generalize (keyL rs ds).length = L at *
          clear HSM hq2
          go_wp2_with fail
          refine HM.out.mono ?_
          rintro e w9 ⟨rfl, hb9⟩
          go_wp2_with fail
          go_ret2
          rw [HN.out]
          exact ⟨rfl, HWB.out.trans (hb9.mono HWB.out.size)⟩
end Go.Proofs.Ytcpmfagnnidodaa
