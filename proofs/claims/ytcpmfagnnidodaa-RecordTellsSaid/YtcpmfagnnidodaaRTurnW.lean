/-
  RecordTurned returns true for every row: the walk. Conditions: numbers of 64 bits; sizes.
-/
import Derived.Test.YtcpmfagnnidodaaRJoinX
namespace Go.Proofs.Ytcpmfagnnidodaa
open Go.ChangeShapes Go.WideShapes Go.ChangeAt Go.RowKit
set_option linter.unusedVariables false

theorem FlagsAt.flip {w : World} {g n k : Nat} {f : Nat → Bool} (h : FlagsAt w g (fun j => if j < k then !f j else f j) n) (hk : k < n) (b : Bool) (hb : b = !f k) : FlagsAt (w.setCell ⟨g, k, none⟩ (.bool b)) g (fun j => if j < k + 1 then !f j else f j) n := by
  subst hb
  refine (h.set hk (!f k)).congr fun j _ => ?_
  by_cases e : j = k
  · subst e; simp
  · have : (j < k + 1) = (j < k) := by simp; omega
    simp [e, this]
def FlipRel (base g n B : Nat) (w : World) (f : Nat → Bool) (v : Value) (x : List UInt8) (i : Value) (wr : World) : Prop :=
  ∃ k : Nat, k ≤ n ∧ i = .int .i64 k ∧ FlagsAt wr g (fun j => if j < k then !f j else f j) n ∧ Own wr B v x ∧ Below base w wr
def CmpRel (base n : Nat) (w : World) (B B' : Nat) (v v' : Value) (x y : List UInt8) (i : Value) (wr : World) : Prop :=
  ∃ k : Nat, k ≤ n ∧ i = .int .i64 k ∧ Own wr B v x ∧ Own wr B' v' y ∧ Below base w wr

theorem Own.setBelow {w : World} {base : Nat} {v : Value} {l : List UInt8} (h : Own w base v l) {a : Addr} (ha : a.block < base) (u : Value) : Own (w.setCell a u) base v l := ownsRow_setCell_below h ha u

theorem xor_all : ∀ q : Fin 256, 255 ^^^ q.val = 255 - q.val := by decide +kernel
theorem not_bits (a b : UInt8) (h : a = ~~~b) : bits .xor .u8 255 (b.toNat : Int) = (a.toNat : Int) := by
  subst h
  have hb : b.toNat < 256 := b.toNat_lt
  have h1 := u8_xor_nat 255 b.toNat (by decide) hb
  have h2 := xor_all ⟨b.toNat, hb⟩
  have h3 : (~~~b).toNat = 255 - b.toNat := by
    rw [UInt8.toNat_not]
    rfl
  rw [h3, ← h2]
  exact h1
set_option maxRecDepth 100000 in
theorem turned_no (A : Option Addr) (cap : Nat) (vs : List Trip) (F : Option Addr) (fcap m : Nat) (w : World) (hR : RdR w w.heap.size A vs) (hsz : ∀ t ∈ vs, t.2.2.size ≤ 9223372036854775807) (hcap : vs.length ≤ 9223372036854775807) (h : Hid (rowOk vs 20 = false)) :
    Calls Try.prog 10 #[.slice A vs.length cap, .slice F m fcap] w fun e w' => e = .returned (.bool true) ∧ Below w.heap.size w w' := by
  go_enter Try.func10, Try.ntmps10
  go_wp2_with (go_at_call 38; refine (right_any A cap vs 20 _ hR (by omega) hsz hcap).mono ?_; rintro e w1 ⟨rfl, hb⟩; rw [h.out]; have HX := Lib.hid hb; clear hb)
  refine (awake_any _).mono ?_
  rintro e w2 ⟨rfl, b2⟩
  go_wp2_with fail
  go_ret
  exact ⟨rfl, onB HX.out b2⟩

set_option maxRecDepth 100000 in
set_option maxHeartbeats 2000000 in
theorem turned_go (A : Option Addr) (cap : Nat) (vs : List Trip) (F : Option Addr) (fcap : Nat) (l : List Bool) (w : World) (hR : RdR w w.heap.size A vs) (hF : RdF w w.heap.size F l) (hfl : l.length ≤ 9223372036854775807)
    (hsz : ∀ t ∈ vs, t.2.2.size ≤ 9223372036854775807) (h : Hid (rowOk vs 20 = true)) (hg : Hid (GoodR vs)) (hl : vs.length ≤ 20) (x y : List UInt8)
    (hx : Hid (keyL vs (flagsL l vs.length) = x)) (hy : Hid (keyL vs ((List.range vs.length).map fun j => !flagAt l j) = y)) (hlen : Hid (y.length = x.length)) (hxl : x.length ≤ 1000000) (hxy : Hid (∀ (j : Nat) (a b : UInt8), x[j]? = some a → y[j]? = some b → a = ~~~b)) :
    Calls Try.prog 10 #[.slice A vs.length cap, .slice F l.length fcap] w fun e w' => e = .returned (.bool true) ∧ Below w.heap.size w w' := by
  have HR := Lib.hid hR
  have HF := Lib.hid hF
  go_enter Try.func10, Try.ntmps10
  go_wp2_with (go_at_call 38; refine (right_any A cap vs 20 _ hR (by omega) hsz (by omega)).mono ?_; rintro e w1 ⟨rfl, hb⟩; rw [h.out]; have HX := Lib.hid hb; clear hb)
  refine (flags_any F fcap l vs.length _ (hF.on HX.out) (by omega) hfl).mono ?_
  rintro e w2 ⟨g, rfl, hgb, hfa, hb⟩
  have hg0 : w.heap.size ≤ g := Nat.le_trans HX.out.size hgb
  have HX := Lib.hid (onB HX.out hb)
  have HFA := Lib.hid hfa
  have hg2 : g < w2.heap.size := hfa.1
  clear hb hfa hgb hF
  go_wp2_with fail
  refine (key_good A cap _ vs (some ⟨g, 0, none⟩) vs.length _ (flagsL l vs.length) _ (HR.out.on HX.out) HFA.out.rdf (by omega) (flagsL_length _ _) hg.out rfl rfl x hx.out).mono ?_
  rintro e w3 ⟨B1, c1, rfl, ho1, hb⟩
  have HO1 := Lib.hid ho1
  have HFA := Lib.hid (HFA.out.below hb)
  have HX := Lib.hid (onB HX.out hb)
  generalize w2.heap.size = B at *
  clear hb ho1 hR
  go_wp2_with fail
  go_loopw [8, 28] (fun q i wr => FlipRel w.heap.size g vs.length B w (flagAt l) (.slice B1 x.length c1) x i wr) (fun _ i _ => vs.length - (intOf i).toNat)
  case atStart => exact ⟨0, Nat.zero_le _, rfl, HFA.out.congr fun j _ => by simp, HO1.out, HX.out⟩
  case round =>
    obtain ⟨k, hk, rfl, hfa, ho, hbw⟩ := hrel
    by_cases hlt : k < vs.length
    · obtain ⟨t0, t1⟩ := hfa.2 k hlt
      simp only [Nat.lt_irrefl, if_false] at t0
      have HS := Lib.hid (fun b hb => hfa.flip hlt b hb)
      have HOS := Lib.hid (fun (b : Bool) => ho.setBelow (a := ⟨g, k, none⟩) (by simpa using hg2) (.bool b))
      have HBS := Lib.hid (fun (b : Bool) => hbw.setCell (p := ⟨g, k, none⟩) (by simpa using hg0) (.bool b))
      clear hfa ho hbw
      generalize hfk : flagAt l k = fk at *
      have HK := Lib.hid hfk
      clear hfk
      go_wp2_with fail
      exact ⟨⟨k + 1, by omega, by go_num, HS.out _ rfl, HOS.out _, HBS.out _⟩, by simp [intOf]; omega⟩
    · obtain rfl : k = vs.length := by omega
      have hrdf : RdF wr wr.heap.size (some ⟨g, 0, none⟩) ((List.range vs.length).map fun j => !flagAt l j) := (hfa.congr (f' := fun j => !flagAt l j) fun j hj => by simp [hj]).rdf
      generalize wr = w4 at *
      have HX4 := Lib.hid hbw
      have HO4 := Lib.hid ho
      have HRF := Lib.hid hrdf
      clear hfa ho hbw hrdf hlt
      go_wp2_with fail
      refine (key_good A cap _ vs (some ⟨g, 0, none⟩) vs.length _ _ _ (HR.out.on HX4.out) HRF.out (by omega) (by simp) hg.out rfl rfl y hy.out).mono ?_
      rintro e w5 ⟨B2, c2, rfl, ho2, hb⟩
      rw [hlen.out] at ho2
      rw [hlen.out]
      have HO2 := Lib.hid ho2
      have HO4 := Lib.hid (HO4.out.below hb)
      have HX5 := Lib.hid (onB HX4.out hb)
      generalize w4.heap.size = B' at *
      clear hb ho2 HRF HX4
      go_wp2_with fail
      go_loopw [11, 61] (fun q i wr => CmpRel w.heap.size x.length w B B' (.slice B1 x.length c1) (.slice B2 x.length c2) x y i wr) (fun _ i _ => x.length - (intOf i).toNat)
      case atStart => exact ⟨0, Nat.zero_le _, rfl, HO4.out, HO2.out, HX5.out⟩
      case round =>
        obtain ⟨j, hj, rfl, ho, ho2, hbw⟩ := hrel
        by_cases hlt : j < x.length
        · obtain ⟨ad1, u1, e1, hb1, hu1, hc1⟩ := (own_rd ho).cell hlt
          obtain ⟨ad2, u2, e2, hb2, hu2, hc2⟩ := (own_rd ho2).cell (show j < y.length by rw [hlen.out]; exact hlt)
          have hu := hxy.out j u1 u2 hu1 hu2
          have HOa := Lib.hid ho
          have HOb := Lib.hid ho2
          have HXb := Lib.hid hbw
          subst e1 e2
          have hbx := not_bits u1 u2 hu
          have hsg : IntKind.u8.signed = false := rfl
          have hmx : IntKind.u8.max = 255 := rfl
          clear ho ho2 hbw hu1 hu2 hu
          unfold b8 at hc1 hc2
          go_wp2_with fail
          go_quiet (fail)
          go_wp2_with fail
          exact ⟨⟨j + 1, by omega, by go_num, (show Own (wr.drewN nq) B _ x from HOa.out), (show Own (wr.drewN nq) B' _ y from HOb.out), belowN HXb.out nq⟩, by simp [intOf]; omega⟩
        · go_wp2_with fail
          have HXb := Lib.hid hbw
          refine (awake_any _).mono ?_
          rintro e w9 ⟨rfl, hb⟩
          have HX9 := Lib.hid (onB HXb.out hb)
          clear hb hbw
          go_wp2_with fail
          go_ret
          exact ⟨rfl, HX9.out⟩
theorem turnU_not (d : Bool) (c : UInt8) : c ^^^ turnU d = ~~~(c ^^^ turnU (!d)) := by
  apply UInt8.toNat_inj.mp
  have hc : c.toNat < 256 := c.toNat_lt
  cases d
  · show (c ^^^ 0).toNat = (~~~(c ^^^ 255)).toNat
    rw [UInt8.toNat_not, UInt8.toNat_xor, UInt8.toNat_xor]
    have h2 := xor_all ⟨c.toNat, hc⟩
    simp only at h2
    show c.toNat ^^^ 0 = 256 - 1 - (c.toNat ^^^ 255)
    rw [Nat.xor_zero, Nat.xor_comm, h2]
    omega
  · show (c ^^^ 255).toNat = (~~~(c ^^^ 0)).toNat
    rw [UInt8.toNat_not, UInt8.toNat_xor, UInt8.toNat_xor]
    have h2 := xor_all ⟨c.toNat, hc⟩
    simp only at h2
    show c.toNat ^^^ 255 = 256 - 1 - (c.toNat ^^^ 0)
    rw [Nat.xor_zero, Nat.xor_comm, h2]
theorem keyL_not : ∀ (vs : List Trip) (ds : List Bool), keyL vs ds = (keyL vs (ds.map (!·))).map (~~~·)
  | (k, n, s) :: vs, d :: ds => by
    have ih := keyL_not vs ds
    have h : turnL (turnU d) (partL k n s) = (turnL (turnU (!d)) (partL k n s)).map (~~~·) := by
      unfold turnL
      rw [List.map_map]
      refine List.map_congr_left fun c _ => ?_
      exact turnU_not d c
    rw [keyL, h, ih, List.map_cons, keyL, List.map_append]
  | [], _ => by simp [keyL]
  | _ :: _, [] => by simp [keyL]
theorem turned_walk (A : Option Addr) (cap : Nat) (vs : List Trip) (F : Option Addr) (fcap : Nat) (l : List Bool) (w : World) (hR : RdR w w.heap.size A vs) (hF : RdF w w.heap.size F l) (hc1 : vs.length ≤ cap) (hc2 : cap ≤ 9223372036854775807) (hfl : l.length ≤ 9223372036854775807)
    (hsz : ∀ t ∈ vs, In64 t.2.1 ∧ t.2.2.size ≤ 9223372036854775807) :
    Calls Try.prog 10 #[.slice A vs.length cap, .slice F l.length fcap] w fun e w' => e = .returned (.bool true) ∧ Below w.heap.size w w' := by
  cases h : rowOk vs 20
  · exact turned_no A cap vs F fcap l.length w hR (fun t ht => (hsz t ht).2) (by omega) (Lib.hid h)
  · obtain ⟨hg, hl⟩ := GoodR.of h (fun t ht => (hsz t ht).1)
    have hxl := keyL_good vs (flagsL l vs.length) hg
    have e : (flagsL l vs.length).map (!·) = (List.range vs.length).map fun j => !flagAt l j := by
      rw [flagsL, List.map_map]
      rfl
    have hn := keyL_not vs (flagsL l vs.length)
    rw [e] at hn
    refine turned_go A cap vs F fcap l w hR hF hfl (fun t ht => (hsz t ht).2) (Lib.hid h) (Lib.hid hg) hl _ _ (Lib.hid rfl) (Lib.hid rfl) (Lib.hid ?_) (by omega) (Lib.hid ?_)
    · rw [hn, List.length_map]
    · intro j a b ha hb
      rw [hn, List.getElem?_map, hb] at ha
      exact (Option.some.inj ha).symm
end Go.Proofs.Ytcpmfagnnidodaa
