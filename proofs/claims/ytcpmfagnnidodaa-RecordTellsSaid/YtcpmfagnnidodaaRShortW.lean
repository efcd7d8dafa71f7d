/-
  RecordShort returns true for every row: the walk. Conditions: numbers of 64 bits; sizes.
-/
import Derived.Test.YtcpmfagnnidodaaRShortM
namespace Go.Proofs.Ytcpmfagnnidodaa
open Go.ChangeShapes Go.WideShapes Go.ChangeAt Go.RowKit
set_option linter.unusedVariables false

theorem Try.info_V : (Try.prog.info? 44).map (fun i => (i.zero, i.size, i.bytes)) = some (some (vv 0 0 ⟨#[]⟩), 3, 32) := by kernel_rfl
set_option maxRecDepth 100000 in
/-- append of values onto a slice of the call's own -/
theorem wpList_appR {w : World} {ops : Array Oper} {rest : List Oper} {o : Oper} {a : Act} {Q : Exit → Act → World → Prop} (hgd : o.guard = none) (s x : Operand)
    (ho : o.op = .call { callee := .builtin .append, args := #[s, x], argTypes := #[46, 46] })
    (base : Nat) (v : Value) (vs : List Trip) (hs : a.eval s = v) (hown : OwnR w base v vs) (ad : Addr) (c : Nat) (us : List Trip) (n : Nat) (hn : n = us.length) (hx : a.eval x = .slice (some ad) n c) (hr : ∀ j u, (cellsL us)[j]? = some u → w.cell? (ad.add j) = some u)
    (hlen : vs.length + us.length ≤ 1099511627776) (hbase : base ≤ w.heap.size)
    (h : ∀ v' w', OwnR w' base v' (vs ++ us) → Below base w w' → wpList Try.prog ops Q rest (a.put o.dst v') w') : wpList Try.prog ops Q (o :: rest) a w := by
  subst hn
  obtain ⟨i0, hi, hz0, hz1, hz2⟩ := info_parts Try.info_V
  refine wpList_append_own w hgd s x 46 ho base 44 i0 _ 3 32 Try.underlying46 hi hz0 hz1 hz2 rfl (by decide) v vs.length (cellsL vs) hs hown ad us.length c (cellsL us) hx (cellsL_length us) hr (cellsL_one us) (by simp only [maxLen]; omega) (by omega) hbase ?_
  intro v' w' h1 h2 _
  refine h v' w' ?_ ((Below.refl _ _).grown h2 hbase fun k hk => (World.ownsRow.lt hown k hk).1)
  unfold OwnR
  rw [List.length_append, cellsL_append]
  exact h1
set_option maxRecDepth 100000 in
theorem CopyValues_some (ad : Addr) (cap : Nat) (vs : List Trip) (w : World) (hl : vs.length ≤ 1000) (hR : RdR w w.heap.size (some ad) vs) :
    Calls Try.prog 29 #[.slice (some ad) vs.length cap] w fun e w' => ∃ v, e = .returned v ∧ OwnR w' w.heap.size v vs ∧ Below w.heap.size w w' := by
  have HO := Lib.hid (show OwnR w w.heap.size (.slice none 0 0) [] from World.ownsRow_nil w w.heap.size _ 3)
  have HC := Lib.hid hR.cells
  go_enter Try.func29, Try.ntmps29
  go_wp2_with (at_builtin; refine wpList_appR rfl (.tmp 4) (.tmp 5) rfl w.heap.size (.slice none 0 0) [] rfl HO.out ad cap vs vs.length rfl rfl HC.out (by simp; omega) (Nat.le_refl _) ?_; intro v1 w1 ho1 hb1; rw [List.nil_append] at ho1; have HO1 := Lib.hid ho1; have HB1 := Lib.hid hb1; obtain ⟨A1, c1, rfl, _, _, _⟩ := ho1.form; clear ho1 hb1)
  go_ret
  exact ⟨_, rfl, HO1.out, HB1.out⟩
set_option maxRecDepth 100000 in
theorem CopyValues_none (w : World) :
    Calls Try.prog 29 #[.slice none 0 0] w fun e w' => ∃ v, e = .returned v ∧ OwnR w' w.heap.size v [] ∧ Below w.heap.size w w' := by
  go_enter Try.func29, Try.ntmps29
  go_wp2_with fail
  go_ret
  exact ⟨_, rfl, World.ownsRow_nil w w.heap.size _ 3, Below.refl _ _⟩
theorem CopyValues_any (A : Option Addr) (cap : Nat) (vs : List Trip) (w : World) (hl : vs.length ≤ 1000) (hR : RdR w w.heap.size A vs) (hnil : A = none → vs = [] ∧ cap = 0) :
    Calls Try.prog 29 #[.slice A vs.length cap] w fun e w' => ∃ v, e = .returned v ∧ OwnR w' w.heap.size v vs ∧ Below w.heap.size w w' := by
  cases A with
  | none =>
    obtain ⟨rfl, rfl⟩ := hnil rfl
    exact CopyValues_none w
  | some ad => exact CopyValues_some ad cap vs w hl hR

def RoomRel (base : Nat) (w : World) (vs : List Trip) (z i : Value) (wr : World) : Prop :=
  ∃ k : Nat, k ≤ vs.length ∧ i = .int .i64 k ∧ z = .int .i64 ((2 + sumM (vs.take k) : Nat) : Int) ∧ Below base w wr
set_option maxRecDepth 100000 in
theorem short_no (A : Option Addr) (cap : Nat) (vs : List Trip) (w : World) (hR : RdR w w.heap.size A vs) (hsz : ∀ t ∈ vs, t.2.2.size ≤ 9223372036854775807) (hcap : vs.length ≤ 9223372036854775807) (h : Hid (rowOk vs 150 = false)) :
    Calls Try.prog 11 #[.slice A vs.length cap] w fun e w' => e = .returned (.bool true) ∧ Below w.heap.size w w' := by
  go_enter Try.func11, Try.ntmps11
  go_wp2_with (go_at_call 38; refine (right_any A cap vs 150 _ hR (by omega) hsz hcap).mono ?_; rintro e w1 ⟨rfl, hb⟩; rw [h.out]; have HX := Lib.hid hb; clear hb)
  refine (awake_any _).mono ?_
  rintro e w2 ⟨rfl, b2⟩
  go_wp2_with fail
  go_ret
  exact ⟨rfl, onB HX.out b2⟩
set_option maxRecDepth 100000 in
set_option maxHeartbeats 2000000 in
theorem short_go (A : Option Addr) (cap : Nat) (vs : List Trip) (w : World) (hR : RdR w w.heap.size A vs) (hnil : A = none → vs = [] ∧ cap = 0)
    (hsz : ∀ t ∈ vs, t.2.2.size ≤ 9223372036854775807) (h : Hid (rowOk vs 150 = true)) (hg : Hid (GoodR vs)) (hl : vs.length ≤ 150) (x y : List UInt8) (hx : Hid (putL vs = x)) (hy : Hid (putL (vs ++ [(0, 0, ⟨#[]⟩)]) = y))
    (m1 : x.length ≤ 2 + sumM vs) (m2 : vs.length < x.length) (m3 : x.length < y.length) (m4 : x.length ≤ 1000000) (m5 : y.length ≤ 1000000) :
    Calls Try.prog 11 #[.slice A vs.length cap] w fun e w' => e = .returned (.bool true) ∧ Below w.heap.size w w' := by
  have HR := Lib.hid hR
  have HNil := Lib.hid hnil
  have hsm := sumM_le vs hg.out
  clear hnil
  go_enter Try.func11, Try.ntmps11
  go_wp2_with (go_at_call 38; refine (right_any A cap vs 150 _ hR (by omega) hsz (by omega)).mono ?_; rintro e w1 ⟨rfl, hb⟩; rw [h.out]; have HX := Lib.hid hb; clear hb)
  go_loopw [3, 15] (fun z i wr => RoomRel w.heap.size w vs z i wr) (fun _ i _ => vs.length - (intOf i).toNat)
  case atStart => exact ⟨0, Nat.zero_le _, rfl, by simp [sumM], HX.out⟩
  case round =>
    obtain ⟨k, hk, rfl, rfl, hbw⟩ := hrel
    have HW := Lib.hid hbw
    by_cases hlt : k < vs.length
    · obtain ⟨⟨kk, n, s⟩, hget⟩ : ∃ t, vs[k]? = some t := ⟨vs[k], List.getElem?_eq_getElem hlt⟩
      obtain ⟨ad, e, hal, hcs⟩ := (hR.below hbw) (by omega)
      obtain ⟨c0, c1, c2⟩ := hcs k kk n s hget
      have HT := Lib.hid (sumM_take hget)
      have hs100 : s.size ≤ 100 := (hg.out _ (List.mem_of_getElem? hget)).2.1
      have hsm2 := sumM_le (vs.take k) (hg.out.take k)
      have hlk : (vs.take k).length ≤ 150 := by rw [List.length_take]; omega
      have hsm3 : sumM (vs.take k) ≤ 16500 := by omega
      subst e
      clear hget hcs hbw hsm2 hlk c1
      by_cases h0 : kk = 0
      · subst h0
        have HQ := Lib.hid (show roomN 0 s = 1 by simp [roomN])
        go_wp2_with fail
        go_roundw
        case rel => exact ⟨k + 1, by omega, by go_num, by rw [HT.out, HQ.out]; go_num, HW.out⟩
        case measure => simp [intOf]; omega
      · have e0 : (kk == 0) = false := by simpa using h0
        by_cases h1 : kk = 1
        · subst h1
          have HQ := Lib.hid (show roomN 1 s = 9 by simp [roomN])
          go_wp2_with fail
          go_roundw
          case rel => exact ⟨k + 1, by omega, by go_num, by rw [HT.out, HQ.out]; go_num, HW.out⟩
          case measure => simp [intOf]; omega
        · have e1 : (kk == 1) = false := by simpa using h1
          have HQ := Lib.hid (show roomN kk s = s.size + 3 by simp [roomN, h0, h1])
          clear h0 h1
          go_wp2_with fail
          go_roundw
          case rel => exact ⟨k + 1, by omega, by go_num, by rw [HT.out, HQ.out]; go_num, HW.out⟩
          case measure => simp [intOf]; omega
    · obtain rfl : k = vs.length := by omega
      rw [show vs.take vs.length = vs from List.take_length]
      generalize wr = w2 at *
      clear hbw hlt
      go_wp2_with fail
      refine (put_good A cap _ vs w2 (HR.out.on HW.out) (by omega) hg.out rfl x hx.out).mono ?_
      rintro e w3 ⟨B1, c1, rfl, ho1, hb⟩
      have HX := Lib.hid (onB HW.out hb)
      clear ho1 hb hR
      go_wp2_with fail
      refine (CopyValues_any A cap vs w3 (by omega) (HR.out.on HX.out) HNil.out).mono ?_
      rintro e w4 ⟨v4, rfl, ho4, hb⟩
      have HO4 := Lib.hid ho4
      have hxs := hb.size
      have HB4 := Lib.hid hb
      obtain ⟨A4, c4, rfl, _, _, _⟩ := ho4.form
      have HC4 := Lib.hid ((rdr_new w4 [(0, 0, ⟨#[]⟩)] _ (Below.refl _ _)).cells)
      clear hb ho4
      go_wp2_with (at_builtin; refine wpList_appR rfl (.tmp 48) (.tmp 50) rfl w3.heap.size (.slice A4 vs.length c4) vs rfl (World.ownsRow.alloc HO4.out _) ⟨w4.heap.size, 0, none⟩ 1 [(0, 0, ⟨#[]⟩)] 1 rfl rfl HC4.out (by simp; omega) (by simp; omega) ?_; intro v5 w5 ho5 hb5; have HO5 := Lib.hid ho5; have HB5 := Lib.hid ((HB4.out.alloc hxs (box 0 0 ⟨#[]⟩)).trans hb5); obtain ⟨A5, c5, rfl, _, _, _⟩ := ho5.form; clear ho5 hb5)
      have HR5 : RdR w5 w5.heap.size A5 (vs ++ [(0, 0, ⟨#[]⟩)]) := by
        obtain ⟨A', c', e, _, _, hr⟩ := HO5.out.form
        have e1 : A5 = A' := by injection e
        rw [e1]
        exact hr
      refine (put_good A5 c5 (vs.length + 1) (vs ++ [(0, 0, ⟨#[]⟩)]) w5 HR5 (by simp; omega) hg.out.snoc (by simp) y hy.out).mono ?_
      rintro e w6 ⟨B2, c2, rfl, ho6, hb⟩
      have HX6 := Lib.hid ((HX.out.trans (HB5.out.mono HX.out.size)).trans (hb.mono (Nat.le_trans HX.out.size HB5.out.size)))
      have q1 : decide ((x.length : Int) ≤ 2 + (sumM vs : Int)) = true := decide_eq_true (by omega)
      have q2 : decide ((vs.length : Int) < (x.length : Int)) = true := decide_eq_true (by omega)
      have q3 : decide ((x.length : Int) < (y.length : Int)) = true := decide_eq_true (by omega)
      clear ho6 hb HR5 HB5 HO5 HC4 HB4 HO4
      go_wp2_with fail
      refine (awake_any _).mono ?_
      rintro e w9 ⟨rfl, hb⟩
      have HX9 := Lib.hid (onB HX6.out hb)
      clear hb
      go_wp2_with fail
      go_ret
      exact ⟨rfl, HX9.out⟩
theorem short_walk (A : Option Addr) (cap : Nat) (vs : List Trip) (w : World) (hR : RdR w w.heap.size A vs) (hnil : A = none → vs = [] ∧ cap = 0) (hc1 : vs.length ≤ cap) (hc2 : cap ≤ 9223372036854775807)
    (hsz : ∀ t ∈ vs, In64 t.2.1 ∧ t.2.2.size ≤ 9223372036854775807) :
    Calls Try.prog 11 #[.slice A vs.length cap] w fun e w' => e = .returned (.bool true) ∧ Below w.heap.size w w' := by
  cases h : rowOk vs 150
  · exact short_no A cap vs w hR (fun t ht => (hsz t ht).2) (by omega) (Lib.hid h)
  · obtain ⟨hg, hl⟩ := GoodR.of h (fun t ht => (hsz t ht).1)
    obtain ⟨m1, m2, m3, m4, m5⟩ := short_math vs hg hl
    exact short_go A cap vs w hR hnil (fun t ht => (hsz t ht).2) (Lib.hid h) (Lib.hid hg) hl _ _ (Lib.hid rfl) (Lib.hid rfl) m1 m2 m3 m4 m5
end Go.Proofs.Ytcpmfagnnidodaa
