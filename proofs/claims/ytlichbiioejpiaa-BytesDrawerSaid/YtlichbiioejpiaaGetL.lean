/-
  A list of byte slices that the call owns, and the contract of GetBlobs. Conditions: sizes as stated.
-/
import Derived.Test.YtlichbiioejpiaaLists
namespace Go.Proofs.Ytlichbiioejpiaa
open Go.ChangeShapes Go.WideShapes Go.ChangeAt Go.RowKit
set_option linter.unusedVariables false

/-- The slice v is the call's own, and so is each of its slices; they hold ls. -/
def OwnL (w : World) (base : Nat) (v : Value) (ls : List (List UInt8)) : Prop :=
  ∃ vs : List Value, w.ownsRow base 24 1 v ls.length vs ∧ ∀ (j : Nat) (m : List UInt8), ls[j]? = some m → ∃ u, vs[j]? = some u ∧ Own w base u m

theorem OwnL.nil (w : World) (base : Nat) : OwnL w base (.slice none 0 0) [] := ⟨[], World.ownsRow_nil w base _ _, fun j m h => by simp at h⟩

theorem getElem_lt {α : Type} {l : List α} {j : Nat} {u : α} (h : l[j]? = some u) : j < l.length := by
  rcases Nat.lt_or_ge j l.length with hlt | hge
  · exact hlt
  · rw [List.getElem?_eq_none hge] at h; cases h

theorem OwnL.form {w : World} {base : Nat} {v : Value} {ls : List (List UInt8)} (h : OwnL w base v ls) : ∃ A c, v = .slice A ls.length c ∧ ls.length ≤ c ∧ c ≤ maxLen ∧ RdL w w.heap.size A ls := by
  obtain ⟨vs, ⟨h1, h2⟩, h3⟩ := h
  rcases h2 with ⟨rfl, h0⟩ | ⟨g, cap, cur, rfl, hg, hh, hc, hm, hs, ht⟩
  · exact ⟨none, 0, by rw [h0], by omega, by simp [maxLen], fun hp => by omega⟩
  · have hlt : g < w.heap.size := by
      rcases Nat.lt_or_ge g w.heap.size with hlt | hge
      · exact hlt
      · rw [Array.getElem?_eq_none hge] at hh; cases hh
    refine ⟨_, cap, rfl, hc, hm, fun _ => ⟨_, rfl, hlt, fun j m hj => ?_⟩⟩
    obtain ⟨u, hu, ho⟩ := h3 j m hj
    obtain ⟨A', c', rfl, hc1, hc2, hrd⟩ := ho.form
    refine ⟨A', c', ?_, hc1, hc2, hrd⟩
    have hjl := getElem_lt hj
    rw [← ht, List.getElem?_take, if_pos (by omega)] at hu
    have ha : ((⟨g, 0, none⟩ : Addr).add j) = ⟨g, j, none⟩ := by
      unfold Addr.add
      by_cases hj0 : j = 0 <;> simp [hj0]
    rw [ha]
    simp only [World.cell?, hh]
    simpa using hu

/-- rows of two kinds of elements do not share a block -/
theorem own_apart {w : World} {b1 b2 : Nat} {e1 e2 : TypeId} {s1 s2 n1 n2 : Nat} {v1 v2 : Value} {x1 x2 : List Value} (h1 : w.ownsRow b1 e1 s1 v1 n1 x1) (h2 : w.ownsRow b2 e2 s2 v2 n2 x2) (hne : e1 ≠ e2) :
    v1.ownBlock = none ∨ v1.ownBlock ≠ v2.ownBlock := by
  rcases h1.2 with ⟨rfl, _⟩ | ⟨g, cap, cur, rfl, _, hh, _⟩
  · exact .inl rfl
  · right
    rcases h2.2 with ⟨rfl, _⟩ | ⟨g', cap', cur', rfl, _, hh', _⟩
    · simp [Value.ownBlock]
    · intro he
      have hgg : g = g' := by simpa [Value.ownBlock] using he
      subst hgg
      rw [hh] at hh'
      injection hh' with hh'
      injection hh' with _ ht
      exact hne ht

theorem wpList_app1L {W : World} {ops : Array Oper} {rest : List Oper} {o : Oper} {a : Act} {Q : Exit → Act → World → Prop} (hgd : o.guard = none) (s x : Operand)
    (ho : o.op = .call { callee := .builtin .append, args := #[s, x], argTypes := #[26, 26] })
    (base : Nat) (v : Value) (ls : List (List UInt8)) (hs : a.eval s = v) (hown : OwnL W base v ls) (u : Value) (m : List UInt8) (hu : Own W base u m) (hx : a.eval x = .slice (some ⟨W.heap.size, 0, none⟩) 1 1)
    (hlen : ls.length + 1 ≤ 2199023255552) (hbase : base ≤ W.heap.size)
    (h : ∀ v' w', OwnL w' base v' (ls ++ [m]) → Below base W w' → wpList Try.prog ops Q rest (a.put o.dst v') w') : wpList Try.prog ops Q (o :: rest) a (W.alloc (.cells #[u] 24)) := by
  obtain ⟨i0, hi, hz0, hz1, hz2⟩ := info_parts Try.info_bytes
  obtain ⟨vs, hrow, hin⟩ := hown
  have hvl : vs.length = ls.length := by have := hrow.1; omega
  have hone : u.oneCell' = true := by
    obtain ⟨A', c', rfl, _⟩ := hu.form
    rfl
  refine wpList_append_own _ hgd s x 26 ho base 24 i0 (.slice none 0 0) 1 24 Try.underlying26 hi hz0 hz1 hz2 rfl (by decide) v ls.length vs hs (hrow.alloc _) ⟨W.heap.size, 0, none⟩ 1 1 [u] hx rfl ?_ ?_ (by simp only [maxLen]; omega) (by omega) (by simp; omega) ?_
  · intro j q hq
    have hj := getElem_lt hq
    obtain rfl : j = 0 := by simpa using hj
    have hq' : u = q := by simpa using hq
    subst hq'
    have ha : ((⟨W.heap.size, 0, none⟩ : Addr).add 0) = ⟨W.heap.size, 0, none⟩ := by simp [Addr.add]
    rw [ha]
    simp only [World.cell?, heap_alloc_new]
    rfl
  · intro q hq
    obtain rfl : q = u := by simpa using hq
    exact hone
  · intro v' w' h1 h2 _
    refine h v' w' ⟨vs ++ [u], by rw [List.length_append]; exact h1, ?_⟩ (((Below.refl _ _).alloc hbase _).grown h2 (by simp; omega) fun k hk => (hrow.lt k hk).1)
    intro j q hq
    have hapart : ∀ (y : Value) (z : List UInt8), Own W base y z → Own w' base y z := fun y z hy =>
      World.ownsRow.kept (hy.alloc _) h2 (own_apart hy hrow (by decide))
    rcases Nat.lt_or_ge j ls.length with hlt | hge
    · rw [List.getElem?_append_left hlt] at hq
      obtain ⟨y, hy, hoy⟩ := hin j q hq
      exact ⟨y, by rw [List.getElem?_append_left (by omega)]; exact hy, hapart y q hoy⟩
    · rw [List.getElem?_append_right hge] at hq
      have hj := getElem_lt hq
      have hj0 : j = ls.length := by simp at hj; omega
      subst hj0
      simp at hq
      subst hq
      exact ⟨u, by rw [List.getElem?_append_right (by omega)]; simp [hvl], hapart u _ hu⟩

theorem OwnL.below {w w' : World} {base : Nat} {v : Value} {ls : List (List UInt8)} (h : OwnL w base v ls) (hb : Below w.heap.size w w') : OwnL w' base v ls := by
  obtain ⟨vs, h1, h2⟩ := h
  refine ⟨vs, ?_, fun j m hj => ?_⟩
  · obtain ⟨h3, h4⟩ := h1
    refine ⟨h3, ?_⟩
    rcases h4 with h4 | ⟨g, cap, cur, hv, hg, hh, r⟩
    · exact .inl h4
    · have hlt : g < w.heap.size := by
        rcases Nat.lt_or_ge g w.heap.size with hlt | hge
        · exact hlt
        · rw [Array.getElem?_eq_none hge] at hh; cases hh
      exact .inr ⟨g, cap, cur, hv, hg, (hb.block g hlt).trans hh, r⟩
  · obtain ⟨u, hu, ho⟩ := h2 j m hj
    exact ⟨u, hu, ho.below hb⟩

theorem blobAt_ok (l : List UInt8) (p most : Int) (m : List UInt8) (q : Nat) (h : blobAt l p most = (m, q, 0)) : p.toNat < q ∧ q ≤ l.length ∧ m.length ≤ l.length := by
  unfold blobAt at h
  by_cases h0 : (uintAt l p).2.2 = 0
  · rw [if_neg (by simpa using h0)] at h
    have hb := uintAt_back l p (uintAt l p).1 (uintAt l p).2.1 (Prod.ext rfl (Prod.ext rfl h0))
    have hpos := Lib.uvarint_pos (uintAt l p).1
    by_cases h1 : above (uintAt l p).1 most = true
    · rw [if_pos h1] at h
      exact absurd (congrArg (fun x => x.2.2) h) (by simp)
    · rw [if_neg h1] at h
      by_cases h2 : above (uintAt l p).1 ((l.length : Int) - (uintAt l p).2.1) = true
      · rw [if_pos h2] at h
        exact absurd (congrArg (fun x => x.2.2) h) (by simp)
      · rw [if_neg h2] at h
        simp only [Prod.mk.injEq, and_true] at h
        have h2' : above (uintAt l p).1 ((l.length : Int) - (uintAt l p).2.1) = false := by simpa using h2
        simp only [above, Bool.or_eq_false_iff, decide_eq_false_iff_not] at h2'
        refine ⟨by omega, by omega, ?_⟩
        rw [← h.1, List.length_take, List.length_drop]
        omega
  · rw [if_pos h0] at h
    exact absurd (congrArg (fun x => x.2.2) h) h0

/-- what GetBlobs comes to, some strings read already -/
def afterL (acc : List (List UInt8)) (r : List (List UInt8) × Nat × Nat) : List (List UInt8) × Nat × Nat := if r.2.2 ≠ 0 then ([], 0, r.2.2) else (acc ++ r.1, r.2.1, 0)

theorem blobsGo_err (l : List UInt8) (most : Int) (n q : Nat) (h : (blobsGo l most n q).2.2 ≠ 0) : blobsGo l most n q = ([], 0, (blobsGo l most n q).2.2) := by
  cases n with
  | zero => exact absurd rfl h
  | succ n =>
    unfold blobsGo at h ⊢
    by_cases h1 : (blobAt l q most).2.2 ≠ 0
    · rw [if_pos h1]
    · rw [if_neg h1] at h ⊢
      by_cases h2 : (blobsGo l most n (blobAt l q most).2.1).2.2 ≠ 0
      · rw [if_pos h2]
      · rw [if_neg h2] at h
        exact absurd rfl h

theorem afterL_nil (l : List UInt8) (most : Int) (n q : Nat) : afterL [] (blobsGo l most n q) = blobsGo l most n q := by
  unfold afterL
  by_cases h : (blobsGo l most n q).2.2 ≠ 0
  · rw [if_pos h, ← blobsGo_err l most n q h]
  · rw [if_neg h]
    have h' : (blobsGo l most n q).2.2 = 0 := by simpa using h
    exact Prod.ext rfl (Prod.ext rfl h'.symm)

theorem afterL_bad (l : List UInt8) (most : Int) (n q : Nat) (acc : List (List UInt8)) (hn : 0 < n) (h : (blobAt l q most).2.2 ≠ 0) : afterL acc (blobsGo l most n q) = ([], 0, (blobAt l q most).2.2) := by
  obtain ⟨k, rfl⟩ : ∃ k, n = k + 1 := ⟨n - 1, by omega⟩
  unfold afterL blobsGo
  rw [if_pos h, if_pos h]

theorem afterL_step (l : List UInt8) (most : Int) (n q : Nat) (acc : List (List UInt8)) (m : List UInt8) (q' : Nat) (hn : 0 < n) (h : blobAt l q most = (m, q', 0)) :
    afterL acc (blobsGo l most n q) = afterL (acc ++ [m]) (blobsGo l most (n - 1) q') := by
  obtain ⟨k, rfl⟩ : ∃ k, n = k + 1 := ⟨n - 1, by omega⟩
  rw [Nat.add_sub_cancel]
  unfold afterL
  rw [blobsGo, h]
  simp only [ne_eq, not_true_eq_false, if_false]
  by_cases h2 : (blobsGo l most k q').2.2 = 0
  · simp [h2]
  · simp [h2]

def GetsRel (l : List UInt8) (most : Int) (n : Nat) (R : List (List UInt8) × Nat × Nat) (base : Nat) (w : World) (next v i : Value) (wr : World) : Prop :=
  ∃ (k q : Nat) (acc : List (List UInt8)), k ≤ n ∧ i = .int .u64 k ∧ next = .int .i64 q ∧ q ≤ l.length ∧ acc.length ≤ q ∧ afterL acc (blobsGo l most (n - k) q) = R ∧ OwnL wr base v acc ∧ Below base w wr

/-- what GetBlobs comes back with -/
def RetL (R : List (List UInt8) × Nat × Nat) (w : World) (e : Ending) (w' : World) : Prop :=
  ∃ v, e = .returned (.tuple #[v, .int .i64 (R.2.1 : Nat), .int .i64 (R.2.2 : Nat)]) ∧ OwnL w' w.heap.size v R.1 ∧ Below w.heap.size w w'

theorem GetBlobs_any (A : Option Addr) (c : Nat) (l : List UInt8) (p many most : Int) (w : World) (hl : l.length ≤ 1099511627776) (hc : l.length ≤ c) (hcm : c ≤ maxLen) (hA : Rd w w.heap.size A l)
    (hn1 : -9223372036854775808 ≤ many) (hn2 : many ≤ 9223372036854775807) (hm1 : -9223372036854775808 ≤ most) (hm2 : most ≤ 9223372036854775807) :
    Calls Try.prog 17 #[.slice A l.length c, .int .i64 p, .int .i64 many, .int .i64 most] w (RetL (blobsAt l p many most) w) := by
  obtain ⟨hu1, hu2, hu3⟩ := uintAt_lt l p
  have HU := Lib.hid (GetUint_any A c l p w hl hA)
  have hback := uintAt_back l p (uintAt l p).1 (uintAt l p).2.1
  generalize hR : blobsAt l p many most = R at *
  unfold blobsAt at hR
  generalize uintAt l p = r at *
  obtain ⟨n, q0, e0⟩ := r
  simp only at hu1 hu2 hu3 hR hback
  by_cases h0 : e0 = 0
  · subst h0
    rw [if_neg (by simp)] at hR
    have hpos := Lib.uvarint_pos n
    have hq0 := (hback rfl).2.2.1
    have hq1 : 1 ≤ q0 := by omega
    clear hback hq0 hpos
    by_cases h1 : above n many = true
    · rw [if_pos h1] at hR
      subst hR
      go_enter Try.func17, Try.ntmps17
      go_wp2_with fail
      refine HU.out.mono ?_
      rintro e w' ⟨rfl, rfl⟩
      go_wp2_with fail
      refine (isAbove_any n many _ (by omega) (by omega) hn1 hn2).mono ?_
      rintro e w' ⟨rfl, rfl⟩
      rw [h1]
      go_wp2_with fail
      go_ret3
      exact ⟨_, rfl, OwnL.nil _ _, Below.refl _ _⟩
    · rw [if_neg h1] at hR
      have h1' : above n many = false := by simpa using h1
      clear h1
      have HR := Lib.hid hR
      clear hR
      go_enter Try.func17, Try.ntmps17
      go_wp2_with fail
      refine HU.out.mono ?_
      rintro e w' ⟨rfl, rfl⟩
      go_wp2_with fail
      refine (isAbove_any n many _ (by omega) (by omega) hn1 hn2).mono ?_
      rintro e w' ⟨rfl, rfl⟩
      rw [h1']
      go_wp2_with fail
      go_loopw [12, 14, 32] (fun next v i wr => GetsRel l most n R w.heap.size w next v i wr) (fun _ _ i _ => n - (intOf i).toNat)
      case atStart => exact ⟨0, q0, [], Nat.zero_le _, rfl, rfl, hu2, Nat.zero_le _, by rw [afterL_nil]; exact HR.out, OwnL.nil _ _, Below.refl _ _⟩
      case round =>
        obtain ⟨k, q, acc, hk, rfl, rfl, hq, hacc, haft, ho, hb⟩ := hrel
        have hsz := hb.size
        have hrd := (hA.below hb).more hsz
        have hat := GetBlob_err A c l q most
        have hok := GetBlob_ok A c l q most
        by_cases hlt : k < n
        · by_cases hbad : (blobAt l q most).2.2 = 0
          · obtain ⟨m, q', hm⟩ : ∃ m q', blobAt l q most = (m, q', 0) := ⟨_, _, Prod.ext rfl (Prod.ext rfl hbad)⟩
            obtain ⟨hq1', hq2', hml⟩ := blobAt_ok l q most m q' hm
            have hq3 : q < q' := by simpa using hq1'
            rw [afterL_step l most (n - k) q acc m q' (by omega) hm, show n - k - 1 = n - (k + 1) from by omega] at haft
            have HAFT := Lib.hid haft
            have HOK := Lib.hid (hok m q' wr hl hc hcm hrd hm1 hm2 hm)
            clear hat hok haft hbad hm hq1'
            obtain ⟨A1, c1, rfl, hc1, hc2, hrd1⟩ := ho.form
            go_wp2_with fail
            refine HOK.out.mono ?_
            rintro e w1 ⟨v1, rfl, ho1, hb1⟩
            have hsz1 := hb1.size
            have HO := ho.below hb1
            have HO1 := ho1.mono hsz
            obtain ⟨A2, c2, rfl, hc3, hc4, hrd2⟩ := ho1.form
            clear ho ho1
            go_wp2_with (at_builtin; refine wpList_app1L rfl (.tmp 45) (.tmp 47) rfl w.heap.size (.slice A1 acc.length c1) acc rfl HO (.slice A2 m.length c2) m HO1 rfl (by omega) (by omega) ?_; intro v3 w3 ho3 hb3)
            go_roundw
            case rel => exact ⟨k + 1, q', acc ++ [m], by omega, by go_num, rfl, hq2', by rw [List.length_append, List.length_singleton]; omega, HAFT.out, ho3, (hb.trans (hb1.mono hsz)).trans hb3⟩
            case measure => simp [intOf]; omega
          · rw [afterL_bad l most (n - k) q acc (by omega) hbad] at haft
            subst haft
            generalize hbe : blobAt l q most = be at *
            obtain ⟨m, q', e1⟩ := be
            have hbad' : e1 ≠ 0 := hbad
            have HAT := Lib.hid (hat m q' e1 wr hl hc hrd hm1 hm2 rfl hbad')
            have hne := neqI e1 hbad'
            clear hat hok hbe
            go_wp2_with fail
            refine HAT.out.mono ?_
            rintro e w1 ⟨rfl, rfl⟩
            go_wp2_with fail
            go_ret3
            exact ⟨_, rfl, OwnL.nil _ _, hb⟩
        · obtain rfl : k = n := by omega
          rw [Nat.sub_self] at haft
          have hfin : R = (acc, q, 0) := by
            rw [← haft]
            simp [afterL, blobsGo]
          subst hfin
          clear hat hok haft
          obtain ⟨A1, c1, rfl, hc1, hc2, hrd1⟩ := ho.form
          go_wp2_with fail
          go_ret3
          exact ⟨_, rfl, ho, hb⟩
  · rw [if_pos h0] at hR
    subst hR
    have hne := neqI e0 h0
    clear hback
    go_enter Try.func17, Try.ntmps17
    go_wp2_with fail
    refine HU.out.mono ?_
    rintro e w' ⟨rfl, rfl⟩
    go_wp2_with fail
    go_ret3
    exact ⟨_, rfl, OwnL.nil _ _, Below.refl _ _⟩
end Go.Proofs.Ytlichbiioejpiaa
