/-
  Layer 9: the document's own answer: blobs, Hex. Conditions: sizes.
-/
import Derived.Test.YtceknmibopnmhaaDoorWRefC
import Derived.Test.YtceknmibopnmhaaDoorWQH
namespace Go.Proofs.YtceknmibopnmhaaDoor
open Go.ChangeShapes Go.WideShapes Go.ChangeAt Go.RowKit
set_option linter.unusedVariables false

theorem RdR.two (w : World) (u v : UInt8) : Rd (w.alloc (.cells #[b8 u, b8 v] 5)).drew (w.alloc (.cells #[b8 u, b8 v] 5)).drew.heap.size (some ⟨w.heap.size, 0, none⟩) [u, v] := by
  intro _
  refine ⟨_, rfl, by simp, fun j q hq => ?_⟩
  have ha : ((⟨w.heap.size, 0, none⟩ : Addr).add j) = ⟨w.heap.size, j, none⟩ := by
    unfold Addr.add
    by_cases hj0 : j = 0 <;> simp [hj0]
  rw [ha]
  match j, hq with
  | 0, hq =>
    obtain rfl : u = q := by simpa using hq
    simp [go_sem]
  | 1, hq =>
    obtain rfl : v = q := by simpa using hq
    simp [go_sem]
  | j + 2, hq => simp at hq
set_option maxRecDepth 100000 in
theorem rstep_app2 {W : World} {ops : Array Oper} {o : Oper} {a : Act} {K : Act → World → Prop} {Q : Exit → Act → World → Prop} {E : Prop} (hgd : o.guard = none) (s x : Operand)
    (ho : o.op = .call { callee := .builtin .append, args := #[s, x], argTypes := #[39, 39] })
    (base : Nat) (v : Value) (l : List UInt8) (hs : a.eval s = v) (hown : Own W base v l) (z1 z2 : Int) (u1 u2 : UInt8) (e1 : z1 = (u1.toNat : Int)) (e2 : z2 = (u2.toNat : Int)) (hx : a.eval x = .slice (some ⟨W.heap.size, 0, none⟩) 2 2)
    (hlen : l.length + 2 ≤ 70368744177664) (hbase : base ≤ W.heap.size)
    (h : ∀ v' w', Own w' base v' (l ++ [u1, u2]) → Below base W w' → K (a.put o.dst v') w') :
    if Region.wanted o (yielded ops a.tmps) = true then Oper.wp Tryd.prog o a (W.alloc (.cells #[.int .u8 z1, .int .u8 z2] 5)).drew K Q else E := by
  subst e1 e2
  have hw : Region.wanted o (yielded ops a.tmps) = true := by simp [Region.wanted, hgd]
  rw [if_pos hw]
  obtain ⟨i0, hi, hz0, hz1, hz2⟩ := info_parts Tryd.info_u8
  have hown' : Own (W.alloc (.cells #[b8 u1, b8 u2] 5)).drew base v l := (hown.alloc _).drew
  have hr := RdR.two W u1 u2
  refine wp_append_own (W.alloc (.cells #[b8 u1, b8 u2] 5)).drew s x 39 ho base 5 i0 (.int .u8 0) 1 1 Tryd.underlying39 hi hz0 hz1 hz2 rfl (by decide) v l.length (bs l) hs hown' ⟨W.heap.size, 0, none⟩ 2 2 (bs [u1, u2]) hx rfl ?_ (bs_one _) (by simp only [maxLen]; omega) (by omega) (by simp; omega) ?_
  · intro j u hu
    rw [bs_getElem?] at hu
    obtain ⟨q, hq, rfl⟩ := Option.map_eq_some_iff.1 hu
    obtain ⟨ad', e, _, hc⟩ := hr (by simp)
    injection e with e
    subst e
    exact hc j q hq
  · intro v' w' h1 h2 _
    refine h v' w' ?_ (((Below.refl _ _).alloc hbase _).trans ((Below.refl _ _).drew.grown h2 (by simp; omega) fun k hk => (hown'.lt k hk).1))
    unfold Own
    rw [List.length_append, bs_append]
    exact h1
theorem RdR.one (w : World) (u : UInt8) : Rd (w.alloc (.cells #[b8 u] 5)).drew (w.alloc (.cells #[b8 u] 5)).drew.heap.size (some ⟨w.heap.size, 0, none⟩) [u] := Rd.one w u
set_option maxRecDepth 100000 in
theorem rstep_app1 {W : World} {ops : Array Oper} {o : Oper} {a : Act} {K : Act → World → Prop} {Q : Exit → Act → World → Prop} {E : Prop} (hgd : o.guard = none) (s x : Operand)
    (ho : o.op = .call { callee := .builtin .append, args := #[s, x], argTypes := #[39, 39] })
    (base : Nat) (v : Value) (l : List UInt8) (hs : a.eval s = v) (hown : Own W base v l) (z1 : Int) (u1 : UInt8) (e1 : z1 = (u1.toNat : Int)) (hx : a.eval x = .slice (some ⟨W.heap.size, 0, none⟩) 1 1)
    (hlen : l.length + 2 ≤ 70368744177664) (hbase : base ≤ W.heap.size)
    (h : ∀ v' w', Own w' base v' (l ++ [u1]) → Below base W w' → K (a.put o.dst v') w') :
    if Region.wanted o (yielded ops a.tmps) = true then Oper.wp Tryd.prog o a (W.alloc (.cells #[.int .u8 z1] 5)).drew K Q else E := by
  subst e1
  have hw : Region.wanted o (yielded ops a.tmps) = true := by simp [Region.wanted, hgd]
  rw [if_pos hw]
  obtain ⟨i0, hi, hz0, hz1, hz2⟩ := info_parts Tryd.info_u8
  have hown' : Own (W.alloc (.cells #[b8 u1] 5)).drew base v l := (hown.alloc _).drew
  have hr := RdR.one W u1
  refine wp_append_own (W.alloc (.cells #[b8 u1] 5)).drew s x 39 ho base 5 i0 (.int .u8 0) 1 1 Tryd.underlying39 hi hz0 hz1 hz2 rfl (by decide) v l.length (bs l) hs hown' ⟨W.heap.size, 0, none⟩ 1 1 (bs [u1]) hx rfl ?_ (bs_one _) (by simp only [maxLen]; omega) (by omega) (by simp; omega) ?_
  · intro j u hu
    rw [bs_getElem?] at hu
    obtain ⟨q, hq, rfl⟩ := Option.map_eq_some_iff.1 hu
    obtain ⟨ad', e, _, hc⟩ := hr (by simp)
    injection e with e
    subst e
    exact hc j q hq
  · intro v' w' h1 h2 _
    refine h v' w' ?_ (((Below.refl _ _).alloc hbase _).trans ((Below.refl _ _).drew.grown h2 (by simp; omega) fun k hk => (hown'.lt k hk).1))
    unfold Own
    rw [List.length_append, bs_append]
    exact h1
theorem Own.new2 (w : World) (u v : UInt8) : Own (w.alloc (.cells #[.int .u8 (u.toNat : Int), .int .u8 (v.toNat : Int)] 5)) w.heap.size (.slice (some ⟨w.heap.size, 0, none⟩) 2 2) [u, v] := by
  refine ⟨rfl, .inr ⟨w.heap.size, 2, #[.int .u8 (u.toNat : Int), .int .u8 (v.toNat : Int)], rfl, Nat.le_refl _, ?_, Nat.le_refl _, by simp only [maxLen]; omega, rfl, ?_⟩⟩
  · rw [heap_alloc_new]
  · simp [bs, b8]
def HxRelR (s : ByteArray) (w : World) (v i : Value) (wr : World) : Prop :=
  ∃ k : Nat, k ≤ s.size ∧ i = .int .i64 (k : Int) ∧ Own wr w.heap.size v (120 :: 39 :: M.hexL (s.data.toList.take k)) ∧ Below w.heap.size w wr
set_option maxRecDepth 100000 in
set_option maxHeartbeats 1000000 in
theorem rHex_any (s : ByteArray) (w : World) (hs : s.size ≤ 65536) : Calls Tryd.prog 9 #[.string s] w fun e w' => e = .returned (.string ⟨(M.hexT s.data.toList).toArray⟩) ∧ Below w.heap.size w w' := by
  have HN := Lib.hid (Own.new2 w 120 39)
  go_enter Tryd.func9, Tryd.ntmps9
  go_wp2_with fail
  go_loopw [3, 4] (fun v i wr => HxRelR s w v i wr) (fun _ i _ => s.size - (intOf i).toNat)
  case atStart => exact ⟨0, Nat.zero_le _, rfl, HN.out, (Below.refl _ _).alloc (Nat.le_refl _) _⟩
  case round =>
    obtain ⟨k, hk, rfl, ho, hb⟩ := hrel
    have hsz := hb.size
    have HLN := Lib.hid (show (120 :: 39 :: M.hexL (s.data.toList.take k)).length ≤ 140000 by rw [List.length_cons, List.length_cons, M.hexL_length, List.length_take]; omega)
    have HB := Lib.hid hb
    have HO := Lib.hid ho
    clear ho hb
    by_cases hlt : k < s.size
    · have HS := Lib.hid (show 120 :: 39 :: M.hexL (s.data.toList.take (k + 1)) = (120 :: 39 :: M.hexL (s.data.toList.take k)) ++ [M.hd16 (s[k].toNat / 16), M.hd16 (s[k].toNat % 16)] from by
        rw [List.take_add_one, get_at s k hlt, Option.toList_some]
        simp [M.hexL])
      have hu := s[k].toNat_lt
      obtain ⟨a, HA⟩ : ∃ a : Nat, Hid ((s[k]).toNat / 16 = a) := ⟨_, Lib.hid rfl⟩
      obtain ⟨c, HC⟩ : ∃ c : Nat, Hid ((s[k]).toNat % 16 = c) := ⟨_, Lib.hid rfl⟩
      rw [HA.out, HC.out] at HS
      have ha : a < 16 := by have := HA.out; omega
      have hcc : c < 16 := by have := HC.out; omega
      have hda : ((s[k]).toNat : Int) / 16 = (a : Int) := by have := HA.out; omega
      have hdc : ((s[k]).toNat : Int) % 16 = (c : Int) := by have := HC.out; omega
      have hdc2 : ((s[k]).toNat : Int).tmod 16 = (c : Int) := by rw [Int.tmod_eq_emod_of_nonneg (by omega)]; exact hdc
      have ha' : (a : Int) < 16 := by omega
      have hc' : (c : Int) < 16 := by omega
      have hwa : IntKind.u8.wrap (a : Int) = (a : Int) := IntWalk.u8_in _ (by omega)
      have hwc : IntKind.u8.wrap (c : Int) = (c : Int) := IntWalk.u8_in _ (by omega)
      go_wp2_with fail
      go_region_law (refine rstep_app2 rfl _ _ rfl w.heap.size _ (120 :: 39 :: M.hexL (s.data.toList.take k)) rfl HO.out _ _ (M.hd16 a) (M.hd16 c) (tab_at a ha _).symm (tab_at c hcc _).symm rfl (by have := HLN.out; omega) hsz ?_; intro v1 wx ho1 hb1)
      all_goals (go_wp2_with fail; exact ⟨⟨k + 1, by omega, by go_num, by rw [HS.out]; exact ho1, HB.out.trans hb1⟩, by simp [intOf]; omega⟩)
    · obtain rfl : k = s.size := by omega
      rw [show s.data.toList.take s.size = s.data.toList from List.take_of_length_le (by simp)] at HO HLN
      go_wp2_with (at_builtin; refine wpList_app1 rfl _ _ rfl w.heap.size _ _ rfl HO.out _ 39 rfl rfl (by have := HLN.out; omega) hsz ?_; intro v1 wx ho1 hb1; obtain ⟨A, c, rfl, hc1, hc2, hrd⟩ := ho1.form; have hst := rrun_str hrd c; simp only [List.length_append, List.length_cons, List.length_nil, Nat.zero_add] at hst; have HB1 := Lib.hid (HB.out.trans hb1); clear hrd ho1 hb1)
      go_ret
      exact ⟨ret_s (by simp [M.hexT]), HB1.out⟩
theorem blobR_two' {a b v : UInt8} (w : List UInt8) (ha : M.hxd a = true) (hb : M.hxd b = true) (hv : (16 * M.hxN a.toNat + M.hxN b.toNat).toNat.toUInt8 = v) : M.blobR (a :: b :: w) = (M.blobR w).map (fun x => ([v] ++ x.1, x.2 + 2)) := by
  rw [M.blobR_two w ha hb, hv]
  rfl
theorem hxN_lt (n : Nat) : M.hxN n < 16 := by
  unfold M.hxN
  split
  · omega
  · split
    · omega
    · split <;> omega
set_option maxRecDepth 100000 in
set_option maxHeartbeats 1000000 in
theorem rblob_any (s : ByteArray) (a0 a : Nat) (w : World) (hs : s.size ≤ 65536) (ha : a0 + 2 = a) (hle : a ≤ s.size) :
    Calls Tryd.prog 32 #[.string s, .int .i64 (a0 : Int)] w (RetQ (M.blobR (s.data.toList.drop a)) a w) := by
  have haz : (a0 : Int) + 2 = (a : Int) := by omega
  go_enter Tryd.func32, Tryd.ntmps32
  go_wp2_with fail
  go_loopw [6, 7] (fun v i wr => QtRel M.blobR s a w v i wr) (fun _ i _ => s.size - (intOf i).toNat)
  case atStart => exact ⟨a, [], Nat.le_refl _, hle, rfl, World.ownsRow_nil w w.heap.size _ _, Nat.zero_le _, by cases M.blobR (s.data.toList.drop a) <;> simp, Below.refl _ _⟩
  case round =>
    obtain ⟨k, out, hak, hk, rfl, ho, hlen, hq, hb⟩ := hrel
    have hsz := hb.size
    clear haz ha hle
    have HO := Lib.hid ho
    have HB := Lib.hid hb
    have HQ0 := Lib.hid hq
    clear ho hb hq
    by_cases hgo : ∃ h2 : k + 1 < s.size, M.hxd s[k] = true ∧ M.hxd s[k + 1] = true
    · obtain ⟨h2, h3, h4⟩ := hgo
      have HH1 := Lib.hid (rhalf_any s[k])
      have HH2 := Lib.hid (rhalf_any s[k + 1])
      have hk2 : k < s.size := by omega
      have hq1 := HQ0.out
      rw [drop_at s k hk2, drop_at s (k + 1) h2] at hq1
      obtain ⟨x, hx⟩ : ∃ x, M.hxN s[k].toNat = x := ⟨_, rfl⟩
      obtain ⟨y, hy⟩ : ∃ y, M.hxN s[k + 1].toNat = y := ⟨_, rfl⟩
      have hx0 : 0 ≤ x := by have := of_decide_eq_true h3; omega
      have hy0 : 0 ≤ y := by have := of_decide_eq_true h4; omega
      have hx1 : x < 16 := by rw [← hx]; exact hxN_lt _
      have hy1 : y < 16 := by rw [← hy]; exact hxN_lt _
      rw [hx] at HH1
      rw [hy] at HH2
      obtain ⟨u, hu⟩ : ∃ u : UInt8, (16 * x + y).toNat.toUInt8 = u := ⟨_, rfl⟩
      have HU := Lib.hid (show 16 * x + y = (u.toNat : Int) by
        rw [← hu]
        simp only [Nat.toUInt8, UInt8.toNat_ofNat']
        omega)
      have hsum : 0 ≤ 16 * x + y := by omega
      have hsum2 : 16 * x + y ≤ 255 := by omega
      have HQ := Lib.hid (qt_next (b := [u]) (n := 2) (m' := k + 2 - a) hq1 (blobR_two' _ h3 h4 (by rw [hx, hy]; exact hu)) (by omega))
      clear hx hy h3 h4 hu hq1
      go_wp2_with fail
      refine (HH1.out _).mono ?_
      rintro e w' ⟨rfl, rfl⟩
      go_wp2_with fail
      refine (HH2.out _).mono ?_
      rintro e w' ⟨rfl, rfl⟩
      have v1 : IntKind.i64.wrap ((k : Int) + 1) = (k : Int) + 1 := IntWalk.i64_in _ (by omega)
      have v2 : IntKind.i64.wrap (16 * x) = 16 * x := IntWalk.i64_in _ (by omega)
      have v3 : IntKind.i64.wrap (16 * x + y) = 16 * x + y := IntWalk.i64_in _ (by omega)
      have v4 : IntKind.u8.wrap (16 * x + y) = 16 * x + y := IntWalk.u8_in _ (by omega)
      go_upto_region 4 with (fail)
      have tok1 : True := trivial
      go_region_law (first
        | (clear tok1; go_simp; go_at_call 53; refine (HH1.out _).mono ?_; rintro e w' ⟨rfl, rfl⟩)
        | (go_simp; go_at_call 53; refine (HH2.out _).mono ?_; rintro e w' ⟨rfl, rfl⟩)
        | (refine rstep_app1 rfl _ _ rfl w.heap.size _ out rfl HO.out _ u HU.out rfl (by omega) hsz ?_; intro v1 wx ho1 hb1))
      all_goals (go_wp2_with fail; exact ⟨⟨k + 2, out ++ [u], by omega, by omega, by go_num, ho1, by simp; omega, HQ.out, HB.out.trans hb1⟩, by simp [intOf]; omega⟩)
    · have HN := Lib.hid (show (∀ h : k < s.size, ¬ s[k].toNat = 39) → M.blobR (s.data.toList.drop a) = none from fun h39 => by
        rw [HQ0.out, M.blobR_none (w := s.data.toList.drop k) ?_ ?_]
        · rfl
        · intro h
          by_cases hlt : k < s.size
          · rw [drop_at s k hlt] at h
            exact h39 hlt (by rw [show s[k] = 39 by simpa using h]; rfl)
          · rw [List.drop_of_length_le (by simp; omega)] at h
            cases h
        · intro u v r h hu hv
          by_cases hlt : k < s.size
          · rw [drop_at s k hlt] at h
            injection h with h h'
            by_cases hlt2 : k + 1 < s.size
            · rw [drop_at s (k + 1) hlt2] at h'
              injection h' with h' h''
              exact hgo ⟨hlt2, by rw [h]; exact hu, by rw [h']; exact hv⟩
            · rw [List.drop_of_length_le (by simp; omega)] at h'
              cases h'
          · rw [List.drop_of_length_le (by simp; omega)] at h
            cases h)
      by_cases hlt : k < s.size
      · have HY := Lib.hid (show s[k].toNat = 39 → M.blobR (s.data.toList.drop a) = some (out, k + 1 - a) from fun h39 => by
          rw [HQ0.out, M.blobR_end (w := s.data.toList.drop k) (by rw [drop_at s k hlt, u8eq (n := 39) h39 (by omega)]; rfl)]
          simp
          omega)
        by_cases h2 : k + 1 < s.size
        · have HH1 := Lib.hid (rhalf_any s[k])
          have HH2 := Lib.hid (rhalf_any s[k + 1])
          by_cases hx : M.hxd s[k] = true
          · have hy : ¬ M.hxd s[k + 1] = true := fun h => hgo ⟨h2, hx, h⟩
            have h39 : ¬ s[k].toNat = 39 := fun e => by
              rw [u8eq (n := 39) e (by omega)] at hx
              cases hx
            have h39z : ¬ (s[k].toNat : Int) = 39 := by omega
            obtain ⟨x, hxx⟩ : ∃ x, M.hxN s[k].toNat = x := ⟨_, rfl⟩
            obtain ⟨y, hyy⟩ : ∃ y, M.hxN s[k + 1].toNat = y := ⟨_, rfl⟩
            have hx0 : 0 ≤ x := by have := of_decide_eq_true hx; omega
            have hy0 : ¬ 0 ≤ y := fun h => hy (decide_eq_true (by rw [hyy]; exact h))
            rw [hxx] at HH1
            rw [hyy] at HH2
            clear hx hy hgo hxx hyy HY
            go_wp2_with fail
            refine (HH1.out _).mono ?_
            rintro e w' ⟨rfl, rfl⟩
            go_wp2_with fail
            refine (HH2.out _).mono ?_
            rintro e w' ⟨rfl, rfl⟩
            go_wp2_with fail
            refine bodyPost_ret (results_tmp2 rfl _ _ _) rfl ?_
            exact .inr ⟨HN.out (fun _ => h39), rfl, HB.out⟩
          · obtain ⟨x, hxx⟩ : ∃ x, M.hxN s[k].toNat = x := ⟨_, rfl⟩
            have hx0 : ¬ 0 ≤ x := fun h => hx (decide_eq_true (by rw [hxx]; exact h))
            rw [hxx] at HH1
            clear hx hxx HH2 hgo
            by_cases h39 : s[k].toNat = 39
            · have h39z : (s[k].toNat : Int) = 39 := by omega
              rw [h39z] at HH1
              obtain ⟨A, c, rfl, hc1, hc2, hrd⟩ := HO.out.form
              have hst := rrun_str hrd c
              clear hrd
              go_wp2_with fail
              refine (HH1.out _).mono ?_
              rintro e w' ⟨rfl, rfl⟩
              go_wp2_with fail
              refine bodyPost_ret (results_tmp2 rfl _ _ _) rfl ?_
              exact .inl ⟨out, k + 1 - a, HY.out h39, ret_q (by omega), HB.out⟩
            · have h39z : ¬ (s[k].toNat : Int) = 39 := by omega
              go_wp2_with fail
              refine (HH1.out _).mono ?_
              rintro e w' ⟨rfl, rfl⟩
              go_wp2_with fail
              refine bodyPost_ret (results_tmp2 rfl _ _ _) rfl ?_
              exact .inr ⟨HN.out (fun _ => h39), rfl, HB.out⟩
        · clear hgo
          by_cases h39 : s[k].toNat = 39
          · have h39z : (s[k].toNat : Int) = 39 := by omega
            obtain ⟨A, c, rfl, hc1, hc2, hrd⟩ := HO.out.form
            have hst := rrun_str hrd c
            clear hrd
            go_wp2_with fail
            refine bodyPost_ret (results_tmp2 rfl _ _ _) rfl ?_
            exact .inl ⟨out, k + 1 - a, HY.out h39, ret_q (by omega), HB.out⟩
          · have h39z : ¬ (s[k].toNat : Int) = 39 := by omega
            go_wp2_with fail
            refine bodyPost_ret (results_tmp2 rfl _ _ _) rfl ?_
            exact .inr ⟨HN.out (fun _ => h39), rfl, HB.out⟩
      · clear hgo
        have h2 : ¬ k + 1 < s.size := by omega
        go_wp2_with fail
        refine bodyPost_ret (results_tmp2 rfl _ _ _) rfl ?_
        exact .inr ⟨HN.out (fun h => absurd h hlt), rfl, HB.out⟩
end Go.Proofs.YtceknmibopnmhaaDoor
