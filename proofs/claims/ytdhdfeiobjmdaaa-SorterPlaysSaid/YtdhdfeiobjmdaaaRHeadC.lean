/-
  record.cutHead: the sorts that the head of b tells, and what is behind the head. Conditions: sizes.
-/
import Derived.Test.YtdhdfeiobjmdaaaRCutB
import Derived.Test.YtdhdfeiobjmdaaaGet
namespace Go.Proofs.Ytdhdfeiobjmdaaa
open Go.ChangeShapes Go.WideShapes Go.ChangeAt Go.RowKit
set_option linter.unusedVariables false

theorem Try.info_u64 : (Try.prog.info? 98).map (fun i => (i.zero, i.size, i.bytes)) = some (some (.int .u64 0), 1, 8) := by kernel_rfl
def usL (l : List Nat) : List Value := l.map fun (n : Nat) => Value.int .u64 (n : Int)
/-- the slice v is the call's own and holds these numbers -/
def OwnU (w : World) (base : Nat) (v : Value) (l : List Nat) : Prop := w.ownsRow base 98 1 v l.length (usL l)
set_option maxRecDepth 100000 in
theorem wpList_appU {W : World} {ops : Array Oper} {rest : List Oper} {o : Oper} {a : Act} {Q : Exit → Act → World → Prop} (hgd : o.guard = none) (s x : Operand)
    (ho : o.op = .call { callee := .builtin .append, args := #[s, x], argTypes := #[109, 109] })
    (base : Nat) (v : Value) (l : List Nat) (hs : a.eval s = v) (hown : OwnU W base v l) (z : Nat) (hx : a.eval x = .slice (some ⟨W.heap.size, 0, none⟩) 1 1)
    (hlen : l.length + 1 ≤ 1099511627776) (hbase : base ≤ W.heap.size)
    (h : ∀ v' w', OwnU w' base v' (l ++ [z]) → Below base W w' → wpList Try.prog ops Q rest (a.put o.dst v') w') : wpList Try.prog ops Q (o :: rest) a (W.alloc (.cells #[.int .u64 z] 98)) := by
  obtain ⟨i0, hi, hz0, hz1, hz2⟩ := info_parts Try.info_u64
  refine wpList_append_own _ hgd s x 109 ho base 98 i0 _ 1 8 Try.underlying109 hi hz0 hz1 hz2 rfl (by decide) v l.length (usL l) hs (World.ownsRow.alloc hown _) ⟨W.heap.size, 0, none⟩ 1 1 [.int .u64 (z : Int)] hx rfl ?_ (by intro u hu; simp at hu; subst hu; rfl) (by simp only [maxLen]; omega) (by omega) (by simp; omega) ?_
  · intro j u hj
    rcases j with _ | j
    · simp at hj; subst hj; simp [Addr.add, go_sem]
    · simp at hj
  · intro v' w' h1 h2 _
    refine h v' w' ?_ (((Below.refl _ _).alloc hbase _).trans ((Below.refl _ _).grown h2 (by simp; omega) fun k hk => (World.ownsRow.lt hown k hk).1))
    unfold OwnU
    rw [List.length_append, usL, List.map_append]
    exact h1
/-- so many numbers, one behind the other, and what is behind them -/
def getHs : Nat → List UInt8 → Option (List Nat × List UInt8)
  | 0, l => some ([], l)
  | k + 1, l => if (decU 10 0 0 l).2.2 = 0 then (getHs k (l.drop (decU 10 0 0 l).2.1)).map (fun p => ((decU 10 0 0 l).1 :: p.1, p.2)) else none
def getH (b : List UInt8) : Option (List Nat × List UInt8) :=
  if (decU 10 0 0 b).2.2 = 0 ∧ (decU 10 0 0 b).1 ≤ 200 then getHs (decU 10 0 0 b).1 (b.drop (decU 10 0 0 b).2.1) else none
def HeadPost (w : World) (A : Option Addr) (b : List UInt8) (cap : Nat) (o : Option (List Nat × List UInt8)) (e : Ending) (w' : World) : Prop :=
  (match o with
    | none => e = .returned (.tuple #[.slice none 0 0, .slice none 0 0, .bool false])
    | some (l, r) => ∃ v A' c', e = .returned (.tuple #[v, .slice A' r.length c', .bool true]) ∧ OwnU w' w.heap.size v l ∧ (r.length ≤ c' ∧ c' ≤ cap) ∧ Tail A b A' r) ∧ Below w.heap.size w w'
set_option maxRecDepth 100000 in
set_option maxHeartbeats 1600000 in
theorem cutHead_bad (A : Option Addr) (cap : Nat) (b : List UInt8) (w : World) (hR : Rd w w.heap.size A b) (hl : b.length ≤ 1048576) (n k e : Nat) (hd : Hid (decU 10 0 0 b = (n, k, e))) (h0 : e ≠ 0) :
    Calls Try.prog 66 #[.slice A b.length cap] w fun e w' => HeadPost w A b cap none e w' := by
  have h0i : ¬ (e : Int) = 0 := by omega
  go_enter Try.func66, Try.ntmps66
  go_wp2_with fail
  refine (GetUint_in A cap b 0 w (by omega) (by omega) hR).mono ?_
  rintro e w1 ⟨rfl, rfl⟩
  rw [List.drop_zero, hd.out, getR_err _ _ _ _ h0]
  go_wp2_with fail
  go_ret3
  exact ⟨rfl, Below.refl _ _⟩
theorem decU_len {l : List UInt8} {n k : Nat} (h : decU 10 0 0 l = (n, k, 0)) : k ≤ l.length ∧ n < 18446744073709551616 := by
  obtain ⟨m, h1, h2, ⟨r, h3⟩, h4, _⟩ := decU_back 10 0 0 n k l rfl h
  refine ⟨?_, by omega⟩
  rw [h3, List.length_append]
  omega
set_option maxRecDepth 100000 in
set_option maxHeartbeats 1600000 in
theorem cutHead_many (A : Option Addr) (cap : Nat) (b : List UInt8) (w : World) (hR : Rd w w.heap.size A b) (hl : b.length ≤ 1048576) (n k : Nat) (hd : Hid (decU 10 0 0 b = (n, k, 0))) (h0 : 200 < n) :
    Calls Try.prog 66 #[.slice A b.length cap] w fun e w' => HeadPost w A b cap none e w' := by
  have h0i : 200 < (n : Int) := by omega
  go_enter Try.func66, Try.ntmps66
  go_wp2_with fail
  refine (GetUint_in A cap b 0 w (by omega) (by omega) hR).mono ?_
  rintro e w1 ⟨rfl, rfl⟩
  rw [List.drop_zero, hd.out, getR_ok]
  go_wp2_with fail
  go_ret3
  exact ⟨rfl, Below.refl _ _⟩
def addH (ls : List Nat) (o : Option (List Nat × List UInt8)) : Option (List Nat × List UInt8) := o.map fun q => (ls ++ q.1, q.2)
theorem getHs_step {b : List UInt8} {ls : List Nat} {j n p n1 k1 : Nat} (h : j < n) (hd : decU 10 0 0 (b.drop p) = (n1, k1, 0)) : addH ls (getHs (n - j) (b.drop p)) = addH (ls ++ [n1]) (getHs (n - (j + 1)) (b.drop (p + k1))) := by
  obtain ⟨f, hf⟩ : ∃ f, n - j = f + 1 := ⟨n - j - 1, by omega⟩
  have hf2 : n - (j + 1) = f := by omega
  rw [hf, hf2, getHs, hd, if_pos rfl, List.drop_drop]
  cases getHs f (b.drop (p + k1)) <;> simp [addH]
theorem getHs_no {b : List UInt8} {ls : List Nat} {j n p n1 k1 e1 : Nat} (h : j < n) (hd : decU 10 0 0 (b.drop p) = (n1, k1, e1)) (he : e1 ≠ 0) : addH ls (getHs (n - j) (b.drop p)) = none := by
  obtain ⟨f, hf⟩ : ∃ f, n - j = f + 1 := ⟨n - j - 1, by omega⟩
  rw [hf, getHs, hd, if_neg he]
  rfl
theorem ownU_form {w : World} {base : Nat} {v : Value} {l : List Nat} (h : OwnU w base v l) : ∃ A c, v = .slice A l.length c ∧ l.length ≤ c ∧ c ≤ maxLen := by
  obtain ⟨h1, h2⟩ := h
  rcases h2 with ⟨rfl, h0⟩ | ⟨g, cap, cur, rfl, hg, hh, hc, hm, hs, ht⟩
  · exact ⟨none, 0, by rw [h0], by omega, by simp [maxLen]⟩
  · exact ⟨_, _, rfl, by omega, by omega⟩
def SortRel (w : World) (b : List UInt8) (n : Nat) (R : Option (List Nat × List UInt8)) (a v i : Value) (wr : World) : Prop :=
  ∃ (j p : Nat) (ls : List Nat), i = .int .u64 j ∧ j ≤ n ∧ ls.length = j ∧ a = .int .i64 p ∧ p ≤ b.length ∧ addH ls (getHs (n - j) (b.drop p)) = R ∧ OwnU wr w.heap.size v ls ∧ Below w.heap.size w wr
theorem run_makeU (n : Nat) (hn : n ≤ 1000000) (w : World) : (Instr.makeSlice 109 (.int .i64 0) (.int .u64 (n : Int))).run Try.prog w = .ok (.slice (some ⟨w.heap.size, 0, none⟩) 0 n) (w.alloc (.cells (madeCells #[.int .u64 0] n) 98)) := by
  obtain ⟨i0, hi, hz0, hz1, hz2⟩ := info_parts Try.info_u64
  have h := run_make (P := Try.prog) w 109 98 i0 (.int .u64 0) Try.underlying109 hi hz0 .i64 .u64 0 (n : Int) (by omega) (by omega) (by rw [hz2]; omega) (by omega)
  rw [h, hz1]
  have e2 : ((n : Int)).toNat = n := by omega
  rw [e2, Nat.mul_one]
  rfl
set_option maxRecDepth 100000 in
set_option maxHeartbeats 1600000 in
theorem cutHead_go (A : Option Addr) (cap : Nat) (b : List UInt8) (w : World) (hR : Rd w w.heap.size A b) (hl : b.length ≤ 1048576) (hcp : b.length ≤ cap) (hcp2 : cap ≤ 9223372036854775807) (n k : Nat) (hd : Hid (decU 10 0 0 b = (n, k, 0))) (h0 : n ≤ 200) (R : Option (List Nat × List UInt8)) (hRR : Hid (getHs n (b.drop k) = R)) :
    Calls Try.prog 66 #[.slice A b.length cap] w fun e w' => HeadPost w A b cap R e w' := by
  have hmk := run_makeU n (by omega) w
  have hi1 : (0 : Int) ≤ (n : Int) := by omega
  have hi2 : (n : Int) ≤ 200 := by omega
  have HR := Lib.hid hR
  have HB0 := Lib.hid ((Below.refl w.heap.size w).alloc (Nat.le_refl _) (.cells (madeCells #[.int .u64 0] n) 98))
  have HO0 := Lib.hid (show OwnU (w.alloc (.cells (madeCells #[.int .u64 0] n) 98)) w.heap.size (.slice (some ⟨w.heap.size, 0, none⟩) 0 n) [] from
    World.ownsRow_made w _ n (Nat.le_refl _) (by simp only [maxLen]; omega) (by rw [size_madeCells, Nat.mul_one]))
  go_enter Try.func66, Try.ntmps66
  go_wp2_with fail
  refine (GetUint_in A cap b 0 w (by omega) (by omega) hR).mono ?_
  rintro e w1 ⟨rfl, rfl⟩
  rw [List.drop_zero, hd.out, getR_ok]
  go_wp2_with fail
  clear hmk
  go_loopw [6, 8, 27] (fun a v i wr => SortRel w b n R a v i wr) (fun _ _ i _ => n - (intOf i).toNat)
  case atStart => exact ⟨0, k, [], rfl, Nat.zero_le _, rfl, rfl, (decU_len hd.out).1, by rw [Nat.sub_zero, hRR.out]; simp [addH], HO0.out, HB0.out⟩
  case round =>
    obtain ⟨j, p, ls, rfl, hj, hlj, rfl, hp, hrel, ho, hbw⟩ := hrel
    obtain ⟨A2, c2, rfl, ho1, ho2⟩ := ownU_form ho
    have HX := Lib.hid hbw
    have HO := Lib.hid ho
    have HE := Lib.hid hrel
    have HJ := Lib.hid hlj
    have hls : ls.length ≤ 200 := by omega
    by_cases hlt : j < n
    · obtain ⟨⟨n1, k1, e1⟩, hdu⟩ : ∃ q, decU 10 0 0 (b.drop p) = q := ⟨_, rfl⟩
      have HD := Lib.hid hdu
      clear hdu hrel ho hbw hlj
      go_wp2_with fail
      refine (GetUint_in A cap b p _ (by omega) hp (HR.out.on HX.out)).mono ?_
      rintro e w1 ⟨rfl, rfl⟩
      rw [HD.out]
      by_cases he : e1 = 0
      · subst he
        obtain ⟨g1, g2⟩ := decU_len HD.out
        rw [List.length_drop] at g1
        have HN := Lib.hid (getHs_step (ls := ls) hlt HD.out)
        rw [getR_ok]
        go_wp2_with (at_builtin; refine wpList_appU rfl (.tmp 38) (.tmp 40) rfl w.heap.size (.slice A2 ls.length c2) ls rfl HO.out n1 rfl (by omega) HX.out.size ?_; intro v1 w3 ho3 hb3; have HO4 := Lib.hid ho3; have HY4 := Lib.hid (HX.out.trans hb3); obtain ⟨A4, c4, rfl, _, _⟩ := ownU_form ho3; clear ho3 hb3)
        go_roundw
        case rel => exact ⟨j + 1, p + k1, ls ++ [n1], by go_num, by omega, by simp [HJ.out], by go_num, by omega, by rw [← HN.out]; exact HE.out, by have h := HO4.out; rw [List.length_append] at h; exact h, HY4.out⟩
        case measure => simp [intOf]; omega
      · rw [getR_err _ _ _ _ he]
        have hei : ¬ (e1 : Int) = 0 := by omega
        have HN := Lib.hid (getHs_no (ls := ls) hlt HD.out he)
        go_wp2_with fail
        go_ret3
        rw [← HE.out, HN.out]
        exact ⟨rfl, HX.out⟩
    · obtain rfl : j = n := by omega
      have HN := Lib.hid (show addH ls (getHs (j - j) (b.drop p)) = some (ls, b.drop p) from by rw [Nat.sub_self]; simp [getHs, addH])
      clear hrel ho hbw hlj
      by_cases hce : cap = p
      · subst hce
        have hq0 : (0 : Int) ≤ (cap : Int) := by omega
        have hq1 : (cap : Int) ≤ (b.length : Int) := by omega
        go_wp2_with fail
        go_region_held3 (fun X => True) (trivial) (fail)
        go_wp2_with fail
        go_ret3
        rw [← HE.out, HN.out]
        have hlen : (b.drop cap).length = 0 := by rw [List.length_drop]; omega
        exact ⟨⟨_, A, 0, by rw [hlen]; rfl, HO.out, ⟨by omega, by omega⟩, by rw [List.drop_eq_nil_of_le (by omega)]; exact Tail.nil⟩, HX.out.drew⟩
      · have hq0 : (0 : Int) ≤ (p : Int) := by omega
        have hq1 : (p : Int) ≤ (b.length : Int) := by omega
        have hq2 : (p : Int) ≤ (cap : Int) := by omega
        go_wp2_with fail
        go_region_held3 (fun X => True) (trivial) (fail)
        go_wp2_with fail
        go_ret3
        rw [← HE.out, HN.out]
        have hlen : (b.drop p).length = b.length - p := List.length_drop
        exact ⟨⟨_, A.map (·.add p), cap - p, by rw [hlen]; rfl, HO.out, ⟨by omega, by omega⟩, Tail.cut hcp hce⟩, HX.out.drew⟩
theorem cutHead_any (A : Option Addr) (n cap : Nat) (b : List UInt8) (w : World) (hn : n = b.length) (hR : Rd w w.heap.size A b) (hl : b.length ≤ 1048576) (hcp : b.length ≤ cap) (hcp2 : cap ≤ 9223372036854775807) :
    Calls Try.prog 66 #[.slice A n cap] w fun e w' => HeadPost w A b cap (getH b) e w' := by
  subst hn
  obtain ⟨⟨n1, k1, e1⟩, hd⟩ : ∃ q, decU 10 0 0 b = q := ⟨_, rfl⟩
  unfold getH
  rw [hd]
  by_cases he : e1 = 0
  · subst he
    by_cases h2 : n1 ≤ 200
    · rw [if_pos ⟨rfl, h2⟩]
      exact cutHead_go A cap b w hR hl hcp hcp2 n1 k1 (Lib.hid hd) h2 _ (Lib.hid rfl)
    · rw [if_neg fun h => h2 h.2]
      exact cutHead_many A cap b w hR hl n1 k1 (Lib.hid hd) (by omega)
  · rw [if_neg fun h => he h.1]
    exact cutHead_bad A cap b w hR hl n1 k1 e1 (Lib.hid hd) he
end Go.Proofs.Ytdhdfeiobjmdaaa
