/-
  The contract of the document's own GetUint. Conditions: sizes as stated.
-/
import Derived.Test.YtlobfmdkaghfmaaRefW
import Derived.Deep.RegionHeld
import Derived.Deep.QuietTactic
import Derived.BigQuiet
namespace Go.Proofs.Ytlobfmdkaghfmaa
open Go.ChangeShapes Go.WideShapes Go.ChangeAt Go.RowKit
set_option linter.unusedVariables false

theorem takeD_stop : ∀ (f j : Nat) (l : List UInt8) (d : UInt8), (∀ x ∈ l.take j, 128 ≤ x.toNat) → j < f → l[j]? = some d → d.toNat < 128 → takeD f l = l.take j ++ [d]
  | 0, j, l, d, _, h, _, _ => absurd h (by omega)
  | f + 1, j, [], d, _, _, h, _ => by simp at h
  | f + 1, 0, x :: t, d, _, _, h, hd => by
    obtain rfl : x = d := by simpa using h
    simp [takeD, hd]
  | f + 1, j + 1, x :: t, d, hx, hj, h, hd => by
    have h1 : 128 ≤ x.toNat := hx x (by simp)
    have ih := takeD_stop f j t d (fun y hy => hx y (by simp [hy])) (by omega) (by simpa using h) hd
    simp only [takeD, List.take_succ_cons, List.cons_append]
    rw [if_neg (by omega), ih]
theorem takeD_all : ∀ (f j : Nat) (l : List UInt8), (∀ x ∈ l.take j, 128 ≤ x.toNat) → (j = f ∨ j ≤ f ∧ j = l.length) → takeD f l = l.take j
  | 0, j, l, _, h => by
    have : j = 0 := by omega
    subst this
    simp [takeD]
  | f + 1, j, [], _, _ => by simp [takeD]
  | f + 1, 0, x :: t, _, h => by simp at h
  | f + 1, j + 1, x :: t, hx, h => by
    have h1 : 128 ≤ x.toNat := hx x (by simp)
    have ih := takeD_all f j t (fun y hy => hx y (by simp [hy])) (by simp at h; omega)
    simp only [takeD, List.take_succ_cons]
    rw [if_neg (by omega), ih]
theorem valD_snoc : ∀ (xs : List UInt8) (d : UInt8), valD (xs ++ [d]) = valD xs + d.toNat % 128 * pw xs.length
  | [], d => by simp [valD, pw]
  | x :: r, d => by
    have ih := valD_snoc r d
    simp only [List.cons_append, valD, ih, List.length_cons, pw_succ]
    rw [Nat.mul_add, ← Nat.add_assoc]
    congr 1
    rw [Nat.mul_comm (pw r.length) 128, ← Nat.mul_assoc, Nat.mul_comm 128, Nat.mul_assoc]
theorem valD_step (D : List UInt8) (k : Nat) (d : UInt8) (h : D[k]? = some d) (hk : k ≤ D.length) :
    valD (D.take (k + 1)) % 18446744073709551616 = (valD (D.take k) % 18446744073709551616 + d.toNat % 128 * pw k % 18446744073709551616) % 18446744073709551616 := by
  rw [take_snoc h, valD_snoc, List.length_take, Nat.min_eq_left hk, ← Nat.add_mod]

theorem last_eq {D : List UInt8} {j : Nat} {u u2 : UInt8} (h2 : D[D.length - 1]? = some u2) (h1 : D[j]? = some u) (hl : D.length = j + 1) : u2 = u := by
  have e : D.length - 1 = j := by omega
  rw [e] at h2
  exact Option.some.inj (h2.symm.trans h1)

theorem quietL {P : Program} {f : FuncId} {args : Array Value} {w : World} {n : Nat} {v : Value} (h : Calls P f args (w.drewN n) fun e w' => e = .returned v ∧ w.drewN n = w') :
    Calls P f args (w.drewN n) fun e w'' => e = .returned v ∧ ∃ m, w'' = w.drewN m :=
  h.mono fun _ _ ⟨he, hm⟩ => ⟨he, n, hm.symm⟩

theorem refGet_arg (A : Option Addr) (c n : Nat) (p : Int) (w : World) (hl : n ≤ 1099511627776) (hp : p < 0 ∨ (n : Int) < p) :
    Calls Try.prog 16 #[.slice A n c, .int .i64 p] w fun e w' => e = .returned (.tuple #[.int .u64 0, .int .i64 0, .int .i64 2]) ∧ w = w' := by
  by_cases h0 : p < 0
  · go_enter Try.func16, Try.ntmps16
    go_wp2_with fail
    go_ret3
    exact ⟨rfl, rfl⟩
  · have h0' : decide (p < 0) = false := decide_eq_false h0
    have h1 : decide ((n : Int) < p) = true := decide_eq_true (by omega)
    go_enter Try.func16, Try.ntmps16
    go_wp2_with fail
    go_ret3
    exact ⟨rfl, rfl⟩

def DigRel (l : List UInt8) (p : Nat) (w : World) (ds k : Value) (wr : World) : Prop :=
  ∃ j : Nat, j ≤ 10 ∧ p + j ≤ l.length ∧ k = .int .i64 ((p + j : Nat) : Int) ∧ Own wr w.heap.size ds ((l.drop p).take j) ∧ (∀ x ∈ (l.drop p).take j, 128 ≤ x.toNat) ∧ Below w.heap.size w wr
def SumRel (D : List UInt8) (w : World) (n k : Value) (wr : World) : Prop :=
  ∃ (i s : Nat), i ≤ D.length ∧ k = .int .i64 i ∧ n = .int .u64 s ∧ s = valD (D.take i) % 18446744073709551616 ∧ Below w.heap.size w wr

set_option maxRecDepth 100000 in
set_option maxHeartbeats 2000000 in
theorem refGet_in (A : Option Addr) (c : Nat) (l : List UInt8) (p : Nat) (w : World) (hl : l.length ≤ 1099511627776) (hp : p ≤ l.length) (hA : Rd w w.heap.size A l) :
    Calls Try.prog 16 #[.slice A l.length c, .int .i64 p] w fun e w' => e = .returned (getR p (decU 10 0 0 (l.drop p))) ∧ Below w.heap.size w w' := by
  have hp0 : decide ((p : Int) < 0) = false := decide_eq_false (by omega)
  have hp1 : decide (l.length < p) = false := decide_eq_false (by omega)
  go_enter Try.func16, Try.ntmps16
  go_wp2_with fail
  go_loopw [7, 8] (fun ds k wr => DigRel l p w ds k wr) (fun _ k _ => l.length - (intOf k).toNat)
  case atStart => exact ⟨0, by omega, by omega, rfl, World.ownsRow_nil w _ _ _, by simp, Below.refl _ _⟩
  case round =>
    obtain ⟨j, hj, hpj, rfl, ho, hall, hb⟩ := hrel
    have hsz := hb.size
    have hrd := hA.below hb
    have hdl : ((l.drop p).take j).length = j := by rw [List.length_take, List.length_drop]; omega
    obtain ⟨A1, c1, hv, hc1, hc2, hrd1⟩ := ho.form
    rw [hdl] at hv
    subst hv
    by_cases hgo : p + j < l.length ∧ j < 10
    · obtain ⟨h1, h2⟩ := hgo
      obtain ⟨ad, u, rfl, hadb, hget, hcell⟩ := hrd.cell h1
      unfold b8 at hcell
      have hget' : (l.drop p)[j]? = some u := by rw [List.getElem?_drop]; exact hget
      have hu256 : u.toNat < 256 := u.toNat_lt
      by_cases h128 : u.toNat < 128
      · have hD0 := takeD_stop 10 j (l.drop p) u hall h2 hget' h128
        obtain ⟨D, hDD⟩ : ∃ D, D = (l.drop p).take j ++ [u] := ⟨_, rfl⟩
        have hDl : D.length = j + 1 := by rw [hDD, List.length_append, hdl]; rfl
        have hDu : D[j]? = some u := by rw [hDD, List.getElem?_append_right (by omega), hdl]; simp
        rw [← hDD] at hD0
        have HDD := Lib.hid hDD
        have HTD := Lib.hid hD0
        have HDL := Lib.hid hDl
        have HDU := Lib.hid hDu
        have hl1 : 1 ≤ D.length := by omega
        have hl2 : D.length ≤ 10 := by omega
        have HNS := Lib.hid (show ¬ shortD D from fun h => by have := h.2 u (List.mem_of_getElem? hDu); omega)
        clear hget hget' hall hDD hD0 hDl hDu
        by_cases h10 : D.length < 10
        · have hi2 : (0 : Int) ≤ (D.length : Int) - 1 := by omega
          have hn0 : ((D.length : Int) == 0) = false := beq_eq_false_iff_ne.2 (by omega)
          go_wp2_with (at_builtin; refine wpList_app1 rfl (.tmp 32) (.tmp 37) rfl w.heap.size (.slice A1 j c1) ((l.drop p).take j) rfl ho _ u rfl rfl (by omega) (by omega) ?_; intro v1 w1 ho1 hb1; rw [← HDD.out] at ho1; obtain ⟨A2, c2, rfl, hx1, hx2, hrD⟩ := ho1.form; have hcell1 := (hb1.cell (p := ad.add (p + j)) (by rw [blockAdd]; exact hadb)).trans hcell; obtain ⟨ad2, u2, rfl, hadb2, hg2, hcell2⟩ := hrD.cell (show D.length - 1 < D.length by omega); obtain rfl := last_eq hg2 HDU.out HDL.out; unfold b8 at hcell2; clear hg2)
          have hbD := hb.trans hb1
          go_loopw [10, 11] (fun n k wr => SumRel D w1 n k wr) (fun _ k _ => D.length - (intOf k).toNat)
          case atStart => exact ⟨0, 0, Nat.zero_le _, rfl, rfl, rfl, Below.refl _ _⟩
          case round =>
            obtain ⟨i, s, hi, rfl, rfl, hs, hbs⟩ := hrel
            have hrs := hrD.on hbs
            have hs64 : s < 18446744073709551616 := by rw [hs]; exact Nat.mod_lt _ (by omega)
            by_cases hil : i < D.length
            · obtain ⟨ad3, d, hsome, hadb3, hgd, hcd⟩ := hrs.cell hil
              obtain rfl : ad2 = ad3 := by injection hsome
              unfold b8 at hcd
              have hd256 : d.toNat < 256 := d.toNat_lt
              have HST := Lib.hid (valD_step D i d hgd (by omega))
              have HS := Lib.hid hs
              obtain ⟨M, hM⟩ : ∃ M, M = d.toNat % 128 * pw i % 18446744073709551616 := ⟨_, rfl⟩
              obtain ⟨S1, hS1⟩ : ∃ S1, S1 = (s + M) % 18446744073709551616 := ⟨_, rfl⟩
              have hwm : IntKind.u64.wrap ((d.toNat : Int) % 128 * (pw i : Int)) = (M : Int) := by
                rw [show (d.toNat : Int) % 128 * (pw i : Int) = ((d.toNat % 128 * pw i : Nat) : Int) from by simp, IntKind.wrap_u64, hM]
                omega
              have hws : IntKind.u64.wrap ((s : Int) + (M : Int)) = (S1 : Int) := by
                rw [IntKind.wrap_u64, hS1]
                omega
              have HM := Lib.hid hM
              have HS1 := Lib.hid hS1
              have hi0 : (0 : Int) ≤ (i : Int) := by omega
              have hi1 : (i : Int) < (D.length : Int) := by omega
              clear hs hgd hs64 hM hS1 hsome
              go_wp2_with fail
              go_quiet ((go_at_call 31; exact quietL (power_any i _ (by omega))))
              go_wp2_with fail
              go_roundw
              case rel => exact ⟨i + 1, S1, by omega, by go_num, rfl, by rw [HST.out, HS1.out, HM.out, HS.out], below_drewN hbs _⟩
              case measure => simp [intOf]; omega
            · obtain rfl : i = D.length := by omega
              rw [List.take_length] at hs
              have href := decU_ref (l.drop p) D s HTD.out hs
              have gS := fun (W : World) (h : Below wr.heap.size wr W) => run_str (hrs.on h) c2
              have GS := Lib.hid gS
              have HV := Lib.hid (fun (W : World) => Varint_any s W hs64)
              have hbw := hbD.trans (hbs.mono hbD.size)
              have HBW := Lib.hid hbw
              have hszw := hbw.size
              by_cases he : Lib.uvarint s = D
              · have HR := Lib.hid (href.2.1 HNS.out he)
                have HE := Lib.hid he
                clear hs href gS he hs64
                go_wp2_with fail
                go_region_held (fun W => Sem.run Try.prog (convert 30 9 (.slice (some ad2) D.length c2)) W = .ok (.string ⟨D.toArray⟩) W)
                  (first | go_keep | exact GS.out _ (Below.refl _ _).drew | exact GS.out _ ((Below.refl _ _).drew.trans hb7))
                  (first
                    | (go_at_call 32; refine (HV.out _).mono ?_; rintro e w7 ⟨v7, rfl, ho7, hb7⟩; rw [HE.out] at ho7; obtain ⟨A7, c7, rfl, hy1, hy2, hq7⟩ := ho7.form; have r7 := run_str hq7 c7))
                go_wp2_with fail
                all_goals go_ret3
                all_goals refine ⟨?_, HBW.out.drew.trans (hb7.mono hszw)⟩
                all_goals rw [HR.out, getR_ok]
                all_goals exact ret_three rfl (by omega)
              · have HR := Lib.hid (href.2.2 HNS.out he)
                have hne : (Lib.uvarint s == D) = false := by simpa using he
                clear hs href gS he hs64
                go_wp2_with fail
                go_region_held (fun W => Sem.run Try.prog (convert 30 9 (.slice (some ad2) D.length c2)) W = .ok (.string ⟨D.toArray⟩) W)
                  (first | go_keep | exact GS.out _ (Below.refl _ _).drew | exact GS.out _ ((Below.refl _ _).drew.trans hb7))
                  (first
                    | (go_at_call 32; refine (HV.out _).mono ?_; rintro e w7 ⟨v7, rfl, ho7, hb7⟩; obtain ⟨A7, c7, rfl, hy1, hy2, hq7⟩ := ho7.form; have r7 := run_str hq7 c7))
                go_wp2_with fail
                all_goals go_ret3
                all_goals refine ⟨?_, HBW.out.drew.trans (hb7.mono hszw)⟩
                all_goals rw [HR.out, getR_err _ _ _ _ (by omega)]
                all_goals rfl
        · have h10' : decide ((D.length : Int) < 10) = false := decide_eq_false (by omega)
          go_wp2_with (at_builtin; refine wpList_app1 rfl (.tmp 32) (.tmp 37) rfl w.heap.size (.slice A1 j c1) ((l.drop p).take j) rfl ho _ u rfl rfl (by omega) (by omega) ?_; intro v1 w1 ho1 hb1; rw [← HDD.out] at ho1; obtain ⟨A2, c2, rfl, hx1, hx2, hrD⟩ := ho1.form; have hcell1 := (hb1.cell (p := ad.add (p + j)) (by rw [blockAdd]; exact hadb)).trans hcell; obtain ⟨ad2, u2, rfl, hadb2, hg2, hcell2⟩ := hrD.cell (show D.length - 1 < D.length by omega); obtain rfl := last_eq hg2 HDU.out HDL.out; unfold b8 at hcell2; clear hg2)
          have hbD := hb.trans hb1
          go_loopw [10, 11] (fun n k wr => SumRel D w1 n k wr) (fun _ k _ => D.length - (intOf k).toNat)
          case atStart => exact ⟨0, 0, Nat.zero_le _, rfl, rfl, rfl, Below.refl _ _⟩
          case round =>
            obtain ⟨i, s, hi, rfl, rfl, hs, hbs⟩ := hrel
            have hrs := hrD.on hbs
            have hs64 : s < 18446744073709551616 := by rw [hs]; exact Nat.mod_lt _ (by omega)
            by_cases hil : i < D.length
            · obtain ⟨ad3, d, hsome, hadb3, hgd, hcd⟩ := hrs.cell hil
              obtain rfl : ad2 = ad3 := by injection hsome
              unfold b8 at hcd
              have hd256 : d.toNat < 256 := d.toNat_lt
              have HST := Lib.hid (valD_step D i d hgd (by omega))
              have HS := Lib.hid hs
              obtain ⟨M, hM⟩ : ∃ M, M = d.toNat % 128 * pw i % 18446744073709551616 := ⟨_, rfl⟩
              obtain ⟨S1, hS1⟩ : ∃ S1, S1 = (s + M) % 18446744073709551616 := ⟨_, rfl⟩
              have hwm : IntKind.u64.wrap ((d.toNat : Int) % 128 * (pw i : Int)) = (M : Int) := by
                rw [show (d.toNat : Int) % 128 * (pw i : Int) = ((d.toNat % 128 * pw i : Nat) : Int) from by simp, IntKind.wrap_u64, hM]
                omega
              have hws : IntKind.u64.wrap ((s : Int) + (M : Int)) = (S1 : Int) := by
                rw [IntKind.wrap_u64, hS1]
                omega
              have HM := Lib.hid hM
              have HS1 := Lib.hid hS1
              have hi0 : (0 : Int) ≤ (i : Int) := by omega
              have hi1 : (i : Int) < (D.length : Int) := by omega
              clear hs hgd hs64 hM hS1 hsome
              go_wp2_with fail
              go_quiet ((go_at_call 31; exact quietL (power_any i _ (by omega))))
              go_wp2_with fail
              go_roundw
              case rel => exact ⟨i + 1, S1, by omega, by go_num, rfl, by rw [HST.out, HS1.out, HM.out, HS.out], below_drewN hbs _⟩
              case measure => simp [intOf]; omega
            · obtain rfl : i = D.length := by omega
              rw [List.take_length] at hs
              have href := decU_ref (l.drop p) D s HTD.out hs
              have gS := fun (W : World) (h : Below wr.heap.size wr W) => run_str (hrs.on h) c2
              have GS := Lib.hid gS
              have HV := Lib.hid (fun (W : World) => Varint_any s W hs64)
              have hbw := hbD.trans (hbs.mono hbD.size)
              have HBW := Lib.hid hbw
              have hszw := hbw.size
              by_cases he : Lib.uvarint s = D
              · have HR := Lib.hid (href.2.1 HNS.out he)
                have HE := Lib.hid he
                clear hs href gS he hs64
                go_wp2_with fail
                go_region_held (fun W => Sem.run Try.prog (convert 30 9 (.slice (some ad2) D.length c2)) W = .ok (.string ⟨D.toArray⟩) W)
                  (first | go_keep | exact GS.out _ (Below.refl _ _).drew | exact GS.out _ ((Below.refl _ _).drew.trans hb7))
                  (first
                    | (go_at_call 32; refine (HV.out _).mono ?_; rintro e w7 ⟨v7, rfl, ho7, hb7⟩; rw [HE.out] at ho7; obtain ⟨A7, c7, rfl, hy1, hy2, hq7⟩ := ho7.form; have r7 := run_str hq7 c7))
                go_wp2_with fail
                all_goals go_ret3
                all_goals refine ⟨?_, HBW.out.drew.trans (hb7.mono hszw)⟩
                all_goals rw [HR.out, getR_ok]
                all_goals exact ret_three rfl (by omega)
              · have HR := Lib.hid (href.2.2 HNS.out he)
                have hne : (Lib.uvarint s == D) = false := by simpa using he
                clear hs href gS he hs64
                go_wp2_with fail
                go_region_held (fun W => Sem.run Try.prog (convert 30 9 (.slice (some ad2) D.length c2)) W = .ok (.string ⟨D.toArray⟩) W)
                  (first | go_keep | exact GS.out _ (Below.refl _ _).drew | exact GS.out _ ((Below.refl _ _).drew.trans hb7))
                  (first
                    | (go_at_call 32; refine (HV.out _).mono ?_; rintro e w7 ⟨v7, rfl, ho7, hb7⟩; obtain ⟨A7, c7, rfl, hy1, hy2, hq7⟩ := ho7.form; have r7 := run_str hq7 c7))
                go_wp2_with fail
                all_goals go_ret3
                all_goals refine ⟨?_, HBW.out.drew.trans (hb7.mono hszw)⟩
                all_goals rw [HR.out, getR_err _ _ _ _ (by omega)]
                all_goals rfl
      · have HSN := Lib.hid (take_snoc hget')
        have HALL := Lib.hid (show ∀ x ∈ (l.drop p).take (j + 1), 128 ≤ x.toNat from by
          rw [take_snoc hget']
          intro x hx
          rcases List.mem_append.1 hx with hx | hx
          · exact hall x hx
          · obtain rfl : x = u := by simpa using hx
            omega)
        clear hget hget' hall
        go_wp2_with (at_builtin; refine wpList_app1 rfl (.tmp 32) (.tmp 37) rfl w.heap.size (.slice A1 j c1) ((l.drop p).take j) rfl ho _ u rfl rfl (by omega) (by omega) ?_; intro v1 w1 ho1 hb1; have hcell1 := (hb1.cell (p := ad.add (p + j)) (by rw [blockAdd]; exact hadb)).trans hcell)
        go_roundw
        case rel => exact ⟨j + 1, by omega, by omega, by go_num, by rw [HSN.out]; exact ho1, HALL.out, hb.trans hb1⟩
        case measure => simp [intOf]; omega
    · have hD0 := takeD_all 10 j (l.drop p) hall (by rw [List.length_drop]; omega)
      obtain ⟨D, hDD⟩ : ∃ D, D = (l.drop p).take j := ⟨_, rfl⟩
      rw [← hDD] at ho hall hrd1 hD0 hdl hc1
      have hjD : j = D.length := hdl.symm
      clear hDD hdl
      subst hjD
      have href0 := decU_ref (l.drop p) D _ hD0 rfl
      have HTD := Lib.hid hD0
      clear hD0
      by_cases hs10 : D.length < 10
      · have hge : l.length ≤ p + D.length := by omega
        have HR := Lib.hid (href0.1 ⟨hs10, hall⟩)
        clear hgo href0
        rcases Nat.eq_zero_or_pos D.length with h0 | h0
        · have hn0 : ((D.length : Int) == 0) = true := by simp [h0]
          have hlt' : decide ((p : Int) + (D.length : Int) < (l.length : Int)) = false := decide_eq_false (by omega)
          clear h0 hall
          go_wp2_with fail
          go_ret3
          exact ⟨by rw [HR.out]; rfl, hb⟩
        · have hn0 : ((D.length : Int) == 0) = false := beq_eq_false_iff_ne.2 (by omega)
          have hlt' : decide ((p : Int) + (D.length : Int) < (l.length : Int)) = false := decide_eq_false (by omega)
          obtain ⟨ad2, u2, rfl, hadb2, hg2, hcell2⟩ := hrd1.cell (show D.length - 1 < D.length by omega)
          have hu2 := hall u2 (List.mem_of_getElem? hg2)
          have hi2 : (0 : Int) ≤ (D.length : Int) - 1 := by omega
          unfold b8 at hcell2
          clear hall hg2
          go_wp2_with fail
          go_ret3
          exact ⟨by rw [HR.out]; rfl, hb⟩
      · have HNS := Lib.hid (show ¬ shortD D from fun h => hs10 h.1)
        have hl1 : 1 ≤ D.length := by omega
        have hl2 : D.length ≤ 10 := by omega
        have h10' : decide ((D.length : Int) < 10) = false := decide_eq_false (by omega)
        obtain ⟨ad2, u2, rfl, hadb2, hg2, hcell2⟩ := hrd1.cell (show D.length - 1 < D.length by omega)
        have hrD := hrd1
        obtain ⟨w1, rfl⟩ : ∃ w1 : World, w1 = wr := ⟨_, rfl⟩
        obtain ⟨c2, rfl⟩ : ∃ c2 : Nat, c2 = c1 := ⟨_, rfl⟩
        clear hgo href0 hall hg2 hs10 hcell2 hrd1
        by_cases hpl : p + D.length < l.length
        · go_wp2_with fail
          have hbD := hb
          go_loopw [10, 11] (fun n k wr => SumRel D w1 n k wr) (fun _ k _ => D.length - (intOf k).toNat)
          case atStart => exact ⟨0, 0, Nat.zero_le _, rfl, rfl, rfl, Below.refl _ _⟩
          case round =>
            obtain ⟨i, s, hi, rfl, rfl, hs, hbs⟩ := hrel
            have hrs := hrD.on hbs
            have hs64 : s < 18446744073709551616 := by rw [hs]; exact Nat.mod_lt _ (by omega)
            by_cases hil : i < D.length
            · obtain ⟨ad3, d, hsome, hadb3, hgd, hcd⟩ := hrs.cell hil
              obtain rfl : ad2 = ad3 := by injection hsome
              unfold b8 at hcd
              have hd256 : d.toNat < 256 := d.toNat_lt
              have HST := Lib.hid (valD_step D i d hgd (by omega))
              have HS := Lib.hid hs
              obtain ⟨M, hM⟩ : ∃ M, M = d.toNat % 128 * pw i % 18446744073709551616 := ⟨_, rfl⟩
              obtain ⟨S1, hS1⟩ : ∃ S1, S1 = (s + M) % 18446744073709551616 := ⟨_, rfl⟩
              have hwm : IntKind.u64.wrap ((d.toNat : Int) % 128 * (pw i : Int)) = (M : Int) := by
                rw [show (d.toNat : Int) % 128 * (pw i : Int) = ((d.toNat % 128 * pw i : Nat) : Int) from by simp, IntKind.wrap_u64, hM]
                omega
              have hws : IntKind.u64.wrap ((s : Int) + (M : Int)) = (S1 : Int) := by
                rw [IntKind.wrap_u64, hS1]
                omega
              have HM := Lib.hid hM
              have HS1 := Lib.hid hS1
              have hi0 : (0 : Int) ≤ (i : Int) := by omega
              have hi1 : (i : Int) < (D.length : Int) := by omega
              clear hs hgd hs64 hM hS1 hsome
              go_wp2_with fail
              go_quiet ((go_at_call 31; exact quietL (power_any i _ (by omega))))
              go_wp2_with fail
              go_roundw
              case rel => exact ⟨i + 1, S1, by omega, by go_num, rfl, by rw [HST.out, HS1.out, HM.out, HS.out], below_drewN hbs _⟩
              case measure => simp [intOf]; omega
            · obtain rfl : i = D.length := by omega
              rw [List.take_length] at hs
              have href := decU_ref (l.drop p) D s HTD.out hs
              have gS := fun (W : World) (h : Below wr.heap.size wr W) => run_str (hrs.on h) c2
              have GS := Lib.hid gS
              have HV := Lib.hid (fun (W : World) => Varint_any s W hs64)
              have hbw := hbD.trans (hbs.mono hbD.size)
              have HBW := Lib.hid hbw
              have hszw := hbw.size
              by_cases he : Lib.uvarint s = D
              · have HR := Lib.hid (href.2.1 HNS.out he)
                have HE := Lib.hid he
                clear hs href gS he hs64
                go_wp2_with fail
                go_region_held (fun W => Sem.run Try.prog (convert 30 9 (.slice (some ad2) D.length c2)) W = .ok (.string ⟨D.toArray⟩) W)
                  (first | go_keep | exact GS.out _ (Below.refl _ _).drew | exact GS.out _ ((Below.refl _ _).drew.trans hb7))
                  (first
                    | (go_at_call 32; refine (HV.out _).mono ?_; rintro e w7 ⟨v7, rfl, ho7, hb7⟩; rw [HE.out] at ho7; obtain ⟨A7, c7, rfl, hy1, hy2, hq7⟩ := ho7.form; have r7 := run_str hq7 c7))
                go_wp2_with fail
                all_goals go_ret3
                all_goals refine ⟨?_, HBW.out.drew.trans (hb7.mono hszw)⟩
                all_goals rw [HR.out, getR_ok]
                all_goals exact ret_three rfl (by omega)
              · have HR := Lib.hid (href.2.2 HNS.out he)
                have hne : (Lib.uvarint s == D) = false := by simpa using he
                clear hs href gS he hs64
                go_wp2_with fail
                go_region_held (fun W => Sem.run Try.prog (convert 30 9 (.slice (some ad2) D.length c2)) W = .ok (.string ⟨D.toArray⟩) W)
                  (first | go_keep | exact GS.out _ (Below.refl _ _).drew | exact GS.out _ ((Below.refl _ _).drew.trans hb7))
                  (first
                    | (go_at_call 32; refine (HV.out _).mono ?_; rintro e w7 ⟨v7, rfl, ho7, hb7⟩; obtain ⟨A7, c7, rfl, hy1, hy2, hq7⟩ := ho7.form; have r7 := run_str hq7 c7))
                go_wp2_with fail
                all_goals go_ret3
                all_goals refine ⟨?_, HBW.out.drew.trans (hb7.mono hszw)⟩
                all_goals rw [HR.out, getR_err _ _ _ _ (by omega)]
                all_goals rfl
        · have hlt' : decide ((p : Int) + (D.length : Int) < (l.length : Int)) = false := decide_eq_false (by omega)
          go_wp2_with fail
          have hbD := hb
          go_loopw [10, 11] (fun n k wr => SumRel D w1 n k wr) (fun _ k _ => D.length - (intOf k).toNat)
          case atStart => exact ⟨0, 0, Nat.zero_le _, rfl, rfl, rfl, Below.refl _ _⟩
          case round =>
            obtain ⟨i, s, hi, rfl, rfl, hs, hbs⟩ := hrel
            have hrs := hrD.on hbs
            have hs64 : s < 18446744073709551616 := by rw [hs]; exact Nat.mod_lt _ (by omega)
            by_cases hil : i < D.length
            · obtain ⟨ad3, d, hsome, hadb3, hgd, hcd⟩ := hrs.cell hil
              obtain rfl : ad2 = ad3 := by injection hsome
              unfold b8 at hcd
              have hd256 : d.toNat < 256 := d.toNat_lt
              have HST := Lib.hid (valD_step D i d hgd (by omega))
              have HS := Lib.hid hs
              obtain ⟨M, hM⟩ : ∃ M, M = d.toNat % 128 * pw i % 18446744073709551616 := ⟨_, rfl⟩
              obtain ⟨S1, hS1⟩ : ∃ S1, S1 = (s + M) % 18446744073709551616 := ⟨_, rfl⟩
              have hwm : IntKind.u64.wrap ((d.toNat : Int) % 128 * (pw i : Int)) = (M : Int) := by
                rw [show (d.toNat : Int) % 128 * (pw i : Int) = ((d.toNat % 128 * pw i : Nat) : Int) from by simp, IntKind.wrap_u64, hM]
                omega
              have hws : IntKind.u64.wrap ((s : Int) + (M : Int)) = (S1 : Int) := by
                rw [IntKind.wrap_u64, hS1]
                omega
              have HM := Lib.hid hM
              have HS1 := Lib.hid hS1
              have hi0 : (0 : Int) ≤ (i : Int) := by omega
              have hi1 : (i : Int) < (D.length : Int) := by omega
              clear hs hgd hs64 hM hS1 hsome
              go_wp2_with fail
              go_quiet ((go_at_call 31; exact quietL (power_any i _ (by omega))))
              go_wp2_with fail
              go_roundw
              case rel => exact ⟨i + 1, S1, by omega, by go_num, rfl, by rw [HST.out, HS1.out, HM.out, HS.out], below_drewN hbs _⟩
              case measure => simp [intOf]; omega
            · obtain rfl : i = D.length := by omega
              rw [List.take_length] at hs
              have href := decU_ref (l.drop p) D s HTD.out hs
              have gS := fun (W : World) (h : Below wr.heap.size wr W) => run_str (hrs.on h) c2
              have GS := Lib.hid gS
              have HV := Lib.hid (fun (W : World) => Varint_any s W hs64)
              have hbw := hbD.trans (hbs.mono hbD.size)
              have HBW := Lib.hid hbw
              have hszw := hbw.size
              by_cases he : Lib.uvarint s = D
              · have HR := Lib.hid (href.2.1 HNS.out he)
                have HE := Lib.hid he
                clear hs href gS he hs64
                go_wp2_with fail
                go_region_held (fun W => Sem.run Try.prog (convert 30 9 (.slice (some ad2) D.length c2)) W = .ok (.string ⟨D.toArray⟩) W)
                  (first | go_keep | exact GS.out _ (Below.refl _ _).drew | exact GS.out _ ((Below.refl _ _).drew.trans hb7))
                  (first
                    | (go_at_call 32; refine (HV.out _).mono ?_; rintro e w7 ⟨v7, rfl, ho7, hb7⟩; rw [HE.out] at ho7; obtain ⟨A7, c7, rfl, hy1, hy2, hq7⟩ := ho7.form; have r7 := run_str hq7 c7))
                go_wp2_with fail
                all_goals go_ret3
                all_goals refine ⟨?_, HBW.out.drew.trans (hb7.mono hszw)⟩
                all_goals rw [HR.out, getR_ok]
                all_goals exact ret_three rfl (by omega)
              · have HR := Lib.hid (href.2.2 HNS.out he)
                have hne : (Lib.uvarint s == D) = false := by simpa using he
                clear hs href gS he hs64
                go_wp2_with fail
                go_region_held (fun W => Sem.run Try.prog (convert 30 9 (.slice (some ad2) D.length c2)) W = .ok (.string ⟨D.toArray⟩) W)
                  (first | go_keep | exact GS.out _ (Below.refl _ _).drew | exact GS.out _ ((Below.refl _ _).drew.trans hb7))
                  (first
                    | (go_at_call 32; refine (HV.out _).mono ?_; rintro e w7 ⟨v7, rfl, ho7, hb7⟩; obtain ⟨A7, c7, rfl, hy1, hy2, hq7⟩ := ho7.form; have r7 := run_str hq7 c7))
                go_wp2_with fail
                all_goals go_ret3
                all_goals refine ⟨?_, HBW.out.drew.trans (hb7.mono hszw)⟩
                all_goals rw [HR.out, getR_err _ _ _ _ (by omega)]
                all_goals rfl
end Go.Proofs.Ytlobfmdkaghfmaa
