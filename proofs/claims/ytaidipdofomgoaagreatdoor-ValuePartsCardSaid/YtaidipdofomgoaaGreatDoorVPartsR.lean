/-
  ValueParts: its regions that draw their order. Conditions: numbers of 64 bits; the library's variables are as its text lays them.
-/
import Derived.Test.YtaidipdofomgoaaGreatDoorVSlot
import Derived.Test.YtaidipdofomgoaaGreatDoorVParts
namespace Go.Proofs.YtaidipdofomgoaaGreatDoor
open Go.ChangeShapes Go.WideShapes Go.ChangeAt Go.RowKit
set_option linter.unusedVariables false
set_option maxRecDepth 100000

noncomputable def pr7Ops : Array Oper := regOf Tryz.f7 7
theorem pr7_fill (t : Array Value) (ht : t.size = 164) (V : Nat → Value) : fillT pr7Ops t V = #[t.getD 0 undef, t.getD 1 undef, t.getD 2 undef, t.getD 3 undef, t.getD 4 undef, t.getD 5 undef, t.getD 6 undef, t.getD 7 undef, t.getD 8 undef, t.getD 9 undef, t.getD 10 undef, t.getD 11 undef, t.getD 12 undef, t.getD 13 undef, t.getD 14 undef, t.getD 15 undef, t.getD 16 undef, t.getD 17 undef, t.getD 18 undef, t.getD 19 undef, t.getD 20 undef, t.getD 21 undef, t.getD 22 undef, t.getD 23 undef, t.getD 24 undef, t.getD 25 undef, t.getD 26 undef, t.getD 27 undef, t.getD 28 undef, t.getD 29 undef, t.getD 30 undef, t.getD 31 undef, t.getD 32 undef, t.getD 33 undef, t.getD 34 undef, t.getD 35 undef, t.getD 36 undef, t.getD 37 undef, t.getD 38 undef, t.getD 39 undef, t.getD 40 undef, t.getD 41 undef, t.getD 42 undef, t.getD 43 undef, t.getD 44 undef, t.getD 45 undef, t.getD 46 undef, t.getD 47 undef, t.getD 48 undef, t.getD 49 undef, t.getD 50 undef, t.getD 51 undef, t.getD 52 undef, t.getD 53 undef, t.getD 54 undef, t.getD 55 undef, t.getD 56 undef, t.getD 57 undef, t.getD 58 undef, t.getD 59 undef, t.getD 60 undef, t.getD 61 undef, t.getD 62 undef, t.getD 63 undef, t.getD 64 undef, t.getD 65 undef, t.getD 66 undef, t.getD 67 undef, V 0, V 1, V 2, V 3, V 4, V 5, V 6, V 7, V 8, V 9, V 10, V 11, V 12, V 13, V 14, V 15, V 16, V 17, V 18, V 19, V 20, V 21, V 22, V 23, V 24, V 25, V 26, V 27, V 28, V 29, t.getD 98 undef, t.getD 99 undef, t.getD 100 undef, t.getD 101 undef, t.getD 102 undef, t.getD 103 undef, t.getD 104 undef, t.getD 105 undef, t.getD 106 undef, t.getD 107 undef, t.getD 108 undef, t.getD 109 undef, t.getD 110 undef, t.getD 111 undef, t.getD 112 undef, t.getD 113 undef, t.getD 114 undef, t.getD 115 undef, t.getD 116 undef, t.getD 117 undef, t.getD 118 undef, t.getD 119 undef, t.getD 120 undef, t.getD 121 undef, t.getD 122 undef, t.getD 123 undef, t.getD 124 undef, t.getD 125 undef, t.getD 126 undef, t.getD 127 undef, t.getD 128 undef, t.getD 129 undef, t.getD 130 undef, t.getD 131 undef, t.getD 132 undef, t.getD 133 undef, t.getD 134 undef, t.getD 135 undef, t.getD 136 undef, t.getD 137 undef, t.getD 138 undef, t.getD 139 undef, t.getD 140 undef, t.getD 141 undef, t.getD 142 undef, t.getD 143 undef, t.getD 144 undef, t.getD 145 undef, t.getD 146 undef, t.getD 147 undef, t.getD 148 undef, t.getD 149 undef, t.getD 150 undef, t.getD 151 undef, t.getD 152 undef, t.getD 153 undef, t.getD 154 undef, t.getD 155 undef, t.getD 156 undef, t.getD 157 undef, t.getD 158 undef, t.getD 159 undef, t.getD 160 undef, t.getD 161 undef, t.getD 162 undef, t.getD 163 undef] := by
  unfold fillT
  rw [ht]
  kernel_rfl
def pr7aL (a b q r : Int) (HA64 : Hid (In64 a)) (HB64 : Hid (In64 b)) (H0 : Hid (b ≠ 0)) (M1 : Hid (In64 q)) (M2 : Hid (In64 r)) (M3 : Hid (In64 (q * b))) (M4 : Hid (q * b + r = a)) (p5 p7 : Nat) (hr0 : Hid ((r != 0) = false)) : List (Value → World → Prop) := [IsV (.int .i64 0), IsV (.bool false), IsV (.bool false), IsV (.int .i64 0), IsV (.bool false), IsV (.bool false), IsV (.bool false), IsV (vv 1 q ⟨#[]⟩), IsV (.int .i64 b), IsV (vv 1 b ⟨#[]⟩), IsV (vv 1 (q * b) ⟨#[]⟩), IsV (vv 1 r ⟨#[]⟩), IsV (vv 1 a ⟨#[]⟩), IsV (.int .i64 a), IsV (vv 1 a ⟨#[]⟩), IsV (.bool false), IsV (.bool false), IsV (.bool false), IsV (.pointer (some ⟨p7, 1, none⟩)), IsV (.int .i64 r), IsV (.bool false), IsV (.bool false), IsV (undef), IsV (undef), IsV (undef), IsV (undef), IsV (undef), IsV (undef), IsV (.bool false), IsV (.bool false)]
def pr7aF (a b q r : Int) (HA64 : Hid (In64 a)) (HB64 : Hid (In64 b)) (H0 : Hid (b ≠ 0)) (M1 : Hid (In64 q)) (M2 : Hid (In64 r)) (M3 : Hid (In64 (q * b))) (M4 : Hid (q * b + r = a)) (p5 p7 : Nat) (hr0 : Hid ((r != 0) = false)) (i : Nat) : Value → World → Prop := (pr7aL a b q r HA64 HB64 H0 M1 M2 M3 M4 p5 p7 hr0).getD i AnyF
theorem pr7aF_mono (a b q r : Int) (HA64 : Hid (In64 a)) (HB64 : Hid (In64 b)) (H0 : Hid (b ≠ 0)) (M1 : Hid (In64 q)) (M2 : Hid (In64 r)) (M3 : Hid (In64 (q * b))) (M4 : Hid (q * b + r = a)) (p5 p7 : Nat) (hr0 : Hid ((r != 0) = false)) (i : Nat) (v : Value) (w w' : World) (hp : (pr7aF a b q r HA64 HB64 H0 M1 M2 M3 M4 p5 p7 hr0) i v w) (hb : Below w.heap.size w w') : (pr7aF a b q r HA64 HB64 H0 M1 M2 M3 M4 p5 p7 hr0) i v w' := by
  refine monoL ?_ i v w w' hp hb
  unfold pr7aL
  simp only [List.forall_mem_cons]
  exact ⟨mono_isV _, mono_isV _, mono_isV _, mono_isV _, mono_isV _, mono_isV _, mono_isV _, mono_isV _, mono_isV _, mono_isV _, mono_isV _, mono_isV _, mono_isV _, mono_isV _, mono_isV _, mono_isV _, mono_isV _, mono_isV _, mono_isV _, mono_isV _, mono_isV _, mono_isV _, mono_isV _, mono_isV _, mono_isV _, mono_isV _, mono_isV _, mono_isV _, mono_isV _, mono_isV _, fun _ h => by cases h⟩
theorem pr7a_s0 {Q : Exit → Act → World → Prop} {w0 : World} {x : Nat → Value} (a b q r : Int) (HA64 : Hid (In64 a)) (HB64 : Hid (In64 b)) (H0 : Hid (b ≠ 0)) (M1 : Hid (In64 q)) (M2 : Hid (In64 r)) (M3 : Hid (In64 (q * b))) (M4 : Hid (q * b + r = a)) (p5 p7 : Nat) (hr0 : Hid ((r != 0) = false)) (hb5 : BoxOn w0 p5 1 q ⟨#[]⟩) (hb7 : BoxOn w0 p7 1 r ⟨#[]⟩) (hx0 : x 0 = .int .i64 a) (hx1 : x 1 = .int .i64 b) (hx5 : x 5 = .pointer (some ⟨p5, 0, none⟩)) (hx6 : x 6 = .int .i64 0) (hx7 : x 7 = .pointer (some ⟨p7, 0, none⟩)) (hx8 : x 8 = .int .i64 0) : OpStep Tryz.prog pr7Ops Q (pr7aF a b q r HA64 HB64 H0 M1 M2 M3 M4 p5 p7 hr0) w0 164 x 0 := by
  intro act w hb hk hF
  have g6 : act.eval (.tmp 6) = .int .i64 0 := (hk 6 (by decide) (by kernel_rfl)).trans hx6
  exact step_move (show opO pr7Ops 0 = some (.move (.tmp 6)) by kernel_rfl) (.free (by kernel_rfl)) g6 ⟨rfl, Below.refl _ _⟩

theorem pr7a_s1 {Q : Exit → Act → World → Prop} {w0 : World} {x : Nat → Value} (a b q r : Int) (HA64 : Hid (In64 a)) (HB64 : Hid (In64 b)) (H0 : Hid (b ≠ 0)) (M1 : Hid (In64 q)) (M2 : Hid (In64 r)) (M3 : Hid (In64 (q * b))) (M4 : Hid (q * b + r = a)) (p5 p7 : Nat) (hr0 : Hid ((r != 0) = false)) (hb5 : BoxOn w0 p5 1 q ⟨#[]⟩) (hb7 : BoxOn w0 p7 1 r ⟨#[]⟩) (hx0 : x 0 = .int .i64 a) (hx1 : x 1 = .int .i64 b) (hx5 : x 5 = .pointer (some ⟨p5, 0, none⟩)) (hx6 : x 6 = .int .i64 0) (hx7 : x 7 = .pointer (some ⟨p7, 0, none⟩)) (hx8 : x 8 = .int .i64 0) : OpStep Tryz.prog pr7Ops Q (pr7aF a b q r HA64 HB64 H0 M1 M2 M3 M4 p5 p7 hr0) w0 164 x 1 := by
  intro act w hb hk hF
  have g68 : act.eval (.tmp 68) = .int .i64 0 := hF 0 (of_decide_eq_true (by kernel_rfl)) 68 (by kernel_rfl)
  exact step_neI (show opO pr7Ops 1 = some (.binOp .neq 28 (.tmp 68) (.const (.int .i64 0)) 28) by kernel_rfl) (.free (by kernel_rfl)) g68 rfl (by simp) ⟨rfl, Below.refl _ _⟩

theorem pr7a_s2 {Q : Exit → Act → World → Prop} {w0 : World} {x : Nat → Value} (a b q r : Int) (HA64 : Hid (In64 a)) (HB64 : Hid (In64 b)) (H0 : Hid (b ≠ 0)) (M1 : Hid (In64 q)) (M2 : Hid (In64 r)) (M3 : Hid (In64 (q * b))) (M4 : Hid (q * b + r = a)) (p5 p7 : Nat) (hr0 : Hid ((r != 0) = false)) (hb5 : BoxOn w0 p5 1 q ⟨#[]⟩) (hb7 : BoxOn w0 p7 1 r ⟨#[]⟩) (hx0 : x 0 = .int .i64 a) (hx1 : x 1 = .int .i64 b) (hx5 : x 5 = .pointer (some ⟨p5, 0, none⟩)) (hx6 : x 6 = .int .i64 0) (hx7 : x 7 = .pointer (some ⟨p7, 0, none⟩)) (hx8 : x 8 = .int .i64 0) : OpStep Tryz.prog pr7Ops Q (pr7aF a b q r HA64 HB64 H0 M1 M2 M3 M4 p5 p7 hr0) w0 164 x 2 := by
  intro act w hb hk hF
  have g69 : act.eval (.tmp 69) = .bool false := hF 1 (of_decide_eq_true (by kernel_rfl)) 69 (by kernel_rfl)
  exact step_move (show opO pr7Ops 2 = some (.move (.tmp 69)) by kernel_rfl) (.free (by kernel_rfl)) g69 ⟨rfl, Below.refl _ _⟩

theorem pr7a_s3 {Q : Exit → Act → World → Prop} {w0 : World} {x : Nat → Value} (a b q r : Int) (HA64 : Hid (In64 a)) (HB64 : Hid (In64 b)) (H0 : Hid (b ≠ 0)) (M1 : Hid (In64 q)) (M2 : Hid (In64 r)) (M3 : Hid (In64 (q * b))) (M4 : Hid (q * b + r = a)) (p5 p7 : Nat) (hr0 : Hid ((r != 0) = false)) (hb5 : BoxOn w0 p5 1 q ⟨#[]⟩) (hb7 : BoxOn w0 p7 1 r ⟨#[]⟩) (hx0 : x 0 = .int .i64 a) (hx1 : x 1 = .int .i64 b) (hx5 : x 5 = .pointer (some ⟨p5, 0, none⟩)) (hx6 : x 6 = .int .i64 0) (hx7 : x 7 = .pointer (some ⟨p7, 0, none⟩)) (hx8 : x 8 = .int .i64 0) : OpStep Tryz.prog pr7Ops Q (pr7aF a b q r HA64 HB64 H0 M1 M2 M3 M4 p5 p7 hr0) w0 164 x 3 := by
  intro act w hb hk hF
  have g70 : act.eval (.tmp 70) = .bool false := hF 2 (of_decide_eq_true (by kernel_rfl)) 70 (by kernel_rfl)
  have g8 : act.eval (.tmp 8) = .int .i64 0 := (hk 8 (by decide) (by kernel_rfl)).trans hx8
  exact step_move (show opO pr7Ops 3 = some (.move (.tmp 8)) by kernel_rfl) (.told 2 false 70 (by kernel_rfl) (by kernel_rfl) g70) g8 ⟨rfl, Below.refl _ _⟩

theorem pr7a_s4 {Q : Exit → Act → World → Prop} {w0 : World} {x : Nat → Value} (a b q r : Int) (HA64 : Hid (In64 a)) (HB64 : Hid (In64 b)) (H0 : Hid (b ≠ 0)) (M1 : Hid (In64 q)) (M2 : Hid (In64 r)) (M3 : Hid (In64 (q * b))) (M4 : Hid (q * b + r = a)) (p5 p7 : Nat) (hr0 : Hid ((r != 0) = false)) (hb5 : BoxOn w0 p5 1 q ⟨#[]⟩) (hb7 : BoxOn w0 p7 1 r ⟨#[]⟩) (hx0 : x 0 = .int .i64 a) (hx1 : x 1 = .int .i64 b) (hx5 : x 5 = .pointer (some ⟨p5, 0, none⟩)) (hx6 : x 6 = .int .i64 0) (hx7 : x 7 = .pointer (some ⟨p7, 0, none⟩)) (hx8 : x 8 = .int .i64 0) : OpStep Tryz.prog pr7Ops Q (pr7aF a b q r HA64 HB64 H0 M1 M2 M3 M4 p5 p7 hr0) w0 164 x 4 := by
  intro act w hb hk hF
  have g70 : act.eval (.tmp 70) = .bool false := hF 2 (of_decide_eq_true (by kernel_rfl)) 70 (by kernel_rfl)
  have g71 : act.eval (.tmp 71) = .int .i64 0 := hF 3 (of_decide_eq_true (by kernel_rfl)) 71 (by kernel_rfl)
  exact step_neI (show opO pr7Ops 4 = some (.binOp .neq 28 (.tmp 71) (.const (.int .i64 0)) 28) by kernel_rfl) (.told 2 false 70 (by kernel_rfl) (by kernel_rfl) g70) g71 rfl (by simp) ⟨rfl, Below.refl _ _⟩

theorem pr7a_s5 {Q : Exit → Act → World → Prop} {w0 : World} {x : Nat → Value} (a b q r : Int) (HA64 : Hid (In64 a)) (HB64 : Hid (In64 b)) (H0 : Hid (b ≠ 0)) (M1 : Hid (In64 q)) (M2 : Hid (In64 r)) (M3 : Hid (In64 (q * b))) (M4 : Hid (q * b + r = a)) (p5 p7 : Nat) (hr0 : Hid ((r != 0) = false)) (hb5 : BoxOn w0 p5 1 q ⟨#[]⟩) (hb7 : BoxOn w0 p7 1 r ⟨#[]⟩) (hx0 : x 0 = .int .i64 a) (hx1 : x 1 = .int .i64 b) (hx5 : x 5 = .pointer (some ⟨p5, 0, none⟩)) (hx6 : x 6 = .int .i64 0) (hx7 : x 7 = .pointer (some ⟨p7, 0, none⟩)) (hx8 : x 8 = .int .i64 0) : OpStep Tryz.prog pr7Ops Q (pr7aF a b q r HA64 HB64 H0 M1 M2 M3 M4 p5 p7 hr0) w0 164 x 5 := by
  intro act w hb hk hF
  have g70 : act.eval (.tmp 70) = .bool false := hF 2 (of_decide_eq_true (by kernel_rfl)) 70 (by kernel_rfl)
  have g72 : act.eval (.tmp 72) = .bool false := hF 4 (of_decide_eq_true (by kernel_rfl)) 72 (by kernel_rfl)
  exact step_pickF (show opO pr7Ops 5 = some (.pick (.tmp 70) (.const (.bool true)) (.tmp 72)) by kernel_rfl) (.free (by kernel_rfl)) g70 g72 ⟨rfl, Below.refl _ _⟩

theorem pr7a_s6 {Q : Exit → Act → World → Prop} {w0 : World} {x : Nat → Value} (a b q r : Int) (HA64 : Hid (In64 a)) (HB64 : Hid (In64 b)) (H0 : Hid (b ≠ 0)) (M1 : Hid (In64 q)) (M2 : Hid (In64 r)) (M3 : Hid (In64 (q * b))) (M4 : Hid (q * b + r = a)) (p5 p7 : Nat) (hr0 : Hid ((r != 0) = false)) (hb5 : BoxOn w0 p5 1 q ⟨#[]⟩) (hb7 : BoxOn w0 p7 1 r ⟨#[]⟩) (hx0 : x 0 = .int .i64 a) (hx1 : x 1 = .int .i64 b) (hx5 : x 5 = .pointer (some ⟨p5, 0, none⟩)) (hx6 : x 6 = .int .i64 0) (hx7 : x 7 = .pointer (some ⟨p7, 0, none⟩)) (hx8 : x 8 = .int .i64 0) : OpStep Tryz.prog pr7Ops Q (pr7aF a b q r HA64 HB64 H0 M1 M2 M3 M4 p5 p7 hr0) w0 164 x 6 := by
  intro act w hb hk hF
  have g73 : act.eval (.tmp 73) = .bool false := hF 5 (of_decide_eq_true (by kernel_rfl)) 73 (by kernel_rfl)
  exact step_move (show opO pr7Ops 6 = some (.move (.tmp 73)) by kernel_rfl) (.free (by kernel_rfl)) g73 ⟨rfl, Below.refl _ _⟩

theorem pr7a_s7 {Q : Exit → Act → World → Prop} {w0 : World} {x : Nat → Value} (a b q r : Int) (HA64 : Hid (In64 a)) (HB64 : Hid (In64 b)) (H0 : Hid (b ≠ 0)) (M1 : Hid (In64 q)) (M2 : Hid (In64 r)) (M3 : Hid (In64 (q * b))) (M4 : Hid (q * b + r = a)) (p5 p7 : Nat) (hr0 : Hid ((r != 0) = false)) (hb5 : BoxOn w0 p5 1 q ⟨#[]⟩) (hb7 : BoxOn w0 p7 1 r ⟨#[]⟩) (hx0 : x 0 = .int .i64 a) (hx1 : x 1 = .int .i64 b) (hx5 : x 5 = .pointer (some ⟨p5, 0, none⟩)) (hx6 : x 6 = .int .i64 0) (hx7 : x 7 = .pointer (some ⟨p7, 0, none⟩)) (hx8 : x 8 = .int .i64 0) : OpStep Tryz.prog pr7Ops Q (pr7aF a b q r HA64 HB64 H0 M1 M2 M3 M4 p5 p7 hr0) w0 164 x 7 := by
  intro act w hb hk hF
  have g74 : act.eval (.tmp 74) = .bool false := hF 6 (of_decide_eq_true (by kernel_rfl)) 74 (by kernel_rfl)
  have g5 : act.eval (.tmp 5) = .pointer (some ⟨p5, 0, none⟩) := (hk 5 (by decide) (by kernel_rfl)).trans hx5
  exact step_loadB (show opO pr7Ops 7 = some (.load 24 (.tmp 5)) by kernel_rfl) (.told 6 false 74 (by kernel_rfl) (by kernel_rfl) g74) g5 (hb5 w hb) ⟨rfl, Below.refl _ _⟩

theorem pr7a_s8 {Q : Exit → Act → World → Prop} {w0 : World} {x : Nat → Value} (a b q r : Int) (HA64 : Hid (In64 a)) (HB64 : Hid (In64 b)) (H0 : Hid (b ≠ 0)) (M1 : Hid (In64 q)) (M2 : Hid (In64 r)) (M3 : Hid (In64 (q * b))) (M4 : Hid (q * b + r = a)) (p5 p7 : Nat) (hr0 : Hid ((r != 0) = false)) (hb5 : BoxOn w0 p5 1 q ⟨#[]⟩) (hb7 : BoxOn w0 p7 1 r ⟨#[]⟩) (hx0 : x 0 = .int .i64 a) (hx1 : x 1 = .int .i64 b) (hx5 : x 5 = .pointer (some ⟨p5, 0, none⟩)) (hx6 : x 6 = .int .i64 0) (hx7 : x 7 = .pointer (some ⟨p7, 0, none⟩)) (hx8 : x 8 = .int .i64 0) : OpStep Tryz.prog pr7Ops Q (pr7aF a b q r HA64 HB64 H0 M1 M2 M3 M4 p5 p7 hr0) w0 164 x 8 := by
  intro act w hb hk hF
  have g74 : act.eval (.tmp 74) = .bool false := hF 6 (of_decide_eq_true (by kernel_rfl)) 74 (by kernel_rfl)
  have g1 : act.eval (.tmp 1) = .int .i64 b := (hk 1 (by decide) (by kernel_rfl)).trans hx1
  exact step_move (show opO pr7Ops 8 = some (.move (.tmp 1)) by kernel_rfl) (.told 6 false 74 (by kernel_rfl) (by kernel_rfl) g74) g1 ⟨rfl, Below.refl _ _⟩

theorem pr7a_s9 {Q : Exit → Act → World → Prop} {w0 : World} {x : Nat → Value} (a b q r : Int) (HA64 : Hid (In64 a)) (HB64 : Hid (In64 b)) (H0 : Hid (b ≠ 0)) (M1 : Hid (In64 q)) (M2 : Hid (In64 r)) (M3 : Hid (In64 (q * b))) (M4 : Hid (q * b + r = a)) (p5 p7 : Nat) (hr0 : Hid ((r != 0) = false)) (hb5 : BoxOn w0 p5 1 q ⟨#[]⟩) (hb7 : BoxOn w0 p7 1 r ⟨#[]⟩) (hx0 : x 0 = .int .i64 a) (hx1 : x 1 = .int .i64 b) (hx5 : x 5 = .pointer (some ⟨p5, 0, none⟩)) (hx6 : x 6 = .int .i64 0) (hx7 : x 7 = .pointer (some ⟨p7, 0, none⟩)) (hx8 : x 8 = .int .i64 0) : OpStep Tryz.prog pr7Ops Q (pr7aF a b q r HA64 HB64 H0 M1 M2 M3 M4 p5 p7 hr0) w0 164 x 9 := by
  intro act w hb hk hF
  have g74 : act.eval (.tmp 74) = .bool false := hF 6 (of_decide_eq_true (by kernel_rfl)) 74 (by kernel_rfl)
  have g76 : act.eval (.tmp 76) = .int .i64 b := hF 8 (of_decide_eq_true (by kernel_rfl)) 76 (by kernel_rfl)
  exact step_call (f := 15) (xs := #[.tmp 76]) (by kernel_rfl) (.told 6 false 74 (by kernel_rfl) (by kernel_rfl) g74) (map1 g76) (enters_of Tryz.func15 (by kernel_rfl) rfl) ((num_any b w).mono fun e w' h => ⟨_, h.1, rfl, h.2⟩)

theorem pr7a_s10 {Q : Exit → Act → World → Prop} {w0 : World} {x : Nat → Value} (a b q r : Int) (HA64 : Hid (In64 a)) (HB64 : Hid (In64 b)) (H0 : Hid (b ≠ 0)) (M1 : Hid (In64 q)) (M2 : Hid (In64 r)) (M3 : Hid (In64 (q * b))) (M4 : Hid (q * b + r = a)) (p5 p7 : Nat) (hr0 : Hid ((r != 0) = false)) (hb5 : BoxOn w0 p5 1 q ⟨#[]⟩) (hb7 : BoxOn w0 p7 1 r ⟨#[]⟩) (hx0 : x 0 = .int .i64 a) (hx1 : x 1 = .int .i64 b) (hx5 : x 5 = .pointer (some ⟨p5, 0, none⟩)) (hx6 : x 6 = .int .i64 0) (hx7 : x 7 = .pointer (some ⟨p7, 0, none⟩)) (hx8 : x 8 = .int .i64 0) : OpStep Tryz.prog pr7Ops Q (pr7aF a b q r HA64 HB64 H0 M1 M2 M3 M4 p5 p7 hr0) w0 164 x 10 := by
  intro act w hb hk hF
  have g74 : act.eval (.tmp 74) = .bool false := hF 6 (of_decide_eq_true (by kernel_rfl)) 74 (by kernel_rfl)
  have g75 : act.eval (.tmp 75) = vv 1 q ⟨#[]⟩ := hF 7 (of_decide_eq_true (by kernel_rfl)) 75 (by kernel_rfl)
  have g77 : act.eval (.tmp 77) = vv 1 b ⟨#[]⟩ := hF 9 (of_decide_eq_true (by kernel_rfl)) 77 (by kernel_rfl)
  exact step_call (f := 29) (xs := #[.const (.string ⟨#[42]⟩), .tmp 75, .tmp 77]) (by kernel_rfl) (.told 6 false 74 (by kernel_rfl) (by kernel_rfl) g74) (map3 rfl g75 g77) (enters_of Tryz.func29 (by kernel_rfl) rfl) ((both_any ⟨#[42]⟩ 1 q ⟨#[]⟩ 1 b ⟨#[]⟩ 1 (q * b) ⟨#[]⟩ 0 w (fun Y _ => opI_mul' q b _ Y M1.out HB64.out rfl M3.out)).mono fun e w' h => ⟨_, h.1, rfl, h.2⟩)

theorem pr7a_s11 {Q : Exit → Act → World → Prop} {w0 : World} {x : Nat → Value} (a b q r : Int) (HA64 : Hid (In64 a)) (HB64 : Hid (In64 b)) (H0 : Hid (b ≠ 0)) (M1 : Hid (In64 q)) (M2 : Hid (In64 r)) (M3 : Hid (In64 (q * b))) (M4 : Hid (q * b + r = a)) (p5 p7 : Nat) (hr0 : Hid ((r != 0) = false)) (hb5 : BoxOn w0 p5 1 q ⟨#[]⟩) (hb7 : BoxOn w0 p7 1 r ⟨#[]⟩) (hx0 : x 0 = .int .i64 a) (hx1 : x 1 = .int .i64 b) (hx5 : x 5 = .pointer (some ⟨p5, 0, none⟩)) (hx6 : x 6 = .int .i64 0) (hx7 : x 7 = .pointer (some ⟨p7, 0, none⟩)) (hx8 : x 8 = .int .i64 0) : OpStep Tryz.prog pr7Ops Q (pr7aF a b q r HA64 HB64 H0 M1 M2 M3 M4 p5 p7 hr0) w0 164 x 11 := by
  intro act w hb hk hF
  have g74 : act.eval (.tmp 74) = .bool false := hF 6 (of_decide_eq_true (by kernel_rfl)) 74 (by kernel_rfl)
  have g7 : act.eval (.tmp 7) = .pointer (some ⟨p7, 0, none⟩) := (hk 7 (by decide) (by kernel_rfl)).trans hx7
  exact step_loadB (show opO pr7Ops 11 = some (.load 24 (.tmp 7)) by kernel_rfl) (.told 6 false 74 (by kernel_rfl) (by kernel_rfl) g74) g7 (hb7 w hb) ⟨rfl, Below.refl _ _⟩

theorem pr7a_s12 {Q : Exit → Act → World → Prop} {w0 : World} {x : Nat → Value} (a b q r : Int) (HA64 : Hid (In64 a)) (HB64 : Hid (In64 b)) (H0 : Hid (b ≠ 0)) (M1 : Hid (In64 q)) (M2 : Hid (In64 r)) (M3 : Hid (In64 (q * b))) (M4 : Hid (q * b + r = a)) (p5 p7 : Nat) (hr0 : Hid ((r != 0) = false)) (hb5 : BoxOn w0 p5 1 q ⟨#[]⟩) (hb7 : BoxOn w0 p7 1 r ⟨#[]⟩) (hx0 : x 0 = .int .i64 a) (hx1 : x 1 = .int .i64 b) (hx5 : x 5 = .pointer (some ⟨p5, 0, none⟩)) (hx6 : x 6 = .int .i64 0) (hx7 : x 7 = .pointer (some ⟨p7, 0, none⟩)) (hx8 : x 8 = .int .i64 0) : OpStep Tryz.prog pr7Ops Q (pr7aF a b q r HA64 HB64 H0 M1 M2 M3 M4 p5 p7 hr0) w0 164 x 12 := by
  intro act w hb hk hF
  have g74 : act.eval (.tmp 74) = .bool false := hF 6 (of_decide_eq_true (by kernel_rfl)) 74 (by kernel_rfl)
  have g78 : act.eval (.tmp 78) = vv 1 (q * b) ⟨#[]⟩ := hF 10 (of_decide_eq_true (by kernel_rfl)) 78 (by kernel_rfl)
  have g79 : act.eval (.tmp 79) = vv 1 r ⟨#[]⟩ := hF 11 (of_decide_eq_true (by kernel_rfl)) 79 (by kernel_rfl)
  exact step_call (f := 29) (xs := #[.const (.string ⟨#[43]⟩), .tmp 78, .tmp 79]) (by kernel_rfl) (.told 6 false 74 (by kernel_rfl) (by kernel_rfl) g74) (map3 rfl g78 g79) (enters_of Tryz.func29 (by kernel_rfl) rfl) ((both_any ⟨#[43]⟩ 1 (q * b) ⟨#[]⟩ 1 r ⟨#[]⟩ 1 a ⟨#[]⟩ 0 w (fun Y _ => opI_add' (q * b) r a Y M3.out M2.out M4.out HA64.out)).mono fun e w' h => ⟨_, h.1, rfl, h.2⟩)

theorem pr7a_s13 {Q : Exit → Act → World → Prop} {w0 : World} {x : Nat → Value} (a b q r : Int) (HA64 : Hid (In64 a)) (HB64 : Hid (In64 b)) (H0 : Hid (b ≠ 0)) (M1 : Hid (In64 q)) (M2 : Hid (In64 r)) (M3 : Hid (In64 (q * b))) (M4 : Hid (q * b + r = a)) (p5 p7 : Nat) (hr0 : Hid ((r != 0) = false)) (hb5 : BoxOn w0 p5 1 q ⟨#[]⟩) (hb7 : BoxOn w0 p7 1 r ⟨#[]⟩) (hx0 : x 0 = .int .i64 a) (hx1 : x 1 = .int .i64 b) (hx5 : x 5 = .pointer (some ⟨p5, 0, none⟩)) (hx6 : x 6 = .int .i64 0) (hx7 : x 7 = .pointer (some ⟨p7, 0, none⟩)) (hx8 : x 8 = .int .i64 0) : OpStep Tryz.prog pr7Ops Q (pr7aF a b q r HA64 HB64 H0 M1 M2 M3 M4 p5 p7 hr0) w0 164 x 13 := by
  intro act w hb hk hF
  have g74 : act.eval (.tmp 74) = .bool false := hF 6 (of_decide_eq_true (by kernel_rfl)) 74 (by kernel_rfl)
  have g0 : act.eval (.tmp 0) = .int .i64 a := (hk 0 (by decide) (by kernel_rfl)).trans hx0
  exact step_move (show opO pr7Ops 13 = some (.move (.tmp 0)) by kernel_rfl) (.told 6 false 74 (by kernel_rfl) (by kernel_rfl) g74) g0 ⟨rfl, Below.refl _ _⟩

theorem pr7a_s14 {Q : Exit → Act → World → Prop} {w0 : World} {x : Nat → Value} (a b q r : Int) (HA64 : Hid (In64 a)) (HB64 : Hid (In64 b)) (H0 : Hid (b ≠ 0)) (M1 : Hid (In64 q)) (M2 : Hid (In64 r)) (M3 : Hid (In64 (q * b))) (M4 : Hid (q * b + r = a)) (p5 p7 : Nat) (hr0 : Hid ((r != 0) = false)) (hb5 : BoxOn w0 p5 1 q ⟨#[]⟩) (hb7 : BoxOn w0 p7 1 r ⟨#[]⟩) (hx0 : x 0 = .int .i64 a) (hx1 : x 1 = .int .i64 b) (hx5 : x 5 = .pointer (some ⟨p5, 0, none⟩)) (hx6 : x 6 = .int .i64 0) (hx7 : x 7 = .pointer (some ⟨p7, 0, none⟩)) (hx8 : x 8 = .int .i64 0) : OpStep Tryz.prog pr7Ops Q (pr7aF a b q r HA64 HB64 H0 M1 M2 M3 M4 p5 p7 hr0) w0 164 x 14 := by
  intro act w hb hk hF
  have g74 : act.eval (.tmp 74) = .bool false := hF 6 (of_decide_eq_true (by kernel_rfl)) 74 (by kernel_rfl)
  have g81 : act.eval (.tmp 81) = .int .i64 a := hF 13 (of_decide_eq_true (by kernel_rfl)) 81 (by kernel_rfl)
  exact step_call (f := 15) (xs := #[.tmp 81]) (by kernel_rfl) (.told 6 false 74 (by kernel_rfl) (by kernel_rfl) g74) (map1 g81) (enters_of Tryz.func15 (by kernel_rfl) rfl) ((num_any a w).mono fun e w' h => ⟨_, h.1, rfl, h.2⟩)

theorem pr7a_s15 {Q : Exit → Act → World → Prop} {w0 : World} {x : Nat → Value} (a b q r : Int) (HA64 : Hid (In64 a)) (HB64 : Hid (In64 b)) (H0 : Hid (b ≠ 0)) (M1 : Hid (In64 q)) (M2 : Hid (In64 r)) (M3 : Hid (In64 (q * b))) (M4 : Hid (q * b + r = a)) (p5 p7 : Nat) (hr0 : Hid ((r != 0) = false)) (hb5 : BoxOn w0 p5 1 q ⟨#[]⟩) (hb7 : BoxOn w0 p7 1 r ⟨#[]⟩) (hx0 : x 0 = .int .i64 a) (hx1 : x 1 = .int .i64 b) (hx5 : x 5 = .pointer (some ⟨p5, 0, none⟩)) (hx6 : x 6 = .int .i64 0) (hx7 : x 7 = .pointer (some ⟨p7, 0, none⟩)) (hx8 : x 8 = .int .i64 0) : OpStep Tryz.prog pr7Ops Q (pr7aF a b q r HA64 HB64 H0 M1 M2 M3 M4 p5 p7 hr0) w0 164 x 15 := by
  intro act w hb hk hF
  have g74 : act.eval (.tmp 74) = .bool false := hF 6 (of_decide_eq_true (by kernel_rfl)) 74 (by kernel_rfl)
  have g80 : act.eval (.tmp 80) = vv 1 a ⟨#[]⟩ := hF 12 (of_decide_eq_true (by kernel_rfl)) 80 (by kernel_rfl)
  have g82 : act.eval (.tmp 82) = vv 1 a ⟨#[]⟩ := hF 14 (of_decide_eq_true (by kernel_rfl)) 82 (by kernel_rfl)
  exact step_neV (show opO pr7Ops 15 = some (.binOp .neq 24 (.tmp 80) (.tmp 82) 24) by kernel_rfl) (.told 6 false 74 (by kernel_rfl) (by kernel_rfl) g74) g80 g82 (by rw [same_self]; rfl) ⟨rfl, Below.refl _ _⟩

theorem pr7a_s16 {Q : Exit → Act → World → Prop} {w0 : World} {x : Nat → Value} (a b q r : Int) (HA64 : Hid (In64 a)) (HB64 : Hid (In64 b)) (H0 : Hid (b ≠ 0)) (M1 : Hid (In64 q)) (M2 : Hid (In64 r)) (M3 : Hid (In64 (q * b))) (M4 : Hid (q * b + r = a)) (p5 p7 : Nat) (hr0 : Hid ((r != 0) = false)) (hb5 : BoxOn w0 p5 1 q ⟨#[]⟩) (hb7 : BoxOn w0 p7 1 r ⟨#[]⟩) (hx0 : x 0 = .int .i64 a) (hx1 : x 1 = .int .i64 b) (hx5 : x 5 = .pointer (some ⟨p5, 0, none⟩)) (hx6 : x 6 = .int .i64 0) (hx7 : x 7 = .pointer (some ⟨p7, 0, none⟩)) (hx8 : x 8 = .int .i64 0) : OpStep Tryz.prog pr7Ops Q (pr7aF a b q r HA64 HB64 H0 M1 M2 M3 M4 p5 p7 hr0) w0 164 x 16 := by
  intro act w hb hk hF
  have g74 : act.eval (.tmp 74) = .bool false := hF 6 (of_decide_eq_true (by kernel_rfl)) 74 (by kernel_rfl)
  have g83 : act.eval (.tmp 83) = .bool false := hF 15 (of_decide_eq_true (by kernel_rfl)) 83 (by kernel_rfl)
  exact step_pickF (show opO pr7Ops 16 = some (.pick (.tmp 74) (.const (.bool true)) (.tmp 83)) by kernel_rfl) (.free (by kernel_rfl)) g74 g83 ⟨rfl, Below.refl _ _⟩

theorem pr7a_s17 {Q : Exit → Act → World → Prop} {w0 : World} {x : Nat → Value} (a b q r : Int) (HA64 : Hid (In64 a)) (HB64 : Hid (In64 b)) (H0 : Hid (b ≠ 0)) (M1 : Hid (In64 q)) (M2 : Hid (In64 r)) (M3 : Hid (In64 (q * b))) (M4 : Hid (q * b + r = a)) (p5 p7 : Nat) (hr0 : Hid ((r != 0) = false)) (hb5 : BoxOn w0 p5 1 q ⟨#[]⟩) (hb7 : BoxOn w0 p7 1 r ⟨#[]⟩) (hx0 : x 0 = .int .i64 a) (hx1 : x 1 = .int .i64 b) (hx5 : x 5 = .pointer (some ⟨p5, 0, none⟩)) (hx6 : x 6 = .int .i64 0) (hx7 : x 7 = .pointer (some ⟨p7, 0, none⟩)) (hx8 : x 8 = .int .i64 0) : OpStep Tryz.prog pr7Ops Q (pr7aF a b q r HA64 HB64 H0 M1 M2 M3 M4 p5 p7 hr0) w0 164 x 17 := by
  intro act w hb hk hF
  have g84 : act.eval (.tmp 84) = .bool false := hF 16 (of_decide_eq_true (by kernel_rfl)) 84 (by kernel_rfl)
  exact step_move (show opO pr7Ops 17 = some (.move (.tmp 84)) by kernel_rfl) (.free (by kernel_rfl)) g84 ⟨rfl, Below.refl _ _⟩

theorem pr7a_s18 {Q : Exit → Act → World → Prop} {w0 : World} {x : Nat → Value} (a b q r : Int) (HA64 : Hid (In64 a)) (HB64 : Hid (In64 b)) (H0 : Hid (b ≠ 0)) (M1 : Hid (In64 q)) (M2 : Hid (In64 r)) (M3 : Hid (In64 (q * b))) (M4 : Hid (q * b + r = a)) (p5 p7 : Nat) (hr0 : Hid ((r != 0) = false)) (hb5 : BoxOn w0 p5 1 q ⟨#[]⟩) (hb7 : BoxOn w0 p7 1 r ⟨#[]⟩) (hx0 : x 0 = .int .i64 a) (hx1 : x 1 = .int .i64 b) (hx5 : x 5 = .pointer (some ⟨p5, 0, none⟩)) (hx6 : x 6 = .int .i64 0) (hx7 : x 7 = .pointer (some ⟨p7, 0, none⟩)) (hx8 : x 8 = .int .i64 0) : OpStep Tryz.prog pr7Ops Q (pr7aF a b q r HA64 HB64 H0 M1 M2 M3 M4 p5 p7 hr0) w0 164 x 18 := by
  intro act w hb hk hF
  have g85 : act.eval (.tmp 85) = .bool false := hF 17 (of_decide_eq_true (by kernel_rfl)) 85 (by kernel_rfl)
  have g7 : act.eval (.tmp 7) = .pointer (some ⟨p7, 0, none⟩) := (hk 7 (by decide) (by kernel_rfl)).trans hx7
  exact step_fieldN (show opO pr7Ops 18 = some (.fieldAddr 24 (.tmp 7) 1) by kernel_rfl) (.told 17 false 85 (by kernel_rfl) (by kernel_rfl) g85) g7 ⟨rfl, Below.refl _ _⟩

theorem pr7a_s19 {Q : Exit → Act → World → Prop} {w0 : World} {x : Nat → Value} (a b q r : Int) (HA64 : Hid (In64 a)) (HB64 : Hid (In64 b)) (H0 : Hid (b ≠ 0)) (M1 : Hid (In64 q)) (M2 : Hid (In64 r)) (M3 : Hid (In64 (q * b))) (M4 : Hid (q * b + r = a)) (p5 p7 : Nat) (hr0 : Hid ((r != 0) = false)) (hb5 : BoxOn w0 p5 1 q ⟨#[]⟩) (hb7 : BoxOn w0 p7 1 r ⟨#[]⟩) (hx0 : x 0 = .int .i64 a) (hx1 : x 1 = .int .i64 b) (hx5 : x 5 = .pointer (some ⟨p5, 0, none⟩)) (hx6 : x 6 = .int .i64 0) (hx7 : x 7 = .pointer (some ⟨p7, 0, none⟩)) (hx8 : x 8 = .int .i64 0) : OpStep Tryz.prog pr7Ops Q (pr7aF a b q r HA64 HB64 H0 M1 M2 M3 M4 p5 p7 hr0) w0 164 x 19 := by
  intro act w hb hk hF
  have g85 : act.eval (.tmp 85) = .bool false := hF 17 (of_decide_eq_true (by kernel_rfl)) 85 (by kernel_rfl)
  have g86 : act.eval (.tmp 86) = .pointer (some ⟨p7, 1, none⟩) := hF 18 (of_decide_eq_true (by kernel_rfl)) 86 (by kernel_rfl)
  exact step_loadN (show opO pr7Ops 19 = some (.load 2 (.tmp 86)) by kernel_rfl) (.told 17 false 85 (by kernel_rfl) (by kernel_rfl) g85) g86 (hb7 w hb) ⟨rfl, Below.refl _ _⟩

theorem pr7a_s20 {Q : Exit → Act → World → Prop} {w0 : World} {x : Nat → Value} (a b q r : Int) (HA64 : Hid (In64 a)) (HB64 : Hid (In64 b)) (H0 : Hid (b ≠ 0)) (M1 : Hid (In64 q)) (M2 : Hid (In64 r)) (M3 : Hid (In64 (q * b))) (M4 : Hid (q * b + r = a)) (p5 p7 : Nat) (hr0 : Hid ((r != 0) = false)) (hb5 : BoxOn w0 p5 1 q ⟨#[]⟩) (hb7 : BoxOn w0 p7 1 r ⟨#[]⟩) (hx0 : x 0 = .int .i64 a) (hx1 : x 1 = .int .i64 b) (hx5 : x 5 = .pointer (some ⟨p5, 0, none⟩)) (hx6 : x 6 = .int .i64 0) (hx7 : x 7 = .pointer (some ⟨p7, 0, none⟩)) (hx8 : x 8 = .int .i64 0) : OpStep Tryz.prog pr7Ops Q (pr7aF a b q r HA64 HB64 H0 M1 M2 M3 M4 p5 p7 hr0) w0 164 x 20 := by
  intro act w hb hk hF
  have g85 : act.eval (.tmp 85) = .bool false := hF 17 (of_decide_eq_true (by kernel_rfl)) 85 (by kernel_rfl)
  have g87 : act.eval (.tmp 87) = .int .i64 r := hF 19 (of_decide_eq_true (by kernel_rfl)) 87 (by kernel_rfl)
  exact step_neI (show opO pr7Ops 20 = some (.binOp .neq 2 (.tmp 87) (.const (.int .i64 0)) 2) by kernel_rfl) (.told 17 false 85 (by kernel_rfl) (by kernel_rfl) g85) g87 rfl hr0.out ⟨rfl, Below.refl _ _⟩

theorem pr7a_s21 {Q : Exit → Act → World → Prop} {w0 : World} {x : Nat → Value} (a b q r : Int) (HA64 : Hid (In64 a)) (HB64 : Hid (In64 b)) (H0 : Hid (b ≠ 0)) (M1 : Hid (In64 q)) (M2 : Hid (In64 r)) (M3 : Hid (In64 (q * b))) (M4 : Hid (q * b + r = a)) (p5 p7 : Nat) (hr0 : Hid ((r != 0) = false)) (hb5 : BoxOn w0 p5 1 q ⟨#[]⟩) (hb7 : BoxOn w0 p7 1 r ⟨#[]⟩) (hx0 : x 0 = .int .i64 a) (hx1 : x 1 = .int .i64 b) (hx5 : x 5 = .pointer (some ⟨p5, 0, none⟩)) (hx6 : x 6 = .int .i64 0) (hx7 : x 7 = .pointer (some ⟨p7, 0, none⟩)) (hx8 : x 8 = .int .i64 0) : OpStep Tryz.prog pr7Ops Q (pr7aF a b q r HA64 HB64 H0 M1 M2 M3 M4 p5 p7 hr0) w0 164 x 21 := by
  intro act w hb hk hF
  have g85 : act.eval (.tmp 85) = .bool false := hF 17 (of_decide_eq_true (by kernel_rfl)) 85 (by kernel_rfl)
  have g88 : act.eval (.tmp 88) = .bool false := hF 20 (of_decide_eq_true (by kernel_rfl)) 88 (by kernel_rfl)
  exact step_move (show opO pr7Ops 21 = some (.move (.tmp 88)) by kernel_rfl) (.told 17 false 85 (by kernel_rfl) (by kernel_rfl) g85) g88 ⟨rfl, Below.refl _ _⟩

theorem pr7a_s22 {Q : Exit → Act → World → Prop} {w0 : World} {x : Nat → Value} (a b q r : Int) (HA64 : Hid (In64 a)) (HB64 : Hid (In64 b)) (H0 : Hid (b ≠ 0)) (M1 : Hid (In64 q)) (M2 : Hid (In64 r)) (M3 : Hid (In64 (q * b))) (M4 : Hid (q * b + r = a)) (p5 p7 : Nat) (hr0 : Hid ((r != 0) = false)) (hb5 : BoxOn w0 p5 1 q ⟨#[]⟩) (hb7 : BoxOn w0 p7 1 r ⟨#[]⟩) (hx0 : x 0 = .int .i64 a) (hx1 : x 1 = .int .i64 b) (hx5 : x 5 = .pointer (some ⟨p5, 0, none⟩)) (hx6 : x 6 = .int .i64 0) (hx7 : x 7 = .pointer (some ⟨p7, 0, none⟩)) (hx8 : x 8 = .int .i64 0) : OpStep Tryz.prog pr7Ops Q (pr7aF a b q r HA64 HB64 H0 M1 M2 M3 M4 p5 p7 hr0) w0 164 x 22 := by
  intro act w hb hk hF
  have g89 : act.eval (.tmp 89) = .bool false := hF 21 (of_decide_eq_true (by kernel_rfl)) 89 (by kernel_rfl)
  exact step_off (of_decide_eq_true (by kernel_rfl)) (.told 21 true 89 (by kernel_rfl) (by kernel_rfl) g89) ⟨rfl, Below.refl _ _⟩

theorem pr7a_s23 {Q : Exit → Act → World → Prop} {w0 : World} {x : Nat → Value} (a b q r : Int) (HA64 : Hid (In64 a)) (HB64 : Hid (In64 b)) (H0 : Hid (b ≠ 0)) (M1 : Hid (In64 q)) (M2 : Hid (In64 r)) (M3 : Hid (In64 (q * b))) (M4 : Hid (q * b + r = a)) (p5 p7 : Nat) (hr0 : Hid ((r != 0) = false)) (hb5 : BoxOn w0 p5 1 q ⟨#[]⟩) (hb7 : BoxOn w0 p7 1 r ⟨#[]⟩) (hx0 : x 0 = .int .i64 a) (hx1 : x 1 = .int .i64 b) (hx5 : x 5 = .pointer (some ⟨p5, 0, none⟩)) (hx6 : x 6 = .int .i64 0) (hx7 : x 7 = .pointer (some ⟨p7, 0, none⟩)) (hx8 : x 8 = .int .i64 0) : OpStep Tryz.prog pr7Ops Q (pr7aF a b q r HA64 HB64 H0 M1 M2 M3 M4 p5 p7 hr0) w0 164 x 23 := by
  intro act w hb hk hF
  have g89 : act.eval (.tmp 89) = .bool false := hF 21 (of_decide_eq_true (by kernel_rfl)) 89 (by kernel_rfl)
  exact step_off (of_decide_eq_true (by kernel_rfl)) (.told 21 true 89 (by kernel_rfl) (by kernel_rfl) g89) ⟨rfl, Below.refl _ _⟩

theorem pr7a_s24 {Q : Exit → Act → World → Prop} {w0 : World} {x : Nat → Value} (a b q r : Int) (HA64 : Hid (In64 a)) (HB64 : Hid (In64 b)) (H0 : Hid (b ≠ 0)) (M1 : Hid (In64 q)) (M2 : Hid (In64 r)) (M3 : Hid (In64 (q * b))) (M4 : Hid (q * b + r = a)) (p5 p7 : Nat) (hr0 : Hid ((r != 0) = false)) (hb5 : BoxOn w0 p5 1 q ⟨#[]⟩) (hb7 : BoxOn w0 p7 1 r ⟨#[]⟩) (hx0 : x 0 = .int .i64 a) (hx1 : x 1 = .int .i64 b) (hx5 : x 5 = .pointer (some ⟨p5, 0, none⟩)) (hx6 : x 6 = .int .i64 0) (hx7 : x 7 = .pointer (some ⟨p7, 0, none⟩)) (hx8 : x 8 = .int .i64 0) : OpStep Tryz.prog pr7Ops Q (pr7aF a b q r HA64 HB64 H0 M1 M2 M3 M4 p5 p7 hr0) w0 164 x 24 := by
  intro act w hb hk hF
  have g89 : act.eval (.tmp 89) = .bool false := hF 21 (of_decide_eq_true (by kernel_rfl)) 89 (by kernel_rfl)
  exact step_off (of_decide_eq_true (by kernel_rfl)) (.told 21 true 89 (by kernel_rfl) (by kernel_rfl) g89) ⟨rfl, Below.refl _ _⟩

theorem pr7a_s25 {Q : Exit → Act → World → Prop} {w0 : World} {x : Nat → Value} (a b q r : Int) (HA64 : Hid (In64 a)) (HB64 : Hid (In64 b)) (H0 : Hid (b ≠ 0)) (M1 : Hid (In64 q)) (M2 : Hid (In64 r)) (M3 : Hid (In64 (q * b))) (M4 : Hid (q * b + r = a)) (p5 p7 : Nat) (hr0 : Hid ((r != 0) = false)) (hb5 : BoxOn w0 p5 1 q ⟨#[]⟩) (hb7 : BoxOn w0 p7 1 r ⟨#[]⟩) (hx0 : x 0 = .int .i64 a) (hx1 : x 1 = .int .i64 b) (hx5 : x 5 = .pointer (some ⟨p5, 0, none⟩)) (hx6 : x 6 = .int .i64 0) (hx7 : x 7 = .pointer (some ⟨p7, 0, none⟩)) (hx8 : x 8 = .int .i64 0) : OpStep Tryz.prog pr7Ops Q (pr7aF a b q r HA64 HB64 H0 M1 M2 M3 M4 p5 p7 hr0) w0 164 x 25 := by
  intro act w hb hk hF
  have g89 : act.eval (.tmp 89) = .bool false := hF 21 (of_decide_eq_true (by kernel_rfl)) 89 (by kernel_rfl)
  exact step_off (of_decide_eq_true (by kernel_rfl)) (.told 21 true 89 (by kernel_rfl) (by kernel_rfl) g89) ⟨rfl, Below.refl _ _⟩

theorem pr7a_s26 {Q : Exit → Act → World → Prop} {w0 : World} {x : Nat → Value} (a b q r : Int) (HA64 : Hid (In64 a)) (HB64 : Hid (In64 b)) (H0 : Hid (b ≠ 0)) (M1 : Hid (In64 q)) (M2 : Hid (In64 r)) (M3 : Hid (In64 (q * b))) (M4 : Hid (q * b + r = a)) (p5 p7 : Nat) (hr0 : Hid ((r != 0) = false)) (hb5 : BoxOn w0 p5 1 q ⟨#[]⟩) (hb7 : BoxOn w0 p7 1 r ⟨#[]⟩) (hx0 : x 0 = .int .i64 a) (hx1 : x 1 = .int .i64 b) (hx5 : x 5 = .pointer (some ⟨p5, 0, none⟩)) (hx6 : x 6 = .int .i64 0) (hx7 : x 7 = .pointer (some ⟨p7, 0, none⟩)) (hx8 : x 8 = .int .i64 0) : OpStep Tryz.prog pr7Ops Q (pr7aF a b q r HA64 HB64 H0 M1 M2 M3 M4 p5 p7 hr0) w0 164 x 26 := by
  intro act w hb hk hF
  have g89 : act.eval (.tmp 89) = .bool false := hF 21 (of_decide_eq_true (by kernel_rfl)) 89 (by kernel_rfl)
  exact step_off (of_decide_eq_true (by kernel_rfl)) (.told 21 true 89 (by kernel_rfl) (by kernel_rfl) g89) ⟨rfl, Below.refl _ _⟩

theorem pr7a_s27 {Q : Exit → Act → World → Prop} {w0 : World} {x : Nat → Value} (a b q r : Int) (HA64 : Hid (In64 a)) (HB64 : Hid (In64 b)) (H0 : Hid (b ≠ 0)) (M1 : Hid (In64 q)) (M2 : Hid (In64 r)) (M3 : Hid (In64 (q * b))) (M4 : Hid (q * b + r = a)) (p5 p7 : Nat) (hr0 : Hid ((r != 0) = false)) (hb5 : BoxOn w0 p5 1 q ⟨#[]⟩) (hb7 : BoxOn w0 p7 1 r ⟨#[]⟩) (hx0 : x 0 = .int .i64 a) (hx1 : x 1 = .int .i64 b) (hx5 : x 5 = .pointer (some ⟨p5, 0, none⟩)) (hx6 : x 6 = .int .i64 0) (hx7 : x 7 = .pointer (some ⟨p7, 0, none⟩)) (hx8 : x 8 = .int .i64 0) : OpStep Tryz.prog pr7Ops Q (pr7aF a b q r HA64 HB64 H0 M1 M2 M3 M4 p5 p7 hr0) w0 164 x 27 := by
  intro act w hb hk hF
  have g89 : act.eval (.tmp 89) = .bool false := hF 21 (of_decide_eq_true (by kernel_rfl)) 89 (by kernel_rfl)
  exact step_off (of_decide_eq_true (by kernel_rfl)) (.told 21 true 89 (by kernel_rfl) (by kernel_rfl) g89) ⟨rfl, Below.refl _ _⟩

theorem pr7a_s28 {Q : Exit → Act → World → Prop} {w0 : World} {x : Nat → Value} (a b q r : Int) (HA64 : Hid (In64 a)) (HB64 : Hid (In64 b)) (H0 : Hid (b ≠ 0)) (M1 : Hid (In64 q)) (M2 : Hid (In64 r)) (M3 : Hid (In64 (q * b))) (M4 : Hid (q * b + r = a)) (p5 p7 : Nat) (hr0 : Hid ((r != 0) = false)) (hb5 : BoxOn w0 p5 1 q ⟨#[]⟩) (hb7 : BoxOn w0 p7 1 r ⟨#[]⟩) (hx0 : x 0 = .int .i64 a) (hx1 : x 1 = .int .i64 b) (hx5 : x 5 = .pointer (some ⟨p5, 0, none⟩)) (hx6 : x 6 = .int .i64 0) (hx7 : x 7 = .pointer (some ⟨p7, 0, none⟩)) (hx8 : x 8 = .int .i64 0) : OpStep Tryz.prog pr7Ops Q (pr7aF a b q r HA64 HB64 H0 M1 M2 M3 M4 p5 p7 hr0) w0 164 x 28 := by
  intro act w hb hk hF
  have g85 : act.eval (.tmp 85) = .bool false := hF 17 (of_decide_eq_true (by kernel_rfl)) 85 (by kernel_rfl)
  have g89 : act.eval (.tmp 89) = .bool false := hF 21 (of_decide_eq_true (by kernel_rfl)) 89 (by kernel_rfl)
  exact step_pickF (show opO pr7Ops 28 = some (.pick (.tmp 89) (.tmp 95) (.const (.bool false))) by kernel_rfl) (.told 17 false 85 (by kernel_rfl) (by kernel_rfl) g85) g89 rfl ⟨rfl, Below.refl _ _⟩

theorem pr7a_s29 {Q : Exit → Act → World → Prop} {w0 : World} {x : Nat → Value} (a b q r : Int) (HA64 : Hid (In64 a)) (HB64 : Hid (In64 b)) (H0 : Hid (b ≠ 0)) (M1 : Hid (In64 q)) (M2 : Hid (In64 r)) (M3 : Hid (In64 (q * b))) (M4 : Hid (q * b + r = a)) (p5 p7 : Nat) (hr0 : Hid ((r != 0) = false)) (hb5 : BoxOn w0 p5 1 q ⟨#[]⟩) (hb7 : BoxOn w0 p7 1 r ⟨#[]⟩) (hx0 : x 0 = .int .i64 a) (hx1 : x 1 = .int .i64 b) (hx5 : x 5 = .pointer (some ⟨p5, 0, none⟩)) (hx6 : x 6 = .int .i64 0) (hx7 : x 7 = .pointer (some ⟨p7, 0, none⟩)) (hx8 : x 8 = .int .i64 0) : OpStep Tryz.prog pr7Ops Q (pr7aF a b q r HA64 HB64 H0 M1 M2 M3 M4 p5 p7 hr0) w0 164 x 29 := by
  intro act w hb hk hF
  have g85 : act.eval (.tmp 85) = .bool false := hF 17 (of_decide_eq_true (by kernel_rfl)) 85 (by kernel_rfl)
  have g96 : act.eval (.tmp 96) = .bool false := hF 28 (of_decide_eq_true (by kernel_rfl)) 96 (by kernel_rfl)
  exact step_pickF (show opO pr7Ops 29 = some (.pick (.tmp 85) (.const (.bool true)) (.tmp 96)) by kernel_rfl) (.free (by kernel_rfl)) g85 g96 ⟨rfl, Below.refl _ _⟩

theorem pr7a {Q : Exit → Act → World → Prop} {a0 : Act} {w0 : World} (a b q r : Int) (HA64 : Hid (In64 a)) (HB64 : Hid (In64 b)) (H0 : Hid (b ≠ 0)) (M1 : Hid (In64 q)) (M2 : Hid (In64 r)) (M3 : Hid (In64 (q * b))) (M4 : Hid (q * b + r = a)) (p5 p7 : Nat) (hr0 : Hid ((r != 0) = false)) (hb5 : BoxOn w0 p5 1 q ⟨#[]⟩) (hb7 : BoxOn w0 p7 1 r ⟨#[]⟩) (hx0 : a0.tmps.getD 0 undef = .int .i64 a) (hx1 : a0.tmps.getD 1 undef = .int .i64 b) (hx5 : a0.tmps.getD 5 undef = .pointer (some ⟨p5, 0, none⟩)) (hx6 : a0.tmps.getD 6 undef = .int .i64 0) (hx7 : a0.tmps.getD 7 undef = .pointer (some ⟨p7, 0, none⟩)) (hx8 : a0.tmps.getD 8 undef = .int .i64 0) (hs : a0.tmps.size = 164)
    (hend : ∀ (V : Nat → Value) (X : World), Below w0.heap.size w0 X → V 29 = .bool false → Q .normal ⟨fillT pr7Ops a0.tmps V, a0.defers⟩ X) : (Code.region 7 pr7Ops true).wp Tryz.prog Q a0 w0 := by
  refine wp_region_steps (by kernel_rfl) (pr7aF a b q r HA64 HB64 H0 M1 M2 M3 M4 p5 p7 hr0) (pr7aF_mono a b q r HA64 HB64 H0 M1 M2 M3 M4 p5 p7 hr0) (by rw [hs]; kernel_rfl) ?_ ?_
  · rw [hs]
    have e : pr7Ops.size = 30 := by kernel_rfl
    rw [e]
    have u1 : ∀ i, i < 1 → OpStep Tryz.prog pr7Ops Q (pr7aF a b q r HA64 HB64 H0 M1 M2 M3 M4 p5 p7 hr0) w0 164 (fun t => a0.tmps.getD t undef) i := upto_succ upto_zero (pr7a_s0 a b q r HA64 HB64 H0 M1 M2 M3 M4 p5 p7 hr0 hb5 hb7 hx0 hx1 hx5 hx6 hx7 hx8)
    have u2 : ∀ i, i < 2 → OpStep Tryz.prog pr7Ops Q (pr7aF a b q r HA64 HB64 H0 M1 M2 M3 M4 p5 p7 hr0) w0 164 (fun t => a0.tmps.getD t undef) i := upto_succ u1 (pr7a_s1 a b q r HA64 HB64 H0 M1 M2 M3 M4 p5 p7 hr0 hb5 hb7 hx0 hx1 hx5 hx6 hx7 hx8)
    have u3 : ∀ i, i < 3 → OpStep Tryz.prog pr7Ops Q (pr7aF a b q r HA64 HB64 H0 M1 M2 M3 M4 p5 p7 hr0) w0 164 (fun t => a0.tmps.getD t undef) i := upto_succ u2 (pr7a_s2 a b q r HA64 HB64 H0 M1 M2 M3 M4 p5 p7 hr0 hb5 hb7 hx0 hx1 hx5 hx6 hx7 hx8)
    have u4 : ∀ i, i < 4 → OpStep Tryz.prog pr7Ops Q (pr7aF a b q r HA64 HB64 H0 M1 M2 M3 M4 p5 p7 hr0) w0 164 (fun t => a0.tmps.getD t undef) i := upto_succ u3 (pr7a_s3 a b q r HA64 HB64 H0 M1 M2 M3 M4 p5 p7 hr0 hb5 hb7 hx0 hx1 hx5 hx6 hx7 hx8)
    have u5 : ∀ i, i < 5 → OpStep Tryz.prog pr7Ops Q (pr7aF a b q r HA64 HB64 H0 M1 M2 M3 M4 p5 p7 hr0) w0 164 (fun t => a0.tmps.getD t undef) i := upto_succ u4 (pr7a_s4 a b q r HA64 HB64 H0 M1 M2 M3 M4 p5 p7 hr0 hb5 hb7 hx0 hx1 hx5 hx6 hx7 hx8)
    have u6 : ∀ i, i < 6 → OpStep Tryz.prog pr7Ops Q (pr7aF a b q r HA64 HB64 H0 M1 M2 M3 M4 p5 p7 hr0) w0 164 (fun t => a0.tmps.getD t undef) i := upto_succ u5 (pr7a_s5 a b q r HA64 HB64 H0 M1 M2 M3 M4 p5 p7 hr0 hb5 hb7 hx0 hx1 hx5 hx6 hx7 hx8)
    have u7 : ∀ i, i < 7 → OpStep Tryz.prog pr7Ops Q (pr7aF a b q r HA64 HB64 H0 M1 M2 M3 M4 p5 p7 hr0) w0 164 (fun t => a0.tmps.getD t undef) i := upto_succ u6 (pr7a_s6 a b q r HA64 HB64 H0 M1 M2 M3 M4 p5 p7 hr0 hb5 hb7 hx0 hx1 hx5 hx6 hx7 hx8)
    have u8 : ∀ i, i < 8 → OpStep Tryz.prog pr7Ops Q (pr7aF a b q r HA64 HB64 H0 M1 M2 M3 M4 p5 p7 hr0) w0 164 (fun t => a0.tmps.getD t undef) i := upto_succ u7 (pr7a_s7 a b q r HA64 HB64 H0 M1 M2 M3 M4 p5 p7 hr0 hb5 hb7 hx0 hx1 hx5 hx6 hx7 hx8)
    have u9 : ∀ i, i < 9 → OpStep Tryz.prog pr7Ops Q (pr7aF a b q r HA64 HB64 H0 M1 M2 M3 M4 p5 p7 hr0) w0 164 (fun t => a0.tmps.getD t undef) i := upto_succ u8 (pr7a_s8 a b q r HA64 HB64 H0 M1 M2 M3 M4 p5 p7 hr0 hb5 hb7 hx0 hx1 hx5 hx6 hx7 hx8)
    have u10 : ∀ i, i < 10 → OpStep Tryz.prog pr7Ops Q (pr7aF a b q r HA64 HB64 H0 M1 M2 M3 M4 p5 p7 hr0) w0 164 (fun t => a0.tmps.getD t undef) i := upto_succ u9 (pr7a_s9 a b q r HA64 HB64 H0 M1 M2 M3 M4 p5 p7 hr0 hb5 hb7 hx0 hx1 hx5 hx6 hx7 hx8)
    have u11 : ∀ i, i < 11 → OpStep Tryz.prog pr7Ops Q (pr7aF a b q r HA64 HB64 H0 M1 M2 M3 M4 p5 p7 hr0) w0 164 (fun t => a0.tmps.getD t undef) i := upto_succ u10 (pr7a_s10 a b q r HA64 HB64 H0 M1 M2 M3 M4 p5 p7 hr0 hb5 hb7 hx0 hx1 hx5 hx6 hx7 hx8)
    have u12 : ∀ i, i < 12 → OpStep Tryz.prog pr7Ops Q (pr7aF a b q r HA64 HB64 H0 M1 M2 M3 M4 p5 p7 hr0) w0 164 (fun t => a0.tmps.getD t undef) i := upto_succ u11 (pr7a_s11 a b q r HA64 HB64 H0 M1 M2 M3 M4 p5 p7 hr0 hb5 hb7 hx0 hx1 hx5 hx6 hx7 hx8)
    have u13 : ∀ i, i < 13 → OpStep Tryz.prog pr7Ops Q (pr7aF a b q r HA64 HB64 H0 M1 M2 M3 M4 p5 p7 hr0) w0 164 (fun t => a0.tmps.getD t undef) i := upto_succ u12 (pr7a_s12 a b q r HA64 HB64 H0 M1 M2 M3 M4 p5 p7 hr0 hb5 hb7 hx0 hx1 hx5 hx6 hx7 hx8)
    have u14 : ∀ i, i < 14 → OpStep Tryz.prog pr7Ops Q (pr7aF a b q r HA64 HB64 H0 M1 M2 M3 M4 p5 p7 hr0) w0 164 (fun t => a0.tmps.getD t undef) i := upto_succ u13 (pr7a_s13 a b q r HA64 HB64 H0 M1 M2 M3 M4 p5 p7 hr0 hb5 hb7 hx0 hx1 hx5 hx6 hx7 hx8)
    have u15 : ∀ i, i < 15 → OpStep Tryz.prog pr7Ops Q (pr7aF a b q r HA64 HB64 H0 M1 M2 M3 M4 p5 p7 hr0) w0 164 (fun t => a0.tmps.getD t undef) i := upto_succ u14 (pr7a_s14 a b q r HA64 HB64 H0 M1 M2 M3 M4 p5 p7 hr0 hb5 hb7 hx0 hx1 hx5 hx6 hx7 hx8)
    have u16 : ∀ i, i < 16 → OpStep Tryz.prog pr7Ops Q (pr7aF a b q r HA64 HB64 H0 M1 M2 M3 M4 p5 p7 hr0) w0 164 (fun t => a0.tmps.getD t undef) i := upto_succ u15 (pr7a_s15 a b q r HA64 HB64 H0 M1 M2 M3 M4 p5 p7 hr0 hb5 hb7 hx0 hx1 hx5 hx6 hx7 hx8)
    have u17 : ∀ i, i < 17 → OpStep Tryz.prog pr7Ops Q (pr7aF a b q r HA64 HB64 H0 M1 M2 M3 M4 p5 p7 hr0) w0 164 (fun t => a0.tmps.getD t undef) i := upto_succ u16 (pr7a_s16 a b q r HA64 HB64 H0 M1 M2 M3 M4 p5 p7 hr0 hb5 hb7 hx0 hx1 hx5 hx6 hx7 hx8)
    have u18 : ∀ i, i < 18 → OpStep Tryz.prog pr7Ops Q (pr7aF a b q r HA64 HB64 H0 M1 M2 M3 M4 p5 p7 hr0) w0 164 (fun t => a0.tmps.getD t undef) i := upto_succ u17 (pr7a_s17 a b q r HA64 HB64 H0 M1 M2 M3 M4 p5 p7 hr0 hb5 hb7 hx0 hx1 hx5 hx6 hx7 hx8)
    have u19 : ∀ i, i < 19 → OpStep Tryz.prog pr7Ops Q (pr7aF a b q r HA64 HB64 H0 M1 M2 M3 M4 p5 p7 hr0) w0 164 (fun t => a0.tmps.getD t undef) i := upto_succ u18 (pr7a_s18 a b q r HA64 HB64 H0 M1 M2 M3 M4 p5 p7 hr0 hb5 hb7 hx0 hx1 hx5 hx6 hx7 hx8)
    have u20 : ∀ i, i < 20 → OpStep Tryz.prog pr7Ops Q (pr7aF a b q r HA64 HB64 H0 M1 M2 M3 M4 p5 p7 hr0) w0 164 (fun t => a0.tmps.getD t undef) i := upto_succ u19 (pr7a_s19 a b q r HA64 HB64 H0 M1 M2 M3 M4 p5 p7 hr0 hb5 hb7 hx0 hx1 hx5 hx6 hx7 hx8)
    have u21 : ∀ i, i < 21 → OpStep Tryz.prog pr7Ops Q (pr7aF a b q r HA64 HB64 H0 M1 M2 M3 M4 p5 p7 hr0) w0 164 (fun t => a0.tmps.getD t undef) i := upto_succ u20 (pr7a_s20 a b q r HA64 HB64 H0 M1 M2 M3 M4 p5 p7 hr0 hb5 hb7 hx0 hx1 hx5 hx6 hx7 hx8)
    have u22 : ∀ i, i < 22 → OpStep Tryz.prog pr7Ops Q (pr7aF a b q r HA64 HB64 H0 M1 M2 M3 M4 p5 p7 hr0) w0 164 (fun t => a0.tmps.getD t undef) i := upto_succ u21 (pr7a_s21 a b q r HA64 HB64 H0 M1 M2 M3 M4 p5 p7 hr0 hb5 hb7 hx0 hx1 hx5 hx6 hx7 hx8)
    have u23 : ∀ i, i < 23 → OpStep Tryz.prog pr7Ops Q (pr7aF a b q r HA64 HB64 H0 M1 M2 M3 M4 p5 p7 hr0) w0 164 (fun t => a0.tmps.getD t undef) i := upto_succ u22 (pr7a_s22 a b q r HA64 HB64 H0 M1 M2 M3 M4 p5 p7 hr0 hb5 hb7 hx0 hx1 hx5 hx6 hx7 hx8)
    have u24 : ∀ i, i < 24 → OpStep Tryz.prog pr7Ops Q (pr7aF a b q r HA64 HB64 H0 M1 M2 M3 M4 p5 p7 hr0) w0 164 (fun t => a0.tmps.getD t undef) i := upto_succ u23 (pr7a_s23 a b q r HA64 HB64 H0 M1 M2 M3 M4 p5 p7 hr0 hb5 hb7 hx0 hx1 hx5 hx6 hx7 hx8)
    have u25 : ∀ i, i < 25 → OpStep Tryz.prog pr7Ops Q (pr7aF a b q r HA64 HB64 H0 M1 M2 M3 M4 p5 p7 hr0) w0 164 (fun t => a0.tmps.getD t undef) i := upto_succ u24 (pr7a_s24 a b q r HA64 HB64 H0 M1 M2 M3 M4 p5 p7 hr0 hb5 hb7 hx0 hx1 hx5 hx6 hx7 hx8)
    have u26 : ∀ i, i < 26 → OpStep Tryz.prog pr7Ops Q (pr7aF a b q r HA64 HB64 H0 M1 M2 M3 M4 p5 p7 hr0) w0 164 (fun t => a0.tmps.getD t undef) i := upto_succ u25 (pr7a_s25 a b q r HA64 HB64 H0 M1 M2 M3 M4 p5 p7 hr0 hb5 hb7 hx0 hx1 hx5 hx6 hx7 hx8)
    have u27 : ∀ i, i < 27 → OpStep Tryz.prog pr7Ops Q (pr7aF a b q r HA64 HB64 H0 M1 M2 M3 M4 p5 p7 hr0) w0 164 (fun t => a0.tmps.getD t undef) i := upto_succ u26 (pr7a_s26 a b q r HA64 HB64 H0 M1 M2 M3 M4 p5 p7 hr0 hb5 hb7 hx0 hx1 hx5 hx6 hx7 hx8)
    have u28 : ∀ i, i < 28 → OpStep Tryz.prog pr7Ops Q (pr7aF a b q r HA64 HB64 H0 M1 M2 M3 M4 p5 p7 hr0) w0 164 (fun t => a0.tmps.getD t undef) i := upto_succ u27 (pr7a_s27 a b q r HA64 HB64 H0 M1 M2 M3 M4 p5 p7 hr0 hb5 hb7 hx0 hx1 hx5 hx6 hx7 hx8)
    have u29 : ∀ i, i < 29 → OpStep Tryz.prog pr7Ops Q (pr7aF a b q r HA64 HB64 H0 M1 M2 M3 M4 p5 p7 hr0) w0 164 (fun t => a0.tmps.getD t undef) i := upto_succ u28 (pr7a_s28 a b q r HA64 HB64 H0 M1 M2 M3 M4 p5 p7 hr0 hb5 hb7 hx0 hx1 hx5 hx6 hx7 hx8)
    have u30 : ∀ i, i < 30 → OpStep Tryz.prog pr7Ops Q (pr7aF a b q r HA64 HB64 H0 M1 M2 M3 M4 p5 p7 hr0) w0 164 (fun t => a0.tmps.getD t undef) i := upto_succ u29 (pr7a_s29 a b q r HA64 HB64 H0 M1 M2 M3 M4 p5 p7 hr0 hb5 hb7 hx0 hx1 hx5 hx6 hx7 hx8)
    exact u30
  · intro V X hb hV
    exact hend V X hb (hV 29 (of_decide_eq_true (by kernel_rfl)) (by kernel_rfl))
def pr7bL (a b q r : Int) (HA64 : Hid (In64 a)) (HB64 : Hid (In64 b)) (H0 : Hid (b ≠ 0)) (M1 : Hid (In64 q)) (M2 : Hid (In64 r)) (M3 : Hid (In64 (q * b))) (M4 : Hid (q * b + r = a)) (p5 p7 : Nat) (hr0 : Hid ((r != 0) = true)) (β : Bool) (h1 : Hid (decide (r < 0) = β)) (h2 : Hid (decide (a < 0) = β)) : List (Value → World → Prop) := [IsV (.int .i64 0), IsV (.bool false), IsV (.bool false), IsV (.int .i64 0), IsV (.bool false), IsV (.bool false), IsV (.bool false), IsV (vv 1 q ⟨#[]⟩), IsV (.int .i64 b), IsV (vv 1 b ⟨#[]⟩), IsV (vv 1 (q * b) ⟨#[]⟩), IsV (vv 1 r ⟨#[]⟩), IsV (vv 1 a ⟨#[]⟩), IsV (.int .i64 a), IsV (vv 1 a ⟨#[]⟩), IsV (.bool false), IsV (.bool false), IsV (.bool false), IsV (.pointer (some ⟨p7, 1, none⟩)), IsV (.int .i64 r), IsV (.bool true), IsV (.bool true), IsV (.pointer (some ⟨p7, 1, none⟩)), IsV (.int .i64 r), IsV (.bool β), IsV (.int .i64 a), IsV (.bool β), IsV (.bool false), IsV (.bool false), IsV (.bool false)]
def pr7bF (a b q r : Int) (HA64 : Hid (In64 a)) (HB64 : Hid (In64 b)) (H0 : Hid (b ≠ 0)) (M1 : Hid (In64 q)) (M2 : Hid (In64 r)) (M3 : Hid (In64 (q * b))) (M4 : Hid (q * b + r = a)) (p5 p7 : Nat) (hr0 : Hid ((r != 0) = true)) (β : Bool) (h1 : Hid (decide (r < 0) = β)) (h2 : Hid (decide (a < 0) = β)) (i : Nat) : Value → World → Prop := (pr7bL a b q r HA64 HB64 H0 M1 M2 M3 M4 p5 p7 hr0 β h1 h2).getD i AnyF
theorem pr7bF_mono (a b q r : Int) (HA64 : Hid (In64 a)) (HB64 : Hid (In64 b)) (H0 : Hid (b ≠ 0)) (M1 : Hid (In64 q)) (M2 : Hid (In64 r)) (M3 : Hid (In64 (q * b))) (M4 : Hid (q * b + r = a)) (p5 p7 : Nat) (hr0 : Hid ((r != 0) = true)) (β : Bool) (h1 : Hid (decide (r < 0) = β)) (h2 : Hid (decide (a < 0) = β)) (i : Nat) (v : Value) (w w' : World) (hp : (pr7bF a b q r HA64 HB64 H0 M1 M2 M3 M4 p5 p7 hr0 β h1 h2) i v w) (hb : Below w.heap.size w w') : (pr7bF a b q r HA64 HB64 H0 M1 M2 M3 M4 p5 p7 hr0 β h1 h2) i v w' := by
  refine monoL ?_ i v w w' hp hb
  unfold pr7bL
  simp only [List.forall_mem_cons]
  exact ⟨mono_isV _, mono_isV _, mono_isV _, mono_isV _, mono_isV _, mono_isV _, mono_isV _, mono_isV _, mono_isV _, mono_isV _, mono_isV _, mono_isV _, mono_isV _, mono_isV _, mono_isV _, mono_isV _, mono_isV _, mono_isV _, mono_isV _, mono_isV _, mono_isV _, mono_isV _, mono_isV _, mono_isV _, mono_isV _, mono_isV _, mono_isV _, mono_isV _, mono_isV _, mono_isV _, fun _ h => by cases h⟩
theorem pr7b_s0 {Q : Exit → Act → World → Prop} {w0 : World} {x : Nat → Value} (a b q r : Int) (HA64 : Hid (In64 a)) (HB64 : Hid (In64 b)) (H0 : Hid (b ≠ 0)) (M1 : Hid (In64 q)) (M2 : Hid (In64 r)) (M3 : Hid (In64 (q * b))) (M4 : Hid (q * b + r = a)) (p5 p7 : Nat) (hr0 : Hid ((r != 0) = true)) (β : Bool) (h1 : Hid (decide (r < 0) = β)) (h2 : Hid (decide (a < 0) = β)) (hb5 : BoxOn w0 p5 1 q ⟨#[]⟩) (hb7 : BoxOn w0 p7 1 r ⟨#[]⟩) (hx0 : x 0 = .int .i64 a) (hx1 : x 1 = .int .i64 b) (hx5 : x 5 = .pointer (some ⟨p5, 0, none⟩)) (hx6 : x 6 = .int .i64 0) (hx7 : x 7 = .pointer (some ⟨p7, 0, none⟩)) (hx8 : x 8 = .int .i64 0) : OpStep Tryz.prog pr7Ops Q (pr7bF a b q r HA64 HB64 H0 M1 M2 M3 M4 p5 p7 hr0 β h1 h2) w0 164 x 0 := by
  intro act w hb hk hF
  have g6 : act.eval (.tmp 6) = .int .i64 0 := (hk 6 (by decide) (by kernel_rfl)).trans hx6
  exact step_move (show opO pr7Ops 0 = some (.move (.tmp 6)) by kernel_rfl) (.free (by kernel_rfl)) g6 ⟨rfl, Below.refl _ _⟩

theorem pr7b_s1 {Q : Exit → Act → World → Prop} {w0 : World} {x : Nat → Value} (a b q r : Int) (HA64 : Hid (In64 a)) (HB64 : Hid (In64 b)) (H0 : Hid (b ≠ 0)) (M1 : Hid (In64 q)) (M2 : Hid (In64 r)) (M3 : Hid (In64 (q * b))) (M4 : Hid (q * b + r = a)) (p5 p7 : Nat) (hr0 : Hid ((r != 0) = true)) (β : Bool) (h1 : Hid (decide (r < 0) = β)) (h2 : Hid (decide (a < 0) = β)) (hb5 : BoxOn w0 p5 1 q ⟨#[]⟩) (hb7 : BoxOn w0 p7 1 r ⟨#[]⟩) (hx0 : x 0 = .int .i64 a) (hx1 : x 1 = .int .i64 b) (hx5 : x 5 = .pointer (some ⟨p5, 0, none⟩)) (hx6 : x 6 = .int .i64 0) (hx7 : x 7 = .pointer (some ⟨p7, 0, none⟩)) (hx8 : x 8 = .int .i64 0) : OpStep Tryz.prog pr7Ops Q (pr7bF a b q r HA64 HB64 H0 M1 M2 M3 M4 p5 p7 hr0 β h1 h2) w0 164 x 1 := by
  intro act w hb hk hF
  have g68 : act.eval (.tmp 68) = .int .i64 0 := hF 0 (of_decide_eq_true (by kernel_rfl)) 68 (by kernel_rfl)
  exact step_neI (show opO pr7Ops 1 = some (.binOp .neq 28 (.tmp 68) (.const (.int .i64 0)) 28) by kernel_rfl) (.free (by kernel_rfl)) g68 rfl (by simp) ⟨rfl, Below.refl _ _⟩

theorem pr7b_s2 {Q : Exit → Act → World → Prop} {w0 : World} {x : Nat → Value} (a b q r : Int) (HA64 : Hid (In64 a)) (HB64 : Hid (In64 b)) (H0 : Hid (b ≠ 0)) (M1 : Hid (In64 q)) (M2 : Hid (In64 r)) (M3 : Hid (In64 (q * b))) (M4 : Hid (q * b + r = a)) (p5 p7 : Nat) (hr0 : Hid ((r != 0) = true)) (β : Bool) (h1 : Hid (decide (r < 0) = β)) (h2 : Hid (decide (a < 0) = β)) (hb5 : BoxOn w0 p5 1 q ⟨#[]⟩) (hb7 : BoxOn w0 p7 1 r ⟨#[]⟩) (hx0 : x 0 = .int .i64 a) (hx1 : x 1 = .int .i64 b) (hx5 : x 5 = .pointer (some ⟨p5, 0, none⟩)) (hx6 : x 6 = .int .i64 0) (hx7 : x 7 = .pointer (some ⟨p7, 0, none⟩)) (hx8 : x 8 = .int .i64 0) : OpStep Tryz.prog pr7Ops Q (pr7bF a b q r HA64 HB64 H0 M1 M2 M3 M4 p5 p7 hr0 β h1 h2) w0 164 x 2 := by
  intro act w hb hk hF
  have g69 : act.eval (.tmp 69) = .bool false := hF 1 (of_decide_eq_true (by kernel_rfl)) 69 (by kernel_rfl)
  exact step_move (show opO pr7Ops 2 = some (.move (.tmp 69)) by kernel_rfl) (.free (by kernel_rfl)) g69 ⟨rfl, Below.refl _ _⟩

theorem pr7b_s3 {Q : Exit → Act → World → Prop} {w0 : World} {x : Nat → Value} (a b q r : Int) (HA64 : Hid (In64 a)) (HB64 : Hid (In64 b)) (H0 : Hid (b ≠ 0)) (M1 : Hid (In64 q)) (M2 : Hid (In64 r)) (M3 : Hid (In64 (q * b))) (M4 : Hid (q * b + r = a)) (p5 p7 : Nat) (hr0 : Hid ((r != 0) = true)) (β : Bool) (h1 : Hid (decide (r < 0) = β)) (h2 : Hid (decide (a < 0) = β)) (hb5 : BoxOn w0 p5 1 q ⟨#[]⟩) (hb7 : BoxOn w0 p7 1 r ⟨#[]⟩) (hx0 : x 0 = .int .i64 a) (hx1 : x 1 = .int .i64 b) (hx5 : x 5 = .pointer (some ⟨p5, 0, none⟩)) (hx6 : x 6 = .int .i64 0) (hx7 : x 7 = .pointer (some ⟨p7, 0, none⟩)) (hx8 : x 8 = .int .i64 0) : OpStep Tryz.prog pr7Ops Q (pr7bF a b q r HA64 HB64 H0 M1 M2 M3 M4 p5 p7 hr0 β h1 h2) w0 164 x 3 := by
  intro act w hb hk hF
  have g70 : act.eval (.tmp 70) = .bool false := hF 2 (of_decide_eq_true (by kernel_rfl)) 70 (by kernel_rfl)
  have g8 : act.eval (.tmp 8) = .int .i64 0 := (hk 8 (by decide) (by kernel_rfl)).trans hx8
  exact step_move (show opO pr7Ops 3 = some (.move (.tmp 8)) by kernel_rfl) (.told 2 false 70 (by kernel_rfl) (by kernel_rfl) g70) g8 ⟨rfl, Below.refl _ _⟩

theorem pr7b_s4 {Q : Exit → Act → World → Prop} {w0 : World} {x : Nat → Value} (a b q r : Int) (HA64 : Hid (In64 a)) (HB64 : Hid (In64 b)) (H0 : Hid (b ≠ 0)) (M1 : Hid (In64 q)) (M2 : Hid (In64 r)) (M3 : Hid (In64 (q * b))) (M4 : Hid (q * b + r = a)) (p5 p7 : Nat) (hr0 : Hid ((r != 0) = true)) (β : Bool) (h1 : Hid (decide (r < 0) = β)) (h2 : Hid (decide (a < 0) = β)) (hb5 : BoxOn w0 p5 1 q ⟨#[]⟩) (hb7 : BoxOn w0 p7 1 r ⟨#[]⟩) (hx0 : x 0 = .int .i64 a) (hx1 : x 1 = .int .i64 b) (hx5 : x 5 = .pointer (some ⟨p5, 0, none⟩)) (hx6 : x 6 = .int .i64 0) (hx7 : x 7 = .pointer (some ⟨p7, 0, none⟩)) (hx8 : x 8 = .int .i64 0) : OpStep Tryz.prog pr7Ops Q (pr7bF a b q r HA64 HB64 H0 M1 M2 M3 M4 p5 p7 hr0 β h1 h2) w0 164 x 4 := by
  intro act w hb hk hF
  have g70 : act.eval (.tmp 70) = .bool false := hF 2 (of_decide_eq_true (by kernel_rfl)) 70 (by kernel_rfl)
  have g71 : act.eval (.tmp 71) = .int .i64 0 := hF 3 (of_decide_eq_true (by kernel_rfl)) 71 (by kernel_rfl)
  exact step_neI (show opO pr7Ops 4 = some (.binOp .neq 28 (.tmp 71) (.const (.int .i64 0)) 28) by kernel_rfl) (.told 2 false 70 (by kernel_rfl) (by kernel_rfl) g70) g71 rfl (by simp) ⟨rfl, Below.refl _ _⟩

theorem pr7b_s5 {Q : Exit → Act → World → Prop} {w0 : World} {x : Nat → Value} (a b q r : Int) (HA64 : Hid (In64 a)) (HB64 : Hid (In64 b)) (H0 : Hid (b ≠ 0)) (M1 : Hid (In64 q)) (M2 : Hid (In64 r)) (M3 : Hid (In64 (q * b))) (M4 : Hid (q * b + r = a)) (p5 p7 : Nat) (hr0 : Hid ((r != 0) = true)) (β : Bool) (h1 : Hid (decide (r < 0) = β)) (h2 : Hid (decide (a < 0) = β)) (hb5 : BoxOn w0 p5 1 q ⟨#[]⟩) (hb7 : BoxOn w0 p7 1 r ⟨#[]⟩) (hx0 : x 0 = .int .i64 a) (hx1 : x 1 = .int .i64 b) (hx5 : x 5 = .pointer (some ⟨p5, 0, none⟩)) (hx6 : x 6 = .int .i64 0) (hx7 : x 7 = .pointer (some ⟨p7, 0, none⟩)) (hx8 : x 8 = .int .i64 0) : OpStep Tryz.prog pr7Ops Q (pr7bF a b q r HA64 HB64 H0 M1 M2 M3 M4 p5 p7 hr0 β h1 h2) w0 164 x 5 := by
  intro act w hb hk hF
  have g70 : act.eval (.tmp 70) = .bool false := hF 2 (of_decide_eq_true (by kernel_rfl)) 70 (by kernel_rfl)
  have g72 : act.eval (.tmp 72) = .bool false := hF 4 (of_decide_eq_true (by kernel_rfl)) 72 (by kernel_rfl)
  exact step_pickF (show opO pr7Ops 5 = some (.pick (.tmp 70) (.const (.bool true)) (.tmp 72)) by kernel_rfl) (.free (by kernel_rfl)) g70 g72 ⟨rfl, Below.refl _ _⟩

theorem pr7b_s6 {Q : Exit → Act → World → Prop} {w0 : World} {x : Nat → Value} (a b q r : Int) (HA64 : Hid (In64 a)) (HB64 : Hid (In64 b)) (H0 : Hid (b ≠ 0)) (M1 : Hid (In64 q)) (M2 : Hid (In64 r)) (M3 : Hid (In64 (q * b))) (M4 : Hid (q * b + r = a)) (p5 p7 : Nat) (hr0 : Hid ((r != 0) = true)) (β : Bool) (h1 : Hid (decide (r < 0) = β)) (h2 : Hid (decide (a < 0) = β)) (hb5 : BoxOn w0 p5 1 q ⟨#[]⟩) (hb7 : BoxOn w0 p7 1 r ⟨#[]⟩) (hx0 : x 0 = .int .i64 a) (hx1 : x 1 = .int .i64 b) (hx5 : x 5 = .pointer (some ⟨p5, 0, none⟩)) (hx6 : x 6 = .int .i64 0) (hx7 : x 7 = .pointer (some ⟨p7, 0, none⟩)) (hx8 : x 8 = .int .i64 0) : OpStep Tryz.prog pr7Ops Q (pr7bF a b q r HA64 HB64 H0 M1 M2 M3 M4 p5 p7 hr0 β h1 h2) w0 164 x 6 := by
  intro act w hb hk hF
  have g73 : act.eval (.tmp 73) = .bool false := hF 5 (of_decide_eq_true (by kernel_rfl)) 73 (by kernel_rfl)
  exact step_move (show opO pr7Ops 6 = some (.move (.tmp 73)) by kernel_rfl) (.free (by kernel_rfl)) g73 ⟨rfl, Below.refl _ _⟩

theorem pr7b_s7 {Q : Exit → Act → World → Prop} {w0 : World} {x : Nat → Value} (a b q r : Int) (HA64 : Hid (In64 a)) (HB64 : Hid (In64 b)) (H0 : Hid (b ≠ 0)) (M1 : Hid (In64 q)) (M2 : Hid (In64 r)) (M3 : Hid (In64 (q * b))) (M4 : Hid (q * b + r = a)) (p5 p7 : Nat) (hr0 : Hid ((r != 0) = true)) (β : Bool) (h1 : Hid (decide (r < 0) = β)) (h2 : Hid (decide (a < 0) = β)) (hb5 : BoxOn w0 p5 1 q ⟨#[]⟩) (hb7 : BoxOn w0 p7 1 r ⟨#[]⟩) (hx0 : x 0 = .int .i64 a) (hx1 : x 1 = .int .i64 b) (hx5 : x 5 = .pointer (some ⟨p5, 0, none⟩)) (hx6 : x 6 = .int .i64 0) (hx7 : x 7 = .pointer (some ⟨p7, 0, none⟩)) (hx8 : x 8 = .int .i64 0) : OpStep Tryz.prog pr7Ops Q (pr7bF a b q r HA64 HB64 H0 M1 M2 M3 M4 p5 p7 hr0 β h1 h2) w0 164 x 7 := by
  intro act w hb hk hF
  have g74 : act.eval (.tmp 74) = .bool false := hF 6 (of_decide_eq_true (by kernel_rfl)) 74 (by kernel_rfl)
  have g5 : act.eval (.tmp 5) = .pointer (some ⟨p5, 0, none⟩) := (hk 5 (by decide) (by kernel_rfl)).trans hx5
  exact step_loadB (show opO pr7Ops 7 = some (.load 24 (.tmp 5)) by kernel_rfl) (.told 6 false 74 (by kernel_rfl) (by kernel_rfl) g74) g5 (hb5 w hb) ⟨rfl, Below.refl _ _⟩

theorem pr7b_s8 {Q : Exit → Act → World → Prop} {w0 : World} {x : Nat → Value} (a b q r : Int) (HA64 : Hid (In64 a)) (HB64 : Hid (In64 b)) (H0 : Hid (b ≠ 0)) (M1 : Hid (In64 q)) (M2 : Hid (In64 r)) (M3 : Hid (In64 (q * b))) (M4 : Hid (q * b + r = a)) (p5 p7 : Nat) (hr0 : Hid ((r != 0) = true)) (β : Bool) (h1 : Hid (decide (r < 0) = β)) (h2 : Hid (decide (a < 0) = β)) (hb5 : BoxOn w0 p5 1 q ⟨#[]⟩) (hb7 : BoxOn w0 p7 1 r ⟨#[]⟩) (hx0 : x 0 = .int .i64 a) (hx1 : x 1 = .int .i64 b) (hx5 : x 5 = .pointer (some ⟨p5, 0, none⟩)) (hx6 : x 6 = .int .i64 0) (hx7 : x 7 = .pointer (some ⟨p7, 0, none⟩)) (hx8 : x 8 = .int .i64 0) : OpStep Tryz.prog pr7Ops Q (pr7bF a b q r HA64 HB64 H0 M1 M2 M3 M4 p5 p7 hr0 β h1 h2) w0 164 x 8 := by
  intro act w hb hk hF
  have g74 : act.eval (.tmp 74) = .bool false := hF 6 (of_decide_eq_true (by kernel_rfl)) 74 (by kernel_rfl)
  have g1 : act.eval (.tmp 1) = .int .i64 b := (hk 1 (by decide) (by kernel_rfl)).trans hx1
  exact step_move (show opO pr7Ops 8 = some (.move (.tmp 1)) by kernel_rfl) (.told 6 false 74 (by kernel_rfl) (by kernel_rfl) g74) g1 ⟨rfl, Below.refl _ _⟩

theorem pr7b_s9 {Q : Exit → Act → World → Prop} {w0 : World} {x : Nat → Value} (a b q r : Int) (HA64 : Hid (In64 a)) (HB64 : Hid (In64 b)) (H0 : Hid (b ≠ 0)) (M1 : Hid (In64 q)) (M2 : Hid (In64 r)) (M3 : Hid (In64 (q * b))) (M4 : Hid (q * b + r = a)) (p5 p7 : Nat) (hr0 : Hid ((r != 0) = true)) (β : Bool) (h1 : Hid (decide (r < 0) = β)) (h2 : Hid (decide (a < 0) = β)) (hb5 : BoxOn w0 p5 1 q ⟨#[]⟩) (hb7 : BoxOn w0 p7 1 r ⟨#[]⟩) (hx0 : x 0 = .int .i64 a) (hx1 : x 1 = .int .i64 b) (hx5 : x 5 = .pointer (some ⟨p5, 0, none⟩)) (hx6 : x 6 = .int .i64 0) (hx7 : x 7 = .pointer (some ⟨p7, 0, none⟩)) (hx8 : x 8 = .int .i64 0) : OpStep Tryz.prog pr7Ops Q (pr7bF a b q r HA64 HB64 H0 M1 M2 M3 M4 p5 p7 hr0 β h1 h2) w0 164 x 9 := by
  intro act w hb hk hF
  have g74 : act.eval (.tmp 74) = .bool false := hF 6 (of_decide_eq_true (by kernel_rfl)) 74 (by kernel_rfl)
  have g76 : act.eval (.tmp 76) = .int .i64 b := hF 8 (of_decide_eq_true (by kernel_rfl)) 76 (by kernel_rfl)
  exact step_call (f := 15) (xs := #[.tmp 76]) (by kernel_rfl) (.told 6 false 74 (by kernel_rfl) (by kernel_rfl) g74) (map1 g76) (enters_of Tryz.func15 (by kernel_rfl) rfl) ((num_any b w).mono fun e w' h => ⟨_, h.1, rfl, h.2⟩)

theorem pr7b_s10 {Q : Exit → Act → World → Prop} {w0 : World} {x : Nat → Value} (a b q r : Int) (HA64 : Hid (In64 a)) (HB64 : Hid (In64 b)) (H0 : Hid (b ≠ 0)) (M1 : Hid (In64 q)) (M2 : Hid (In64 r)) (M3 : Hid (In64 (q * b))) (M4 : Hid (q * b + r = a)) (p5 p7 : Nat) (hr0 : Hid ((r != 0) = true)) (β : Bool) (h1 : Hid (decide (r < 0) = β)) (h2 : Hid (decide (a < 0) = β)) (hb5 : BoxOn w0 p5 1 q ⟨#[]⟩) (hb7 : BoxOn w0 p7 1 r ⟨#[]⟩) (hx0 : x 0 = .int .i64 a) (hx1 : x 1 = .int .i64 b) (hx5 : x 5 = .pointer (some ⟨p5, 0, none⟩)) (hx6 : x 6 = .int .i64 0) (hx7 : x 7 = .pointer (some ⟨p7, 0, none⟩)) (hx8 : x 8 = .int .i64 0) : OpStep Tryz.prog pr7Ops Q (pr7bF a b q r HA64 HB64 H0 M1 M2 M3 M4 p5 p7 hr0 β h1 h2) w0 164 x 10 := by
  intro act w hb hk hF
  have g74 : act.eval (.tmp 74) = .bool false := hF 6 (of_decide_eq_true (by kernel_rfl)) 74 (by kernel_rfl)
  have g75 : act.eval (.tmp 75) = vv 1 q ⟨#[]⟩ := hF 7 (of_decide_eq_true (by kernel_rfl)) 75 (by kernel_rfl)
  have g77 : act.eval (.tmp 77) = vv 1 b ⟨#[]⟩ := hF 9 (of_decide_eq_true (by kernel_rfl)) 77 (by kernel_rfl)
  exact step_call (f := 29) (xs := #[.const (.string ⟨#[42]⟩), .tmp 75, .tmp 77]) (by kernel_rfl) (.told 6 false 74 (by kernel_rfl) (by kernel_rfl) g74) (map3 rfl g75 g77) (enters_of Tryz.func29 (by kernel_rfl) rfl) ((both_any ⟨#[42]⟩ 1 q ⟨#[]⟩ 1 b ⟨#[]⟩ 1 (q * b) ⟨#[]⟩ 0 w (fun Y _ => opI_mul' q b _ Y M1.out HB64.out rfl M3.out)).mono fun e w' h => ⟨_, h.1, rfl, h.2⟩)

theorem pr7b_s11 {Q : Exit → Act → World → Prop} {w0 : World} {x : Nat → Value} (a b q r : Int) (HA64 : Hid (In64 a)) (HB64 : Hid (In64 b)) (H0 : Hid (b ≠ 0)) (M1 : Hid (In64 q)) (M2 : Hid (In64 r)) (M3 : Hid (In64 (q * b))) (M4 : Hid (q * b + r = a)) (p5 p7 : Nat) (hr0 : Hid ((r != 0) = true)) (β : Bool) (h1 : Hid (decide (r < 0) = β)) (h2 : Hid (decide (a < 0) = β)) (hb5 : BoxOn w0 p5 1 q ⟨#[]⟩) (hb7 : BoxOn w0 p7 1 r ⟨#[]⟩) (hx0 : x 0 = .int .i64 a) (hx1 : x 1 = .int .i64 b) (hx5 : x 5 = .pointer (some ⟨p5, 0, none⟩)) (hx6 : x 6 = .int .i64 0) (hx7 : x 7 = .pointer (some ⟨p7, 0, none⟩)) (hx8 : x 8 = .int .i64 0) : OpStep Tryz.prog pr7Ops Q (pr7bF a b q r HA64 HB64 H0 M1 M2 M3 M4 p5 p7 hr0 β h1 h2) w0 164 x 11 := by
  intro act w hb hk hF
  have g74 : act.eval (.tmp 74) = .bool false := hF 6 (of_decide_eq_true (by kernel_rfl)) 74 (by kernel_rfl)
  have g7 : act.eval (.tmp 7) = .pointer (some ⟨p7, 0, none⟩) := (hk 7 (by decide) (by kernel_rfl)).trans hx7
  exact step_loadB (show opO pr7Ops 11 = some (.load 24 (.tmp 7)) by kernel_rfl) (.told 6 false 74 (by kernel_rfl) (by kernel_rfl) g74) g7 (hb7 w hb) ⟨rfl, Below.refl _ _⟩

theorem pr7b_s12 {Q : Exit → Act → World → Prop} {w0 : World} {x : Nat → Value} (a b q r : Int) (HA64 : Hid (In64 a)) (HB64 : Hid (In64 b)) (H0 : Hid (b ≠ 0)) (M1 : Hid (In64 q)) (M2 : Hid (In64 r)) (M3 : Hid (In64 (q * b))) (M4 : Hid (q * b + r = a)) (p5 p7 : Nat) (hr0 : Hid ((r != 0) = true)) (β : Bool) (h1 : Hid (decide (r < 0) = β)) (h2 : Hid (decide (a < 0) = β)) (hb5 : BoxOn w0 p5 1 q ⟨#[]⟩) (hb7 : BoxOn w0 p7 1 r ⟨#[]⟩) (hx0 : x 0 = .int .i64 a) (hx1 : x 1 = .int .i64 b) (hx5 : x 5 = .pointer (some ⟨p5, 0, none⟩)) (hx6 : x 6 = .int .i64 0) (hx7 : x 7 = .pointer (some ⟨p7, 0, none⟩)) (hx8 : x 8 = .int .i64 0) : OpStep Tryz.prog pr7Ops Q (pr7bF a b q r HA64 HB64 H0 M1 M2 M3 M4 p5 p7 hr0 β h1 h2) w0 164 x 12 := by
  intro act w hb hk hF
  have g74 : act.eval (.tmp 74) = .bool false := hF 6 (of_decide_eq_true (by kernel_rfl)) 74 (by kernel_rfl)
  have g78 : act.eval (.tmp 78) = vv 1 (q * b) ⟨#[]⟩ := hF 10 (of_decide_eq_true (by kernel_rfl)) 78 (by kernel_rfl)
  have g79 : act.eval (.tmp 79) = vv 1 r ⟨#[]⟩ := hF 11 (of_decide_eq_true (by kernel_rfl)) 79 (by kernel_rfl)
  exact step_call (f := 29) (xs := #[.const (.string ⟨#[43]⟩), .tmp 78, .tmp 79]) (by kernel_rfl) (.told 6 false 74 (by kernel_rfl) (by kernel_rfl) g74) (map3 rfl g78 g79) (enters_of Tryz.func29 (by kernel_rfl) rfl) ((both_any ⟨#[43]⟩ 1 (q * b) ⟨#[]⟩ 1 r ⟨#[]⟩ 1 a ⟨#[]⟩ 0 w (fun Y _ => opI_add' (q * b) r a Y M3.out M2.out M4.out HA64.out)).mono fun e w' h => ⟨_, h.1, rfl, h.2⟩)

theorem pr7b_s13 {Q : Exit → Act → World → Prop} {w0 : World} {x : Nat → Value} (a b q r : Int) (HA64 : Hid (In64 a)) (HB64 : Hid (In64 b)) (H0 : Hid (b ≠ 0)) (M1 : Hid (In64 q)) (M2 : Hid (In64 r)) (M3 : Hid (In64 (q * b))) (M4 : Hid (q * b + r = a)) (p5 p7 : Nat) (hr0 : Hid ((r != 0) = true)) (β : Bool) (h1 : Hid (decide (r < 0) = β)) (h2 : Hid (decide (a < 0) = β)) (hb5 : BoxOn w0 p5 1 q ⟨#[]⟩) (hb7 : BoxOn w0 p7 1 r ⟨#[]⟩) (hx0 : x 0 = .int .i64 a) (hx1 : x 1 = .int .i64 b) (hx5 : x 5 = .pointer (some ⟨p5, 0, none⟩)) (hx6 : x 6 = .int .i64 0) (hx7 : x 7 = .pointer (some ⟨p7, 0, none⟩)) (hx8 : x 8 = .int .i64 0) : OpStep Tryz.prog pr7Ops Q (pr7bF a b q r HA64 HB64 H0 M1 M2 M3 M4 p5 p7 hr0 β h1 h2) w0 164 x 13 := by
  intro act w hb hk hF
  have g74 : act.eval (.tmp 74) = .bool false := hF 6 (of_decide_eq_true (by kernel_rfl)) 74 (by kernel_rfl)
  have g0 : act.eval (.tmp 0) = .int .i64 a := (hk 0 (by decide) (by kernel_rfl)).trans hx0
  exact step_move (show opO pr7Ops 13 = some (.move (.tmp 0)) by kernel_rfl) (.told 6 false 74 (by kernel_rfl) (by kernel_rfl) g74) g0 ⟨rfl, Below.refl _ _⟩

theorem pr7b_s14 {Q : Exit → Act → World → Prop} {w0 : World} {x : Nat → Value} (a b q r : Int) (HA64 : Hid (In64 a)) (HB64 : Hid (In64 b)) (H0 : Hid (b ≠ 0)) (M1 : Hid (In64 q)) (M2 : Hid (In64 r)) (M3 : Hid (In64 (q * b))) (M4 : Hid (q * b + r = a)) (p5 p7 : Nat) (hr0 : Hid ((r != 0) = true)) (β : Bool) (h1 : Hid (decide (r < 0) = β)) (h2 : Hid (decide (a < 0) = β)) (hb5 : BoxOn w0 p5 1 q ⟨#[]⟩) (hb7 : BoxOn w0 p7 1 r ⟨#[]⟩) (hx0 : x 0 = .int .i64 a) (hx1 : x 1 = .int .i64 b) (hx5 : x 5 = .pointer (some ⟨p5, 0, none⟩)) (hx6 : x 6 = .int .i64 0) (hx7 : x 7 = .pointer (some ⟨p7, 0, none⟩)) (hx8 : x 8 = .int .i64 0) : OpStep Tryz.prog pr7Ops Q (pr7bF a b q r HA64 HB64 H0 M1 M2 M3 M4 p5 p7 hr0 β h1 h2) w0 164 x 14 := by
  intro act w hb hk hF
  have g74 : act.eval (.tmp 74) = .bool false := hF 6 (of_decide_eq_true (by kernel_rfl)) 74 (by kernel_rfl)
  have g81 : act.eval (.tmp 81) = .int .i64 a := hF 13 (of_decide_eq_true (by kernel_rfl)) 81 (by kernel_rfl)
  exact step_call (f := 15) (xs := #[.tmp 81]) (by kernel_rfl) (.told 6 false 74 (by kernel_rfl) (by kernel_rfl) g74) (map1 g81) (enters_of Tryz.func15 (by kernel_rfl) rfl) ((num_any a w).mono fun e w' h => ⟨_, h.1, rfl, h.2⟩)

theorem pr7b_s15 {Q : Exit → Act → World → Prop} {w0 : World} {x : Nat → Value} (a b q r : Int) (HA64 : Hid (In64 a)) (HB64 : Hid (In64 b)) (H0 : Hid (b ≠ 0)) (M1 : Hid (In64 q)) (M2 : Hid (In64 r)) (M3 : Hid (In64 (q * b))) (M4 : Hid (q * b + r = a)) (p5 p7 : Nat) (hr0 : Hid ((r != 0) = true)) (β : Bool) (h1 : Hid (decide (r < 0) = β)) (h2 : Hid (decide (a < 0) = β)) (hb5 : BoxOn w0 p5 1 q ⟨#[]⟩) (hb7 : BoxOn w0 p7 1 r ⟨#[]⟩) (hx0 : x 0 = .int .i64 a) (hx1 : x 1 = .int .i64 b) (hx5 : x 5 = .pointer (some ⟨p5, 0, none⟩)) (hx6 : x 6 = .int .i64 0) (hx7 : x 7 = .pointer (some ⟨p7, 0, none⟩)) (hx8 : x 8 = .int .i64 0) : OpStep Tryz.prog pr7Ops Q (pr7bF a b q r HA64 HB64 H0 M1 M2 M3 M4 p5 p7 hr0 β h1 h2) w0 164 x 15 := by
  intro act w hb hk hF
  have g74 : act.eval (.tmp 74) = .bool false := hF 6 (of_decide_eq_true (by kernel_rfl)) 74 (by kernel_rfl)
  have g80 : act.eval (.tmp 80) = vv 1 a ⟨#[]⟩ := hF 12 (of_decide_eq_true (by kernel_rfl)) 80 (by kernel_rfl)
  have g82 : act.eval (.tmp 82) = vv 1 a ⟨#[]⟩ := hF 14 (of_decide_eq_true (by kernel_rfl)) 82 (by kernel_rfl)
  exact step_neV (show opO pr7Ops 15 = some (.binOp .neq 24 (.tmp 80) (.tmp 82) 24) by kernel_rfl) (.told 6 false 74 (by kernel_rfl) (by kernel_rfl) g74) g80 g82 (by rw [same_self]; rfl) ⟨rfl, Below.refl _ _⟩

theorem pr7b_s16 {Q : Exit → Act → World → Prop} {w0 : World} {x : Nat → Value} (a b q r : Int) (HA64 : Hid (In64 a)) (HB64 : Hid (In64 b)) (H0 : Hid (b ≠ 0)) (M1 : Hid (In64 q)) (M2 : Hid (In64 r)) (M3 : Hid (In64 (q * b))) (M4 : Hid (q * b + r = a)) (p5 p7 : Nat) (hr0 : Hid ((r != 0) = true)) (β : Bool) (h1 : Hid (decide (r < 0) = β)) (h2 : Hid (decide (a < 0) = β)) (hb5 : BoxOn w0 p5 1 q ⟨#[]⟩) (hb7 : BoxOn w0 p7 1 r ⟨#[]⟩) (hx0 : x 0 = .int .i64 a) (hx1 : x 1 = .int .i64 b) (hx5 : x 5 = .pointer (some ⟨p5, 0, none⟩)) (hx6 : x 6 = .int .i64 0) (hx7 : x 7 = .pointer (some ⟨p7, 0, none⟩)) (hx8 : x 8 = .int .i64 0) : OpStep Tryz.prog pr7Ops Q (pr7bF a b q r HA64 HB64 H0 M1 M2 M3 M4 p5 p7 hr0 β h1 h2) w0 164 x 16 := by
  intro act w hb hk hF
  have g74 : act.eval (.tmp 74) = .bool false := hF 6 (of_decide_eq_true (by kernel_rfl)) 74 (by kernel_rfl)
  have g83 : act.eval (.tmp 83) = .bool false := hF 15 (of_decide_eq_true (by kernel_rfl)) 83 (by kernel_rfl)
  exact step_pickF (show opO pr7Ops 16 = some (.pick (.tmp 74) (.const (.bool true)) (.tmp 83)) by kernel_rfl) (.free (by kernel_rfl)) g74 g83 ⟨rfl, Below.refl _ _⟩

theorem pr7b_s17 {Q : Exit → Act → World → Prop} {w0 : World} {x : Nat → Value} (a b q r : Int) (HA64 : Hid (In64 a)) (HB64 : Hid (In64 b)) (H0 : Hid (b ≠ 0)) (M1 : Hid (In64 q)) (M2 : Hid (In64 r)) (M3 : Hid (In64 (q * b))) (M4 : Hid (q * b + r = a)) (p5 p7 : Nat) (hr0 : Hid ((r != 0) = true)) (β : Bool) (h1 : Hid (decide (r < 0) = β)) (h2 : Hid (decide (a < 0) = β)) (hb5 : BoxOn w0 p5 1 q ⟨#[]⟩) (hb7 : BoxOn w0 p7 1 r ⟨#[]⟩) (hx0 : x 0 = .int .i64 a) (hx1 : x 1 = .int .i64 b) (hx5 : x 5 = .pointer (some ⟨p5, 0, none⟩)) (hx6 : x 6 = .int .i64 0) (hx7 : x 7 = .pointer (some ⟨p7, 0, none⟩)) (hx8 : x 8 = .int .i64 0) : OpStep Tryz.prog pr7Ops Q (pr7bF a b q r HA64 HB64 H0 M1 M2 M3 M4 p5 p7 hr0 β h1 h2) w0 164 x 17 := by
  intro act w hb hk hF
  have g84 : act.eval (.tmp 84) = .bool false := hF 16 (of_decide_eq_true (by kernel_rfl)) 84 (by kernel_rfl)
  exact step_move (show opO pr7Ops 17 = some (.move (.tmp 84)) by kernel_rfl) (.free (by kernel_rfl)) g84 ⟨rfl, Below.refl _ _⟩

theorem pr7b_s18 {Q : Exit → Act → World → Prop} {w0 : World} {x : Nat → Value} (a b q r : Int) (HA64 : Hid (In64 a)) (HB64 : Hid (In64 b)) (H0 : Hid (b ≠ 0)) (M1 : Hid (In64 q)) (M2 : Hid (In64 r)) (M3 : Hid (In64 (q * b))) (M4 : Hid (q * b + r = a)) (p5 p7 : Nat) (hr0 : Hid ((r != 0) = true)) (β : Bool) (h1 : Hid (decide (r < 0) = β)) (h2 : Hid (decide (a < 0) = β)) (hb5 : BoxOn w0 p5 1 q ⟨#[]⟩) (hb7 : BoxOn w0 p7 1 r ⟨#[]⟩) (hx0 : x 0 = .int .i64 a) (hx1 : x 1 = .int .i64 b) (hx5 : x 5 = .pointer (some ⟨p5, 0, none⟩)) (hx6 : x 6 = .int .i64 0) (hx7 : x 7 = .pointer (some ⟨p7, 0, none⟩)) (hx8 : x 8 = .int .i64 0) : OpStep Tryz.prog pr7Ops Q (pr7bF a b q r HA64 HB64 H0 M1 M2 M3 M4 p5 p7 hr0 β h1 h2) w0 164 x 18 := by
  intro act w hb hk hF
  have g85 : act.eval (.tmp 85) = .bool false := hF 17 (of_decide_eq_true (by kernel_rfl)) 85 (by kernel_rfl)
  have g7 : act.eval (.tmp 7) = .pointer (some ⟨p7, 0, none⟩) := (hk 7 (by decide) (by kernel_rfl)).trans hx7
  exact step_fieldN (show opO pr7Ops 18 = some (.fieldAddr 24 (.tmp 7) 1) by kernel_rfl) (.told 17 false 85 (by kernel_rfl) (by kernel_rfl) g85) g7 ⟨rfl, Below.refl _ _⟩

theorem pr7b_s19 {Q : Exit → Act → World → Prop} {w0 : World} {x : Nat → Value} (a b q r : Int) (HA64 : Hid (In64 a)) (HB64 : Hid (In64 b)) (H0 : Hid (b ≠ 0)) (M1 : Hid (In64 q)) (M2 : Hid (In64 r)) (M3 : Hid (In64 (q * b))) (M4 : Hid (q * b + r = a)) (p5 p7 : Nat) (hr0 : Hid ((r != 0) = true)) (β : Bool) (h1 : Hid (decide (r < 0) = β)) (h2 : Hid (decide (a < 0) = β)) (hb5 : BoxOn w0 p5 1 q ⟨#[]⟩) (hb7 : BoxOn w0 p7 1 r ⟨#[]⟩) (hx0 : x 0 = .int .i64 a) (hx1 : x 1 = .int .i64 b) (hx5 : x 5 = .pointer (some ⟨p5, 0, none⟩)) (hx6 : x 6 = .int .i64 0) (hx7 : x 7 = .pointer (some ⟨p7, 0, none⟩)) (hx8 : x 8 = .int .i64 0) : OpStep Tryz.prog pr7Ops Q (pr7bF a b q r HA64 HB64 H0 M1 M2 M3 M4 p5 p7 hr0 β h1 h2) w0 164 x 19 := by
  intro act w hb hk hF
  have g85 : act.eval (.tmp 85) = .bool false := hF 17 (of_decide_eq_true (by kernel_rfl)) 85 (by kernel_rfl)
  have g86 : act.eval (.tmp 86) = .pointer (some ⟨p7, 1, none⟩) := hF 18 (of_decide_eq_true (by kernel_rfl)) 86 (by kernel_rfl)
  exact step_loadN (show opO pr7Ops 19 = some (.load 2 (.tmp 86)) by kernel_rfl) (.told 17 false 85 (by kernel_rfl) (by kernel_rfl) g85) g86 (hb7 w hb) ⟨rfl, Below.refl _ _⟩

theorem pr7b_s20 {Q : Exit → Act → World → Prop} {w0 : World} {x : Nat → Value} (a b q r : Int) (HA64 : Hid (In64 a)) (HB64 : Hid (In64 b)) (H0 : Hid (b ≠ 0)) (M1 : Hid (In64 q)) (M2 : Hid (In64 r)) (M3 : Hid (In64 (q * b))) (M4 : Hid (q * b + r = a)) (p5 p7 : Nat) (hr0 : Hid ((r != 0) = true)) (β : Bool) (h1 : Hid (decide (r < 0) = β)) (h2 : Hid (decide (a < 0) = β)) (hb5 : BoxOn w0 p5 1 q ⟨#[]⟩) (hb7 : BoxOn w0 p7 1 r ⟨#[]⟩) (hx0 : x 0 = .int .i64 a) (hx1 : x 1 = .int .i64 b) (hx5 : x 5 = .pointer (some ⟨p5, 0, none⟩)) (hx6 : x 6 = .int .i64 0) (hx7 : x 7 = .pointer (some ⟨p7, 0, none⟩)) (hx8 : x 8 = .int .i64 0) : OpStep Tryz.prog pr7Ops Q (pr7bF a b q r HA64 HB64 H0 M1 M2 M3 M4 p5 p7 hr0 β h1 h2) w0 164 x 20 := by
  intro act w hb hk hF
  have g85 : act.eval (.tmp 85) = .bool false := hF 17 (of_decide_eq_true (by kernel_rfl)) 85 (by kernel_rfl)
  have g87 : act.eval (.tmp 87) = .int .i64 r := hF 19 (of_decide_eq_true (by kernel_rfl)) 87 (by kernel_rfl)
  exact step_neI (show opO pr7Ops 20 = some (.binOp .neq 2 (.tmp 87) (.const (.int .i64 0)) 2) by kernel_rfl) (.told 17 false 85 (by kernel_rfl) (by kernel_rfl) g85) g87 rfl hr0.out ⟨rfl, Below.refl _ _⟩

theorem pr7b_s21 {Q : Exit → Act → World → Prop} {w0 : World} {x : Nat → Value} (a b q r : Int) (HA64 : Hid (In64 a)) (HB64 : Hid (In64 b)) (H0 : Hid (b ≠ 0)) (M1 : Hid (In64 q)) (M2 : Hid (In64 r)) (M3 : Hid (In64 (q * b))) (M4 : Hid (q * b + r = a)) (p5 p7 : Nat) (hr0 : Hid ((r != 0) = true)) (β : Bool) (h1 : Hid (decide (r < 0) = β)) (h2 : Hid (decide (a < 0) = β)) (hb5 : BoxOn w0 p5 1 q ⟨#[]⟩) (hb7 : BoxOn w0 p7 1 r ⟨#[]⟩) (hx0 : x 0 = .int .i64 a) (hx1 : x 1 = .int .i64 b) (hx5 : x 5 = .pointer (some ⟨p5, 0, none⟩)) (hx6 : x 6 = .int .i64 0) (hx7 : x 7 = .pointer (some ⟨p7, 0, none⟩)) (hx8 : x 8 = .int .i64 0) : OpStep Tryz.prog pr7Ops Q (pr7bF a b q r HA64 HB64 H0 M1 M2 M3 M4 p5 p7 hr0 β h1 h2) w0 164 x 21 := by
  intro act w hb hk hF
  have g85 : act.eval (.tmp 85) = .bool false := hF 17 (of_decide_eq_true (by kernel_rfl)) 85 (by kernel_rfl)
  have g88 : act.eval (.tmp 88) = .bool true := hF 20 (of_decide_eq_true (by kernel_rfl)) 88 (by kernel_rfl)
  exact step_move (show opO pr7Ops 21 = some (.move (.tmp 88)) by kernel_rfl) (.told 17 false 85 (by kernel_rfl) (by kernel_rfl) g85) g88 ⟨rfl, Below.refl _ _⟩

theorem pr7b_s22 {Q : Exit → Act → World → Prop} {w0 : World} {x : Nat → Value} (a b q r : Int) (HA64 : Hid (In64 a)) (HB64 : Hid (In64 b)) (H0 : Hid (b ≠ 0)) (M1 : Hid (In64 q)) (M2 : Hid (In64 r)) (M3 : Hid (In64 (q * b))) (M4 : Hid (q * b + r = a)) (p5 p7 : Nat) (hr0 : Hid ((r != 0) = true)) (β : Bool) (h1 : Hid (decide (r < 0) = β)) (h2 : Hid (decide (a < 0) = β)) (hb5 : BoxOn w0 p5 1 q ⟨#[]⟩) (hb7 : BoxOn w0 p7 1 r ⟨#[]⟩) (hx0 : x 0 = .int .i64 a) (hx1 : x 1 = .int .i64 b) (hx5 : x 5 = .pointer (some ⟨p5, 0, none⟩)) (hx6 : x 6 = .int .i64 0) (hx7 : x 7 = .pointer (some ⟨p7, 0, none⟩)) (hx8 : x 8 = .int .i64 0) : OpStep Tryz.prog pr7Ops Q (pr7bF a b q r HA64 HB64 H0 M1 M2 M3 M4 p5 p7 hr0 β h1 h2) w0 164 x 22 := by
  intro act w hb hk hF
  have g89 : act.eval (.tmp 89) = .bool true := hF 21 (of_decide_eq_true (by kernel_rfl)) 89 (by kernel_rfl)
  have g7 : act.eval (.tmp 7) = .pointer (some ⟨p7, 0, none⟩) := (hk 7 (by decide) (by kernel_rfl)).trans hx7
  exact step_fieldN (show opO pr7Ops 22 = some (.fieldAddr 24 (.tmp 7) 1) by kernel_rfl) (.told 21 true 89 (by kernel_rfl) (by kernel_rfl) g89) g7 ⟨rfl, Below.refl _ _⟩

theorem pr7b_s23 {Q : Exit → Act → World → Prop} {w0 : World} {x : Nat → Value} (a b q r : Int) (HA64 : Hid (In64 a)) (HB64 : Hid (In64 b)) (H0 : Hid (b ≠ 0)) (M1 : Hid (In64 q)) (M2 : Hid (In64 r)) (M3 : Hid (In64 (q * b))) (M4 : Hid (q * b + r = a)) (p5 p7 : Nat) (hr0 : Hid ((r != 0) = true)) (β : Bool) (h1 : Hid (decide (r < 0) = β)) (h2 : Hid (decide (a < 0) = β)) (hb5 : BoxOn w0 p5 1 q ⟨#[]⟩) (hb7 : BoxOn w0 p7 1 r ⟨#[]⟩) (hx0 : x 0 = .int .i64 a) (hx1 : x 1 = .int .i64 b) (hx5 : x 5 = .pointer (some ⟨p5, 0, none⟩)) (hx6 : x 6 = .int .i64 0) (hx7 : x 7 = .pointer (some ⟨p7, 0, none⟩)) (hx8 : x 8 = .int .i64 0) : OpStep Tryz.prog pr7Ops Q (pr7bF a b q r HA64 HB64 H0 M1 M2 M3 M4 p5 p7 hr0 β h1 h2) w0 164 x 23 := by
  intro act w hb hk hF
  have g89 : act.eval (.tmp 89) = .bool true := hF 21 (of_decide_eq_true (by kernel_rfl)) 89 (by kernel_rfl)
  have g90 : act.eval (.tmp 90) = .pointer (some ⟨p7, 1, none⟩) := hF 22 (of_decide_eq_true (by kernel_rfl)) 90 (by kernel_rfl)
  exact step_loadN (show opO pr7Ops 23 = some (.load 2 (.tmp 90)) by kernel_rfl) (.told 21 true 89 (by kernel_rfl) (by kernel_rfl) g89) g90 (hb7 w hb) ⟨rfl, Below.refl _ _⟩

theorem pr7b_s24 {Q : Exit → Act → World → Prop} {w0 : World} {x : Nat → Value} (a b q r : Int) (HA64 : Hid (In64 a)) (HB64 : Hid (In64 b)) (H0 : Hid (b ≠ 0)) (M1 : Hid (In64 q)) (M2 : Hid (In64 r)) (M3 : Hid (In64 (q * b))) (M4 : Hid (q * b + r = a)) (p5 p7 : Nat) (hr0 : Hid ((r != 0) = true)) (β : Bool) (h1 : Hid (decide (r < 0) = β)) (h2 : Hid (decide (a < 0) = β)) (hb5 : BoxOn w0 p5 1 q ⟨#[]⟩) (hb7 : BoxOn w0 p7 1 r ⟨#[]⟩) (hx0 : x 0 = .int .i64 a) (hx1 : x 1 = .int .i64 b) (hx5 : x 5 = .pointer (some ⟨p5, 0, none⟩)) (hx6 : x 6 = .int .i64 0) (hx7 : x 7 = .pointer (some ⟨p7, 0, none⟩)) (hx8 : x 8 = .int .i64 0) : OpStep Tryz.prog pr7Ops Q (pr7bF a b q r HA64 HB64 H0 M1 M2 M3 M4 p5 p7 hr0 β h1 h2) w0 164 x 24 := by
  intro act w hb hk hF
  have g89 : act.eval (.tmp 89) = .bool true := hF 21 (of_decide_eq_true (by kernel_rfl)) 89 (by kernel_rfl)
  have g91 : act.eval (.tmp 91) = .int .i64 r := hF 23 (of_decide_eq_true (by kernel_rfl)) 91 (by kernel_rfl)
  exact step_ltI (show opO pr7Ops 24 = some (.binOp .lss 2 (.tmp 91) (.const (.int .i64 0)) 2) by kernel_rfl) (.told 21 true 89 (by kernel_rfl) (by kernel_rfl) g89) g91 rfl h1.out ⟨rfl, Below.refl _ _⟩

theorem pr7b_s25 {Q : Exit → Act → World → Prop} {w0 : World} {x : Nat → Value} (a b q r : Int) (HA64 : Hid (In64 a)) (HB64 : Hid (In64 b)) (H0 : Hid (b ≠ 0)) (M1 : Hid (In64 q)) (M2 : Hid (In64 r)) (M3 : Hid (In64 (q * b))) (M4 : Hid (q * b + r = a)) (p5 p7 : Nat) (hr0 : Hid ((r != 0) = true)) (β : Bool) (h1 : Hid (decide (r < 0) = β)) (h2 : Hid (decide (a < 0) = β)) (hb5 : BoxOn w0 p5 1 q ⟨#[]⟩) (hb7 : BoxOn w0 p7 1 r ⟨#[]⟩) (hx0 : x 0 = .int .i64 a) (hx1 : x 1 = .int .i64 b) (hx5 : x 5 = .pointer (some ⟨p5, 0, none⟩)) (hx6 : x 6 = .int .i64 0) (hx7 : x 7 = .pointer (some ⟨p7, 0, none⟩)) (hx8 : x 8 = .int .i64 0) : OpStep Tryz.prog pr7Ops Q (pr7bF a b q r HA64 HB64 H0 M1 M2 M3 M4 p5 p7 hr0 β h1 h2) w0 164 x 25 := by
  intro act w hb hk hF
  have g89 : act.eval (.tmp 89) = .bool true := hF 21 (of_decide_eq_true (by kernel_rfl)) 89 (by kernel_rfl)
  have g0 : act.eval (.tmp 0) = .int .i64 a := (hk 0 (by decide) (by kernel_rfl)).trans hx0
  exact step_move (show opO pr7Ops 25 = some (.move (.tmp 0)) by kernel_rfl) (.told 21 true 89 (by kernel_rfl) (by kernel_rfl) g89) g0 ⟨rfl, Below.refl _ _⟩

theorem pr7b_s26 {Q : Exit → Act → World → Prop} {w0 : World} {x : Nat → Value} (a b q r : Int) (HA64 : Hid (In64 a)) (HB64 : Hid (In64 b)) (H0 : Hid (b ≠ 0)) (M1 : Hid (In64 q)) (M2 : Hid (In64 r)) (M3 : Hid (In64 (q * b))) (M4 : Hid (q * b + r = a)) (p5 p7 : Nat) (hr0 : Hid ((r != 0) = true)) (β : Bool) (h1 : Hid (decide (r < 0) = β)) (h2 : Hid (decide (a < 0) = β)) (hb5 : BoxOn w0 p5 1 q ⟨#[]⟩) (hb7 : BoxOn w0 p7 1 r ⟨#[]⟩) (hx0 : x 0 = .int .i64 a) (hx1 : x 1 = .int .i64 b) (hx5 : x 5 = .pointer (some ⟨p5, 0, none⟩)) (hx6 : x 6 = .int .i64 0) (hx7 : x 7 = .pointer (some ⟨p7, 0, none⟩)) (hx8 : x 8 = .int .i64 0) : OpStep Tryz.prog pr7Ops Q (pr7bF a b q r HA64 HB64 H0 M1 M2 M3 M4 p5 p7 hr0 β h1 h2) w0 164 x 26 := by
  intro act w hb hk hF
  have g89 : act.eval (.tmp 89) = .bool true := hF 21 (of_decide_eq_true (by kernel_rfl)) 89 (by kernel_rfl)
  have g93 : act.eval (.tmp 93) = .int .i64 a := hF 25 (of_decide_eq_true (by kernel_rfl)) 93 (by kernel_rfl)
  exact step_ltI (show opO pr7Ops 26 = some (.binOp .lss 2 (.tmp 93) (.const (.int .i64 0)) 2) by kernel_rfl) (.told 21 true 89 (by kernel_rfl) (by kernel_rfl) g89) g93 rfl h2.out ⟨rfl, Below.refl _ _⟩

theorem pr7b_s27 {Q : Exit → Act → World → Prop} {w0 : World} {x : Nat → Value} (a b q r : Int) (HA64 : Hid (In64 a)) (HB64 : Hid (In64 b)) (H0 : Hid (b ≠ 0)) (M1 : Hid (In64 q)) (M2 : Hid (In64 r)) (M3 : Hid (In64 (q * b))) (M4 : Hid (q * b + r = a)) (p5 p7 : Nat) (hr0 : Hid ((r != 0) = true)) (β : Bool) (h1 : Hid (decide (r < 0) = β)) (h2 : Hid (decide (a < 0) = β)) (hb5 : BoxOn w0 p5 1 q ⟨#[]⟩) (hb7 : BoxOn w0 p7 1 r ⟨#[]⟩) (hx0 : x 0 = .int .i64 a) (hx1 : x 1 = .int .i64 b) (hx5 : x 5 = .pointer (some ⟨p5, 0, none⟩)) (hx6 : x 6 = .int .i64 0) (hx7 : x 7 = .pointer (some ⟨p7, 0, none⟩)) (hx8 : x 8 = .int .i64 0) : OpStep Tryz.prog pr7Ops Q (pr7bF a b q r HA64 HB64 H0 M1 M2 M3 M4 p5 p7 hr0 β h1 h2) w0 164 x 27 := by
  intro act w hb hk hF
  have g89 : act.eval (.tmp 89) = .bool true := hF 21 (of_decide_eq_true (by kernel_rfl)) 89 (by kernel_rfl)
  have g92 : act.eval (.tmp 92) = .bool β := hF 24 (of_decide_eq_true (by kernel_rfl)) 92 (by kernel_rfl)
  have g94 : act.eval (.tmp 94) = .bool β := hF 26 (of_decide_eq_true (by kernel_rfl)) 94 (by kernel_rfl)
  exact step_neB (show opO pr7Ops 27 = some (.binOp .neq 4 (.tmp 92) (.tmp 94) 4) by kernel_rfl) (.told 21 true 89 (by kernel_rfl) (by kernel_rfl) g89) g92 g94 (by simp) ⟨rfl, Below.refl _ _⟩

theorem pr7b_s28 {Q : Exit → Act → World → Prop} {w0 : World} {x : Nat → Value} (a b q r : Int) (HA64 : Hid (In64 a)) (HB64 : Hid (In64 b)) (H0 : Hid (b ≠ 0)) (M1 : Hid (In64 q)) (M2 : Hid (In64 r)) (M3 : Hid (In64 (q * b))) (M4 : Hid (q * b + r = a)) (p5 p7 : Nat) (hr0 : Hid ((r != 0) = true)) (β : Bool) (h1 : Hid (decide (r < 0) = β)) (h2 : Hid (decide (a < 0) = β)) (hb5 : BoxOn w0 p5 1 q ⟨#[]⟩) (hb7 : BoxOn w0 p7 1 r ⟨#[]⟩) (hx0 : x 0 = .int .i64 a) (hx1 : x 1 = .int .i64 b) (hx5 : x 5 = .pointer (some ⟨p5, 0, none⟩)) (hx6 : x 6 = .int .i64 0) (hx7 : x 7 = .pointer (some ⟨p7, 0, none⟩)) (hx8 : x 8 = .int .i64 0) : OpStep Tryz.prog pr7Ops Q (pr7bF a b q r HA64 HB64 H0 M1 M2 M3 M4 p5 p7 hr0 β h1 h2) w0 164 x 28 := by
  intro act w hb hk hF
  have g85 : act.eval (.tmp 85) = .bool false := hF 17 (of_decide_eq_true (by kernel_rfl)) 85 (by kernel_rfl)
  have g89 : act.eval (.tmp 89) = .bool true := hF 21 (of_decide_eq_true (by kernel_rfl)) 89 (by kernel_rfl)
  have g95 : act.eval (.tmp 95) = .bool false := hF 27 (of_decide_eq_true (by kernel_rfl)) 95 (by kernel_rfl)
  exact step_pickT (show opO pr7Ops 28 = some (.pick (.tmp 89) (.tmp 95) (.const (.bool false))) by kernel_rfl) (.told 17 false 85 (by kernel_rfl) (by kernel_rfl) g85) g89 g95 ⟨rfl, Below.refl _ _⟩

theorem pr7b_s29 {Q : Exit → Act → World → Prop} {w0 : World} {x : Nat → Value} (a b q r : Int) (HA64 : Hid (In64 a)) (HB64 : Hid (In64 b)) (H0 : Hid (b ≠ 0)) (M1 : Hid (In64 q)) (M2 : Hid (In64 r)) (M3 : Hid (In64 (q * b))) (M4 : Hid (q * b + r = a)) (p5 p7 : Nat) (hr0 : Hid ((r != 0) = true)) (β : Bool) (h1 : Hid (decide (r < 0) = β)) (h2 : Hid (decide (a < 0) = β)) (hb5 : BoxOn w0 p5 1 q ⟨#[]⟩) (hb7 : BoxOn w0 p7 1 r ⟨#[]⟩) (hx0 : x 0 = .int .i64 a) (hx1 : x 1 = .int .i64 b) (hx5 : x 5 = .pointer (some ⟨p5, 0, none⟩)) (hx6 : x 6 = .int .i64 0) (hx7 : x 7 = .pointer (some ⟨p7, 0, none⟩)) (hx8 : x 8 = .int .i64 0) : OpStep Tryz.prog pr7Ops Q (pr7bF a b q r HA64 HB64 H0 M1 M2 M3 M4 p5 p7 hr0 β h1 h2) w0 164 x 29 := by
  intro act w hb hk hF
  have g85 : act.eval (.tmp 85) = .bool false := hF 17 (of_decide_eq_true (by kernel_rfl)) 85 (by kernel_rfl)
  have g96 : act.eval (.tmp 96) = .bool false := hF 28 (of_decide_eq_true (by kernel_rfl)) 96 (by kernel_rfl)
  exact step_pickF (show opO pr7Ops 29 = some (.pick (.tmp 85) (.const (.bool true)) (.tmp 96)) by kernel_rfl) (.free (by kernel_rfl)) g85 g96 ⟨rfl, Below.refl _ _⟩

theorem pr7b {Q : Exit → Act → World → Prop} {a0 : Act} {w0 : World} (a b q r : Int) (HA64 : Hid (In64 a)) (HB64 : Hid (In64 b)) (H0 : Hid (b ≠ 0)) (M1 : Hid (In64 q)) (M2 : Hid (In64 r)) (M3 : Hid (In64 (q * b))) (M4 : Hid (q * b + r = a)) (p5 p7 : Nat) (hr0 : Hid ((r != 0) = true)) (β : Bool) (h1 : Hid (decide (r < 0) = β)) (h2 : Hid (decide (a < 0) = β)) (hb5 : BoxOn w0 p5 1 q ⟨#[]⟩) (hb7 : BoxOn w0 p7 1 r ⟨#[]⟩) (hx0 : a0.tmps.getD 0 undef = .int .i64 a) (hx1 : a0.tmps.getD 1 undef = .int .i64 b) (hx5 : a0.tmps.getD 5 undef = .pointer (some ⟨p5, 0, none⟩)) (hx6 : a0.tmps.getD 6 undef = .int .i64 0) (hx7 : a0.tmps.getD 7 undef = .pointer (some ⟨p7, 0, none⟩)) (hx8 : a0.tmps.getD 8 undef = .int .i64 0) (hs : a0.tmps.size = 164)
    (hend : ∀ (V : Nat → Value) (X : World), Below w0.heap.size w0 X → V 29 = .bool false → Q .normal ⟨fillT pr7Ops a0.tmps V, a0.defers⟩ X) : (Code.region 7 pr7Ops true).wp Tryz.prog Q a0 w0 := by
  refine wp_region_steps (by kernel_rfl) (pr7bF a b q r HA64 HB64 H0 M1 M2 M3 M4 p5 p7 hr0 β h1 h2) (pr7bF_mono a b q r HA64 HB64 H0 M1 M2 M3 M4 p5 p7 hr0 β h1 h2) (by rw [hs]; kernel_rfl) ?_ ?_
  · rw [hs]
    have e : pr7Ops.size = 30 := by kernel_rfl
    rw [e]
    have u1 : ∀ i, i < 1 → OpStep Tryz.prog pr7Ops Q (pr7bF a b q r HA64 HB64 H0 M1 M2 M3 M4 p5 p7 hr0 β h1 h2) w0 164 (fun t => a0.tmps.getD t undef) i := upto_succ upto_zero (pr7b_s0 a b q r HA64 HB64 H0 M1 M2 M3 M4 p5 p7 hr0 β h1 h2 hb5 hb7 hx0 hx1 hx5 hx6 hx7 hx8)
    have u2 : ∀ i, i < 2 → OpStep Tryz.prog pr7Ops Q (pr7bF a b q r HA64 HB64 H0 M1 M2 M3 M4 p5 p7 hr0 β h1 h2) w0 164 (fun t => a0.tmps.getD t undef) i := upto_succ u1 (pr7b_s1 a b q r HA64 HB64 H0 M1 M2 M3 M4 p5 p7 hr0 β h1 h2 hb5 hb7 hx0 hx1 hx5 hx6 hx7 hx8)
    have u3 : ∀ i, i < 3 → OpStep Tryz.prog pr7Ops Q (pr7bF a b q r HA64 HB64 H0 M1 M2 M3 M4 p5 p7 hr0 β h1 h2) w0 164 (fun t => a0.tmps.getD t undef) i := upto_succ u2 (pr7b_s2 a b q r HA64 HB64 H0 M1 M2 M3 M4 p5 p7 hr0 β h1 h2 hb5 hb7 hx0 hx1 hx5 hx6 hx7 hx8)
    have u4 : ∀ i, i < 4 → OpStep Tryz.prog pr7Ops Q (pr7bF a b q r HA64 HB64 H0 M1 M2 M3 M4 p5 p7 hr0 β h1 h2) w0 164 (fun t => a0.tmps.getD t undef) i := upto_succ u3 (pr7b_s3 a b q r HA64 HB64 H0 M1 M2 M3 M4 p5 p7 hr0 β h1 h2 hb5 hb7 hx0 hx1 hx5 hx6 hx7 hx8)
    have u5 : ∀ i, i < 5 → OpStep Tryz.prog pr7Ops Q (pr7bF a b q r HA64 HB64 H0 M1 M2 M3 M4 p5 p7 hr0 β h1 h2) w0 164 (fun t => a0.tmps.getD t undef) i := upto_succ u4 (pr7b_s4 a b q r HA64 HB64 H0 M1 M2 M3 M4 p5 p7 hr0 β h1 h2 hb5 hb7 hx0 hx1 hx5 hx6 hx7 hx8)
    have u6 : ∀ i, i < 6 → OpStep Tryz.prog pr7Ops Q (pr7bF a b q r HA64 HB64 H0 M1 M2 M3 M4 p5 p7 hr0 β h1 h2) w0 164 (fun t => a0.tmps.getD t undef) i := upto_succ u5 (pr7b_s5 a b q r HA64 HB64 H0 M1 M2 M3 M4 p5 p7 hr0 β h1 h2 hb5 hb7 hx0 hx1 hx5 hx6 hx7 hx8)
    have u7 : ∀ i, i < 7 → OpStep Tryz.prog pr7Ops Q (pr7bF a b q r HA64 HB64 H0 M1 M2 M3 M4 p5 p7 hr0 β h1 h2) w0 164 (fun t => a0.tmps.getD t undef) i := upto_succ u6 (pr7b_s6 a b q r HA64 HB64 H0 M1 M2 M3 M4 p5 p7 hr0 β h1 h2 hb5 hb7 hx0 hx1 hx5 hx6 hx7 hx8)
    have u8 : ∀ i, i < 8 → OpStep Tryz.prog pr7Ops Q (pr7bF a b q r HA64 HB64 H0 M1 M2 M3 M4 p5 p7 hr0 β h1 h2) w0 164 (fun t => a0.tmps.getD t undef) i := upto_succ u7 (pr7b_s7 a b q r HA64 HB64 H0 M1 M2 M3 M4 p5 p7 hr0 β h1 h2 hb5 hb7 hx0 hx1 hx5 hx6 hx7 hx8)
    have u9 : ∀ i, i < 9 → OpStep Tryz.prog pr7Ops Q (pr7bF a b q r HA64 HB64 H0 M1 M2 M3 M4 p5 p7 hr0 β h1 h2) w0 164 (fun t => a0.tmps.getD t undef) i := upto_succ u8 (pr7b_s8 a b q r HA64 HB64 H0 M1 M2 M3 M4 p5 p7 hr0 β h1 h2 hb5 hb7 hx0 hx1 hx5 hx6 hx7 hx8)
    have u10 : ∀ i, i < 10 → OpStep Tryz.prog pr7Ops Q (pr7bF a b q r HA64 HB64 H0 M1 M2 M3 M4 p5 p7 hr0 β h1 h2) w0 164 (fun t => a0.tmps.getD t undef) i := upto_succ u9 (pr7b_s9 a b q r HA64 HB64 H0 M1 M2 M3 M4 p5 p7 hr0 β h1 h2 hb5 hb7 hx0 hx1 hx5 hx6 hx7 hx8)
    have u11 : ∀ i, i < 11 → OpStep Tryz.prog pr7Ops Q (pr7bF a b q r HA64 HB64 H0 M1 M2 M3 M4 p5 p7 hr0 β h1 h2) w0 164 (fun t => a0.tmps.getD t undef) i := upto_succ u10 (pr7b_s10 a b q r HA64 HB64 H0 M1 M2 M3 M4 p5 p7 hr0 β h1 h2 hb5 hb7 hx0 hx1 hx5 hx6 hx7 hx8)
    have u12 : ∀ i, i < 12 → OpStep Tryz.prog pr7Ops Q (pr7bF a b q r HA64 HB64 H0 M1 M2 M3 M4 p5 p7 hr0 β h1 h2) w0 164 (fun t => a0.tmps.getD t undef) i := upto_succ u11 (pr7b_s11 a b q r HA64 HB64 H0 M1 M2 M3 M4 p5 p7 hr0 β h1 h2 hb5 hb7 hx0 hx1 hx5 hx6 hx7 hx8)
    have u13 : ∀ i, i < 13 → OpStep Tryz.prog pr7Ops Q (pr7bF a b q r HA64 HB64 H0 M1 M2 M3 M4 p5 p7 hr0 β h1 h2) w0 164 (fun t => a0.tmps.getD t undef) i := upto_succ u12 (pr7b_s12 a b q r HA64 HB64 H0 M1 M2 M3 M4 p5 p7 hr0 β h1 h2 hb5 hb7 hx0 hx1 hx5 hx6 hx7 hx8)
    have u14 : ∀ i, i < 14 → OpStep Tryz.prog pr7Ops Q (pr7bF a b q r HA64 HB64 H0 M1 M2 M3 M4 p5 p7 hr0 β h1 h2) w0 164 (fun t => a0.tmps.getD t undef) i := upto_succ u13 (pr7b_s13 a b q r HA64 HB64 H0 M1 M2 M3 M4 p5 p7 hr0 β h1 h2 hb5 hb7 hx0 hx1 hx5 hx6 hx7 hx8)
    have u15 : ∀ i, i < 15 → OpStep Tryz.prog pr7Ops Q (pr7bF a b q r HA64 HB64 H0 M1 M2 M3 M4 p5 p7 hr0 β h1 h2) w0 164 (fun t => a0.tmps.getD t undef) i := upto_succ u14 (pr7b_s14 a b q r HA64 HB64 H0 M1 M2 M3 M4 p5 p7 hr0 β h1 h2 hb5 hb7 hx0 hx1 hx5 hx6 hx7 hx8)
    have u16 : ∀ i, i < 16 → OpStep Tryz.prog pr7Ops Q (pr7bF a b q r HA64 HB64 H0 M1 M2 M3 M4 p5 p7 hr0 β h1 h2) w0 164 (fun t => a0.tmps.getD t undef) i := upto_succ u15 (pr7b_s15 a b q r HA64 HB64 H0 M1 M2 M3 M4 p5 p7 hr0 β h1 h2 hb5 hb7 hx0 hx1 hx5 hx6 hx7 hx8)
    have u17 : ∀ i, i < 17 → OpStep Tryz.prog pr7Ops Q (pr7bF a b q r HA64 HB64 H0 M1 M2 M3 M4 p5 p7 hr0 β h1 h2) w0 164 (fun t => a0.tmps.getD t undef) i := upto_succ u16 (pr7b_s16 a b q r HA64 HB64 H0 M1 M2 M3 M4 p5 p7 hr0 β h1 h2 hb5 hb7 hx0 hx1 hx5 hx6 hx7 hx8)
    have u18 : ∀ i, i < 18 → OpStep Tryz.prog pr7Ops Q (pr7bF a b q r HA64 HB64 H0 M1 M2 M3 M4 p5 p7 hr0 β h1 h2) w0 164 (fun t => a0.tmps.getD t undef) i := upto_succ u17 (pr7b_s17 a b q r HA64 HB64 H0 M1 M2 M3 M4 p5 p7 hr0 β h1 h2 hb5 hb7 hx0 hx1 hx5 hx6 hx7 hx8)
    have u19 : ∀ i, i < 19 → OpStep Tryz.prog pr7Ops Q (pr7bF a b q r HA64 HB64 H0 M1 M2 M3 M4 p5 p7 hr0 β h1 h2) w0 164 (fun t => a0.tmps.getD t undef) i := upto_succ u18 (pr7b_s18 a b q r HA64 HB64 H0 M1 M2 M3 M4 p5 p7 hr0 β h1 h2 hb5 hb7 hx0 hx1 hx5 hx6 hx7 hx8)
    have u20 : ∀ i, i < 20 → OpStep Tryz.prog pr7Ops Q (pr7bF a b q r HA64 HB64 H0 M1 M2 M3 M4 p5 p7 hr0 β h1 h2) w0 164 (fun t => a0.tmps.getD t undef) i := upto_succ u19 (pr7b_s19 a b q r HA64 HB64 H0 M1 M2 M3 M4 p5 p7 hr0 β h1 h2 hb5 hb7 hx0 hx1 hx5 hx6 hx7 hx8)
    have u21 : ∀ i, i < 21 → OpStep Tryz.prog pr7Ops Q (pr7bF a b q r HA64 HB64 H0 M1 M2 M3 M4 p5 p7 hr0 β h1 h2) w0 164 (fun t => a0.tmps.getD t undef) i := upto_succ u20 (pr7b_s20 a b q r HA64 HB64 H0 M1 M2 M3 M4 p5 p7 hr0 β h1 h2 hb5 hb7 hx0 hx1 hx5 hx6 hx7 hx8)
    have u22 : ∀ i, i < 22 → OpStep Tryz.prog pr7Ops Q (pr7bF a b q r HA64 HB64 H0 M1 M2 M3 M4 p5 p7 hr0 β h1 h2) w0 164 (fun t => a0.tmps.getD t undef) i := upto_succ u21 (pr7b_s21 a b q r HA64 HB64 H0 M1 M2 M3 M4 p5 p7 hr0 β h1 h2 hb5 hb7 hx0 hx1 hx5 hx6 hx7 hx8)
    have u23 : ∀ i, i < 23 → OpStep Tryz.prog pr7Ops Q (pr7bF a b q r HA64 HB64 H0 M1 M2 M3 M4 p5 p7 hr0 β h1 h2) w0 164 (fun t => a0.tmps.getD t undef) i := upto_succ u22 (pr7b_s22 a b q r HA64 HB64 H0 M1 M2 M3 M4 p5 p7 hr0 β h1 h2 hb5 hb7 hx0 hx1 hx5 hx6 hx7 hx8)
    have u24 : ∀ i, i < 24 → OpStep Tryz.prog pr7Ops Q (pr7bF a b q r HA64 HB64 H0 M1 M2 M3 M4 p5 p7 hr0 β h1 h2) w0 164 (fun t => a0.tmps.getD t undef) i := upto_succ u23 (pr7b_s23 a b q r HA64 HB64 H0 M1 M2 M3 M4 p5 p7 hr0 β h1 h2 hb5 hb7 hx0 hx1 hx5 hx6 hx7 hx8)
    have u25 : ∀ i, i < 25 → OpStep Tryz.prog pr7Ops Q (pr7bF a b q r HA64 HB64 H0 M1 M2 M3 M4 p5 p7 hr0 β h1 h2) w0 164 (fun t => a0.tmps.getD t undef) i := upto_succ u24 (pr7b_s24 a b q r HA64 HB64 H0 M1 M2 M3 M4 p5 p7 hr0 β h1 h2 hb5 hb7 hx0 hx1 hx5 hx6 hx7 hx8)
    have u26 : ∀ i, i < 26 → OpStep Tryz.prog pr7Ops Q (pr7bF a b q r HA64 HB64 H0 M1 M2 M3 M4 p5 p7 hr0 β h1 h2) w0 164 (fun t => a0.tmps.getD t undef) i := upto_succ u25 (pr7b_s25 a b q r HA64 HB64 H0 M1 M2 M3 M4 p5 p7 hr0 β h1 h2 hb5 hb7 hx0 hx1 hx5 hx6 hx7 hx8)
    have u27 : ∀ i, i < 27 → OpStep Tryz.prog pr7Ops Q (pr7bF a b q r HA64 HB64 H0 M1 M2 M3 M4 p5 p7 hr0 β h1 h2) w0 164 (fun t => a0.tmps.getD t undef) i := upto_succ u26 (pr7b_s26 a b q r HA64 HB64 H0 M1 M2 M3 M4 p5 p7 hr0 β h1 h2 hb5 hb7 hx0 hx1 hx5 hx6 hx7 hx8)
    have u28 : ∀ i, i < 28 → OpStep Tryz.prog pr7Ops Q (pr7bF a b q r HA64 HB64 H0 M1 M2 M3 M4 p5 p7 hr0 β h1 h2) w0 164 (fun t => a0.tmps.getD t undef) i := upto_succ u27 (pr7b_s27 a b q r HA64 HB64 H0 M1 M2 M3 M4 p5 p7 hr0 β h1 h2 hb5 hb7 hx0 hx1 hx5 hx6 hx7 hx8)
    have u29 : ∀ i, i < 29 → OpStep Tryz.prog pr7Ops Q (pr7bF a b q r HA64 HB64 H0 M1 M2 M3 M4 p5 p7 hr0 β h1 h2) w0 164 (fun t => a0.tmps.getD t undef) i := upto_succ u28 (pr7b_s28 a b q r HA64 HB64 H0 M1 M2 M3 M4 p5 p7 hr0 β h1 h2 hb5 hb7 hx0 hx1 hx5 hx6 hx7 hx8)
    have u30 : ∀ i, i < 30 → OpStep Tryz.prog pr7Ops Q (pr7bF a b q r HA64 HB64 H0 M1 M2 M3 M4 p5 p7 hr0 β h1 h2) w0 164 (fun t => a0.tmps.getD t undef) i := upto_succ u29 (pr7b_s29 a b q r HA64 HB64 H0 M1 M2 M3 M4 p5 p7 hr0 β h1 h2 hb5 hb7 hx0 hx1 hx5 hx6 hx7 hx8)
    exact u30
  · intro V X hb hV
    exact hend V X hb (hV 29 (of_decide_eq_true (by kernel_rfl)) (by kernel_rfl))
noncomputable def pr12Ops : Array Oper := regOf Tryz.f7 12
theorem pr12_fill (t : Array Value) (ht : t.size = 164) (V : Nat → Value) : fillT pr12Ops t V = #[t.getD 0 undef, t.getD 1 undef, t.getD 2 undef, t.getD 3 undef, V 22, t.getD 5 undef, t.getD 6 undef, t.getD 7 undef, t.getD 8 undef, t.getD 9 undef, t.getD 10 undef, t.getD 11 undef, t.getD 12 undef, t.getD 13 undef, t.getD 14 undef, t.getD 15 undef, t.getD 16 undef, t.getD 17 undef, t.getD 18 undef, t.getD 19 undef, t.getD 20 undef, t.getD 21 undef, t.getD 22 undef, t.getD 23 undef, t.getD 24 undef, t.getD 25 undef, t.getD 26 undef, t.getD 27 undef, t.getD 28 undef, t.getD 29 undef, t.getD 30 undef, t.getD 31 undef, t.getD 32 undef, t.getD 33 undef, t.getD 34 undef, t.getD 35 undef, t.getD 36 undef, t.getD 37 undef, t.getD 38 undef, t.getD 39 undef, t.getD 40 undef, t.getD 41 undef, t.getD 42 undef, t.getD 43 undef, t.getD 44 undef, t.getD 45 undef, t.getD 46 undef, t.getD 47 undef, t.getD 48 undef, t.getD 49 undef, t.getD 50 undef, t.getD 51 undef, t.getD 52 undef, t.getD 53 undef, t.getD 54 undef, t.getD 55 undef, t.getD 56 undef, t.getD 57 undef, t.getD 58 undef, t.getD 59 undef, t.getD 60 undef, t.getD 61 undef, t.getD 62 undef, t.getD 63 undef, t.getD 64 undef, t.getD 65 undef, t.getD 66 undef, t.getD 67 undef, t.getD 68 undef, t.getD 69 undef, t.getD 70 undef, t.getD 71 undef, t.getD 72 undef, t.getD 73 undef, t.getD 74 undef, t.getD 75 undef, t.getD 76 undef, t.getD 77 undef, t.getD 78 undef, t.getD 79 undef, t.getD 80 undef, t.getD 81 undef, t.getD 82 undef, t.getD 83 undef, t.getD 84 undef, t.getD 85 undef, t.getD 86 undef, t.getD 87 undef, t.getD 88 undef, t.getD 89 undef, t.getD 90 undef, t.getD 91 undef, t.getD 92 undef, t.getD 93 undef, t.getD 94 undef, t.getD 95 undef, t.getD 96 undef, t.getD 97 undef, t.getD 98 undef, t.getD 99 undef, t.getD 100 undef, t.getD 101 undef, t.getD 102 undef, t.getD 103 undef, t.getD 104 undef, t.getD 105 undef, t.getD 106 undef, t.getD 107 undef, t.getD 108 undef, t.getD 109 undef, t.getD 110 undef, t.getD 111 undef, t.getD 112 undef, t.getD 113 undef, t.getD 114 undef, t.getD 115 undef, t.getD 116 undef, t.getD 117 undef, t.getD 118 undef, t.getD 119 undef, t.getD 120 undef, t.getD 121 undef, t.getD 122 undef, t.getD 123 undef, t.getD 124 undef, t.getD 125 undef, t.getD 126 undef, t.getD 127 undef, t.getD 128 undef, t.getD 129 undef, t.getD 130 undef, t.getD 131 undef, t.getD 132 undef, t.getD 133 undef, t.getD 134 undef, t.getD 135 undef, t.getD 136 undef, t.getD 137 undef, t.getD 138 undef, t.getD 139 undef, t.getD 140 undef, t.getD 141 undef, V 0, V 1, V 2, V 3, V 4, V 5, V 6, V 7, V 8, V 9, V 10, V 11, V 12, V 13, V 14, V 15, V 16, V 17, V 18, V 19, V 20, V 21] := by
  unfold fillT
  rw [ht]
  kernel_rfl
def pr12aL (a b : Int) (HA64 : Hid (In64 a)) (HB64 : Hid (In64 b)) (H0 : Hid (b ≠ 0)) (p9 : Nat) (HP : Hid (In64 (a * b))) : List (Value → World → Prop) := [IsV (.int .i64 0), IsV (.bool false), IsV (.bool false), IsV (vv 1 (a * b) ⟨#[]⟩), IsV (.int .i64 b), IsV (vv 1 b ⟨#[]⟩), IsV (vv 1 a ⟨#[]⟩), IsV (.int .i64 a), IsV (vv 1 a ⟨#[]⟩), IsV (.bool true), IsV (.bool true), IsV (vv 1 (a * b) ⟨#[]⟩), IsV (.int .i64 b), IsV (vv 1 b ⟨#[]⟩), IsV (vv 1 0 ⟨#[]⟩), IsV (vv 1 0 ⟨#[]⟩), IsV (.bool true), IsV (.bool true), IsV (.bool true), IsV (.bool true), IsV (.bool true), IsV (.bool true), IsV (.bool true)]
def pr12aF (a b : Int) (HA64 : Hid (In64 a)) (HB64 : Hid (In64 b)) (H0 : Hid (b ≠ 0)) (p9 : Nat) (HP : Hid (In64 (a * b))) (i : Nat) : Value → World → Prop := (pr12aL a b HA64 HB64 H0 p9 HP).getD i AnyF
theorem pr12aF_mono (a b : Int) (HA64 : Hid (In64 a)) (HB64 : Hid (In64 b)) (H0 : Hid (b ≠ 0)) (p9 : Nat) (HP : Hid (In64 (a * b))) (i : Nat) (v : Value) (w w' : World) (hp : (pr12aF a b HA64 HB64 H0 p9 HP) i v w) (hb : Below w.heap.size w w') : (pr12aF a b HA64 HB64 H0 p9 HP) i v w' := by
  refine monoL ?_ i v w w' hp hb
  unfold pr12aL
  simp only [List.forall_mem_cons]
  exact ⟨mono_isV _, mono_isV _, mono_isV _, mono_isV _, mono_isV _, mono_isV _, mono_isV _, mono_isV _, mono_isV _, mono_isV _, mono_isV _, mono_isV _, mono_isV _, mono_isV _, mono_isV _, mono_isV _, mono_isV _, mono_isV _, mono_isV _, mono_isV _, mono_isV _, mono_isV _, mono_isV _, fun _ h => by cases h⟩
theorem pr12a_s0 {Q : Exit → Act → World → Prop} {w0 : World} {x : Nat → Value} (a b : Int) (HA64 : Hid (In64 a)) (HB64 : Hid (In64 b)) (H0 : Hid (b ≠ 0)) (p9 : Nat) (HP : Hid (In64 (a * b))) (hb9 : BoxOn w0 p9 1 (a * b) ⟨#[]⟩) (hWd : ∀ X, Below w0.heap.size w0 X → Wd X) (hx0 : x 0 = .int .i64 a) (hx1 : x 1 = .int .i64 b) (hx9 : x 9 = .pointer (some ⟨p9, 0, none⟩)) (hx10 : x 10 = .int .i64 0) : OpStep Tryz.prog pr12Ops Q (pr12aF a b HA64 HB64 H0 p9 HP) w0 164 x 0 := by
  intro act w hb hk hF
  have g10 : act.eval (.tmp 10) = .int .i64 0 := (hk 10 (by decide) (by kernel_rfl)).trans hx10
  exact step_move (show opO pr12Ops 0 = some (.move (.tmp 10)) by kernel_rfl) (.free (by kernel_rfl)) g10 ⟨rfl, Below.refl _ _⟩

theorem pr12a_s1 {Q : Exit → Act → World → Prop} {w0 : World} {x : Nat → Value} (a b : Int) (HA64 : Hid (In64 a)) (HB64 : Hid (In64 b)) (H0 : Hid (b ≠ 0)) (p9 : Nat) (HP : Hid (In64 (a * b))) (hb9 : BoxOn w0 p9 1 (a * b) ⟨#[]⟩) (hWd : ∀ X, Below w0.heap.size w0 X → Wd X) (hx0 : x 0 = .int .i64 a) (hx1 : x 1 = .int .i64 b) (hx9 : x 9 = .pointer (some ⟨p9, 0, none⟩)) (hx10 : x 10 = .int .i64 0) : OpStep Tryz.prog pr12Ops Q (pr12aF a b HA64 HB64 H0 p9 HP) w0 164 x 1 := by
  intro act w hb hk hF
  have g142 : act.eval (.tmp 142) = .int .i64 0 := hF 0 (of_decide_eq_true (by kernel_rfl)) 142 (by kernel_rfl)
  exact step_neI (show opO pr12Ops 1 = some (.binOp .neq 28 (.tmp 142) (.const (.int .i64 0)) 28) by kernel_rfl) (.free (by kernel_rfl)) g142 rfl (by simp) ⟨rfl, Below.refl _ _⟩

theorem pr12a_s2 {Q : Exit → Act → World → Prop} {w0 : World} {x : Nat → Value} (a b : Int) (HA64 : Hid (In64 a)) (HB64 : Hid (In64 b)) (H0 : Hid (b ≠ 0)) (p9 : Nat) (HP : Hid (In64 (a * b))) (hb9 : BoxOn w0 p9 1 (a * b) ⟨#[]⟩) (hWd : ∀ X, Below w0.heap.size w0 X → Wd X) (hx0 : x 0 = .int .i64 a) (hx1 : x 1 = .int .i64 b) (hx9 : x 9 = .pointer (some ⟨p9, 0, none⟩)) (hx10 : x 10 = .int .i64 0) : OpStep Tryz.prog pr12Ops Q (pr12aF a b HA64 HB64 H0 p9 HP) w0 164 x 2 := by
  intro act w hb hk hF
  have g143 : act.eval (.tmp 143) = .bool false := hF 1 (of_decide_eq_true (by kernel_rfl)) 143 (by kernel_rfl)
  exact step_move (show opO pr12Ops 2 = some (.move (.tmp 143)) by kernel_rfl) (.free (by kernel_rfl)) g143 ⟨rfl, Below.refl _ _⟩

theorem pr12a_s3 {Q : Exit → Act → World → Prop} {w0 : World} {x : Nat → Value} (a b : Int) (HA64 : Hid (In64 a)) (HB64 : Hid (In64 b)) (H0 : Hid (b ≠ 0)) (p9 : Nat) (HP : Hid (In64 (a * b))) (hb9 : BoxOn w0 p9 1 (a * b) ⟨#[]⟩) (hWd : ∀ X, Below w0.heap.size w0 X → Wd X) (hx0 : x 0 = .int .i64 a) (hx1 : x 1 = .int .i64 b) (hx9 : x 9 = .pointer (some ⟨p9, 0, none⟩)) (hx10 : x 10 = .int .i64 0) : OpStep Tryz.prog pr12Ops Q (pr12aF a b HA64 HB64 H0 p9 HP) w0 164 x 3 := by
  intro act w hb hk hF
  have g144 : act.eval (.tmp 144) = .bool false := hF 2 (of_decide_eq_true (by kernel_rfl)) 144 (by kernel_rfl)
  have g9 : act.eval (.tmp 9) = .pointer (some ⟨p9, 0, none⟩) := (hk 9 (by decide) (by kernel_rfl)).trans hx9
  exact step_loadB (show opO pr12Ops 3 = some (.load 24 (.tmp 9)) by kernel_rfl) (.told 2 false 144 (by kernel_rfl) (by kernel_rfl) g144) g9 (hb9 w hb) ⟨rfl, Below.refl _ _⟩

theorem pr12a_s4 {Q : Exit → Act → World → Prop} {w0 : World} {x : Nat → Value} (a b : Int) (HA64 : Hid (In64 a)) (HB64 : Hid (In64 b)) (H0 : Hid (b ≠ 0)) (p9 : Nat) (HP : Hid (In64 (a * b))) (hb9 : BoxOn w0 p9 1 (a * b) ⟨#[]⟩) (hWd : ∀ X, Below w0.heap.size w0 X → Wd X) (hx0 : x 0 = .int .i64 a) (hx1 : x 1 = .int .i64 b) (hx9 : x 9 = .pointer (some ⟨p9, 0, none⟩)) (hx10 : x 10 = .int .i64 0) : OpStep Tryz.prog pr12Ops Q (pr12aF a b HA64 HB64 H0 p9 HP) w0 164 x 4 := by
  intro act w hb hk hF
  have g144 : act.eval (.tmp 144) = .bool false := hF 2 (of_decide_eq_true (by kernel_rfl)) 144 (by kernel_rfl)
  have g1 : act.eval (.tmp 1) = .int .i64 b := (hk 1 (by decide) (by kernel_rfl)).trans hx1
  exact step_move (show opO pr12Ops 4 = some (.move (.tmp 1)) by kernel_rfl) (.told 2 false 144 (by kernel_rfl) (by kernel_rfl) g144) g1 ⟨rfl, Below.refl _ _⟩

theorem pr12a_s5 {Q : Exit → Act → World → Prop} {w0 : World} {x : Nat → Value} (a b : Int) (HA64 : Hid (In64 a)) (HB64 : Hid (In64 b)) (H0 : Hid (b ≠ 0)) (p9 : Nat) (HP : Hid (In64 (a * b))) (hb9 : BoxOn w0 p9 1 (a * b) ⟨#[]⟩) (hWd : ∀ X, Below w0.heap.size w0 X → Wd X) (hx0 : x 0 = .int .i64 a) (hx1 : x 1 = .int .i64 b) (hx9 : x 9 = .pointer (some ⟨p9, 0, none⟩)) (hx10 : x 10 = .int .i64 0) : OpStep Tryz.prog pr12Ops Q (pr12aF a b HA64 HB64 H0 p9 HP) w0 164 x 5 := by
  intro act w hb hk hF
  have g144 : act.eval (.tmp 144) = .bool false := hF 2 (of_decide_eq_true (by kernel_rfl)) 144 (by kernel_rfl)
  have g146 : act.eval (.tmp 146) = .int .i64 b := hF 4 (of_decide_eq_true (by kernel_rfl)) 146 (by kernel_rfl)
  exact step_call (f := 15) (xs := #[.tmp 146]) (by kernel_rfl) (.told 2 false 144 (by kernel_rfl) (by kernel_rfl) g144) (map1 g146) (enters_of Tryz.func15 (by kernel_rfl) rfl) ((num_any b w).mono fun e w' h => ⟨_, h.1, rfl, h.2⟩)

theorem pr12a_s6 {Q : Exit → Act → World → Prop} {w0 : World} {x : Nat → Value} (a b : Int) (HA64 : Hid (In64 a)) (HB64 : Hid (In64 b)) (H0 : Hid (b ≠ 0)) (p9 : Nat) (HP : Hid (In64 (a * b))) (hb9 : BoxOn w0 p9 1 (a * b) ⟨#[]⟩) (hWd : ∀ X, Below w0.heap.size w0 X → Wd X) (hx0 : x 0 = .int .i64 a) (hx1 : x 1 = .int .i64 b) (hx9 : x 9 = .pointer (some ⟨p9, 0, none⟩)) (hx10 : x 10 = .int .i64 0) : OpStep Tryz.prog pr12Ops Q (pr12aF a b HA64 HB64 H0 p9 HP) w0 164 x 6 := by
  intro act w hb hk hF
  have g144 : act.eval (.tmp 144) = .bool false := hF 2 (of_decide_eq_true (by kernel_rfl)) 144 (by kernel_rfl)
  have g145 : act.eval (.tmp 145) = vv 1 (a * b) ⟨#[]⟩ := hF 3 (of_decide_eq_true (by kernel_rfl)) 145 (by kernel_rfl)
  have g147 : act.eval (.tmp 147) = vv 1 b ⟨#[]⟩ := hF 5 (of_decide_eq_true (by kernel_rfl)) 147 (by kernel_rfl)
  exact step_call (f := 29) (xs := #[.const (.string ⟨#[47]⟩), .tmp 145, .tmp 147]) (by kernel_rfl) (.told 2 false 144 (by kernel_rfl) (by kernel_rfl) g144) (map3 rfl g145 g147) (enters_of Tryz.func29 (by kernel_rfl) rfl) ((both_any ⟨#[47]⟩ 1 (a * b) ⟨#[]⟩ 1 b ⟨#[]⟩ 1 a ⟨#[]⟩ 0 w (fun Y _ => opI_quo' (a * b) b a Y HP.out H0.out (back_math a b _ HA64.out rfl H0.out).2.2 (back_math a b _ HA64.out rfl H0.out).1)).mono fun e w' h => ⟨_, h.1, rfl, h.2⟩)

theorem pr12a_s7 {Q : Exit → Act → World → Prop} {w0 : World} {x : Nat → Value} (a b : Int) (HA64 : Hid (In64 a)) (HB64 : Hid (In64 b)) (H0 : Hid (b ≠ 0)) (p9 : Nat) (HP : Hid (In64 (a * b))) (hb9 : BoxOn w0 p9 1 (a * b) ⟨#[]⟩) (hWd : ∀ X, Below w0.heap.size w0 X → Wd X) (hx0 : x 0 = .int .i64 a) (hx1 : x 1 = .int .i64 b) (hx9 : x 9 = .pointer (some ⟨p9, 0, none⟩)) (hx10 : x 10 = .int .i64 0) : OpStep Tryz.prog pr12Ops Q (pr12aF a b HA64 HB64 H0 p9 HP) w0 164 x 7 := by
  intro act w hb hk hF
  have g144 : act.eval (.tmp 144) = .bool false := hF 2 (of_decide_eq_true (by kernel_rfl)) 144 (by kernel_rfl)
  have g0 : act.eval (.tmp 0) = .int .i64 a := (hk 0 (by decide) (by kernel_rfl)).trans hx0
  exact step_move (show opO pr12Ops 7 = some (.move (.tmp 0)) by kernel_rfl) (.told 2 false 144 (by kernel_rfl) (by kernel_rfl) g144) g0 ⟨rfl, Below.refl _ _⟩

theorem pr12a_s8 {Q : Exit → Act → World → Prop} {w0 : World} {x : Nat → Value} (a b : Int) (HA64 : Hid (In64 a)) (HB64 : Hid (In64 b)) (H0 : Hid (b ≠ 0)) (p9 : Nat) (HP : Hid (In64 (a * b))) (hb9 : BoxOn w0 p9 1 (a * b) ⟨#[]⟩) (hWd : ∀ X, Below w0.heap.size w0 X → Wd X) (hx0 : x 0 = .int .i64 a) (hx1 : x 1 = .int .i64 b) (hx9 : x 9 = .pointer (some ⟨p9, 0, none⟩)) (hx10 : x 10 = .int .i64 0) : OpStep Tryz.prog pr12Ops Q (pr12aF a b HA64 HB64 H0 p9 HP) w0 164 x 8 := by
  intro act w hb hk hF
  have g144 : act.eval (.tmp 144) = .bool false := hF 2 (of_decide_eq_true (by kernel_rfl)) 144 (by kernel_rfl)
  have g149 : act.eval (.tmp 149) = .int .i64 a := hF 7 (of_decide_eq_true (by kernel_rfl)) 149 (by kernel_rfl)
  exact step_call (f := 15) (xs := #[.tmp 149]) (by kernel_rfl) (.told 2 false 144 (by kernel_rfl) (by kernel_rfl) g144) (map1 g149) (enters_of Tryz.func15 (by kernel_rfl) rfl) ((num_any a w).mono fun e w' h => ⟨_, h.1, rfl, h.2⟩)

theorem pr12a_s9 {Q : Exit → Act → World → Prop} {w0 : World} {x : Nat → Value} (a b : Int) (HA64 : Hid (In64 a)) (HB64 : Hid (In64 b)) (H0 : Hid (b ≠ 0)) (p9 : Nat) (HP : Hid (In64 (a * b))) (hb9 : BoxOn w0 p9 1 (a * b) ⟨#[]⟩) (hWd : ∀ X, Below w0.heap.size w0 X → Wd X) (hx0 : x 0 = .int .i64 a) (hx1 : x 1 = .int .i64 b) (hx9 : x 9 = .pointer (some ⟨p9, 0, none⟩)) (hx10 : x 10 = .int .i64 0) : OpStep Tryz.prog pr12Ops Q (pr12aF a b HA64 HB64 H0 p9 HP) w0 164 x 9 := by
  intro act w hb hk hF
  have g144 : act.eval (.tmp 144) = .bool false := hF 2 (of_decide_eq_true (by kernel_rfl)) 144 (by kernel_rfl)
  have g148 : act.eval (.tmp 148) = vv 1 a ⟨#[]⟩ := hF 6 (of_decide_eq_true (by kernel_rfl)) 148 (by kernel_rfl)
  have g150 : act.eval (.tmp 150) = vv 1 a ⟨#[]⟩ := hF 8 (of_decide_eq_true (by kernel_rfl)) 150 (by kernel_rfl)
  exact step_eqV (show opO pr12Ops 9 = some (.binOp .eql 24 (.tmp 148) (.tmp 150) 24) by kernel_rfl) (.told 2 false 144 (by kernel_rfl) (by kernel_rfl) g144) g148 g150 (same_self _ _ _) ⟨rfl, Below.refl _ _⟩

theorem pr12a_s10 {Q : Exit → Act → World → Prop} {w0 : World} {x : Nat → Value} (a b : Int) (HA64 : Hid (In64 a)) (HB64 : Hid (In64 b)) (H0 : Hid (b ≠ 0)) (p9 : Nat) (HP : Hid (In64 (a * b))) (hb9 : BoxOn w0 p9 1 (a * b) ⟨#[]⟩) (hWd : ∀ X, Below w0.heap.size w0 X → Wd X) (hx0 : x 0 = .int .i64 a) (hx1 : x 1 = .int .i64 b) (hx9 : x 9 = .pointer (some ⟨p9, 0, none⟩)) (hx10 : x 10 = .int .i64 0) : OpStep Tryz.prog pr12Ops Q (pr12aF a b HA64 HB64 H0 p9 HP) w0 164 x 10 := by
  intro act w hb hk hF
  have g144 : act.eval (.tmp 144) = .bool false := hF 2 (of_decide_eq_true (by kernel_rfl)) 144 (by kernel_rfl)
  have g151 : act.eval (.tmp 151) = .bool true := hF 9 (of_decide_eq_true (by kernel_rfl)) 151 (by kernel_rfl)
  exact step_move (show opO pr12Ops 10 = some (.move (.tmp 151)) by kernel_rfl) (.told 2 false 144 (by kernel_rfl) (by kernel_rfl) g144) g151 ⟨rfl, Below.refl _ _⟩

theorem pr12a_s11 {Q : Exit → Act → World → Prop} {w0 : World} {x : Nat → Value} (a b : Int) (HA64 : Hid (In64 a)) (HB64 : Hid (In64 b)) (H0 : Hid (b ≠ 0)) (p9 : Nat) (HP : Hid (In64 (a * b))) (hb9 : BoxOn w0 p9 1 (a * b) ⟨#[]⟩) (hWd : ∀ X, Below w0.heap.size w0 X → Wd X) (hx0 : x 0 = .int .i64 a) (hx1 : x 1 = .int .i64 b) (hx9 : x 9 = .pointer (some ⟨p9, 0, none⟩)) (hx10 : x 10 = .int .i64 0) : OpStep Tryz.prog pr12Ops Q (pr12aF a b HA64 HB64 H0 p9 HP) w0 164 x 11 := by
  intro act w hb hk hF
  have g152 : act.eval (.tmp 152) = .bool true := hF 10 (of_decide_eq_true (by kernel_rfl)) 152 (by kernel_rfl)
  have g9 : act.eval (.tmp 9) = .pointer (some ⟨p9, 0, none⟩) := (hk 9 (by decide) (by kernel_rfl)).trans hx9
  exact step_loadB (show opO pr12Ops 11 = some (.load 24 (.tmp 9)) by kernel_rfl) (.told 10 true 152 (by kernel_rfl) (by kernel_rfl) g152) g9 (hb9 w hb) ⟨rfl, Below.refl _ _⟩

theorem pr12a_s12 {Q : Exit → Act → World → Prop} {w0 : World} {x : Nat → Value} (a b : Int) (HA64 : Hid (In64 a)) (HB64 : Hid (In64 b)) (H0 : Hid (b ≠ 0)) (p9 : Nat) (HP : Hid (In64 (a * b))) (hb9 : BoxOn w0 p9 1 (a * b) ⟨#[]⟩) (hWd : ∀ X, Below w0.heap.size w0 X → Wd X) (hx0 : x 0 = .int .i64 a) (hx1 : x 1 = .int .i64 b) (hx9 : x 9 = .pointer (some ⟨p9, 0, none⟩)) (hx10 : x 10 = .int .i64 0) : OpStep Tryz.prog pr12Ops Q (pr12aF a b HA64 HB64 H0 p9 HP) w0 164 x 12 := by
  intro act w hb hk hF
  have g152 : act.eval (.tmp 152) = .bool true := hF 10 (of_decide_eq_true (by kernel_rfl)) 152 (by kernel_rfl)
  have g1 : act.eval (.tmp 1) = .int .i64 b := (hk 1 (by decide) (by kernel_rfl)).trans hx1
  exact step_move (show opO pr12Ops 12 = some (.move (.tmp 1)) by kernel_rfl) (.told 10 true 152 (by kernel_rfl) (by kernel_rfl) g152) g1 ⟨rfl, Below.refl _ _⟩

theorem pr12a_s13 {Q : Exit → Act → World → Prop} {w0 : World} {x : Nat → Value} (a b : Int) (HA64 : Hid (In64 a)) (HB64 : Hid (In64 b)) (H0 : Hid (b ≠ 0)) (p9 : Nat) (HP : Hid (In64 (a * b))) (hb9 : BoxOn w0 p9 1 (a * b) ⟨#[]⟩) (hWd : ∀ X, Below w0.heap.size w0 X → Wd X) (hx0 : x 0 = .int .i64 a) (hx1 : x 1 = .int .i64 b) (hx9 : x 9 = .pointer (some ⟨p9, 0, none⟩)) (hx10 : x 10 = .int .i64 0) : OpStep Tryz.prog pr12Ops Q (pr12aF a b HA64 HB64 H0 p9 HP) w0 164 x 13 := by
  intro act w hb hk hF
  have g152 : act.eval (.tmp 152) = .bool true := hF 10 (of_decide_eq_true (by kernel_rfl)) 152 (by kernel_rfl)
  have g154 : act.eval (.tmp 154) = .int .i64 b := hF 12 (of_decide_eq_true (by kernel_rfl)) 154 (by kernel_rfl)
  exact step_call (f := 15) (xs := #[.tmp 154]) (by kernel_rfl) (.told 10 true 152 (by kernel_rfl) (by kernel_rfl) g152) (map1 g154) (enters_of Tryz.func15 (by kernel_rfl) rfl) ((num_any b w).mono fun e w' h => ⟨_, h.1, rfl, h.2⟩)

theorem pr12a_s14 {Q : Exit → Act → World → Prop} {w0 : World} {x : Nat → Value} (a b : Int) (HA64 : Hid (In64 a)) (HB64 : Hid (In64 b)) (H0 : Hid (b ≠ 0)) (p9 : Nat) (HP : Hid (In64 (a * b))) (hb9 : BoxOn w0 p9 1 (a * b) ⟨#[]⟩) (hWd : ∀ X, Below w0.heap.size w0 X → Wd X) (hx0 : x 0 = .int .i64 a) (hx1 : x 1 = .int .i64 b) (hx9 : x 9 = .pointer (some ⟨p9, 0, none⟩)) (hx10 : x 10 = .int .i64 0) : OpStep Tryz.prog pr12Ops Q (pr12aF a b HA64 HB64 H0 p9 HP) w0 164 x 14 := by
  intro act w hb hk hF
  have g152 : act.eval (.tmp 152) = .bool true := hF 10 (of_decide_eq_true (by kernel_rfl)) 152 (by kernel_rfl)
  have g153 : act.eval (.tmp 153) = vv 1 (a * b) ⟨#[]⟩ := hF 11 (of_decide_eq_true (by kernel_rfl)) 153 (by kernel_rfl)
  have g155 : act.eval (.tmp 155) = vv 1 b ⟨#[]⟩ := hF 13 (of_decide_eq_true (by kernel_rfl)) 155 (by kernel_rfl)
  exact step_call (f := 29) (xs := #[.const (.string ⟨#[37]⟩), .tmp 153, .tmp 155]) (by kernel_rfl) (.told 10 true 152 (by kernel_rfl) (by kernel_rfl) g152) (map3 rfl g153 g155) (enters_of Tryz.func29 (by kernel_rfl) rfl) ((both_any ⟨#[37]⟩ 1 (a * b) ⟨#[]⟩ 1 b ⟨#[]⟩ 1 0 ⟨#[]⟩ 0 w (fun Y _ => opI_rem' (a * b) b 0 Y HP.out H0.out (back_math a b _ HA64.out rfl H0.out).2.1)).mono fun e w' h => ⟨_, h.1, rfl, h.2⟩)

theorem pr12a_s15 {Q : Exit → Act → World → Prop} {w0 : World} {x : Nat → Value} (a b : Int) (HA64 : Hid (In64 a)) (HB64 : Hid (In64 b)) (H0 : Hid (b ≠ 0)) (p9 : Nat) (HP : Hid (In64 (a * b))) (hb9 : BoxOn w0 p9 1 (a * b) ⟨#[]⟩) (hWd : ∀ X, Below w0.heap.size w0 X → Wd X) (hx0 : x 0 = .int .i64 a) (hx1 : x 1 = .int .i64 b) (hx9 : x 9 = .pointer (some ⟨p9, 0, none⟩)) (hx10 : x 10 = .int .i64 0) : OpStep Tryz.prog pr12Ops Q (pr12aF a b HA64 HB64 H0 p9 HP) w0 164 x 15 := by
  intro act w hb hk hF
  have g152 : act.eval (.tmp 152) = .bool true := hF 10 (of_decide_eq_true (by kernel_rfl)) 152 (by kernel_rfl)
  exact step_call (f := 15) (xs := #[.const (.int .i64 0)]) (by kernel_rfl) (.told 10 true 152 (by kernel_rfl) (by kernel_rfl) g152) (map1 rfl) (enters_of Tryz.func15 (by kernel_rfl) rfl) ((num_any 0 w).mono fun e w' h => ⟨_, h.1, rfl, h.2⟩)

theorem pr12a_s16 {Q : Exit → Act → World → Prop} {w0 : World} {x : Nat → Value} (a b : Int) (HA64 : Hid (In64 a)) (HB64 : Hid (In64 b)) (H0 : Hid (b ≠ 0)) (p9 : Nat) (HP : Hid (In64 (a * b))) (hb9 : BoxOn w0 p9 1 (a * b) ⟨#[]⟩) (hWd : ∀ X, Below w0.heap.size w0 X → Wd X) (hx0 : x 0 = .int .i64 a) (hx1 : x 1 = .int .i64 b) (hx9 : x 9 = .pointer (some ⟨p9, 0, none⟩)) (hx10 : x 10 = .int .i64 0) : OpStep Tryz.prog pr12Ops Q (pr12aF a b HA64 HB64 H0 p9 HP) w0 164 x 16 := by
  intro act w hb hk hF
  have g152 : act.eval (.tmp 152) = .bool true := hF 10 (of_decide_eq_true (by kernel_rfl)) 152 (by kernel_rfl)
  have g156 : act.eval (.tmp 156) = vv 1 0 ⟨#[]⟩ := hF 14 (of_decide_eq_true (by kernel_rfl)) 156 (by kernel_rfl)
  have g157 : act.eval (.tmp 157) = vv 1 0 ⟨#[]⟩ := hF 15 (of_decide_eq_true (by kernel_rfl)) 157 (by kernel_rfl)
  exact step_eqV (show opO pr12Ops 16 = some (.binOp .eql 24 (.tmp 156) (.tmp 157) 24) by kernel_rfl) (.told 10 true 152 (by kernel_rfl) (by kernel_rfl) g152) g156 g157 (same_self _ _ _) ⟨rfl, Below.refl _ _⟩

theorem pr12a_s17 {Q : Exit → Act → World → Prop} {w0 : World} {x : Nat → Value} (a b : Int) (HA64 : Hid (In64 a)) (HB64 : Hid (In64 b)) (H0 : Hid (b ≠ 0)) (p9 : Nat) (HP : Hid (In64 (a * b))) (hb9 : BoxOn w0 p9 1 (a * b) ⟨#[]⟩) (hWd : ∀ X, Below w0.heap.size w0 X → Wd X) (hx0 : x 0 = .int .i64 a) (hx1 : x 1 = .int .i64 b) (hx9 : x 9 = .pointer (some ⟨p9, 0, none⟩)) (hx10 : x 10 = .int .i64 0) : OpStep Tryz.prog pr12Ops Q (pr12aF a b HA64 HB64 H0 p9 HP) w0 164 x 17 := by
  intro act w hb hk hF
  have g144 : act.eval (.tmp 144) = .bool false := hF 2 (of_decide_eq_true (by kernel_rfl)) 144 (by kernel_rfl)
  have g152 : act.eval (.tmp 152) = .bool true := hF 10 (of_decide_eq_true (by kernel_rfl)) 152 (by kernel_rfl)
  have g158 : act.eval (.tmp 158) = .bool true := hF 16 (of_decide_eq_true (by kernel_rfl)) 158 (by kernel_rfl)
  exact step_pickT (show opO pr12Ops 17 = some (.pick (.tmp 152) (.tmp 158) (.const (.bool false))) by kernel_rfl) (.told 2 false 144 (by kernel_rfl) (by kernel_rfl) g144) g152 g158 ⟨rfl, Below.refl _ _⟩

theorem pr12a_s18 {Q : Exit → Act → World → Prop} {w0 : World} {x : Nat → Value} (a b : Int) (HA64 : Hid (In64 a)) (HB64 : Hid (In64 b)) (H0 : Hid (b ≠ 0)) (p9 : Nat) (HP : Hid (In64 (a * b))) (hb9 : BoxOn w0 p9 1 (a * b) ⟨#[]⟩) (hWd : ∀ X, Below w0.heap.size w0 X → Wd X) (hx0 : x 0 = .int .i64 a) (hx1 : x 1 = .int .i64 b) (hx9 : x 9 = .pointer (some ⟨p9, 0, none⟩)) (hx10 : x 10 = .int .i64 0) : OpStep Tryz.prog pr12Ops Q (pr12aF a b HA64 HB64 H0 p9 HP) w0 164 x 18 := by
  intro act w hb hk hF
  have g144 : act.eval (.tmp 144) = .bool false := hF 2 (of_decide_eq_true (by kernel_rfl)) 144 (by kernel_rfl)
  have g159 : act.eval (.tmp 159) = .bool true := hF 17 (of_decide_eq_true (by kernel_rfl)) 159 (by kernel_rfl)
  exact step_pickF (show opO pr12Ops 18 = some (.pick (.tmp 144) (.const (.bool true)) (.tmp 159)) by kernel_rfl) (.free (by kernel_rfl)) g144 g159 ⟨rfl, Below.refl _ _⟩

theorem pr12a_s19 {Q : Exit → Act → World → Prop} {w0 : World} {x : Nat → Value} (a b : Int) (HA64 : Hid (In64 a)) (HB64 : Hid (In64 b)) (H0 : Hid (b ≠ 0)) (p9 : Nat) (HP : Hid (In64 (a * b))) (hb9 : BoxOn w0 p9 1 (a * b) ⟨#[]⟩) (hWd : ∀ X, Below w0.heap.size w0 X → Wd X) (hx0 : x 0 = .int .i64 a) (hx1 : x 1 = .int .i64 b) (hx9 : x 9 = .pointer (some ⟨p9, 0, none⟩)) (hx10 : x 10 = .int .i64 0) : OpStep Tryz.prog pr12Ops Q (pr12aF a b HA64 HB64 H0 p9 HP) w0 164 x 19 := by
  intro act w hb hk hF
  have g160 : act.eval (.tmp 160) = .bool true := hF 18 (of_decide_eq_true (by kernel_rfl)) 160 (by kernel_rfl)
  exact step_move (show opO pr12Ops 19 = some (.move (.tmp 160)) by kernel_rfl) (.free (by kernel_rfl)) g160 ⟨rfl, Below.refl _ _⟩

theorem pr12a_s20 {Q : Exit → Act → World → Prop} {w0 : World} {x : Nat → Value} (a b : Int) (HA64 : Hid (In64 a)) (HB64 : Hid (In64 b)) (H0 : Hid (b ≠ 0)) (p9 : Nat) (HP : Hid (In64 (a * b))) (hb9 : BoxOn w0 p9 1 (a * b) ⟨#[]⟩) (hWd : ∀ X, Below w0.heap.size w0 X → Wd X) (hx0 : x 0 = .int .i64 a) (hx1 : x 1 = .int .i64 b) (hx9 : x 9 = .pointer (some ⟨p9, 0, none⟩)) (hx10 : x 10 = .int .i64 0) : OpStep Tryz.prog pr12Ops Q (pr12aF a b HA64 HB64 H0 p9 HP) w0 164 x 20 := by
  intro act w hb hk hF
  have g161 : act.eval (.tmp 161) = .bool true := hF 19 (of_decide_eq_true (by kernel_rfl)) 161 (by kernel_rfl)
  exact step_call (f := 26) (xs := #[]) (by kernel_rfl) (.told 19 true 161 (by kernel_rfl) (by kernel_rfl) g161) (map0 _) (enters_of Tryz.func26 (by kernel_rfl) rfl) ((awake_any w (hWd w hb)).mono fun e w' h => ⟨_, h.1, rfl, h.2⟩)

theorem pr12a_s21 {Q : Exit → Act → World → Prop} {w0 : World} {x : Nat → Value} (a b : Int) (HA64 : Hid (In64 a)) (HB64 : Hid (In64 b)) (H0 : Hid (b ≠ 0)) (p9 : Nat) (HP : Hid (In64 (a * b))) (hb9 : BoxOn w0 p9 1 (a * b) ⟨#[]⟩) (hWd : ∀ X, Below w0.heap.size w0 X → Wd X) (hx0 : x 0 = .int .i64 a) (hx1 : x 1 = .int .i64 b) (hx9 : x 9 = .pointer (some ⟨p9, 0, none⟩)) (hx10 : x 10 = .int .i64 0) : OpStep Tryz.prog pr12Ops Q (pr12aF a b HA64 HB64 H0 p9 HP) w0 164 x 21 := by
  intro act w hb hk hF
  have g161 : act.eval (.tmp 161) = .bool true := hF 19 (of_decide_eq_true (by kernel_rfl)) 161 (by kernel_rfl)
  have g162 : act.eval (.tmp 162) = .bool true := hF 20 (of_decide_eq_true (by kernel_rfl)) 162 (by kernel_rfl)
  exact step_pickT (show opO pr12Ops 21 = some (.pick (.tmp 161) (.tmp 162) (.const (.bool false))) by kernel_rfl) (.free (by kernel_rfl)) g161 g162 ⟨rfl, Below.refl _ _⟩

theorem pr12a_s22 {Q : Exit → Act → World → Prop} {w0 : World} {x : Nat → Value} (a b : Int) (HA64 : Hid (In64 a)) (HB64 : Hid (In64 b)) (H0 : Hid (b ≠ 0)) (p9 : Nat) (HP : Hid (In64 (a * b))) (hb9 : BoxOn w0 p9 1 (a * b) ⟨#[]⟩) (hWd : ∀ X, Below w0.heap.size w0 X → Wd X) (hx0 : x 0 = .int .i64 a) (hx1 : x 1 = .int .i64 b) (hx9 : x 9 = .pointer (some ⟨p9, 0, none⟩)) (hx10 : x 10 = .int .i64 0) : OpStep Tryz.prog pr12Ops Q (pr12aF a b HA64 HB64 H0 p9 HP) w0 164 x 22 := by
  intro act w hb hk hF
  have g163 : act.eval (.tmp 163) = .bool true := hF 21 (of_decide_eq_true (by kernel_rfl)) 163 (by kernel_rfl)
  exact step_assign (show opO pr12Ops 22 = some (.assign (.tmp 163)) by kernel_rfl) (.free (by kernel_rfl)) g163 ⟨rfl, Below.refl _ _⟩

theorem pr12a {Q : Exit → Act → World → Prop} {a0 : Act} {w0 : World} (a b : Int) (HA64 : Hid (In64 a)) (HB64 : Hid (In64 b)) (H0 : Hid (b ≠ 0)) (p9 : Nat) (HP : Hid (In64 (a * b))) (hb9 : BoxOn w0 p9 1 (a * b) ⟨#[]⟩) (hWd : ∀ X, Below w0.heap.size w0 X → Wd X) (hx0 : a0.tmps.getD 0 undef = .int .i64 a) (hx1 : a0.tmps.getD 1 undef = .int .i64 b) (hx9 : a0.tmps.getD 9 undef = .pointer (some ⟨p9, 0, none⟩)) (hx10 : a0.tmps.getD 10 undef = .int .i64 0) (hs : a0.tmps.size = 164)
    (hend : ∀ (V : Nat → Value) (X : World), Below w0.heap.size w0 X → V 22 = .bool true → Q .normal ⟨fillT pr12Ops a0.tmps V, a0.defers⟩ X) : (Code.region 12 pr12Ops true).wp Tryz.prog Q a0 w0 := by
  refine wp_region_steps (by kernel_rfl) (pr12aF a b HA64 HB64 H0 p9 HP) (pr12aF_mono a b HA64 HB64 H0 p9 HP) (by rw [hs]; kernel_rfl) ?_ ?_
  · rw [hs]
    have e : pr12Ops.size = 23 := by kernel_rfl
    rw [e]
    have u1 : ∀ i, i < 1 → OpStep Tryz.prog pr12Ops Q (pr12aF a b HA64 HB64 H0 p9 HP) w0 164 (fun t => a0.tmps.getD t undef) i := upto_succ upto_zero (pr12a_s0 a b HA64 HB64 H0 p9 HP hb9 hWd hx0 hx1 hx9 hx10)
    have u2 : ∀ i, i < 2 → OpStep Tryz.prog pr12Ops Q (pr12aF a b HA64 HB64 H0 p9 HP) w0 164 (fun t => a0.tmps.getD t undef) i := upto_succ u1 (pr12a_s1 a b HA64 HB64 H0 p9 HP hb9 hWd hx0 hx1 hx9 hx10)
    have u3 : ∀ i, i < 3 → OpStep Tryz.prog pr12Ops Q (pr12aF a b HA64 HB64 H0 p9 HP) w0 164 (fun t => a0.tmps.getD t undef) i := upto_succ u2 (pr12a_s2 a b HA64 HB64 H0 p9 HP hb9 hWd hx0 hx1 hx9 hx10)
    have u4 : ∀ i, i < 4 → OpStep Tryz.prog pr12Ops Q (pr12aF a b HA64 HB64 H0 p9 HP) w0 164 (fun t => a0.tmps.getD t undef) i := upto_succ u3 (pr12a_s3 a b HA64 HB64 H0 p9 HP hb9 hWd hx0 hx1 hx9 hx10)
    have u5 : ∀ i, i < 5 → OpStep Tryz.prog pr12Ops Q (pr12aF a b HA64 HB64 H0 p9 HP) w0 164 (fun t => a0.tmps.getD t undef) i := upto_succ u4 (pr12a_s4 a b HA64 HB64 H0 p9 HP hb9 hWd hx0 hx1 hx9 hx10)
    have u6 : ∀ i, i < 6 → OpStep Tryz.prog pr12Ops Q (pr12aF a b HA64 HB64 H0 p9 HP) w0 164 (fun t => a0.tmps.getD t undef) i := upto_succ u5 (pr12a_s5 a b HA64 HB64 H0 p9 HP hb9 hWd hx0 hx1 hx9 hx10)
    have u7 : ∀ i, i < 7 → OpStep Tryz.prog pr12Ops Q (pr12aF a b HA64 HB64 H0 p9 HP) w0 164 (fun t => a0.tmps.getD t undef) i := upto_succ u6 (pr12a_s6 a b HA64 HB64 H0 p9 HP hb9 hWd hx0 hx1 hx9 hx10)
    have u8 : ∀ i, i < 8 → OpStep Tryz.prog pr12Ops Q (pr12aF a b HA64 HB64 H0 p9 HP) w0 164 (fun t => a0.tmps.getD t undef) i := upto_succ u7 (pr12a_s7 a b HA64 HB64 H0 p9 HP hb9 hWd hx0 hx1 hx9 hx10)
    have u9 : ∀ i, i < 9 → OpStep Tryz.prog pr12Ops Q (pr12aF a b HA64 HB64 H0 p9 HP) w0 164 (fun t => a0.tmps.getD t undef) i := upto_succ u8 (pr12a_s8 a b HA64 HB64 H0 p9 HP hb9 hWd hx0 hx1 hx9 hx10)
    have u10 : ∀ i, i < 10 → OpStep Tryz.prog pr12Ops Q (pr12aF a b HA64 HB64 H0 p9 HP) w0 164 (fun t => a0.tmps.getD t undef) i := upto_succ u9 (pr12a_s9 a b HA64 HB64 H0 p9 HP hb9 hWd hx0 hx1 hx9 hx10)
    have u11 : ∀ i, i < 11 → OpStep Tryz.prog pr12Ops Q (pr12aF a b HA64 HB64 H0 p9 HP) w0 164 (fun t => a0.tmps.getD t undef) i := upto_succ u10 (pr12a_s10 a b HA64 HB64 H0 p9 HP hb9 hWd hx0 hx1 hx9 hx10)
    have u12 : ∀ i, i < 12 → OpStep Tryz.prog pr12Ops Q (pr12aF a b HA64 HB64 H0 p9 HP) w0 164 (fun t => a0.tmps.getD t undef) i := upto_succ u11 (pr12a_s11 a b HA64 HB64 H0 p9 HP hb9 hWd hx0 hx1 hx9 hx10)
    have u13 : ∀ i, i < 13 → OpStep Tryz.prog pr12Ops Q (pr12aF a b HA64 HB64 H0 p9 HP) w0 164 (fun t => a0.tmps.getD t undef) i := upto_succ u12 (pr12a_s12 a b HA64 HB64 H0 p9 HP hb9 hWd hx0 hx1 hx9 hx10)
    have u14 : ∀ i, i < 14 → OpStep Tryz.prog pr12Ops Q (pr12aF a b HA64 HB64 H0 p9 HP) w0 164 (fun t => a0.tmps.getD t undef) i := upto_succ u13 (pr12a_s13 a b HA64 HB64 H0 p9 HP hb9 hWd hx0 hx1 hx9 hx10)
    have u15 : ∀ i, i < 15 → OpStep Tryz.prog pr12Ops Q (pr12aF a b HA64 HB64 H0 p9 HP) w0 164 (fun t => a0.tmps.getD t undef) i := upto_succ u14 (pr12a_s14 a b HA64 HB64 H0 p9 HP hb9 hWd hx0 hx1 hx9 hx10)
    have u16 : ∀ i, i < 16 → OpStep Tryz.prog pr12Ops Q (pr12aF a b HA64 HB64 H0 p9 HP) w0 164 (fun t => a0.tmps.getD t undef) i := upto_succ u15 (pr12a_s15 a b HA64 HB64 H0 p9 HP hb9 hWd hx0 hx1 hx9 hx10)
    have u17 : ∀ i, i < 17 → OpStep Tryz.prog pr12Ops Q (pr12aF a b HA64 HB64 H0 p9 HP) w0 164 (fun t => a0.tmps.getD t undef) i := upto_succ u16 (pr12a_s16 a b HA64 HB64 H0 p9 HP hb9 hWd hx0 hx1 hx9 hx10)
    have u18 : ∀ i, i < 18 → OpStep Tryz.prog pr12Ops Q (pr12aF a b HA64 HB64 H0 p9 HP) w0 164 (fun t => a0.tmps.getD t undef) i := upto_succ u17 (pr12a_s17 a b HA64 HB64 H0 p9 HP hb9 hWd hx0 hx1 hx9 hx10)
    have u19 : ∀ i, i < 19 → OpStep Tryz.prog pr12Ops Q (pr12aF a b HA64 HB64 H0 p9 HP) w0 164 (fun t => a0.tmps.getD t undef) i := upto_succ u18 (pr12a_s18 a b HA64 HB64 H0 p9 HP hb9 hWd hx0 hx1 hx9 hx10)
    have u20 : ∀ i, i < 20 → OpStep Tryz.prog pr12Ops Q (pr12aF a b HA64 HB64 H0 p9 HP) w0 164 (fun t => a0.tmps.getD t undef) i := upto_succ u19 (pr12a_s19 a b HA64 HB64 H0 p9 HP hb9 hWd hx0 hx1 hx9 hx10)
    have u21 : ∀ i, i < 21 → OpStep Tryz.prog pr12Ops Q (pr12aF a b HA64 HB64 H0 p9 HP) w0 164 (fun t => a0.tmps.getD t undef) i := upto_succ u20 (pr12a_s20 a b HA64 HB64 H0 p9 HP hb9 hWd hx0 hx1 hx9 hx10)
    have u22 : ∀ i, i < 22 → OpStep Tryz.prog pr12Ops Q (pr12aF a b HA64 HB64 H0 p9 HP) w0 164 (fun t => a0.tmps.getD t undef) i := upto_succ u21 (pr12a_s21 a b HA64 HB64 H0 p9 HP hb9 hWd hx0 hx1 hx9 hx10)
    have u23 : ∀ i, i < 23 → OpStep Tryz.prog pr12Ops Q (pr12aF a b HA64 HB64 H0 p9 HP) w0 164 (fun t => a0.tmps.getD t undef) i := upto_succ u22 (pr12a_s22 a b HA64 HB64 H0 p9 HP hb9 hWd hx0 hx1 hx9 hx10)
    exact u23
  · intro V X hb hV
    exact hend V X hb (hV 22 (of_decide_eq_true (by kernel_rfl)) (by kernel_rfl))
def pr12bL (a b : Int) (HA64 : Hid (In64 a)) (HB64 : Hid (In64 b)) (H0 : Hid (b ≠ 0)) (p9 : Nat)  : List (Value → World → Prop) := [IsV (.int .i64 20), IsV (.bool true), IsV (.bool true), IsV (undef), IsV (undef), IsV (undef), IsV (undef), IsV (undef), IsV (undef), IsV (undef), IsV (undef), IsV (undef), IsV (undef), IsV (undef), IsV (undef), IsV (undef), IsV (undef), IsV (undef), IsV (.bool true), IsV (.bool true), IsV (.bool true), IsV (.bool true), IsV (.bool true)]
def pr12bF (a b : Int) (HA64 : Hid (In64 a)) (HB64 : Hid (In64 b)) (H0 : Hid (b ≠ 0)) (p9 : Nat)  (i : Nat) : Value → World → Prop := (pr12bL a b HA64 HB64 H0 p9).getD i AnyF
theorem pr12bF_mono (a b : Int) (HA64 : Hid (In64 a)) (HB64 : Hid (In64 b)) (H0 : Hid (b ≠ 0)) (p9 : Nat)  (i : Nat) (v : Value) (w w' : World) (hp : (pr12bF a b HA64 HB64 H0 p9) i v w) (hb : Below w.heap.size w w') : (pr12bF a b HA64 HB64 H0 p9) i v w' := by
  refine monoL ?_ i v w w' hp hb
  unfold pr12bL
  simp only [List.forall_mem_cons]
  exact ⟨mono_isV _, mono_isV _, mono_isV _, mono_isV _, mono_isV _, mono_isV _, mono_isV _, mono_isV _, mono_isV _, mono_isV _, mono_isV _, mono_isV _, mono_isV _, mono_isV _, mono_isV _, mono_isV _, mono_isV _, mono_isV _, mono_isV _, mono_isV _, mono_isV _, mono_isV _, mono_isV _, fun _ h => by cases h⟩
theorem pr12b_s0 {Q : Exit → Act → World → Prop} {w0 : World} {x : Nat → Value} (a b : Int) (HA64 : Hid (In64 a)) (HB64 : Hid (In64 b)) (H0 : Hid (b ≠ 0)) (p9 : Nat)  (hb9 : BoxOn w0 p9 0 0 ⟨#[]⟩) (hWd : ∀ X, Below w0.heap.size w0 X → Wd X) (hx0 : x 0 = .int .i64 a) (hx1 : x 1 = .int .i64 b) (hx9 : x 9 = .pointer (some ⟨p9, 0, none⟩)) (hx10 : x 10 = .int .i64 20) : OpStep Tryz.prog pr12Ops Q (pr12bF a b HA64 HB64 H0 p9) w0 164 x 0 := by
  intro act w hb hk hF
  have g10 : act.eval (.tmp 10) = .int .i64 20 := (hk 10 (by decide) (by kernel_rfl)).trans hx10
  exact step_move (show opO pr12Ops 0 = some (.move (.tmp 10)) by kernel_rfl) (.free (by kernel_rfl)) g10 ⟨rfl, Below.refl _ _⟩

theorem pr12b_s1 {Q : Exit → Act → World → Prop} {w0 : World} {x : Nat → Value} (a b : Int) (HA64 : Hid (In64 a)) (HB64 : Hid (In64 b)) (H0 : Hid (b ≠ 0)) (p9 : Nat)  (hb9 : BoxOn w0 p9 0 0 ⟨#[]⟩) (hWd : ∀ X, Below w0.heap.size w0 X → Wd X) (hx0 : x 0 = .int .i64 a) (hx1 : x 1 = .int .i64 b) (hx9 : x 9 = .pointer (some ⟨p9, 0, none⟩)) (hx10 : x 10 = .int .i64 20) : OpStep Tryz.prog pr12Ops Q (pr12bF a b HA64 HB64 H0 p9) w0 164 x 1 := by
  intro act w hb hk hF
  have g142 : act.eval (.tmp 142) = .int .i64 20 := hF 0 (of_decide_eq_true (by kernel_rfl)) 142 (by kernel_rfl)
  exact step_neI (show opO pr12Ops 1 = some (.binOp .neq 28 (.tmp 142) (.const (.int .i64 0)) 28) by kernel_rfl) (.free (by kernel_rfl)) g142 rfl (by decide) ⟨rfl, Below.refl _ _⟩

theorem pr12b_s2 {Q : Exit → Act → World → Prop} {w0 : World} {x : Nat → Value} (a b : Int) (HA64 : Hid (In64 a)) (HB64 : Hid (In64 b)) (H0 : Hid (b ≠ 0)) (p9 : Nat)  (hb9 : BoxOn w0 p9 0 0 ⟨#[]⟩) (hWd : ∀ X, Below w0.heap.size w0 X → Wd X) (hx0 : x 0 = .int .i64 a) (hx1 : x 1 = .int .i64 b) (hx9 : x 9 = .pointer (some ⟨p9, 0, none⟩)) (hx10 : x 10 = .int .i64 20) : OpStep Tryz.prog pr12Ops Q (pr12bF a b HA64 HB64 H0 p9) w0 164 x 2 := by
  intro act w hb hk hF
  have g143 : act.eval (.tmp 143) = .bool true := hF 1 (of_decide_eq_true (by kernel_rfl)) 143 (by kernel_rfl)
  exact step_move (show opO pr12Ops 2 = some (.move (.tmp 143)) by kernel_rfl) (.free (by kernel_rfl)) g143 ⟨rfl, Below.refl _ _⟩

theorem pr12b_s3 {Q : Exit → Act → World → Prop} {w0 : World} {x : Nat → Value} (a b : Int) (HA64 : Hid (In64 a)) (HB64 : Hid (In64 b)) (H0 : Hid (b ≠ 0)) (p9 : Nat)  (hb9 : BoxOn w0 p9 0 0 ⟨#[]⟩) (hWd : ∀ X, Below w0.heap.size w0 X → Wd X) (hx0 : x 0 = .int .i64 a) (hx1 : x 1 = .int .i64 b) (hx9 : x 9 = .pointer (some ⟨p9, 0, none⟩)) (hx10 : x 10 = .int .i64 20) : OpStep Tryz.prog pr12Ops Q (pr12bF a b HA64 HB64 H0 p9) w0 164 x 3 := by
  intro act w hb hk hF
  have g144 : act.eval (.tmp 144) = .bool true := hF 2 (of_decide_eq_true (by kernel_rfl)) 144 (by kernel_rfl)
  exact step_off (of_decide_eq_true (by kernel_rfl)) (.told 2 false 144 (by kernel_rfl) (by kernel_rfl) g144) ⟨rfl, Below.refl _ _⟩

theorem pr12b_s4 {Q : Exit → Act → World → Prop} {w0 : World} {x : Nat → Value} (a b : Int) (HA64 : Hid (In64 a)) (HB64 : Hid (In64 b)) (H0 : Hid (b ≠ 0)) (p9 : Nat)  (hb9 : BoxOn w0 p9 0 0 ⟨#[]⟩) (hWd : ∀ X, Below w0.heap.size w0 X → Wd X) (hx0 : x 0 = .int .i64 a) (hx1 : x 1 = .int .i64 b) (hx9 : x 9 = .pointer (some ⟨p9, 0, none⟩)) (hx10 : x 10 = .int .i64 20) : OpStep Tryz.prog pr12Ops Q (pr12bF a b HA64 HB64 H0 p9) w0 164 x 4 := by
  intro act w hb hk hF
  have g144 : act.eval (.tmp 144) = .bool true := hF 2 (of_decide_eq_true (by kernel_rfl)) 144 (by kernel_rfl)
  exact step_off (of_decide_eq_true (by kernel_rfl)) (.told 2 false 144 (by kernel_rfl) (by kernel_rfl) g144) ⟨rfl, Below.refl _ _⟩

theorem pr12b_s5 {Q : Exit → Act → World → Prop} {w0 : World} {x : Nat → Value} (a b : Int) (HA64 : Hid (In64 a)) (HB64 : Hid (In64 b)) (H0 : Hid (b ≠ 0)) (p9 : Nat)  (hb9 : BoxOn w0 p9 0 0 ⟨#[]⟩) (hWd : ∀ X, Below w0.heap.size w0 X → Wd X) (hx0 : x 0 = .int .i64 a) (hx1 : x 1 = .int .i64 b) (hx9 : x 9 = .pointer (some ⟨p9, 0, none⟩)) (hx10 : x 10 = .int .i64 20) : OpStep Tryz.prog pr12Ops Q (pr12bF a b HA64 HB64 H0 p9) w0 164 x 5 := by
  intro act w hb hk hF
  have g144 : act.eval (.tmp 144) = .bool true := hF 2 (of_decide_eq_true (by kernel_rfl)) 144 (by kernel_rfl)
  exact step_off (of_decide_eq_true (by kernel_rfl)) (.told 2 false 144 (by kernel_rfl) (by kernel_rfl) g144) ⟨rfl, Below.refl _ _⟩

theorem pr12b_s6 {Q : Exit → Act → World → Prop} {w0 : World} {x : Nat → Value} (a b : Int) (HA64 : Hid (In64 a)) (HB64 : Hid (In64 b)) (H0 : Hid (b ≠ 0)) (p9 : Nat)  (hb9 : BoxOn w0 p9 0 0 ⟨#[]⟩) (hWd : ∀ X, Below w0.heap.size w0 X → Wd X) (hx0 : x 0 = .int .i64 a) (hx1 : x 1 = .int .i64 b) (hx9 : x 9 = .pointer (some ⟨p9, 0, none⟩)) (hx10 : x 10 = .int .i64 20) : OpStep Tryz.prog pr12Ops Q (pr12bF a b HA64 HB64 H0 p9) w0 164 x 6 := by
  intro act w hb hk hF
  have g144 : act.eval (.tmp 144) = .bool true := hF 2 (of_decide_eq_true (by kernel_rfl)) 144 (by kernel_rfl)
  exact step_off (of_decide_eq_true (by kernel_rfl)) (.told 2 false 144 (by kernel_rfl) (by kernel_rfl) g144) ⟨rfl, Below.refl _ _⟩

theorem pr12b_s7 {Q : Exit → Act → World → Prop} {w0 : World} {x : Nat → Value} (a b : Int) (HA64 : Hid (In64 a)) (HB64 : Hid (In64 b)) (H0 : Hid (b ≠ 0)) (p9 : Nat)  (hb9 : BoxOn w0 p9 0 0 ⟨#[]⟩) (hWd : ∀ X, Below w0.heap.size w0 X → Wd X) (hx0 : x 0 = .int .i64 a) (hx1 : x 1 = .int .i64 b) (hx9 : x 9 = .pointer (some ⟨p9, 0, none⟩)) (hx10 : x 10 = .int .i64 20) : OpStep Tryz.prog pr12Ops Q (pr12bF a b HA64 HB64 H0 p9) w0 164 x 7 := by
  intro act w hb hk hF
  have g144 : act.eval (.tmp 144) = .bool true := hF 2 (of_decide_eq_true (by kernel_rfl)) 144 (by kernel_rfl)
  exact step_off (of_decide_eq_true (by kernel_rfl)) (.told 2 false 144 (by kernel_rfl) (by kernel_rfl) g144) ⟨rfl, Below.refl _ _⟩

theorem pr12b_s8 {Q : Exit → Act → World → Prop} {w0 : World} {x : Nat → Value} (a b : Int) (HA64 : Hid (In64 a)) (HB64 : Hid (In64 b)) (H0 : Hid (b ≠ 0)) (p9 : Nat)  (hb9 : BoxOn w0 p9 0 0 ⟨#[]⟩) (hWd : ∀ X, Below w0.heap.size w0 X → Wd X) (hx0 : x 0 = .int .i64 a) (hx1 : x 1 = .int .i64 b) (hx9 : x 9 = .pointer (some ⟨p9, 0, none⟩)) (hx10 : x 10 = .int .i64 20) : OpStep Tryz.prog pr12Ops Q (pr12bF a b HA64 HB64 H0 p9) w0 164 x 8 := by
  intro act w hb hk hF
  have g144 : act.eval (.tmp 144) = .bool true := hF 2 (of_decide_eq_true (by kernel_rfl)) 144 (by kernel_rfl)
  exact step_off (of_decide_eq_true (by kernel_rfl)) (.told 2 false 144 (by kernel_rfl) (by kernel_rfl) g144) ⟨rfl, Below.refl _ _⟩

theorem pr12b_s9 {Q : Exit → Act → World → Prop} {w0 : World} {x : Nat → Value} (a b : Int) (HA64 : Hid (In64 a)) (HB64 : Hid (In64 b)) (H0 : Hid (b ≠ 0)) (p9 : Nat)  (hb9 : BoxOn w0 p9 0 0 ⟨#[]⟩) (hWd : ∀ X, Below w0.heap.size w0 X → Wd X) (hx0 : x 0 = .int .i64 a) (hx1 : x 1 = .int .i64 b) (hx9 : x 9 = .pointer (some ⟨p9, 0, none⟩)) (hx10 : x 10 = .int .i64 20) : OpStep Tryz.prog pr12Ops Q (pr12bF a b HA64 HB64 H0 p9) w0 164 x 9 := by
  intro act w hb hk hF
  have g144 : act.eval (.tmp 144) = .bool true := hF 2 (of_decide_eq_true (by kernel_rfl)) 144 (by kernel_rfl)
  exact step_off (of_decide_eq_true (by kernel_rfl)) (.told 2 false 144 (by kernel_rfl) (by kernel_rfl) g144) ⟨rfl, Below.refl _ _⟩

theorem pr12b_s10 {Q : Exit → Act → World → Prop} {w0 : World} {x : Nat → Value} (a b : Int) (HA64 : Hid (In64 a)) (HB64 : Hid (In64 b)) (H0 : Hid (b ≠ 0)) (p9 : Nat)  (hb9 : BoxOn w0 p9 0 0 ⟨#[]⟩) (hWd : ∀ X, Below w0.heap.size w0 X → Wd X) (hx0 : x 0 = .int .i64 a) (hx1 : x 1 = .int .i64 b) (hx9 : x 9 = .pointer (some ⟨p9, 0, none⟩)) (hx10 : x 10 = .int .i64 20) : OpStep Tryz.prog pr12Ops Q (pr12bF a b HA64 HB64 H0 p9) w0 164 x 10 := by
  intro act w hb hk hF
  have g144 : act.eval (.tmp 144) = .bool true := hF 2 (of_decide_eq_true (by kernel_rfl)) 144 (by kernel_rfl)
  exact step_off (of_decide_eq_true (by kernel_rfl)) (.told 2 false 144 (by kernel_rfl) (by kernel_rfl) g144) ⟨rfl, Below.refl _ _⟩

theorem pr12b_s11 {Q : Exit → Act → World → Prop} {w0 : World} {x : Nat → Value} (a b : Int) (HA64 : Hid (In64 a)) (HB64 : Hid (In64 b)) (H0 : Hid (b ≠ 0)) (p9 : Nat)  (hb9 : BoxOn w0 p9 0 0 ⟨#[]⟩) (hWd : ∀ X, Below w0.heap.size w0 X → Wd X) (hx0 : x 0 = .int .i64 a) (hx1 : x 1 = .int .i64 b) (hx9 : x 9 = .pointer (some ⟨p9, 0, none⟩)) (hx10 : x 10 = .int .i64 20) : OpStep Tryz.prog pr12Ops Q (pr12bF a b HA64 HB64 H0 p9) w0 164 x 11 := by
  intro act w hb hk hF
  have g152 : act.eval (.tmp 152) = undef := hF 10 (of_decide_eq_true (by kernel_rfl)) 152 (by kernel_rfl)
  exact step_off (of_decide_eq_true (by kernel_rfl)) (.off 10 true 152 (by kernel_rfl) (by kernel_rfl) g152) ⟨rfl, Below.refl _ _⟩

theorem pr12b_s12 {Q : Exit → Act → World → Prop} {w0 : World} {x : Nat → Value} (a b : Int) (HA64 : Hid (In64 a)) (HB64 : Hid (In64 b)) (H0 : Hid (b ≠ 0)) (p9 : Nat)  (hb9 : BoxOn w0 p9 0 0 ⟨#[]⟩) (hWd : ∀ X, Below w0.heap.size w0 X → Wd X) (hx0 : x 0 = .int .i64 a) (hx1 : x 1 = .int .i64 b) (hx9 : x 9 = .pointer (some ⟨p9, 0, none⟩)) (hx10 : x 10 = .int .i64 20) : OpStep Tryz.prog pr12Ops Q (pr12bF a b HA64 HB64 H0 p9) w0 164 x 12 := by
  intro act w hb hk hF
  have g152 : act.eval (.tmp 152) = undef := hF 10 (of_decide_eq_true (by kernel_rfl)) 152 (by kernel_rfl)
  exact step_off (of_decide_eq_true (by kernel_rfl)) (.off 10 true 152 (by kernel_rfl) (by kernel_rfl) g152) ⟨rfl, Below.refl _ _⟩

theorem pr12b_s13 {Q : Exit → Act → World → Prop} {w0 : World} {x : Nat → Value} (a b : Int) (HA64 : Hid (In64 a)) (HB64 : Hid (In64 b)) (H0 : Hid (b ≠ 0)) (p9 : Nat)  (hb9 : BoxOn w0 p9 0 0 ⟨#[]⟩) (hWd : ∀ X, Below w0.heap.size w0 X → Wd X) (hx0 : x 0 = .int .i64 a) (hx1 : x 1 = .int .i64 b) (hx9 : x 9 = .pointer (some ⟨p9, 0, none⟩)) (hx10 : x 10 = .int .i64 20) : OpStep Tryz.prog pr12Ops Q (pr12bF a b HA64 HB64 H0 p9) w0 164 x 13 := by
  intro act w hb hk hF
  have g152 : act.eval (.tmp 152) = undef := hF 10 (of_decide_eq_true (by kernel_rfl)) 152 (by kernel_rfl)
  exact step_off (of_decide_eq_true (by kernel_rfl)) (.off 10 true 152 (by kernel_rfl) (by kernel_rfl) g152) ⟨rfl, Below.refl _ _⟩

theorem pr12b_s14 {Q : Exit → Act → World → Prop} {w0 : World} {x : Nat → Value} (a b : Int) (HA64 : Hid (In64 a)) (HB64 : Hid (In64 b)) (H0 : Hid (b ≠ 0)) (p9 : Nat)  (hb9 : BoxOn w0 p9 0 0 ⟨#[]⟩) (hWd : ∀ X, Below w0.heap.size w0 X → Wd X) (hx0 : x 0 = .int .i64 a) (hx1 : x 1 = .int .i64 b) (hx9 : x 9 = .pointer (some ⟨p9, 0, none⟩)) (hx10 : x 10 = .int .i64 20) : OpStep Tryz.prog pr12Ops Q (pr12bF a b HA64 HB64 H0 p9) w0 164 x 14 := by
  intro act w hb hk hF
  have g152 : act.eval (.tmp 152) = undef := hF 10 (of_decide_eq_true (by kernel_rfl)) 152 (by kernel_rfl)
  exact step_off (of_decide_eq_true (by kernel_rfl)) (.off 10 true 152 (by kernel_rfl) (by kernel_rfl) g152) ⟨rfl, Below.refl _ _⟩

theorem pr12b_s15 {Q : Exit → Act → World → Prop} {w0 : World} {x : Nat → Value} (a b : Int) (HA64 : Hid (In64 a)) (HB64 : Hid (In64 b)) (H0 : Hid (b ≠ 0)) (p9 : Nat)  (hb9 : BoxOn w0 p9 0 0 ⟨#[]⟩) (hWd : ∀ X, Below w0.heap.size w0 X → Wd X) (hx0 : x 0 = .int .i64 a) (hx1 : x 1 = .int .i64 b) (hx9 : x 9 = .pointer (some ⟨p9, 0, none⟩)) (hx10 : x 10 = .int .i64 20) : OpStep Tryz.prog pr12Ops Q (pr12bF a b HA64 HB64 H0 p9) w0 164 x 15 := by
  intro act w hb hk hF
  have g152 : act.eval (.tmp 152) = undef := hF 10 (of_decide_eq_true (by kernel_rfl)) 152 (by kernel_rfl)
  exact step_off (of_decide_eq_true (by kernel_rfl)) (.off 10 true 152 (by kernel_rfl) (by kernel_rfl) g152) ⟨rfl, Below.refl _ _⟩

theorem pr12b_s16 {Q : Exit → Act → World → Prop} {w0 : World} {x : Nat → Value} (a b : Int) (HA64 : Hid (In64 a)) (HB64 : Hid (In64 b)) (H0 : Hid (b ≠ 0)) (p9 : Nat)  (hb9 : BoxOn w0 p9 0 0 ⟨#[]⟩) (hWd : ∀ X, Below w0.heap.size w0 X → Wd X) (hx0 : x 0 = .int .i64 a) (hx1 : x 1 = .int .i64 b) (hx9 : x 9 = .pointer (some ⟨p9, 0, none⟩)) (hx10 : x 10 = .int .i64 20) : OpStep Tryz.prog pr12Ops Q (pr12bF a b HA64 HB64 H0 p9) w0 164 x 16 := by
  intro act w hb hk hF
  have g152 : act.eval (.tmp 152) = undef := hF 10 (of_decide_eq_true (by kernel_rfl)) 152 (by kernel_rfl)
  exact step_off (of_decide_eq_true (by kernel_rfl)) (.off 10 true 152 (by kernel_rfl) (by kernel_rfl) g152) ⟨rfl, Below.refl _ _⟩

theorem pr12b_s17 {Q : Exit → Act → World → Prop} {w0 : World} {x : Nat → Value} (a b : Int) (HA64 : Hid (In64 a)) (HB64 : Hid (In64 b)) (H0 : Hid (b ≠ 0)) (p9 : Nat)  (hb9 : BoxOn w0 p9 0 0 ⟨#[]⟩) (hWd : ∀ X, Below w0.heap.size w0 X → Wd X) (hx0 : x 0 = .int .i64 a) (hx1 : x 1 = .int .i64 b) (hx9 : x 9 = .pointer (some ⟨p9, 0, none⟩)) (hx10 : x 10 = .int .i64 20) : OpStep Tryz.prog pr12Ops Q (pr12bF a b HA64 HB64 H0 p9) w0 164 x 17 := by
  intro act w hb hk hF
  have g144 : act.eval (.tmp 144) = .bool true := hF 2 (of_decide_eq_true (by kernel_rfl)) 144 (by kernel_rfl)
  exact step_off (of_decide_eq_true (by kernel_rfl)) (.told 2 false 144 (by kernel_rfl) (by kernel_rfl) g144) ⟨rfl, Below.refl _ _⟩

theorem pr12b_s18 {Q : Exit → Act → World → Prop} {w0 : World} {x : Nat → Value} (a b : Int) (HA64 : Hid (In64 a)) (HB64 : Hid (In64 b)) (H0 : Hid (b ≠ 0)) (p9 : Nat)  (hb9 : BoxOn w0 p9 0 0 ⟨#[]⟩) (hWd : ∀ X, Below w0.heap.size w0 X → Wd X) (hx0 : x 0 = .int .i64 a) (hx1 : x 1 = .int .i64 b) (hx9 : x 9 = .pointer (some ⟨p9, 0, none⟩)) (hx10 : x 10 = .int .i64 20) : OpStep Tryz.prog pr12Ops Q (pr12bF a b HA64 HB64 H0 p9) w0 164 x 18 := by
  intro act w hb hk hF
  have g144 : act.eval (.tmp 144) = .bool true := hF 2 (of_decide_eq_true (by kernel_rfl)) 144 (by kernel_rfl)
  exact step_pickT (show opO pr12Ops 18 = some (.pick (.tmp 144) (.const (.bool true)) (.tmp 159)) by kernel_rfl) (.free (by kernel_rfl)) g144 rfl ⟨rfl, Below.refl _ _⟩

theorem pr12b_s19 {Q : Exit → Act → World → Prop} {w0 : World} {x : Nat → Value} (a b : Int) (HA64 : Hid (In64 a)) (HB64 : Hid (In64 b)) (H0 : Hid (b ≠ 0)) (p9 : Nat)  (hb9 : BoxOn w0 p9 0 0 ⟨#[]⟩) (hWd : ∀ X, Below w0.heap.size w0 X → Wd X) (hx0 : x 0 = .int .i64 a) (hx1 : x 1 = .int .i64 b) (hx9 : x 9 = .pointer (some ⟨p9, 0, none⟩)) (hx10 : x 10 = .int .i64 20) : OpStep Tryz.prog pr12Ops Q (pr12bF a b HA64 HB64 H0 p9) w0 164 x 19 := by
  intro act w hb hk hF
  have g160 : act.eval (.tmp 160) = .bool true := hF 18 (of_decide_eq_true (by kernel_rfl)) 160 (by kernel_rfl)
  exact step_move (show opO pr12Ops 19 = some (.move (.tmp 160)) by kernel_rfl) (.free (by kernel_rfl)) g160 ⟨rfl, Below.refl _ _⟩

theorem pr12b_s20 {Q : Exit → Act → World → Prop} {w0 : World} {x : Nat → Value} (a b : Int) (HA64 : Hid (In64 a)) (HB64 : Hid (In64 b)) (H0 : Hid (b ≠ 0)) (p9 : Nat)  (hb9 : BoxOn w0 p9 0 0 ⟨#[]⟩) (hWd : ∀ X, Below w0.heap.size w0 X → Wd X) (hx0 : x 0 = .int .i64 a) (hx1 : x 1 = .int .i64 b) (hx9 : x 9 = .pointer (some ⟨p9, 0, none⟩)) (hx10 : x 10 = .int .i64 20) : OpStep Tryz.prog pr12Ops Q (pr12bF a b HA64 HB64 H0 p9) w0 164 x 20 := by
  intro act w hb hk hF
  have g161 : act.eval (.tmp 161) = .bool true := hF 19 (of_decide_eq_true (by kernel_rfl)) 161 (by kernel_rfl)
  exact step_call (f := 26) (xs := #[]) (by kernel_rfl) (.told 19 true 161 (by kernel_rfl) (by kernel_rfl) g161) (map0 _) (enters_of Tryz.func26 (by kernel_rfl) rfl) ((awake_any w (hWd w hb)).mono fun e w' h => ⟨_, h.1, rfl, h.2⟩)

theorem pr12b_s21 {Q : Exit → Act → World → Prop} {w0 : World} {x : Nat → Value} (a b : Int) (HA64 : Hid (In64 a)) (HB64 : Hid (In64 b)) (H0 : Hid (b ≠ 0)) (p9 : Nat)  (hb9 : BoxOn w0 p9 0 0 ⟨#[]⟩) (hWd : ∀ X, Below w0.heap.size w0 X → Wd X) (hx0 : x 0 = .int .i64 a) (hx1 : x 1 = .int .i64 b) (hx9 : x 9 = .pointer (some ⟨p9, 0, none⟩)) (hx10 : x 10 = .int .i64 20) : OpStep Tryz.prog pr12Ops Q (pr12bF a b HA64 HB64 H0 p9) w0 164 x 21 := by
  intro act w hb hk hF
  have g161 : act.eval (.tmp 161) = .bool true := hF 19 (of_decide_eq_true (by kernel_rfl)) 161 (by kernel_rfl)
  have g162 : act.eval (.tmp 162) = .bool true := hF 20 (of_decide_eq_true (by kernel_rfl)) 162 (by kernel_rfl)
  exact step_pickT (show opO pr12Ops 21 = some (.pick (.tmp 161) (.tmp 162) (.const (.bool false))) by kernel_rfl) (.free (by kernel_rfl)) g161 g162 ⟨rfl, Below.refl _ _⟩

theorem pr12b_s22 {Q : Exit → Act → World → Prop} {w0 : World} {x : Nat → Value} (a b : Int) (HA64 : Hid (In64 a)) (HB64 : Hid (In64 b)) (H0 : Hid (b ≠ 0)) (p9 : Nat)  (hb9 : BoxOn w0 p9 0 0 ⟨#[]⟩) (hWd : ∀ X, Below w0.heap.size w0 X → Wd X) (hx0 : x 0 = .int .i64 a) (hx1 : x 1 = .int .i64 b) (hx9 : x 9 = .pointer (some ⟨p9, 0, none⟩)) (hx10 : x 10 = .int .i64 20) : OpStep Tryz.prog pr12Ops Q (pr12bF a b HA64 HB64 H0 p9) w0 164 x 22 := by
  intro act w hb hk hF
  have g163 : act.eval (.tmp 163) = .bool true := hF 21 (of_decide_eq_true (by kernel_rfl)) 163 (by kernel_rfl)
  exact step_assign (show opO pr12Ops 22 = some (.assign (.tmp 163)) by kernel_rfl) (.free (by kernel_rfl)) g163 ⟨rfl, Below.refl _ _⟩

theorem pr12b {Q : Exit → Act → World → Prop} {a0 : Act} {w0 : World} (a b : Int) (HA64 : Hid (In64 a)) (HB64 : Hid (In64 b)) (H0 : Hid (b ≠ 0)) (p9 : Nat)  (hb9 : BoxOn w0 p9 0 0 ⟨#[]⟩) (hWd : ∀ X, Below w0.heap.size w0 X → Wd X) (hx0 : a0.tmps.getD 0 undef = .int .i64 a) (hx1 : a0.tmps.getD 1 undef = .int .i64 b) (hx9 : a0.tmps.getD 9 undef = .pointer (some ⟨p9, 0, none⟩)) (hx10 : a0.tmps.getD 10 undef = .int .i64 20) (hs : a0.tmps.size = 164)
    (hend : ∀ (V : Nat → Value) (X : World), Below w0.heap.size w0 X → V 22 = .bool true → Q .normal ⟨fillT pr12Ops a0.tmps V, a0.defers⟩ X) : (Code.region 12 pr12Ops true).wp Tryz.prog Q a0 w0 := by
  refine wp_region_steps (by kernel_rfl) (pr12bF a b HA64 HB64 H0 p9) (pr12bF_mono a b HA64 HB64 H0 p9) (by rw [hs]; kernel_rfl) ?_ ?_
  · rw [hs]
    have e : pr12Ops.size = 23 := by kernel_rfl
    rw [e]
    have u1 : ∀ i, i < 1 → OpStep Tryz.prog pr12Ops Q (pr12bF a b HA64 HB64 H0 p9) w0 164 (fun t => a0.tmps.getD t undef) i := upto_succ upto_zero (pr12b_s0 a b HA64 HB64 H0 p9 hb9 hWd hx0 hx1 hx9 hx10)
    have u2 : ∀ i, i < 2 → OpStep Tryz.prog pr12Ops Q (pr12bF a b HA64 HB64 H0 p9) w0 164 (fun t => a0.tmps.getD t undef) i := upto_succ u1 (pr12b_s1 a b HA64 HB64 H0 p9 hb9 hWd hx0 hx1 hx9 hx10)
    have u3 : ∀ i, i < 3 → OpStep Tryz.prog pr12Ops Q (pr12bF a b HA64 HB64 H0 p9) w0 164 (fun t => a0.tmps.getD t undef) i := upto_succ u2 (pr12b_s2 a b HA64 HB64 H0 p9 hb9 hWd hx0 hx1 hx9 hx10)
    have u4 : ∀ i, i < 4 → OpStep Tryz.prog pr12Ops Q (pr12bF a b HA64 HB64 H0 p9) w0 164 (fun t => a0.tmps.getD t undef) i := upto_succ u3 (pr12b_s3 a b HA64 HB64 H0 p9 hb9 hWd hx0 hx1 hx9 hx10)
    have u5 : ∀ i, i < 5 → OpStep Tryz.prog pr12Ops Q (pr12bF a b HA64 HB64 H0 p9) w0 164 (fun t => a0.tmps.getD t undef) i := upto_succ u4 (pr12b_s4 a b HA64 HB64 H0 p9 hb9 hWd hx0 hx1 hx9 hx10)
    have u6 : ∀ i, i < 6 → OpStep Tryz.prog pr12Ops Q (pr12bF a b HA64 HB64 H0 p9) w0 164 (fun t => a0.tmps.getD t undef) i := upto_succ u5 (pr12b_s5 a b HA64 HB64 H0 p9 hb9 hWd hx0 hx1 hx9 hx10)
    have u7 : ∀ i, i < 7 → OpStep Tryz.prog pr12Ops Q (pr12bF a b HA64 HB64 H0 p9) w0 164 (fun t => a0.tmps.getD t undef) i := upto_succ u6 (pr12b_s6 a b HA64 HB64 H0 p9 hb9 hWd hx0 hx1 hx9 hx10)
    have u8 : ∀ i, i < 8 → OpStep Tryz.prog pr12Ops Q (pr12bF a b HA64 HB64 H0 p9) w0 164 (fun t => a0.tmps.getD t undef) i := upto_succ u7 (pr12b_s7 a b HA64 HB64 H0 p9 hb9 hWd hx0 hx1 hx9 hx10)
    have u9 : ∀ i, i < 9 → OpStep Tryz.prog pr12Ops Q (pr12bF a b HA64 HB64 H0 p9) w0 164 (fun t => a0.tmps.getD t undef) i := upto_succ u8 (pr12b_s8 a b HA64 HB64 H0 p9 hb9 hWd hx0 hx1 hx9 hx10)
    have u10 : ∀ i, i < 10 → OpStep Tryz.prog pr12Ops Q (pr12bF a b HA64 HB64 H0 p9) w0 164 (fun t => a0.tmps.getD t undef) i := upto_succ u9 (pr12b_s9 a b HA64 HB64 H0 p9 hb9 hWd hx0 hx1 hx9 hx10)
    have u11 : ∀ i, i < 11 → OpStep Tryz.prog pr12Ops Q (pr12bF a b HA64 HB64 H0 p9) w0 164 (fun t => a0.tmps.getD t undef) i := upto_succ u10 (pr12b_s10 a b HA64 HB64 H0 p9 hb9 hWd hx0 hx1 hx9 hx10)
    have u12 : ∀ i, i < 12 → OpStep Tryz.prog pr12Ops Q (pr12bF a b HA64 HB64 H0 p9) w0 164 (fun t => a0.tmps.getD t undef) i := upto_succ u11 (pr12b_s11 a b HA64 HB64 H0 p9 hb9 hWd hx0 hx1 hx9 hx10)
    have u13 : ∀ i, i < 13 → OpStep Tryz.prog pr12Ops Q (pr12bF a b HA64 HB64 H0 p9) w0 164 (fun t => a0.tmps.getD t undef) i := upto_succ u12 (pr12b_s12 a b HA64 HB64 H0 p9 hb9 hWd hx0 hx1 hx9 hx10)
    have u14 : ∀ i, i < 14 → OpStep Tryz.prog pr12Ops Q (pr12bF a b HA64 HB64 H0 p9) w0 164 (fun t => a0.tmps.getD t undef) i := upto_succ u13 (pr12b_s13 a b HA64 HB64 H0 p9 hb9 hWd hx0 hx1 hx9 hx10)
    have u15 : ∀ i, i < 15 → OpStep Tryz.prog pr12Ops Q (pr12bF a b HA64 HB64 H0 p9) w0 164 (fun t => a0.tmps.getD t undef) i := upto_succ u14 (pr12b_s14 a b HA64 HB64 H0 p9 hb9 hWd hx0 hx1 hx9 hx10)
    have u16 : ∀ i, i < 16 → OpStep Tryz.prog pr12Ops Q (pr12bF a b HA64 HB64 H0 p9) w0 164 (fun t => a0.tmps.getD t undef) i := upto_succ u15 (pr12b_s15 a b HA64 HB64 H0 p9 hb9 hWd hx0 hx1 hx9 hx10)
    have u17 : ∀ i, i < 17 → OpStep Tryz.prog pr12Ops Q (pr12bF a b HA64 HB64 H0 p9) w0 164 (fun t => a0.tmps.getD t undef) i := upto_succ u16 (pr12b_s16 a b HA64 HB64 H0 p9 hb9 hWd hx0 hx1 hx9 hx10)
    have u18 : ∀ i, i < 18 → OpStep Tryz.prog pr12Ops Q (pr12bF a b HA64 HB64 H0 p9) w0 164 (fun t => a0.tmps.getD t undef) i := upto_succ u17 (pr12b_s17 a b HA64 HB64 H0 p9 hb9 hWd hx0 hx1 hx9 hx10)
    have u19 : ∀ i, i < 19 → OpStep Tryz.prog pr12Ops Q (pr12bF a b HA64 HB64 H0 p9) w0 164 (fun t => a0.tmps.getD t undef) i := upto_succ u18 (pr12b_s18 a b HA64 HB64 H0 p9 hb9 hWd hx0 hx1 hx9 hx10)
    have u20 : ∀ i, i < 20 → OpStep Tryz.prog pr12Ops Q (pr12bF a b HA64 HB64 H0 p9) w0 164 (fun t => a0.tmps.getD t undef) i := upto_succ u19 (pr12b_s19 a b HA64 HB64 H0 p9 hb9 hWd hx0 hx1 hx9 hx10)
    have u21 : ∀ i, i < 21 → OpStep Tryz.prog pr12Ops Q (pr12bF a b HA64 HB64 H0 p9) w0 164 (fun t => a0.tmps.getD t undef) i := upto_succ u20 (pr12b_s20 a b HA64 HB64 H0 p9 hb9 hWd hx0 hx1 hx9 hx10)
    have u22 : ∀ i, i < 22 → OpStep Tryz.prog pr12Ops Q (pr12bF a b HA64 HB64 H0 p9) w0 164 (fun t => a0.tmps.getD t undef) i := upto_succ u21 (pr12b_s21 a b HA64 HB64 H0 p9 hb9 hWd hx0 hx1 hx9 hx10)
    have u23 : ∀ i, i < 23 → OpStep Tryz.prog pr12Ops Q (pr12bF a b HA64 HB64 H0 p9) w0 164 (fun t => a0.tmps.getD t undef) i := upto_succ u22 (pr12b_s22 a b HA64 HB64 H0 p9 hb9 hWd hx0 hx1 hx9 hx10)
    exact u23
  · intro V X hb hV
    exact hend V X hb (hV 22 (of_decide_eq_true (by kernel_rfl)) (by kernel_rfl))
end Go.Proofs.YtaidipdofomgoaaGreatDoor
