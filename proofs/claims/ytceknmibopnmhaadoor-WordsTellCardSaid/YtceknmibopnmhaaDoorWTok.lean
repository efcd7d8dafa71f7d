/-
  Layer 9: one token: signs, numbers. Conditions: sizes; the library's variable is as its text lays it.
-/
import Derived.Test.YtceknmibopnmhaaDoorWSign
namespace Go.Proofs.YtceknmibopnmhaaDoor
open Go.ChangeShapes Go.WideShapes Go.ChangeAt Go.RowKit
set_option linter.unusedVariables false

/-- a token of the program's -/
abbrev wd (k : Int) (S : ByteArray) (N a e : Int) : Value := .agg #[.int .u8 k, .string S, .int .i64 N, .int .i64 a, .int .i64 e]
abbrev nb : ByteArray := ⟨#[]⟩
/-- what a token is told as: it, how many bytes it has, and whether there is one -/
def tkV (t : M.Tk) : Value := .tuple #[wd t.1 ⟨t.2.1.toArray⟩ t.2.2.1 0 0, .int .i64 t.2.2.2, .bool (decide (t.1 ≠ 0))]
def RetTk (t : M.Tk) (w : World) (e : Ending) (w' : World) : Prop := e = .returned (tkV t) ∧ Below w.heap.size w w'

abbrev w5 (w : World) : World := w.alloc (.cells #[.int .u8 0, .string nb, .int .i64 0, .int .i64 0, .int .i64 0] 24)
theorem w5_below (w : World) : Below w.heap.size w (w5 w) := (Below.refl _ _).alloc (Nat.le_refl _) _
theorem bcell {W w1 : World} (hb : Below W.heap.size W w1) : (∀ b o, b < W.heap.size → w1.cell? ⟨b, o, none⟩ = W.cell? ⟨b, o, none⟩) ∧ (∀ b o, b < W.heap.size → w1.frozen? ⟨b, o, none⟩ = W.frozen? ⟨b, o, none⟩) :=
  ⟨fun b o h => hb.cell (p := ⟨b, o, none⟩) h, fun b o h => hb.frozen (p := ⟨b, o, none⟩) h⟩
/-- the box of a word, as it was made -/
def Box5 (X : World) (b : Nat) (k : Int) (S : ByteArray) (N a e : Int) : Prop := X.heap[b]? = some (.cells #[.int .u8 k, .string S, .int .i64 N, .int .i64 a, .int .i64 e] 24 (0, 0))
theorem Box5.new (w : World) : Box5 (w5 w) w.heap.size 0 nb 0 0 0 := heap_alloc_new w _
theorem Box5.lt {X : World} {b : Nat} {k : Int} {S : ByteArray} {N a e : Int} (h : Box5 X b k S N a e) : b < X.heap.size := (Array.getElem?_eq_some_iff.1 h).1
theorem Box5.on {X Y : World} {b : Nat} {k : Int} {S : ByteArray} {N a e : Int} (h : Box5 X b k S N a e) (hb : Below X.heap.size X Y) : Box5 Y b k S N a e := (hb.block b h.lt).trans h
theorem Box5.cells {X : World} {b : Nat} {k : Int} {S : ByteArray} {N a e : Int} (h : Box5 X b k S N a e) : X.cell? ⟨b, 0, none⟩ = some (.int .u8 k) ∧ X.cell? ⟨b, 1, none⟩ = some (.string S) ∧ X.cell? ⟨b, 2, none⟩ = some (.int .i64 N) ∧ X.cell? ⟨b, 3, none⟩ = some (.int .i64 a) ∧ X.cell? ⟨b, 4, none⟩ = some (.int .i64 e) := by
  unfold Box5 at h
  refine ⟨?_, ?_, ?_, ?_, ?_⟩ <;> simp [World.cell?, h]
theorem Box5.frz {X : World} {b : Nat} {k : Int} {S : ByteArray} {N a e : Int} (h : Box5 X b k S N a e) : X.frozen? ⟨b, 0, none⟩ = false ∧ X.frozen? ⟨b, 1, none⟩ = false ∧ X.frozen? ⟨b, 2, none⟩ = false ∧ X.frozen? ⟨b, 3, none⟩ = false ∧ X.frozen? ⟨b, 4, none⟩ = false := by
  unfold Box5 at h
  refine ⟨?_, ?_, ?_, ?_, ?_⟩ <;> simp [World.frozen?, h]
/-- a world in which the box of the result was written over is still below -/
theorem end5 {w X : World} (h : Below w.heap.size w X) (a b c d e : Value) : Below w.heap.size w (((((X.setCell ⟨w.heap.size, 0, none⟩ a).setCell ⟨w.heap.size, 1, none⟩ b).setCell ⟨w.heap.size, 2, none⟩ c).setCell ⟨w.heap.size, 3, none⟩ d).setCell ⟨w.heap.size, 4, none⟩ e) :=
  ((((h.setCell (p := ⟨w.heap.size, 0, none⟩) (Nat.le_refl _) _).setCell (p := ⟨w.heap.size, 1, none⟩) (Nat.le_refl _) _).setCell (p := ⟨w.heap.size, 2, none⟩) (Nat.le_refl _) _).setCell (p := ⟨w.heap.size, 3, none⟩) (Nat.le_refl _) _).setCell (p := ⟨w.heap.size, 4, none⟩) (Nat.le_refl _) _
theorem w5_named (w : World) : ∃ w1, w.alloc (.cells #[.int .u8 0, .string nb, .int .i64 0, .int .i64 0, .int .i64 0] 24) = w1 ∧ Hid (Box5 w1 w.heap.size 0 nb 0 0 0) ∧ Hid (Below w.heap.size w w1) :=
  ⟨_, rfl, Lib.hid (Box5.new w), Lib.hid (w5_below w)⟩
theorem ext_take (s : ByteArray) (k : Nat) : (s.extract 0 k).data.toList = s.data.toList.take k := by
  rw [ByteArray.data_extract, Array.toList_extract, List.extract_eq_take_drop]
  simp
theorem Clone_any (s : ByteArray) (w : World) (hs : s.size ≤ 65536) : Calls Tryd.prog 52 #[.string s] w fun e w' => e = .returned (.string s) ∧ Below w.heap.size w w' := by
  go_enter Tryd.func52, Tryd.ntmps52
  go_wp2_with fail
  refine (Tryd.stringslite_Clone s _ (by omega)).mono ?_
  rintro e w1 ⟨rfl, hb⟩
  go_wp2_with fail
  go_ret
  exact ⟨rfl, hb⟩
theorem ba_ext {a b : ByteArray} (h : a.data.toList = b.data.toList) : a = b := by
  cases a with
  | mk a => cases b with
    | mk b => cases a; cases b; cases h; rfl
theorem in2_len {l : List UInt8} (h : l.length ≠ 2) : M.in2 l = false := by
  unfold M.in2
  refine decide_eq_false fun h2 => h ?_
  simp only [M.sg2, List.mem_cons, List.not_mem_nil, or_false] at h2
  rcases h2 with rfl | rfl | rfl | rfl <;> rfl
theorem in1_len {l : List UInt8} (h : l.length ≠ 1) : M.in1 l = false := by
  unfold M.in1
  refine decide_eq_false fun h2 => h ?_
  simp only [M.sg1, List.mem_cons, List.not_mem_nil, or_false] at h2
  rcases h2 with rfl | rfl | rfl | rfl | rfl | rfl | rfl | rfl | rfl | rfl | rfl | rfl | rfl | rfl <;> rfl
/-- what the loop over a sign's sizes knows -/
def SgRel (l : List UInt8) (v : Value) : Prop := ∃ j : Nat, v = .int .i64 (j : Int) ∧ j ≤ 2 ∧ j ≤ l.length ∧ (j < 2 → M.in2 (l.take 2) = false) ∧ (j < 1 → M.in1 (l.take 1) = false)
set_option maxRecDepth 100000 in
set_option maxHeartbeats 1000000 in
theorem sign_any (s : ByteArray) (w : World) (hs : s.size ≤ 65536) : Calls Tryd.prog 31 #[.string s] w (RetTk (M.sgT s.data.toList) w) := by
  obtain ⟨w1, hw1, HB5, HB⟩ := w5_named w
  have hlen : s.data.toList.length = s.size := by simp
  have HL := Lib.hid hlen
  have HR : Hid (SgRel s.data.toList (.int .i64 (min 2 (s.size : Int)))) := Lib.hid ⟨min 2 s.size, by congr 1; omega, by omega, by rw [hlen]; omega, fun h => in2_len (by rw [List.length_take, hlen]; omega), fun h => in1_len (by rw [List.length_take, hlen]; omega)⟩
  clear hlen
  go_enter Tryd.func31, Tryd.ntmps31
  go_wp2_with fail
  go_loop [5] (fun v => SgRel s.data.toList v) (fun v => (intOf v).toNat)
  case atStart => exact HR.out
  case round =>
    obtain ⟨j, rfl, hj2, hjl, hn2, hn1⟩ := hrel
    rw [HL.out] at hjl
    by_cases hj : 0 < j
    · have HX := Lib.hid (ext_take s j)
      have HI := Lib.hid (isSign_any (s.extract 0 j))
      have HSZ := Lib.hid (show (s.extract 0 j).size ≤ 65536 by simp; omega)
      rw [HX.out] at HI
      have hle : (s.data.toList.take j).length = j := by rw [List.length_take, HL.out]; omega
      have HV : Hid ((M.in2 (s.data.toList.take j) || M.in1 (s.data.toList.take j)) = true → M.sgT s.data.toList = (6, s.data.toList.take j, 0, j)) := Lib.hid fun h => by
        by_cases h2 : j = 2
        · subst h2
          rw [in1_len (by omega), Bool.or_false] at h
          rw [M.sgT, if_pos h]
        · obtain rfl : j = 1 := by omega
          rw [in2_len (l := s.data.toList.take 1) (by omega), Bool.false_or] at h
          rw [M.sgT, if_neg (by rw [hn2 (by omega)]; simp), if_pos h]
      have HN : Hid ((M.in2 (s.data.toList.take j) || M.in1 (s.data.toList.take j)) = false → SgRel s.data.toList (.int .i64 ((j : Int) - 1))) := Lib.hid fun h => by
        rw [Bool.or_eq_false_iff] at h
        refine ⟨j - 1, by congr 1; omega, by omega, by rw [HL.out]; omega, fun _ => ?_, fun h1 => ?_⟩
        · by_cases h2 : j = 2
          · subst h2; exact h.1
          · exact hn2 (by omega)
        · obtain rfl : j = 1 := by omega
          exact h.2
      clear hn2 hn1 hle
      generalize M.in2 (s.data.toList.take j) = x at HI HV HN
      generalize M.in1 (s.data.toList.take j) = y at HI HV HN
      generalize (x || y) = r at HI HV HN
      cases r
      · have HM := Lib.hid (HN.out rfl)
        go_wp2_with fail
        refine (HI.out _).mono ?_
        rintro e w2 ⟨rfl, rfl⟩
        go_wp2_with fail
        go_round
        case rel => exact HM.out
        case measure => simp [intOf]; omega
      · have HM := Lib.hid (HV.out rfl)
        go_wp2_with fail
        refine (HI.out _).mono ?_
        rintro e w2 ⟨rfl, rfl⟩
        go_wp2_with fail
        refine (Clone_any _ _ HSZ.out).mono ?_
        rintro e w3 ⟨rfl, hb3⟩
        have hB := Lib.hid (HB.out.trans (hb3.mono HB.out.size))
        obtain ⟨c0, c1, c2, c3, c4⟩ := (HB5.out.on hb3).cells
        obtain ⟨f0, f1, f2, f3, f4⟩ := (HB5.out.on hb3).frz
        clear hb3
        go_wp2_with fail
        refine bodyPost_ret (v := .tuple #[wd 6 (s.extract 0 j) 0 0 0, .int .i64 j, .bool true]) (by simp [results, Tryd.results31, go_sem, c0, c1, c2, c3, c4]) rfl ⟨?_, end5 hB.out _ _ _ _ _⟩
        rw [HM.out]
        simp only [tkV]
        rw [show (⟨(s.data.toList.take j).toArray⟩ : ByteArray) = s.extract 0 j from ba_ext (by rw [HX.out])]
        rfl
    · obtain rfl : j = 0 := by omega
      have HM := Lib.hid (show M.sgT s.data.toList = M.no by rw [M.sgT, if_neg (by rw [hn2 (by omega)]; simp), if_neg (by rw [hn1 (by omega)]; simp)])
      obtain ⟨c0, c1, c2, c3, c4⟩ := HB5.out.cells
      obtain ⟨f0, f1, f2, f3, f4⟩ := HB5.out.frz
      clear hn2 hn1
      go_wp2_with fail
      refine bodyPost_ret (v := .tuple #[wd 0 nb 0 0 0, .int .i64 0, .bool false]) (by simp [results, Tryd.results31, go_sem, c0, c1, c2, c3, c4]) rfl ⟨?_, end5 HB.out _ _ _ _ _⟩
      rw [HM.out]
      rfl
end Go.Proofs.YtceknmibopnmhaaDoor
