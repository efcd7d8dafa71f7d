/-
  Strings and bytes, one from the other; the contracts of the law's own helpers same and bad. Conditions: sizes as stated.
-/
import Derived.Test.YtlichbiioejpiaaGetL
import Derived.Laws.IdiomStrings
import Derived.Laws.BytesArg
import Derived.Deep.QuietTactic
import Derived.BigQuiet
namespace Go.Proofs.Ytlichbiioejpiaa
open Go.ChangeShapes Go.WideShapes Go.ChangeAt Go.RowKit
set_option linter.unusedVariables false

/-- a string, as a value -/
def sv (l : List UInt8) : Value := .string ⟨l.toArray⟩

/-- string(b) -/
theorem run_str {w : World} {B : Nat} {A : Option Addr} {l : List UInt8} (h : Rd w B A l) (c : Nat) :
    (convert 24 9 (.slice A l.length c)).run Try.prog w = .ok (.string ⟨l.toArray⟩) w := by
  rcases Nat.eq_zero_or_pos l.length with h0 | h0
  · have hl : l = [] := List.eq_nil_of_length_eq_zero h0
    subst hl
    show (convert 24 9 (.slice A 0 c)).run Try.prog w = _
    rw [run_convert_bytes_string w 24 9 5 A 0 c Try.underlying24 Try.underlying5 Try.underlying9]
    cases A <;> simp [Conv.bytesToString, loadCells]
    all_goals rfl
  · obtain ⟨ad, rfl, _, hc⟩ := h h0
    exact run_convert_bytes_back w 24 9 5 ad c l Try.underlying24 Try.underlying5 Try.underlying9 fun j hj => hc j _ (List.getElem?_eq_getElem hj)

theorem run_strN {w : World} {B : Nat} {A : Option Addr} {l : List UInt8} (h : Rd w B A l) (c : Nat) :
    ∀ n, (convert 24 9 (.slice A l.length c)).run Try.prog (w.drewN n) = .ok (.string ⟨l.toArray⟩) (w.drewN n) := fun n => run_str (h.drewN n) c

def SameRel (ls ls' : List (List UInt8)) (w : World) (x i : Value) (wr : World) : Prop := ∃ k : Nat, k ≤ ls.length ∧ i = .int .i64 k ∧ Below w.heap.size w wr ∧ ls.take k = ls'.take k

theorem below_drewN {B : Nat} {a w : World} (h : Below B a w) (n : Nat) : Below B a (w.drewN n) := ⟨h.os, h.tape, h.output, h.size, h.block⟩

theorem same_any (A : Option Addr) (c : Nat) (ls : List (List UInt8)) (A' : Option Addr) (c' : Nat) (ls' : List (List UInt8)) (w : World) (hl : ls.length ≤ 1099511627776) (hl' : ls'.length ≤ 1099511627776)
    (h : RdL w w.heap.size A ls) (h' : RdL w w.heap.size A' ls') :
    Calls Try.prog 18 #[.slice A ls.length c, .slice A' ls'.length c'] w fun e w' => e = .returned (.bool (decide (ls = ls'))) ∧ Below w.heap.size w w' := by
  by_cases hlen : ls.length = ls'.length
  · have hb : ((ls.length : Int) != ls'.length) = false := by simp [hlen]
    have HL := Lib.hid hlen
    have hle : ls'.length ≤ ls.length := by omega
    have hle' : ls.length ≤ ls'.length := by omega
    clear hlen
    go_enter Try.func18, Try.ntmps18
    go_wp2_with fail
    go_loopw [5, 13] (fun x i wr => SameRel ls ls' w x i wr) (fun _ i _ => ls.length - (intOf i).toNat)
    case atStart => exact ⟨0, Nat.zero_le _, rfl, Below.refl _ _, by simp⟩
    case round =>
      obtain ⟨k, hk, rfl, hbw, htk⟩ := hrel
      have hsz := hbw.size
      have g := h.on hbw
      have g' := h'.on hbw
      by_cases hlt : k < ls.length
      · obtain ⟨ad, m, A1, c1, rfl, hadb, hget, hcell, _, _, hrd⟩ := g.cell hlt
        obtain ⟨ad', m', A1', c1', rfl, hadb', hget', hcell', _, _, hrd'⟩ := g'.cell (show k < ls'.length by omega)
        have r1 := run_strN hrd c1
        have r2 := run_strN hrd' c1'
        have hlt' : k < ls'.length := by omega
        have hi0 : (0 : Int) ≤ k := by omega
        have hi1 : (k : Int) < ls.length := by omega
        have hi2 : (k : Int) < ls'.length := by omega
        have HG := Lib.hid hget
        have HG' := Lib.hid hget'
        have HT := Lib.hid htk
        clear hget hget' htk g g' h h'
        by_cases hmm : m = m'
        · subst hmm
          go_wp2_with fail
          go_quiet (fail)
          go_wp2_with fail
          go_roundw
          case rel => exact ⟨k + 1, by omega, by go_num, below_drewN hbw _, by rw [take_snoc HG.out, take_snoc HG'.out, HT.out]⟩
          case measure => simp [intOf]; omega
        · have hmb : (m == m') = false := by simpa using hmm
          have hne : decide (ls = ls') = false := by
            refine decide_eq_false fun e => hmm ?_
            subst e
            have := HG.out.symm.trans HG'.out
            injection this
          have HNE := Lib.hid hne
          clear hmm hne
          go_wp2_with fail
          go_quiet (fail)
          go_wp2_with fail
          go_ret
          exact ⟨by rw [HNE.out]; rfl, below_drewN hbw _⟩
      · obtain rfl : k = ls.length := by omega
        have heq : decide (ls = ls') = true := by
          refine decide_eq_true ?_
          rw [List.take_length] at htk
          have h2 := HL.out
          rw [h2, List.take_length] at htk
          exact htk
        have HEQ := Lib.hid heq
        clear heq htk
        go_wp2_with fail
        go_ret
        exact ⟨by rw [HEQ.out]; rfl, hbw⟩
  · have hb : ((ls.length : Int) != ls'.length) = true := by rw [bne_iff_ne]; omega
    have hne : decide (ls = ls') = false := decide_eq_false fun e => hlen (by rw [e])
    have HNE := Lib.hid hne
    clear hne
    go_enter Try.func18, Try.ntmps18
    go_wp2_with fail
    go_ret
    exact ⟨by rw [HNE.out]; rfl, Below.refl _ _⟩

/-- []byte(s): a new row -/
theorem Rd.bytes (w : World) (l : List UInt8) : Rd (Lib.bytesWorld w 5 ⟨l.toArray⟩) (Lib.bytesWorld w 5 ⟨l.toArray⟩).heap.size (some ⟨w.heap.size, 0, none⟩) l := by
  intro _
  refine ⟨_, rfl, by rw [Lib.bytesWorld_size]; simp, fun j u hu => ?_⟩
  have hj := getElem_lt hu
  have ha : ((⟨w.heap.size, 0, none⟩ : Addr).add j) = ⟨w.heap.size, j, none⟩ := by
    unfold Addr.add
    by_cases hj0 : j = 0 <;> simp [hj0]
  rw [ha, Lib.bytesWorld_cell w _ _ j (show j < l.toArray.size from by simpa using hj)]
  unfold b8
  simp [List.getD, hu]
theorem below_bytes (w : World) (e : TypeId) (s : ByteArray) : Below w.heap.size w (Lib.bytesWorld w e s) :=
  ⟨rfl, rfl, rfl, by rw [Lib.bytesWorld_size]; omega, fun k hk => Lib.bytesWorld_at_old w e s k hk⟩

/-- []byte(s), as the walk takes it -/
theorem run_bytes (w : World) (s : ByteArray) : (convert 9 24 (.string s)).run Try.prog w = .ok (.slice (some ⟨w.heap.size, 0, none⟩) s.size (grownCap w s.size 0 5)) (Lib.bytesWorld w 5 s) :=
  Lib.run_convert_string_bytes w 9 24 5 s Try.underlying9 Try.underlying24 Try.underlying5

/-- bad: the error of a number that is none -/
theorem bad_any (l : List UInt8) (p : Int) (e : Nat) (w : World) (hl : l.length ≤ 1099511627776) (h : uintAt l p = (0, 0, e)) :
    Calls Try.prog 45 #[.string ⟨l.toArray⟩, .int .i64 p] w fun e' w' => e' = .returned (.int .i64 (e : Nat)) ∧ Below w.heap.size w w' := by
  have kb := run_bytes
  have HU := Lib.hid (GetUint_any (some ⟨w.heap.size, 0, none⟩) (grownCap w l.length 0 5) l p (Lib.bytesWorld w 5 ⟨l.toArray⟩) hl (Rd.bytes w l))
  rw [h] at HU
  have hb := below_bytes w 5 ⟨l.toArray⟩
  go_enter Try.func45, Try.ntmps45
  go_wp2_with fail
  refine HU.out.mono ?_
  rintro e w' ⟨rfl, rfl⟩
  go_wp2_with fail
  go_ret
  exact ⟨rfl, hb⟩
end Go.Proofs.Ytlichbiioejpiaa
