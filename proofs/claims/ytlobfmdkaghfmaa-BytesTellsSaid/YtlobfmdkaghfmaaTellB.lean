/-
  GetBlob and the document's own GetBlob, each by one contract: what they tell is theirs, and nothing else has changed. Conditions: sizes as stated.
-/
import Derived.Test.YtlobfmdkaghfmaaRefL
namespace Go.Proofs.Ytlobfmdkaghfmaa
open Go.ChangeShapes Go.WideShapes Go.ChangeAt Go.RowKit
set_option linter.unusedVariables false

/-- what GetBlob comes back with -/
def RetB (R : List UInt8 × Nat × Nat) (w : World) (e : Ending) (w' : World) : Prop :=
  ∃ v, e = .returned (.tuple #[v, .int .i64 (R.2.1 : Nat), .int .i64 (R.2.2 : Nat)]) ∧ Own w' w.heap.size v R.1 ∧ Below w.heap.size w w'

theorem blobAt_err (l : List UInt8) (p most : Int) (h : (blobAt l p most).2.2 ≠ 0) : blobAt l p most = ([], 0, (blobAt l p most).2.2) := by
  unfold blobAt at h ⊢
  by_cases h1 : (uintAt l p).2.2 ≠ 0
  · rw [if_pos h1]
  · rw [if_neg h1] at h ⊢
    by_cases h2 : above (uintAt l p).1 most = true
    · rw [if_pos h2]
    · rw [if_neg h2] at h ⊢
      by_cases h3 : above (uintAt l p).1 ((l.length : Int) - (uintAt l p).2.1) = true
      · rw [if_pos h3]
      · rw [if_neg h3] at h
        exact absurd rfl h

theorem GetBlob_one (A : Option Addr) (c : Nat) (l : List UInt8) (p most : Int) (w : World) (hl : l.length ≤ 1099511627776) (hc : l.length ≤ c) (hcm : c ≤ maxLen) (hA : Rd w w.heap.size A l)
    (hm1 : -9223372036854775808 ≤ most) (hm2 : most ≤ 9223372036854775807) :
    Calls Try.prog 12 #[.slice A l.length c, .int .i64 p, .int .i64 most] w (RetB (blobAt l p most) w) := by
  by_cases h0 : (blobAt l p most).2.2 = 0
  · refine (GetBlob_ok A c l p most _ _ w hl hc hcm hA hm1 hm2 (Prod.ext rfl (Prod.ext rfl h0))).mono ?_
    rintro e w' ⟨v, rfl, ho, hb⟩
    exact ⟨v, by rw [h0]; rfl, ho, hb⟩
  · have he := blobAt_err l p most h0
    refine (GetBlob_err A c l p most _ _ _ w hl hc hA hm1 hm2 he h0).mono ?_
    rintro e w' ⟨rfl, rfl⟩
    rw [he]
    exact ⟨_, rfl, World.ownsRow_nil _ _ _ _, Below.refl _ _⟩

theorem refGetBlob_one (A : Option Addr) (c : Nat) (l : List UInt8) (p most : Int) (w : World) (hl : l.length ≤ 274877906944) (hc : l.length ≤ c) (hcm : c ≤ maxLen) (hA : Rd w w.heap.size A l)
    (hm1 : -9223372036854775808 ≤ most) (hm2 : most ≤ 9223372036854775807) :
    Calls Try.prog 17 #[.slice A l.length c, .int .i64 p, .int .i64 most] w (RetB (blobAt l p most) w) := by
  by_cases h0 : (blobAt l p most).2.2 = 0
  · refine (refGetBlob_ok A c l p most _ _ w hl hc hcm hA hm1 hm2 (Prod.ext rfl (Prod.ext rfl h0))).mono ?_
    rintro e w' ⟨v, rfl, ho, hb⟩
    exact ⟨v, by rw [h0]; rfl, ho, hb⟩
  · have he := blobAt_err l p most h0
    refine (refGetBlob_err A c l p most _ _ _ w (by omega) hc hA hm1 hm2 he h0).mono ?_
    rintro e w' ⟨rfl, hb⟩
    rw [he]
    exact ⟨_, rfl, World.ownsRow_nil _ _ _ _, hb⟩

theorem blobAt_len (l : List UInt8) (p most : Int) : (blobAt l p most).1.length ≤ l.length := by
  by_cases h0 : (blobAt l p most).2.2 = 0
  · exact (blobAt_ok l p most _ _ (Prod.ext rfl (Prod.ext rfl h0))).2.2
  · rw [blobAt_err l p most h0]; simp

theorem blobsGo_len (l : List UInt8) (most : Int) : ∀ (n q : Nat), q ≤ l.length → (blobsGo l most n q).1.length + q ≤ l.length ∨ (blobsGo l most n q).1 = []
  | 0, q, h => .inr rfl
  | n + 1, q, h => by
    by_cases h1 : (blobAt l q most).2.2 = 0
    · have hb := blobAt_ok l q most _ _ (Prod.ext rfl (Prod.ext rfl h1))
      have ih := blobsGo_len l most n (blobAt l q most).2.1 hb.2.1
      unfold blobsGo
      rw [if_neg (by simpa using h1)]
      by_cases h2 : (blobsGo l most n (blobAt l q most).2.1).2.2 = 0
      · rw [if_neg (by simpa using h2)]
        left
        simp only [List.length_cons]
        have hq : q < (blobAt l q most).2.1 := by simpa using hb.1
        rcases ih with ih | ih
        · omega
        · rw [ih]; simp; omega
      · rw [if_pos h2]
        exact .inr rfl
    · unfold blobsGo
      rw [if_pos h1]
      exact .inr rfl
theorem blobsAt_len (l : List UInt8) (p many most : Int) : (blobsAt l p many most).1.length ≤ l.length := by
  unfold blobsAt
  by_cases h0 : (uintAt l p).2.2 ≠ 0
  · rw [if_pos h0]; simp
  · rw [if_neg h0]
    by_cases h1 : above (uintAt l p).1 many = true
    · rw [if_pos h1]; simp
    · rw [if_neg h1]
      rcases blobsGo_len l most (uintAt l p).1 (uintAt l p).2.1 (uintAt_lt l p).2.1 with h | h
      · omega
      · rw [h]; simp

/-- []byte(s) in a region that draws: memory of its own that holds s -/
theorem step_bytes {w : World} {ops : Array Oper} {o : Oper} {a : Act} {K : Act → World → Prop} {Q : Exit → Act → World → Prop} {E : Prop} (hgd : o.guard = none) (x : Operand) (ho : o.op = .convert 9 30 x) (l : List UInt8) (hl : l.length ≤ 1048576) (hx : a.eval x = .string ⟨l.toArray⟩)
    (h : ∀ w' A c, Rd w' w'.heap.size A l → l.length ≤ c → c ≤ maxLen → Below w.heap.size w w' → K (a.put o.dst (.slice A l.length c)) w') :
    if Region.wanted o (yielded ops a.tmps) = true then Oper.wp Try.prog o a w K Q else E := by
  have hw : Region.wanted o (yielded ops a.tmps) = true := by simp [Region.wanted, hgd]
  rw [if_pos hw]
  have hrun := run_bytes w ⟨l.toArray⟩
  have hsz : (⟨l.toArray⟩ : ByteArray).size = l.length := by show l.toArray.size = _; simp
  rw [hsz] at hrun
  unfold Oper.wp
  simp only [execOp, ho, hx, hrun, Sem.run_bind, Sem.run_pure, Result.andThen_ok]
  exact h _ _ _ (Rd.bytes w l) (grownCap_ge w _ 0 _) (grownCap_le_maxLen w _ 0 _ (by simp only [maxLen]; omega)) (below_bytes w _ _)
end Go.Proofs.Ytlobfmdkaghfmaa
