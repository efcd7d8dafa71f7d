/-
  Layer 2: functions that there are not: find, Known, Call. Conditions: sizes.
-/
import Derived.Test.YteijijoiifbjlaaGreatDoorVCallM
namespace Go.Proofs.YteijijoiifbjlaaGreatDoor
open Go.ChangeShapes Go.WideShapes Go.ChangeAt Go.RowKit
set_option linter.unusedVariables false

theorem run_look0 (w : World) (B : Nat) (es : Array MapEntry) (ck : Nat) (k : ByteArray) (hb : w.heap[B]? = some (.map es ck)) (hf : Instr.findNow .string (.string k) es.toList 0 = some none) :
    (Instr.lookup 128 (.map (some B)) (.string k) true).run Tryz.prog w = .ok (.tuple #[fnV 0 0 false .nilFunc, .bool false]) w := by
  have hm := Tryz.underlying128
  have hd := Tryz.underlying9
  have hz := Tryz.zeroValue110 w
  simp [Instr.lookup, run_underlying hm, MapKept.run_getObj_map hb, MapKept.run_checkKey hd (show MapKept.IsKey .string (.string k) from trivial), MapKept.run_findKey hd hf, Result.andThen, hz]
theorem wpList_look0 (w : World) {ops : Array Oper} {rest : List Oper} {o : Oper} {a : Act} {Q : Exit → Act → World → Prop}
    (hg : o.guard = none) (m x : Operand) (hop : o.op = Op.lookup 128 m x true) (B : Nat) (es : Array MapEntry) (ck : Nat) (k : ByteArray)
    (hm : a.eval m = .map (some B)) (hx : a.eval x = .string k) (hb : w.heap[B]? = some (.map es ck)) (hf : Instr.findNow .string (.string k) es.toList 0 = some none)
    (hK : wpList Tryz.prog ops Q rest (a.put o.dst (.tuple #[fnV 0 0 false .nilFunc, .bool false])) w) :
    wpList Tryz.prog ops Q (o :: rest) a w := by
  refine wpList_plain hg fun K' hK' => ?_
  have hrun := run_look0 w B es ck k hb hf
  unfold Oper.wp
  simp [execOp, hop, hm, hx, hrun, Result.andThen]
  exact hK' _ _ hK
def FindNo (w : World) (e : Ending) (w' : World) : Prop := e = .returned (.tuple #[fnV 0 0 false .nilFunc, .bool false]) ∧ Below w.heap.size w w'
set_option maxRecDepth 100000 in
set_option maxHeartbeats 400000 in
theorem find_few (name : ByteArray) (least most n : Int) (tn : Bool) (g : Nat) (lb : Nat → Nat → Array Value) (hN : Named name least most tn g lb) (h1 : n < least) (w : World) :
    Calls Tryz.prog 78 #[.string name, .int .i64 n] w (FindNo w) := by
  have d1 : decide (n < least) = true := decide_eq_true h1
  have HN := Lib.hid hN
  clear hN
  go_enter Tryz.func78, Tryz.ntmps78
  go_wp2_with (first
    | (go_at_call 98; refine (functions_any _).mono ?_; rintro e wa ⟨c1, c2, rfl, hI⟩; obtain ⟨i, hi⟩ := HN.out c1 c2; have HM := Lib.hid (FInv.at1 hI); have HI := Lib.hid (FInv.below1 hI); have HF := Lib.hid hi; clear hI hi; obtain ⟨g0, g1, g2, g3, f0, f1, f2, f3⟩ := fbox_in HI.out; have hz : w.heap.size < wa.heap.size := (by have := HI.out.size; simp at this; omega))
    | (refine wpList_look _ rfl _ _ rfl _ _ _ _ _ _ rfl rfl HM.out HF.out ?_))
  refine bodyPost_ret (v := .tuple #[fnV 0 0 false .nilFunc, .bool false]) (by simp [results, Tryz.results78, go_sem, g0, g1, g2, g3, hz]) rfl ⟨rfl, ?_⟩
  exact (((((((Below.refl w.heap.size w).alloc (Nat.le_refl _) _).trans (HI.out.mono (by simp))).setCell (by simp) _).setCell (by simp) _).setCell (by simp) _).setCell (by simp) _).alloc (by simp; omega) _
set_option maxRecDepth 100000 in
set_option maxHeartbeats 400000 in
theorem find_many (name : ByteArray) (least most n : Int) (tn : Bool) (g : Nat) (lb : Nat → Nat → Array Value) (hN : Named name least most tn g lb) (h1 : least ≤ n) (h2 : most < n) (w : World) :
    Calls Tryz.prog 78 #[.string name, .int .i64 n] w (FindNo w) := by
  have d1 : decide (n < least) = false := decide_eq_false (by omega)
  have d2 : decide (most < n) = true := decide_eq_true h2
  have HN := Lib.hid hN
  clear hN
  go_enter Tryz.func78, Tryz.ntmps78
  go_wp2_with (first
    | (go_at_call 98; refine (functions_any _).mono ?_; rintro e wa ⟨c1, c2, rfl, hI⟩; obtain ⟨i, hi⟩ := HN.out c1 c2; have HM := Lib.hid (FInv.at1 hI); have HI := Lib.hid (FInv.below1 hI); have HF := Lib.hid hi; clear hI hi; obtain ⟨g0, g1, g2, g3, f0, f1, f2, f3⟩ := fbox_in HI.out; have hz : w.heap.size < wa.heap.size := (by have := HI.out.size; simp at this; omega))
    | (refine wpList_look _ rfl _ _ rfl _ _ _ _ _ _ rfl rfl HM.out HF.out ?_))
  refine bodyPost_ret (v := .tuple #[fnV 0 0 false .nilFunc, .bool false]) (by simp [results, Tryz.results78, go_sem, g0, g1, g2, g3, hz]) rfl ⟨rfl, ?_⟩
  exact (((((((Below.refl w.heap.size w).alloc (Nat.le_refl _) _).trans (HI.out.mono (by simp))).setCell (by simp) _).setCell (by simp) _).setCell (by simp) _).setCell (by simp) _).alloc (by simp; omega) _
def NoName (name : ByteArray) : Prop := ∀ c1 c2, Instr.findNow .string (.string name) (fnEnts c1 c2) 0 = some none
set_option maxRecDepth 100000 in
set_option maxHeartbeats 400000 in
theorem find_no (name : ByteArray) (n : Int) (hN : NoName name) (w : World) :
    Calls Tryz.prog 78 #[.string name, .int .i64 n] w (FindNo w) := by
  have HN := Lib.hid hN
  clear hN
  go_enter Tryz.func78, Tryz.ntmps78
  go_wp2_with (first
    | (go_at_call 98; refine (functions_any _).mono ?_; rintro e wa ⟨c1, c2, rfl, hI⟩; have hi := HN.out c1 c2; have HM := Lib.hid (FInv.at1 hI); have HI := Lib.hid (FInv.below1 hI); have HF := Lib.hid hi; clear hI hi; obtain ⟨g0, g1, g2, g3, f0, f1, f2, f3⟩ := fbox_in HI.out; have hz : w.heap.size < wa.heap.size := (by have := HI.out.size; simp at this; omega))
    | (refine wpList_look0 _ rfl _ _ rfl _ _ _ _ rfl rfl HM.out HF.out ?_))
  refine bodyPost_ret (v := .tuple #[fnV 0 0 false .nilFunc, .bool false]) (by simp [results, Tryz.results78, go_sem, g0, g1, g2, g3, hz]) rfl ⟨rfl, ?_⟩
  exact (((((((Below.refl w.heap.size w).alloc (Nat.le_refl _) _).trans (HI.out.mono (by simp))).setCell (by simp) _).setCell (by simp) _).setCell (by simp) _).setCell (by simp) _).alloc (by simp; omega) _
set_option maxHeartbeats 400000 in
theorem Known_no (name : ByteArray) (n : Int) (h : ∀ w, Calls Tryz.prog 78 #[.string name, .int .i64 n] w (FindNo w)) (w : World) :
    Calls Tryz.prog 63 #[.string name, .int .i64 n] w fun e w' => e = .returned (.bool false) ∧ Below w.heap.size w w' := by
  have H := Lib.hid h
  clear h
  go_enter Tryz.func63, Tryz.ntmps63
  go_wp2_with fail
  refine (H.out _).mono ?_
  rintro e wa ⟨rfl, hb⟩
  go_wp2_with fail
  go_ret
  exact ⟨rfl, hb.alloc hb.size _⟩
set_option maxHeartbeats 400000 in
theorem Known_yes (name : ByteArray) (least most n : Int) (tn : Bool) (g : Nat) (lb : Nat → Nat → Array Value) (hN : Named name least most tn g lb) (h1 : least ≤ n) (h2 : n ≤ most) (w : World) :
    Calls Tryz.prog 63 #[.string name, .int .i64 n] w fun e w' => e = .returned (.bool true) ∧ Below w.heap.size w w' := by
  have H := Lib.hid (fun w : World => find_yes name least most n tn g lb hN h1 h2 w)
  clear hN h1 h2
  go_enter Tryz.func63, Tryz.ntmps63
  go_wp2_with fail
  refine (H.out _).mono ?_
  rintro e wa ⟨c1, c2, rfl, _, hb⟩
  go_wp2_with fail
  go_ret
  exact ⟨rfl, hb.alloc hb.size _⟩
set_option maxRecDepth 100000 in
set_option maxHeartbeats 800000 in
theorem Call_no (name : ByteArray) (b off cap len : Nat) (h : ∀ w, Calls Tryz.prog 78 #[.string name, .int .i64 (len : Int)] w (FindNo w)) (w : World) :
    Calls Tryz.prog 59 #[.string name, .slice (some ⟨b, off, none⟩) len cap] w (RetV nul 21 w) := by
  have H := Lib.hid h
  clear h
  go_enter Tryz.func59, Tryz.ntmps59
  go_wp2_with (go_at_call 78; refine (H.out _).mono ?_; rintro e wa ⟨rfl, ba⟩; have hcur := Lib.hid ba; clear ba; have hc2 := Lib.hid (Below.refl (wa.alloc (fbox 0 0 false .nilFunc)).heap.size (wa.alloc (fbox 0 0 false .nilFunc))); obtain ⟨u0, u1, u2, v0, v1, v2⟩ := w1_out w _ hcur.out; have hz : w.heap.size < wa.heap.size := (by have := hcur.out.size; simp at this; omega))
  have hE := w1_end w wa hcur.out (.int .u8 0) (.int .i64 0) (.string ⟨#[]⟩)
  exact bodyPost_ret (v := .tuple #[nul, .int .i64 21]) (by simp [results, Tryz.results59, go_sem, u0, u1, u2, hz]) rfl ⟨rfl, hE.alloc hE.size _⟩
set_option maxRecDepth 100000 in
set_option maxHeartbeats 800000 in
theorem Call_bad (name : ByteArray) (least most : Int) (tn : Bool) (g : Nat) (lb : Nat → Nat → Array Value) (hN : Named name least most tn g lb) (b off cap : Nat) (vs : List Trip) (w : World)
    (hsz : ∀ t ∈ vs, t.2.2.size ≤ 9223372036854775807) (hl : vs.length ≤ 1000000) (hR : RdV w b off vs) (h1 : least ≤ vs.length) (h2 : vs.length ≤ most)
    (hbad : vs.any pBad = true) :
    Calls Tryz.prog 59 #[.string name, .slice (some ⟨b, off, none⟩) vs.length cap] w (RetV nul 2 w) := by
  have HS := Lib.hid hsz
  have HR := Lib.hid hR
  have HN := Lib.hid hN
  have HB := Lib.hid hbad
  clear hsz hR hN hbad
  go_enter Tryz.func59, Tryz.ntmps59
  go_wp2_with (first
      | (go_at_call 78; refine (find_yes name least most _ tn g lb HN.out h1 h2 _).mono ?_; rintro e wa ⟨c1, c2, rfl, hx, ba⟩; have hcur := Lib.hid ba; have hc2 := Lib.hid (Below.refl (wa.alloc (fbox least most tn (.func (.func g) #[] (lb c1 c2)))).heap.size (wa.alloc (fbox least most tn (.func (.func g) #[] (lb c1 c2))))); clear hx ba)
      | (go_at_call 79; (with_reducible refine (ContainsFunc_notRight b off cap vs _ HS.out hl (HR.out.on (call_chain0 hcur.out hc2.out))).mono ?_); rintro e wb ⟨rfl, bb⟩; rw [HB.out]; have hc2 := Lib.hid (hc2.out.trans (bb.mono hc2.out.size)); obtain ⟨t0, t1⟩ := fbox_at hc2.out; obtain ⟨u0, u1, u2, v0, v1, v2⟩ := w1_out w _ (call_chain hcur.out hc2.out); have hz : w.heap.size < wb.heap.size := (by have := (call_chain hcur.out hc2.out).size; simp at this; omega); clear bb))
  exact bodyPost_ret (v := .tuple #[nul, .int .i64 2]) (by simp [results, Tryz.results59, go_sem, u0, u1, u2]) rfl ⟨rfl, w1_end _ _ (call_chain hcur.out hc2.out) _ _ _⟩
end Go.Proofs.YteijijoiifbjlaaGreatDoor
