/-
  Layer 13, eval: the map of the kinds. No conditions.
  Layer 13, eval: each kind tells what the document says, out of the map. Conditions: sizes; calls come to something.
-/
import Derived.Test.YteijijoiifbjlaaGreatDoorEAm
import Derived.Test.YteijijoiifbjlaaGreatDoorVFind
import Derived.Maps.Own
import Derived.MapKept
namespace Go.Proofs.YteijijoiifbjlaaGreatDoor
open Go.ChangeShapes Go.WideShapes Go.ChangeAt Go.RowKit
set_option linter.unusedVariables false
set_option linter.unusedSimpArgs false
set_option maxRecDepth 100000

/-- an insert into the map, of a kind that is new -/
theorem run_insK (w : World) (B : Nat) (es : Array MapEntry) (ck : Nat) (k : Int) (v : Value) (hb : w.heap[B]? = some (.map es ck)) (hf : Instr.findNow (.int .u8) (.int .u8 k) es.toList 0 = some none) :
    (Instr.mapUpdate 72 (.map (some B)) (.int .u8 k) v).run Tryz.prog w = .ok () { w with heap := w.heap.setIfInBounds B (.map (es.push ⟨.int .u8 k, v, ck⟩) (ck + 1)) } := by
  have hm := Tryz.underlying72
  have hd := Tryz.underlying22
  simp [Instr.mapUpdate, run_underlying hm, MapKept.run_getObj_map hb, MapKept.run_checkKey hd (show MapKept.IsKey (.int .u8) (.int .u8 k) from rfl), MapKept.run_findKey hd hf, MapKept.run_setObj_map _ hb, Result.andThen]
theorem wpList_insK (w : World) {ops : Array Oper} {rest : List Oper} {o : Oper} {a : Act} {Q : Exit → Act → World → Prop}
    (hg : o.guard = none) (m v : Operand) (k : Int) (hop : o.op = Op.insert 72 m (.const (.int .u8 k)) v) (B : Nat) (es : Array MapEntry) (ck : Nat)
    (hm : a.eval m = .map (some B)) (val : Value) (hv : a.eval v = val) (hb : w.heap[B]? = some (.map es ck)) (hf : Instr.findNow (.int .u8) (.int .u8 k) es.toList 0 = some none)
    (hK : ∀ w', PutB w w' B (.map (es.push ⟨.int .u8 k, val, ck⟩) (ck + 1)) → wpList Tryz.prog ops Q rest (a.put o.dst undef) w') :
    wpList Tryz.prog ops Q (o :: rest) a w := by
  refine wpList_plain hg fun K' hK' => ?_
  have hrun := run_insK w B es ck k val hb hf
  have hk : a.eval (.const (.int .u8 k)) = .int .u8 k := rfl
  unfold Oper.wp
  simp [execOp, hop, hm, hk, hv, hrun, Result.andThen]
  exact hK' _ _ (hK _ rfl)
theorem run_lookK (w : World) (B : Nat) (es : Array MapEntry) (ck : Nat) (k : Int) (i : Nat) (v : Value) (hb : w.heap[B]? = some (.map es ck)) (hf : Instr.findNow (.int .u8) (.int .u8 k) es.toList 0 = some (some (i, v))) :
    (Instr.lookup 72 (.map (some B)) (.int .u8 k) false).run Tryz.prog w = .ok v w := by
  have hm := Tryz.underlying72
  have hd := Tryz.underlying22
  simp [Instr.lookup, run_underlying hm, MapKept.run_getObj_map hb, MapKept.run_checkKey hd (show MapKept.IsKey (.int .u8) (.int .u8 k) from rfl), MapKept.run_findKey hd hf, Result.andThen]
theorem wpList_lookK (w : World) {ops : Array Oper} {rest : List Oper} {o : Oper} {a : Act} {Q : Exit → Act → World → Prop}
    (hg : o.guard = none) (m x : Operand) (hop : o.op = Op.lookup 72 m x false) (B : Nat) (es : Array MapEntry) (ck : Nat) (k : Int) (i : Nat) (v : Value)
    (hm : a.eval m = .map (some B)) (hx : a.eval x = .int .u8 k) (hb : w.heap[B]? = some (.map es ck)) (hf : Instr.findNow (.int .u8) (.int .u8 k) es.toList 0 = some (some (i, v)))
    (hK : wpList Tryz.prog ops Q rest (a.put o.dst v) w) :
    wpList Tryz.prog ops Q (o :: rest) a w := by
  refine wpList_plain hg fun K' hK' => ?_
  have hrun := run_lookK w B es ck k i v hb hf
  unfold Oper.wp
  simp [execOp, hop, hm, hx, hrun, Result.andThen]
  exact hK' _ _ hK

abbrev plainO (g : Nat) (lb : Array Value) : Obj := .cells #[.func (.func g) #[] lb] 85
abbrev plainV (c : Nat) : Value := .func (.func 75) #[] #[.pointer (some ⟨c, 0, none⟩)]
theorem plain_any (g : Nat) (lb : Array Value) (w : World) :
    Calls Tryz.prog 43 #[.func (.func g) #[] lb] w fun e w' => ∃ c, e = .returned (plainV c) ∧ c = w.heap.size ∧ w' = w.alloc (plainO g lb) := by
  go_enter Tryz.func43, Tryz.ntmps43
  go_wp2_with fail
  go_ret
  exact ⟨_, rfl, rfl, rfl⟩
/-- what is known while the map is filled -/
def KInv (w W : World) (es : Array MapEntry) (ck : Nat) (L : List (Nat × Obj)) : Prop :=
  W.heap[w.heap.size]? = some (.map es ck) ∧ Below w.heap.size w W ∧ ∀ c o, (c, o) ∈ L → w.heap.size < c ∧ W.heap[c]? = some o
theorem KInv.made (w : World) : KInv w (w.alloc (.map #[] 0)) #[] 0 [] := ⟨map_made w, (Below.refl _ _).alloc (Nat.le_refl _) _, by simp⟩
theorem KInv.lt {w W : World} {es : Array MapEntry} {ck : Nat} {L : List (Nat × Obj)} (h : KInv w W es ck L) : w.heap.size < W.heap.size := (Array.getElem?_eq_some_iff.1 h.1).1
theorem KInv.ins {w W W' : World} {es : Array MapEntry} {ck : Nat} {L : List (Nat × Obj)} {es' : Array MapEntry} {ck' : Nat} (h : KInv w W es ck L) (p : PutB W W' w.heap.size (.map es' ck')) : KInv w W' es' ck' L :=
  ⟨p.same h.lt, h.2.1.trans (p.below (Nat.le_refl _)), fun c v hc => ⟨(h.2.2 c v hc).1, by rw [p.other (by have := (h.2.2 c v hc).1; omega)]; exact (h.2.2 c v hc).2⟩⟩
theorem KInv.boxC {w W : World} {es : Array MapEntry} {ck c : Nat} {L : List (Nat × Obj)} {v : Obj} (hc : c = W.heap.size) (h : KInv w (W.alloc v) es ck ((W.heap.size, v) :: L)) : KInv w (W.alloc v) es ck ((c, v) :: L) := by subst hc; exact h
theorem KInv.box {w W : World} {es : Array MapEntry} {ck : Nat} {L : List (Nat × Obj)} (h : KInv w W es ck L) (v : Obj) : KInv w (W.alloc v) es ck ((W.heap.size, v) :: L) := by
  have e : ∀ (j : Nat) (o : Obj), W.heap[j]? = some o → (W.alloc v).heap[j]? = some o := fun j o hj => by
    show (W.heap.push _)[j]? = _
    rw [Array.getElem?_push_lt (Array.getElem?_eq_some_iff.1 hj).1]
    exact Option.some_inj.2 (Array.getElem?_eq_some_iff.1 hj).2
  refine ⟨e _ _ h.1, h.2.1.alloc (Nat.le_of_lt h.lt) _, fun c x hc => ?_⟩
  rcases List.mem_cons.1 hc with hc | hc
  · obtain ⟨rfl, rfl⟩ := Prod.mk.inj hc
    exact ⟨h.lt, by show (W.heap.push _)[W.heap.size]? = _; simp⟩
  · exact ⟨(h.2.2 c x hc).1, e _ _ (h.2.2 c x hc).2⟩
/-- the kinds -/
def kEnts (c1 c2 c3 c4 c5 c6 c7 c8 : Nat) : List MapEntry :=
  [⟨.int .u8 1, plainV c1, 0⟩, ⟨.int .u8 2, plainV c2, 1⟩, ⟨.int .u8 3, plainV c3, 2⟩, ⟨.int .u8 4, plainV c4, 3⟩, ⟨.int .u8 5, plainV c5, 4⟩, ⟨.int .u8 15, plainV c6, 5⟩, ⟨.int .u8 14, plainV c7, 6⟩, ⟨.int .u8 13, plainV c8, 7⟩,
   ⟨.int .u8 7, .func (.func 54) #[] #[], 8⟩, ⟨.int .u8 8, .func (.func 55) #[] #[], 9⟩, ⟨.int .u8 9, .func (.func 57) #[] #[], 10⟩,
   ⟨.int .u8 10, .func (.func 58) #[] #[], 11⟩, ⟨.int .u8 11, .func (.func 60) #[] #[], 12⟩]
abbrev ptrX (xb : Nat) : Array Value := #[.pointer (some ⟨xb, 0, none⟩)]
/-- the map and all that it leads to -/
def KTab (x : EnvM) (W : World) (M : Nat) : Prop :=
  ∃ xb c1 c2 c3 c4 c5 c6 c7 c8, W.heap[M]? = some (.map (kEnts c1 c2 c3 c4 c5 c6 c7 c8).toArray 13) ∧ EnvB W xb x ∧
    W.cell? ⟨c1, 0, none⟩ = some (.func (.func 44) #[] #[]) ∧ W.cell? ⟨c2, 0, none⟩ = some (.func (.func 45) #[] #[]) ∧ W.cell? ⟨c3, 0, none⟩ = some (.func (.func 46) #[] #[]) ∧ W.cell? ⟨c4, 0, none⟩ = some (.func (.func 47) #[] #[]) ∧
    W.cell? ⟨c5, 0, none⟩ = some (.func (.func 48) #[] (ptrX xb)) ∧ W.cell? ⟨c6, 0, none⟩ = some (.func (.func 50) #[] (ptrX xb)) ∧ W.cell? ⟨c7, 0, none⟩ = some (.func (.func 51) #[] (ptrX xb)) ∧ W.cell? ⟨c8, 0, none⟩ = some (.func (.func 52) #[] (ptrX xb))
theorem KTab.on {x : EnvM} {W W' : World} {M : Nat} (h : KTab x W M) (hb : Below W.heap.size W W') : KTab x W' M := by
  obtain ⟨xb, c1, c2, c3, c4, c5, c6, c7, c8, hm, hx, h1, h2, h3, h4, h5, h6, h7, h8⟩ := h
  have e : ∀ c v, W.cell? ⟨c, 0, none⟩ = some v → W'.cell? ⟨c, 0, none⟩ = some v := fun c v hv => (hb.cell (p := ⟨c, 0, none⟩) (block_lt_of_cell hv)).trans hv
  exact ⟨xb, c1, c2, c3, c4, c5, c6, c7, c8, (hb.block M (Array.getElem?_eq_some_iff.1 hm).1).trans hm, hx.on hb, e _ _ h1, e _ _ h2, e _ _ h3, e _ _ h4, e _ _ h5, e _ _ h6, e _ _ h7, e _ _ h8⟩
theorem ktab_of {x : EnvM} {wx W : World} {xb c1 c2 c3 c4 c5 c6 c7 c8 : Nat} (hI : KInv wx W (kEnts c1 c2 c3 c4 c5 c6 c7 c8).toArray 13 [(c8, plainO 52 (ptrX xb)), (c7, plainO 51 (ptrX xb)), (c6, plainO 50 (ptrX xb)), (c5, plainO 48 (ptrX xb)), (c4, plainO 47 #[]), (c3, plainO 46 #[]), (c2, plainO 45 #[]), (c1, plainO 44 #[])]) (hx : EnvB W xb x) : KTab x W wx.heap.size := by
  have hc : ∀ c g lb, W.heap[c]? = some (plainO g lb) → W.cell? ⟨c, 0, none⟩ = some (.func (.func g) #[] lb) := fun c g lb h => by simp [World.cell?, h]
  obtain ⟨h1, h2, h3⟩ := hI
  refine ⟨xb, c1, c2, c3, c4, c5, c6, c7, c8, h1, hx, ?_, ?_, ?_, ?_, ?_, ?_, ?_, ?_⟩
  all_goals
    refine hc _ _ _ (h3 _ _ ?_).2
    simp
def TabRet (x : EnvM) (w : World) (e : Ending) (w' : World) : Prop := ∃ M, e = .returned (.map (some M)) ∧ KTab x w' M ∧ Below w.heap.size w w'
set_option maxHeartbeats 2000000 in
theorem tellers_any (x : EnvM) (xv : Value) (w : World) (hX : EnvV w x xv) : Calls Tryz.prog 31 #[xv] w (TabRet x w) := by
  obtain ⟨Ar, cr, Ak, ck, At, ct, Ab, cb, rfl, g0, g1, g2, g3⟩ := hX
  obtain ⟨wx, hwx⟩ : ∃ X, w.alloc (.cells #[.slice Ar x.rows.length cr, .slice Ak x.keys.length ck, .slice At x.totals.length ct, .slice Ab x.binds.length cb] 29) = X := ⟨_, rfl⟩
  have hal : Below w.heap.size w wx := by rw [← hwx]; exact (Below.refl _ _).alloc (Nat.le_refl _) _
  have hE : EnvB wx w.heap.size x := by
    refine ⟨Ar, cr, Ak, ck, At, ct, Ab, cb, ?_, g0.on hal, g1.on hal, g2.on hal, g3.on hal⟩
    rw [← hwx]
    refine ⟨?_, ?_, ?_, ?_⟩ <;> simp [go_sem]
  have HE := Lib.hid hE
  have HAL := Lib.hid hal
  clear g0 g1 g2 g3 hE hal
  have hmm := @run_makeMap Tryz.prog
  have hI := KInv.made wx
  go_enter Tryz.func31, Tryz.ntmps31
  go_wp2_with (first
    | (refine wpList_insK _ rfl _ _ _ rfl _ _ _ rfl _ rfl hI.1 (by rfl) ?_; intro w1 p1; have hI := hI.ins p1; clear p1)
    | (go_at_call 43; (with_reducible refine (plain_any 44 #[] _).mono ?_); rintro e wa ⟨c1, rfl, hc, rfl⟩; have hI := KInv.boxC hc (hI.box (plainO 44 #[])); clear hc)
    | (go_at_call 43; (with_reducible refine (plain_any 45 #[] _).mono ?_); rintro e wa ⟨c2, rfl, hc, rfl⟩; have hI := KInv.boxC hc (hI.box (plainO 45 #[])); clear hc)
    | (go_at_call 43; (with_reducible refine (plain_any 46 #[] _).mono ?_); rintro e wa ⟨c3, rfl, hc, rfl⟩; have hI := KInv.boxC hc (hI.box (plainO 46 #[])); clear hc)
    | (go_at_call 43; (with_reducible refine (plain_any 47 #[] _).mono ?_); rintro e wa ⟨c4, rfl, hc, rfl⟩; have hI := KInv.boxC hc (hI.box (plainO 47 #[])); clear hc)
    | (go_at_call 43; (with_reducible refine (plain_any 48 #[.pointer (some ⟨w.heap.size, 0, none⟩)] _).mono ?_); rintro e wa ⟨c5, rfl, hc, rfl⟩; have hI := KInv.boxC hc (hI.box (plainO 48 #[.pointer (some ⟨w.heap.size, 0, none⟩)])); clear hc)
    | (go_at_call 43; (with_reducible refine (plain_any 50 #[.pointer (some ⟨w.heap.size, 0, none⟩)] _).mono ?_); rintro e wa ⟨c6, rfl, hc, rfl⟩; have hI := KInv.boxC hc (hI.box (plainO 50 #[.pointer (some ⟨w.heap.size, 0, none⟩)])); clear hc)
    | (go_at_call 43; (with_reducible refine (plain_any 51 #[.pointer (some ⟨w.heap.size, 0, none⟩)] _).mono ?_); rintro e wa ⟨c7, rfl, hc, rfl⟩; have hI := KInv.boxC hc (hI.box (plainO 51 #[.pointer (some ⟨w.heap.size, 0, none⟩)])); clear hc)
    | (go_at_call 43; (with_reducible refine (plain_any 52 #[.pointer (some ⟨w.heap.size, 0, none⟩)] _).mono ?_); rintro e wa ⟨c8, rfl, hc, rfl⟩; have hI := KInv.boxC hc (hI.box (plainO 52 #[.pointer (some ⟨w.heap.size, 0, none⟩)])); clear hc))
  go_ret
  exact ⟨wx.heap.size, rfl, ktab_of (xb := w.heap.size) (c1 := c1) (c2 := c2) (c3 := c3) (c4 := c4) (c5 := c5) (c6 := c6) (c7 := c7) (c8 := c8) hI (HE.out.on hI.2.1), HAL.out.trans (hI.2.1.mono HAL.out.size)⟩
end Go.Proofs.YteijijoiifbjlaaGreatDoor

namespace Go.Proofs.YteijijoiifbjlaaGreatDoor
open Go.ChangeShapes Go.WideShapes Go.ChangeAt Go.RowKit
set_option linter.unusedVariables false
set_option linter.unusedSimpArgs false
set_option maxRecDepth 100000

/-- the kind's closure, and what it tells -/
def KindAt (W : World) (M : Nat) (k : Int) (s t : ByteArray) (n a : Int) (A : Option Addr) (len cap : Nat) (B : Option Addr) (c : Nat) (ts : List Trip) (r : Rv) : Prop :=
  ∃ es i g lb, W.heap[M]? = some (.map es 13) ∧ Instr.findNow (.int .u8) (.int .u8 k) es.toList 0 = some (some (i, .func (.func g) #[] lb)) ∧ (∀ (args : Array Value) (W : World), (callFunc g args).run Tryz.prog W = .ok (.enter g args) W) ∧ TellK g lb k s t n a A len cap B c ts r W
theorem enters_plain : ∀ (args : Array Value) (W : World), (callFunc 75 args).run Tryz.prog W = .ok (.enter 75 args) W := enters_of Tryz.func75 (by kernel_rfl) rfl
section
variable {x : EnvM} {W : World} {M : Nat} (hT : KTab x W M) (s t : ByteArray) (n a : Int) (A : Option Addr) (len cap : Nat) (B : Option Addr) (c : Nat) (ts : List Trip)
include hT
theorem kind1 (ho : EnvOk x) : KindAt W M 1 s t n a A len cap B c ts (toldX x 1 s n a ts) := by
  obtain ⟨xb, c1, c2, c3, c4, c5, c6, c7, c8, hm, hx, h1, h2, h3, h4, h5, h6, h7, h8⟩ := hT
  have e : toldX x 1 s n a ts = (nulT, 0) := by simp [toldX]
  rw [e]
  exact ⟨_, 0, 75, #[.pointer (some ⟨c1, 0, none⟩)], hm, rfl, enters_plain, plain_tell _ _ _ _ _ _ _ _ W c1 44 #[] B c ts _ h1 (enters_of Tryz.func44 (by kernel_rfl) rfl) (fun X _ => tell1 _ _ _ _ _ _ _ _ X)⟩
theorem kind2 (ho : EnvOk x) : KindAt W M 2 s t n a A len cap B c ts (toldX x 2 s n a ts) := by
  obtain ⟨xb, c1, c2, c3, c4, c5, c6, c7, c8, hm, hx, h1, h2, h3, h4, h5, h6, h7, h8⟩ := hT
  have e : toldX x 2 s n a ts = (intT n, 0) := by simp [toldX]
  rw [e]
  exact ⟨_, 1, 75, #[.pointer (some ⟨c2, 0, none⟩)], hm, rfl, enters_plain, plain_tell _ _ _ _ _ _ _ _ W c2 45 #[] B c ts _ h2 (enters_of Tryz.func45 (by kernel_rfl) rfl) (fun X _ => tell2 _ _ _ _ _ _ _ _ X)⟩
theorem kind3 (ho : EnvOk x) : KindAt W M 3 s t n a A len cap B c ts (toldX x 3 s n a ts) := by
  obtain ⟨xb, c1, c2, c3, c4, c5, c6, c7, c8, hm, hx, h1, h2, h3, h4, h5, h6, h7, h8⟩ := hT
  have e : toldX x 3 s n a ts = ((2, 0, s), 0) := by simp [toldX]
  rw [e]
  exact ⟨_, 2, 75, #[.pointer (some ⟨c3, 0, none⟩)], hm, rfl, enters_plain, plain_tell _ _ _ _ _ _ _ _ W c3 46 #[] B c ts _ h3 (enters_of Tryz.func46 (by kernel_rfl) rfl) (fun X _ => tell3 _ _ _ _ _ _ _ _ X)⟩
theorem kind4 (ho : EnvOk x) : KindAt W M 4 s t n a A len cap B c ts (toldX x 4 s n a ts) := by
  obtain ⟨xb, c1, c2, c3, c4, c5, c6, c7, c8, hm, hx, h1, h2, h3, h4, h5, h6, h7, h8⟩ := hT
  have e : toldX x 4 s n a ts = ((3, 0, s), 0) := by simp [toldX]
  rw [e]
  exact ⟨_, 3, 75, #[.pointer (some ⟨c4, 0, none⟩)], hm, rfl, enters_plain, plain_tell _ _ _ _ _ _ _ _ W c4 47 #[] B c ts _ h4 (enters_of Tryz.func47 (by kernel_rfl) rfl) (fun X _ => tell4 _ _ _ _ _ _ _ _ X)⟩
theorem kind5 (ho : EnvOk x) : KindAt W M 5 s t n a A len cap B c ts (toldX x 5 s n a ts) := by
  obtain ⟨xb, c1, c2, c3, c4, c5, c6, c7, c8, hm, hx, h1, h2, h3, h4, h5, h6, h7, h8⟩ := hT
  have e : toldX x 5 s n a ts = (atT x.binds n, 0) := by simp [toldX]
  rw [e]
  exact ⟨_, 4, 75, #[.pointer (some ⟨c5, 0, none⟩)], hm, rfl, enters_plain, plain_tell _ _ _ _ _ _ _ _ W c5 48 (ptrX xb) B c ts _ h5 (enters_of Tryz.func48 (by kernel_rfl) rfl) (fun X hX => tell5 _ _ _ _ _ _ _ _ X xb x (hx.on hX) ho)⟩
theorem kind15 (ho : EnvOk x) : KindAt W M 15 s t n a A len cap B c ts (toldX x 15 s n a ts) := by
  obtain ⟨xb, c1, c2, c3, c4, c5, c6, c7, c8, hm, hx, h1, h2, h3, h4, h5, h6, h7, h8⟩ := hT
  have e : toldX x 15 s n a ts = (atT x.keys n, 0) := by simp [toldX]
  rw [e]
  exact ⟨_, 5, 75, #[.pointer (some ⟨c6, 0, none⟩)], hm, rfl, enters_plain, plain_tell _ _ _ _ _ _ _ _ W c6 50 (ptrX xb) B c ts _ h6 (enters_of Tryz.func50 (by kernel_rfl) rfl) (fun X hX => tell6 _ _ _ _ _ _ _ _ X xb x (hx.on hX) ho)⟩
theorem kind14 (ho : EnvOk x) : KindAt W M 14 s t n a A len cap B c ts (toldX x 14 s n a ts) := by
  obtain ⟨xb, c1, c2, c3, c4, c5, c6, c7, c8, hm, hx, h1, h2, h3, h4, h5, h6, h7, h8⟩ := hT
  have e : toldX x 14 s n a ts = (atT x.totals n, 0) := by simp [toldX]
  rw [e]
  exact ⟨_, 6, 75, #[.pointer (some ⟨c7, 0, none⟩)], hm, rfl, enters_plain, plain_tell _ _ _ _ _ _ _ _ W c7 51 (ptrX xb) B c ts _ h7 (enters_of Tryz.func51 (by kernel_rfl) rfl) (fun X hX => tell7 _ _ _ _ _ _ _ _ X xb x (hx.on hX) ho)⟩
theorem kind13 (ho : EnvOk x) : KindAt W M 13 s t n a A len cap B c ts (toldX x 13 s n a ts) := by
  obtain ⟨xb, c1, c2, c3, c4, c5, c6, c7, c8, hm, hx, h1, h2, h3, h4, h5, h6, h7, h8⟩ := hT
  have e : toldX x 13 s n a ts = (atT (atR x.rows a) n, 0) := by simp [toldX]
  rw [e]
  exact ⟨_, 7, 75, #[.pointer (some ⟨c8, 0, none⟩)], hm, rfl, enters_plain, plain_tell _ _ _ _ _ _ _ _ W c8 52 (ptrX xb) B c ts _ h8 (enters_of Tryz.func52 (by kernel_rfl) rfl) (fun X hX => tell8 _ _ _ _ _ _ _ _ X xb x (hx.on hX) ho)⟩
theorem kind7 (hR : RdT W B ts) (hl : ts.length = 1 ∨ ts.length = 2) (hok : ∀ t ∈ ts, OkT t) (hW : Wd W) : KindAt W M 7 s t n a A len cap B c ts (toldX x 7 s n a ts) := by
  obtain ⟨xb, c1, c2, c3, c4, c5, c6, c7, c8, hm, hx, h1, h2, h3, h4, h5, h6, h7, h8⟩ := hT
  refine ⟨_, 8, 54, #[], hm, rfl, enters_of Tryz.func54 (by kernel_rfl) rfl, ?_⟩
  rcases hl with hl | hl
  · have e : toldX x 7 s n a ts = oneX s (ts.getD 0 nulT) := by simp [toldX, hl]
    rw [e]; exact sign_one _ _ _ _ _ _ _ _ W B c ts hR hl hok
  · have e : toldX x 7 s n a ts = opX s (ts.getD 0 nulT) (ts.getD 1 nulT) := by simp [toldX, hl]
    rw [e]; exact sign_two _ _ _ _ _ _ _ _ W B c ts hR hl hok hW
theorem kind8 (hR : RdT W B ts) (hl : ts.length = 1) : KindAt W M 8 s t n a A len cap B c ts (toldX x 8 s n a ts) := by
  obtain ⟨xb, c1, c2, c3, c4, c5, c6, c7, c8, hm, hx, h1, h2, h3, h4, h5, h6, h7, h8⟩ := hT
  have e : toldX x 8 s n a ts = (flagT (decide ((ts.getD 0 nulT).1 = 0) == decide (n = 1)), 0) := by simp [toldX]
  rw [e]
  exact ⟨_, 9, 55, #[], hm, rfl, enters_of Tryz.func55 (by kernel_rfl) rfl, is_tell _ _ _ _ _ _ _ _ W B c ts hR hl⟩
theorem kind9 (hR : RdT W B ts) (hl : 2 ≤ ts.length) (hl2 : ts.length ≤ 100000) (hlc : ts.length ≤ c) (hok : ∀ t ∈ ts, OkT t) (hW : Wd W) : KindAt W M 9 s t n a A len cap B c ts (toldX x 9 s n a ts) := by
  obtain ⟨xb, c1, c2, c3, c4, c5, c6, c7, c8, hm, hx, h1, h2, h3, h4, h5, h6, h7, h8⟩ := hT
  have e : toldX x 9 s n a ts = amX n ts := by simp [toldX]
  rw [e]
  exact ⟨_, 10, 57, #[], hm, rfl, enters_of Tryz.func57 (by kernel_rfl) rfl, am_tell _ _ _ _ _ _ _ _ W B c ts hR hl hl2 hlc hok hW⟩
theorem kind10 (hR : RdT W B ts) (hlc : ts.length ≤ c) (hC : CallIs s ts (callX s ts)) (hW : Wd W) : KindAt W M 10 s t n a A len cap B c ts (toldX x 10 s n a ts) := by
  obtain ⟨xb, c1, c2, c3, c4, c5, c6, c7, c8, hm, hx, h1, h2, h3, h4, h5, h6, h7, h8⟩ := hT
  have e : toldX x 10 s n a ts = callX s ts := by simp [toldX]
  rw [e]
  exact ⟨_, 11, 58, #[], hm, rfl, enters_of Tryz.func58 (by kernel_rfl) rfl, call_tell _ _ _ _ _ _ _ _ W B c ts hR hlc hC hW⟩
theorem kind11 (hR : RdT W B ts) (hl : ts.length = 1) (hok : ∀ t ∈ ts, OkT t) (hW : Wd W) : KindAt W M 11 s t n a A len cap B c ts (toldX x 11 s n a ts) := by
  obtain ⟨xb, c1, c2, c3, c4, c5, c6, c7, c8, hm, hx, h1, h2, h3, h4, h5, h6, h7, h8⟩ := hT
  have e : toldX x 11 s n a ts = castX s (ts.getD 0 nulT) := by simp [toldX]
  rw [e]
  exact ⟨_, 12, 60, #[], hm, rfl, enters_of Tryz.func60 (by kernel_rfl) rfl, cast_tell _ _ _ _ _ _ _ _ W B c ts hR hl hok hW⟩
/-- each kind that may be -/
theorem kind_at (k : Int) (hm : mayB k s n ts.length = true) (ho : EnvOk x) (hR : RdT W B ts) (hl2 : ts.length ≤ 100000) (hlc : ts.length ≤ c) (hok : ∀ t ∈ ts, OkT t) (hC : k = 10 → CallIs s ts (callX s ts)) (hW : Wd W) : KindAt W M k s t n a A len cap B c ts (toldX x k s n a ts) := by
  by_cases h : k = 1 ∨ k = 2 ∨ k = 5 ∨ k = 15 ∨ k = 14 ∨ k = 13 ∨ k = 10
  · rcases h with rfl | rfl | rfl | rfl | rfl | rfl | rfl
    · exact kind1 hT s t n a A len cap B c ts ho
    · exact kind2 hT s t n a A len cap B c ts ho
    · exact kind5 hT s t n a A len cap B c ts ho
    · exact kind15 hT s t n a A len cap B c ts ho
    · exact kind14 hT s t n a A len cap B c ts ho
    · exact kind13 hT s t n a A len cap B c ts ho
    · exact kind10 hT s t n a A len cap B c ts hR hlc (hC rfl) hW
  unfold mayB at hm
  rw [if_neg h] at hm
  by_cases h2 : k = 3 ∨ k = 4
  · rcases h2 with rfl | rfl
    · exact kind3 hT s t n a A len cap B c ts ho
    · exact kind4 hT s t n a A len cap B c ts ho
  rw [if_neg h2] at hm
  by_cases h3 : k = 7
  · subst h3
    rw [if_pos rfl] at hm
    exact kind7 hT s t n a A len cap B c ts hR (by simpa using hm) hok hW
  rw [if_neg h3] at hm
  by_cases h4 : k = 8
  · subst h4
    rw [if_pos rfl] at hm
    exact kind8 hT s t n a A len cap B c ts hR (by simp at hm; exact hm.1)
  rw [if_neg h4] at hm
  by_cases h5 : k = 9
  · subst h5
    rw [if_pos rfl] at hm
    exact kind9 hT s t n a A len cap B c ts hR (by simp at hm; exact hm.1) hl2 hlc hok hW
  rw [if_neg h5] at hm
  by_cases h6 : k = 11
  · subst h6
    rw [if_pos rfl] at hm
    exact kind11 hT s t n a A len cap B c ts hR (by simpa using hm) hok hW
  rw [if_neg h6] at hm
  cases hm
end
/-- what a kind comes to has the sizes that values have -/
theorem atT_ok {l : List Trip} (h : ∀ t ∈ l, OkT t) (n : Int) : OkT (atT l n) := by
  unfold atT
  split
  · exact okT_nul
  · rw [List.getD_eq_getElem?_getD]
    cases hq : l[n.toNat]? with
    | none => exact okT_nul
    | some t => exact h t (List.mem_of_getElem? hq)
end Go.Proofs.YteijijoiifbjlaaGreatDoor
