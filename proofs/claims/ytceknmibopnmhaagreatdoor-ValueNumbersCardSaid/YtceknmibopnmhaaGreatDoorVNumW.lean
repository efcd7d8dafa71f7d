/-
  Layer 2: ValueNumbers: its last region, and its walk. Conditions: the library's variables are as its text lays them.
-/
import Derived.Test.YtceknmibopnmhaaGreatDoorVNumC
import Derived.Laws.Append
import Derived.Deep.RegionHeld3
import Derived.IntWalk
import Derived.Test.YtceknmibopnmhaaGreatDoorVNumR2
namespace Go.Proofs.YtceknmibopnmhaaGreatDoor
section
open Go.ChangeShapes Go.WideShapes Go.ChangeAt Go.RowKit Go.ChangeMaps Go.Lib
set_option linter.unusedVariables false
def cellsV : List Trip → List Value
  | [] => []
  | t :: r => .int .u8 t.1 :: .int .i64 t.2.1 :: .string t.2.2 :: cellsV r
theorem cellsV_length : ∀ vs : List Trip, (cellsV vs).length = vs.length * 3
  | [] => rfl
  | t :: r => by simp [cellsV, cellsV_length r]; omega
theorem cellsV_get : ∀ (l : List Trip) (i : Nat) (x : Trip), l[i]? = some x → (cellsV l)[i * 3]? = some (.int .u8 x.1) ∧ (cellsV l)[i * 3 + 1]? = some (.int .i64 x.2.1) ∧ (cellsV l)[i * 3 + 2]? = some (.string x.2.2) := by
  intro l
  induction l with
  | nil => intro i x h; simp at h
  | cons u r ih =>
    intro i x h
    match i, h with
    | 0, h => obtain rfl := Option.some.inj h; exact ⟨rfl, rfl, rfl⟩
    | i + 1, h =>
      have := ih i x h
      rw [show (i + 1) * 3 = i * 3 + 1 + 1 + 1 by omega]
      exact this
theorem cellsV_append : ∀ l m : List Trip, cellsV (l ++ m) = cellsV l ++ cellsV m
  | [], m => rfl
  | t :: r, m => by simp [cellsV, cellsV_append r m]
theorem add0 (b j : Nat) : (⟨b, 0, none⟩ : Addr).add j = ⟨b, j, none⟩ := by
  unfold Addr.add
  by_cases h : j = 0
  · subst h; simp
  · simp [h]
theorem rdv_cells {w : World} {b : Nat} {vs : List Trip} (h : RdV w b 0 vs) : ∀ (j : Nat) (v : Value), (cellsV vs)[j]? = some v → w.cell? ((⟨b, 0, none⟩ : Addr).add j) = some v := by
  intro j v hj
  have hl : j < vs.length * 3 := by
    have := (List.getElem?_eq_some_iff.1 hj).1
    rwa [cellsV_length] at this
  rw [add0]
  obtain ⟨k, hk⟩ : ∃ k, k = j / 3 := ⟨_, rfl⟩
  have hkl : k < vs.length := by omega
  obtain ⟨⟨a, n, s⟩, ht⟩ : ∃ t, vs[k]? = some t := ⟨_, List.getElem?_eq_getElem hkl⟩
  obtain ⟨c0, c1, c2⟩ := cellsV_get vs k _ ht
  obtain ⟨d0, d1, d2⟩ := h.2 k a n s ht
  rcases (show j = k * 3 ∨ j = k * 3 + 1 ∨ j = k * 3 + 2 by omega) with rfl | rfl | rfl
  · rw [c0] at hj; obtain rfl := Option.some.inj hj; simpa using d0
  · rw [c1] at hj; obtain rfl := Option.some.inj hj; simpa using d1
  · rw [c2] at hj; obtain rfl := Option.some.inj hj; simpa using d2
theorem run_appV (w : World) (b c : Nat) (vs us : List Trip) (hv : RdV w b 0 vs) (hu : RdV w c 0 us) (h0 : 0 < us.length) (hl : vs.length + us.length ≤ 1000) :
    ∃ cap w', (∀ ty, (Builtin.append_ #[27, 27] ty #[.slice (some ⟨b, 0, none⟩) vs.length vs.length, .slice (some ⟨c, 0, none⟩) us.length us.length]).run Tryz.prog w = .ok (.slice (some ⟨w.heap.size, 0, none⟩) (vs.length + us.length) cap) w') ∧ RdV w' w.heap.size 0 (vs ++ us) ∧ Below w.heap.size w w' := by
  obtain ⟨i, hi, hz0, hz1, hz2⟩ := info_parts Tryz.info_VM
  have hcap : Builtin.nextslicecap (vs.length + us.length) vs.length * 32 ≤ 281474976710656 := growslice_fits (by omega) (by omega)
  have h := fun ty => run_append_grow (P := Tryz.prog) w 27 ty 24 i _ Tryz.underlying27 hi hz0 ⟨b, 0, none⟩ vs.length vs.length (cellsV vs) (by rw [hz1, cellsV_length]) (rdv_cells hv) ⟨c, 0, none⟩ us.length us.length (cellsV us) (by rw [hz1, cellsV_length]) (rdv_cells hu) (by omega) (by omega) (by rw [hz2]; exact hcap)
  refine ⟨_, _, h, ?_, ?_⟩
  · have h2 := World.alloc_heap_new w.drew (.cells ((cellsV vs).toArray ++ (cellsV us).toArray ++ Builtin.zeroCells (vv 0 0 ⟨#[]⟩ : Value).cells (grownCap w (vs.length + us.length) vs.length 24 - (vs.length + us.length))) 24)
    have hsz : w.drew.heap.size = w.heap.size := rfl
    rw [hsz] at h2
    refine ⟨by simp [hsz], fun j a n s hj => ?_⟩
    obtain ⟨c0, c1, c2⟩ := cellsV_get (vs ++ us) j _ hj
    have hjl : j < (vs ++ us).length := (List.getElem?_eq_some_iff.1 hj).1
    have hL : (cellsV (vs ++ us)).length = (vs ++ us).length * 3 := cellsV_length _
    rw [cellsV_append] at c0 c1 c2 hL
    have key : ∀ (q : Nat) (v : Value), (cellsV vs ++ cellsV us)[q]? = some v → ((cellsV vs).toArray ++ (cellsV us).toArray ++ Builtin.zeroCells (vv 0 0 ⟨#[]⟩ : Value).cells (grownCap w (vs.length + us.length) vs.length 24 - (vs.length + us.length)))[q]? = some v := by
      intro q v hq
      have hq2 := (List.getElem?_eq_some_iff.1 hq).1
      rw [Array.getElem?_append_left (by simpa using hq2)]
      simpa using hq
    refine ⟨?_, ?_, ?_⟩
    · simp only [World.cell?, h2, Nat.zero_add]
      exact key _ _ c0
    · simp only [World.cell?, h2, Nat.zero_add]
      exact key _ _ c1
    · simp only [World.cell?, h2, Nat.zero_add]
      exact key _ _ c2
  · exact (drewV (Below.refl w.heap.size w)).alloc (Nat.le_refl _) _
section
variable {ops : Array Oper} {Q : Exit → Act → World → Prop} {i : Nat} {a : Act} {w : World} {R : Value → World → Prop}
theorem step_appV {x y : Operand} {b c : Nat} (vs us : List Trip) {n m : Nat} (hn : n = vs.length) (hm : m = us.length) (hop : opO ops i = some (.call { callee := .builtin .append, args := #[x, y], argTypes := #[27, 27] })) (hw : Wanted ops i a) (hx : a.eval x = .slice (some ⟨b, 0, none⟩) n n) (hy : a.eval y = .slice (some ⟨c, 0, none⟩) m m) (hv : RdV w b 0 vs) (hu : RdV w c 0 us) (h0 : 0 < us.length) (hl : vs.length + us.length ≤ 1000)
    (hR : ∀ g cap w', RdV w' g 0 (vs ++ us) → Below w.heap.size w w' → R (.slice (some ⟨g, 0, none⟩) (vs.length + us.length) cap) w' ∧ Below w.heap.size w w') : wpOp Tryz.prog ops Q i (fun a' w' => ∃ v, a' = a.put (dstO ops i) v ∧ R v w' ∧ Below w.heap.size w w') a w := by
  subst hn hm
  obtain ⟨cap, w', hrun, h1, h2⟩ := run_appV w b c vs us hv hu h0 hl
  refine step_run (v := .slice (some ⟨w.heap.size, 0, none⟩) (vs.length + us.length) cap) (w' := w') hop hw (fun o ho => ?_) (hR _ _ _ h1 h2)
  simp only [execOp, ho, resolve, List.map_toArray, List.map_cons, List.map_nil, hx, hy]
  simp [invoke, builtin, hrun]
end
theorem kindName_int (w : World) : Calls Tryz.prog 121 #[.int .u8 1] w fun e w' => e = .returned (.string ⟨#[105, 110, 116, 101, 103, 101, 114]⟩) ∧ w = w' := by
  go_enter Tryz.func121, Tryz.ntmps121
  go_wp2
  go_ret
  exact ⟨rfl, rfl⟩
set_option maxRecDepth 100000 in
theorem typeof_int (b : Nat) (n : Int) (w : World) (hR : RdV w b 0 [(1, n, ⟨#[]⟩)]) : Calls Tryz.prog 120 #[.slice (some ⟨b, 0, none⟩) 1 1] w (RetV (vv 2 0 ⟨#[105, 110, 116, 101, 103, 101, 114]⟩) 0 w) := by
  obtain ⟨c0, c1, c2⟩ := (hR.on (w1_below w)).one
  clear hR
  go_enter Tryz.func120, Tryz.ntmps120
  go_wp2_with (first
    | (go_at_call 121; refine (kindName_int _).mono ?_; rintro e wa ⟨rfl, rfl⟩)
    | (go_at_call 61; refine (textValue_any _ _).mono ?_; rintro e wb ⟨rfl, bb⟩; have hcur := Lib.hid bb; obtain ⟨u0, u1, u2, v0, v1, v2⟩ := w1_out w _ hcur.out; have hz : w.heap.size < wb.heap.size := (by have := hcur.out.size; simp at this; omega)))
  exact bodyPost_ret (v := .tuple #[vv 2 0 ⟨#[105, 110, 116, 101, 103, 101, 114]⟩, .int .i64 0]) (by simp [results, Tryz.results120, go_sem, u0, u1, u2]) rfl ⟨rfl, w1_end _ _ hcur.out _ _ _⟩
theorem ci_typeof (w0 : World) : CallIs w0 2 0 ⟨#[105, 110, 116, 101, 103, 101, 114]⟩ ⟨#[116, 121, 112, 101, 111, 102]⟩ [(1, 1, ⟨#[]⟩)] := fun w b hb hR => by
  have hA : AllR [(1, 1, ⟨#[]⟩)] := allR1 (rt1 1)
  refine calls_yes 2 0 _ _ _ 1 1 w fun W hb2 => ?_
  refine Call_fn _ 1 1 true _ _ named_typeof b 0 1 [(1, 1, ⟨#[]⟩)] W (allR_size hA) (by simp) (hR.on hb2) (by simp) (by simp) (allR_bad hA) (.inl rfl) 2 0 _ 0 enters_typeof ?_
  intro V c1 c2 hV _
  exact typeof_int b 1 V ((hR.on hb2).on hV)
end
section
open Go.ChangeShapes Go.WideShapes Go.ChangeAt Go.RowKit Go.ChangeMaps Go.Lib
set_option linter.unusedVariables false
theorem tv3 (s : ByteArray) : textV 3 0 s = s := by simp [textV]
set_option maxRecDepth 100000 in
set_option maxHeartbeats 800000 in
theorem substr_blob (A : Option Addr) (c : Nat) (w : World) (hW : Wd w) :
    Calls Tryz.prog 128 #[vv 3 0 ⟨#[1, 0]⟩, .int .i64 2, .slice A 0 c] w fun e w' => e = .returned (vv 3 0 ⟨#[0]⟩) ∧ Below w.heap.size w w' := by
  have HWd := Lib.hid (hW.on (w2_below w 3 0 ⟨#[1, 0]⟩))
  have hsz : (⟨#[1, 0]⟩ : ByteArray).size = 2 := rfl
  clear hW
  go_enter Tryz.func128, Tryz.ntmps128
  go_wp2_with (go_at_call 42; refine (Text_any _ _ _ _ in0 HWd.out).mono ?_; rintro e wa ⟨rfl, ba⟩; rw [tv3]; have HB := Lib.hid ba; obtain ⟨g0, u0, u1, u2, v0, v1, v2⟩ := w2_out _ _ _ _ _ ba; have hz : w.heap.size + 1 < wa.heap.size := (by have := ba.size; rw [w2_size] at this; omega); clear ba)
  have hex : (⟨#[1, 0]⟩ : ByteArray).extract ((min (max 2 1) 3 : Int).toNat - 1) ((min (max 3 (min (max 2 1) 3)) 3 : Int).toNat - 1) = ⟨#[0]⟩ := by kernel_rfl
  rw [hex]
  exact bodyPost_ret (v := vv 3 0 ⟨#[0]⟩) (by simp [results, Tryz.results128, go_sem, u0, u1, u2]) rfl ⟨rfl, w2_end _ _ _ _ _ HB.out _ _ _⟩
set_option maxRecDepth 100000 in
set_option maxHeartbeats 800000 in
theorem subCallB (b off : Nat) (w : World) (hW : Wd w) (hR : RdV w b off [(3, 0, ⟨#[1, 0]⟩), (1, 2, ⟨#[]⟩)]) :
    Calls Tryz.prog 127 #[.slice (some ⟨b, off, none⟩) 2 2] w (RetV (vv 3 0 ⟨#[0]⟩) 0 w) := by
  have HWd := Lib.hid hW
  have F := fun (X : World) (h : Below w.heap.size w X) => (hR.on h).two
  clear hW hR
  go_enter Tryz.func127, Tryz.ntmps127
  go_wp2_with fail
  go_region_held3 (fun X => X.cell? ⟨b, off, none⟩ = some (.int .u8 3) ∧ X.cell? ⟨b, off + 1, none⟩ = some (.int .i64 0) ∧ X.cell? ⟨b, off + 2, none⟩ = some (.string ⟨#[1, 0]⟩) ∧
      X.cell? ⟨b, off + 3, none⟩ = some (.int .u8 1) ∧ X.cell? ⟨b, off + 3 + 1, none⟩ = some (.int .i64 2) ∧ X.cell? ⟨b, off + 3 + 2, none⟩ = some (.string ⟨#[]⟩))
    (first | exact F _ (w1_end _ _ hcur.out _ _ _) | exact F _ ((w1_below w).trans (hcur.out.mono (by simp))) | exact F _ (w1_below w).drew)
    (first
      | (go_at_call 41; refine (Int_any _ _ _ _ szE).mono ?_; rintro e wa ⟨rfl, ba⟩; rw [iv1]; have hcur := Lib.hid ((Below.refl (w1 w).heap.size (w1 w)).drew.trans ba))
      | (go_at_call 128; refine (substr_blob _ _ _ (HWd.out.on ((w1_below w).trans (hcur.out.mono (by simp))))).mono ?_; rintro e wb ⟨rfl, bb⟩; have hcur := Lib.hid (hcur.out.trans (bb.mono hcur.out.size)); obtain ⟨u0, u1, u2, v0, v1, v2⟩ := w1_out w _ hcur.out; have hz : w.heap.size < wb.heap.size := (by have := hcur.out.size; simp at this; omega)))
  go_wp2_with fail
  exact bodyPost_ret (v := .tuple #[vv 3 0 ⟨#[0]⟩, .int .i64 0]) (by simp [results, Tryz.results127, go_sem, u0, u1, u2]) rfl ⟨rfl, w1_end _ _ hcur.out _ _ _⟩

theorem ci_subB (w0 : World) (hW : Wd w0) : CallIs w0 3 0 ⟨#[0]⟩ ⟨#[115, 117, 98, 115, 116, 114]⟩ [(3, 0, ⟨#[1, 0]⟩), (1, 2, ⟨#[]⟩)] := fun w b hb hR => by
  have hA : AllR [(3, 0, ⟨#[1, 0]⟩), (1, 2, ⟨#[]⟩)] := allR2 (.inr (.inr ⟨.inr rfl, rfl, by decide⟩)) (rt1 2)
  refine calls_yes 3 0 _ _ _ 2 2 w fun W hb2 => ?_
  refine Call_fn _ 2 3 false _ _ named_substr b 0 2 [(3, 0, ⟨#[1, 0]⟩), (1, 2, ⟨#[]⟩)] W (allR_size hA) (by simp) (hR.on hb2) (by simp) (by simp) (allR_bad hA) (.inr (by simp [pNul])) 3 0 _ 0 enters_substr ?_
  intro V c1 c2 hV _
  exact subCallB b 0 V (hW.on ((hb.trans (hb2.mono hb.size)).trans (hV.mono (hb.trans (hb2.mono hb.size)).size))) ((hR.on hb2).on hV)
end
section
open Go.ChangeShapes Go.WideShapes Go.ChangeAt Go.RowKit
set_option linter.unusedVariables false
set_option maxRecDepth 100000

def hundred : List Trip := List.replicate 99 (0, 0, ⟨#[]⟩) ++ [(1, 5, ⟨#[]⟩)]
def IsC : Value → World → Prop := fun v w => ∃ g cap, v = .slice (some ⟨g, 0, none⟩) ((List.replicate 99 ((0, 0, ⟨#[]⟩) : Trip)).length + [((1, 5, ⟨#[]⟩) : Trip)].length) cap ∧ RdV w g 0 (List.replicate 99 (0, 0, ⟨#[]⟩) ++ [(1, 5, ⟨#[]⟩)])
theorem mono_isC : MonoF IsC := fun _ _ _ ⟨b, c, e, h⟩ hb => ⟨b, c, e, h.on hb⟩
def WdOn (w0 : World) : Prop := ∀ w : World, Below w0.heap.size w0 w → Wd w
def CoalIs (w0 : World) : Prop := ∀ (w : World) (g cap : Nat), Below w0.heap.size w0 w → RdV w g 0 (List.replicate 99 (0, 0, ⟨#[]⟩) ++ [(1, 5, ⟨#[]⟩)]) → Calls Tryz.prog 22 #[vv 1 5 ⟨#[]⟩, .string ⟨#[99, 111, 97, 108, 101, 115, 99, 101]⟩, .slice (some ⟨g, 0, none⟩) ((List.replicate 99 ((0, 0, ⟨#[]⟩) : Trip)).length + [((1, 5, ⟨#[]⟩) : Trip)].length) cap] w fun e w' => e = .returned (.bool true) ∧ Below w.heap.size w w'
abbrev cells2 (k n : Int) (s : ByteArray) (k' n' : Int) (s' : ByteArray) : Obj := .cells #[.int .u8 k, .int .i64 n, .string s, .int .u8 k', .int .i64 n', .string s'] 24
theorem rdv2 (X : World) (k n : Int) (s : ByteArray) (k' n' : Int) (s' : ByteArray) : RdV (X.alloc (cells2 k n s k' n' s')) X.heap.size 0 [(k, n, s), (k', n', s')] := by
  refine ⟨by simp, fun j a b c hj => ?_⟩
  match j, hj with
  | 0, hj => obtain ⟨rfl, rfl, rfl⟩ : k = a ∧ n = b ∧ s = c := by simpa using hj
             refine ⟨?_, ?_, ?_⟩ <;> simp [go_sem]
  | 1, hj => obtain ⟨rfl, rfl, rfl⟩ : k' = a ∧ n' = b ∧ s' = c := by simpa using hj
             refine ⟨?_, ?_, ?_⟩ <;> simp [go_sem]
  | j + 2, hj => simp at hj
section
variable {ops : Array Oper} {Q : Exit → Act → World → Prop} {i : Nat} {a : Act} {w : World} {R : Value → World → Prop}
theorem step_build2 {x y : Operand} {k n : Int} {s : ByteArray} {k' n' : Int} {s' : ByteArray} (hop : opO ops i = some (.buildSlice 27 2 #[(0, x), (1, y)])) (hw : Wanted ops i a) (hx : a.eval x = vv k n s) (hy : a.eval y = vv k' n' s')
    (hR : ∀ b, RdV (w.alloc (cells2 k n s k' n' s')) b 0 [(k, n, s), (k', n', s')] → Below w.heap.size w (w.alloc (cells2 k n s k' n' s')) → R (.slice (some ⟨b, 0, none⟩) 2 2) (w.alloc (cells2 k n s k' n' s'))) : wpOp Tryz.prog ops Q i (fun a' w' => ∃ v, a' = a.put (dstO ops i) v ∧ R v w') a w := by
  refine step_run (v := .slice (some ⟨w.heap.size, 0, none⟩) 2 2) (w' := w.alloc (cells2 k n s k' n' s')) hop hw (fun o ho => ?_) (hR _ (rdv2 w k n s k' n' s') ((Below.refl _ _).alloc (Nat.le_refl _) _))
  simp only [execOp, ho, List.map_toArray, List.map_cons, List.map_nil, hx, hy]
  simp [go_sem]
end

noncomputable def vn22Ops : Array Oper := regOf Tryz.f3 22
theorem vn22_fill {v0 v1 v2 v3 v4 v5 v6 v7 v8 v9 v10 v11 v12 v13 v14 v15 v16 v17 v18 v19 v20 v21 v22 v23 v24 v25 v26 v27 v28 v29 v30 v31 v32 v33 v34 v35 v36 v37 v38 v39 v40 v41 v42 v43 v44 v45 v46 v47 v48 v49 v50 v51 v52 v53 v54 v55 v56 v57 v58 v59 v60 v61 v62 v63 v64 v65 v66 v67 v68 v69 v70 v71 v72 v73 v74 v75 v76 v77 v78 v79 v80 v81 v82 v83 v84 v85 v86 v87 v88 v89 v90 v91 v92 v93 v94 v95 v96 v97 v98 v99 v100 v101 v102 v103 v104 v105 v106 v107 v108 v109 v110 v111 v112 v113 v114 v115 v116 v117 v118 v119 v120 v121 v122 v123 v124 v125 v126 v127 v128 v129 v130 v131 v132 v133 v134 v135 v136 v137 v138 v139 v140 v141 v142 v143 v144 v145 v146 v147 v148 v149 v150 v151 v152 v153 v154 v155 v156 v157 v158 v159 v160 v161 v162 v163 v164 v165 v166 v167 v168 v169 v170 v171 v172 v173 v174 v175 v176 v177 v178 v179 v180 v181 v182 v183 v184 v185 v186 v187 v188 v189 v190 v191 v192 v193 v194 v195 v196 v197 v198 v199 v200 v201 v202 v203 v204 v205 v206 v207 v208 v209 v210 v211 v212 v213 v214 v215 v216 v217 v218 v219 v220 v221 v222 v223 v224 v225 v226 v227 v228 v229 v230 v231 v232 v233 v234 v235 v236 v237 v238 v239 v240 v241 v242 v243 v244 : Value} (V : Nat → Value) : fillT vn22Ops #[v0, v1, v2, v3, v4, v5, v6, v7, v8, v9, v10, v11, v12, v13, v14, v15, v16, v17, v18, v19, v20, v21, v22, v23, v24, v25, v26, v27, v28, v29, v30, v31, v32, v33, v34, v35, v36, v37, v38, v39, v40, v41, v42, v43, v44, v45, v46, v47, v48, v49, v50, v51, v52, v53, v54, v55, v56, v57, v58, v59, v60, v61, v62, v63, v64, v65, v66, v67, v68, v69, v70, v71, v72, v73, v74, v75, v76, v77, v78, v79, v80, v81, v82, v83, v84, v85, v86, v87, v88, v89, v90, v91, v92, v93, v94, v95, v96, v97, v98, v99, v100, v101, v102, v103, v104, v105, v106, v107, v108, v109, v110, v111, v112, v113, v114, v115, v116, v117, v118, v119, v120, v121, v122, v123, v124, v125, v126, v127, v128, v129, v130, v131, v132, v133, v134, v135, v136, v137, v138, v139, v140, v141, v142, v143, v144, v145, v146, v147, v148, v149, v150, v151, v152, v153, v154, v155, v156, v157, v158, v159, v160, v161, v162, v163, v164, v165, v166, v167, v168, v169, v170, v171, v172, v173, v174, v175, v176, v177, v178, v179, v180, v181, v182, v183, v184, v185, v186, v187, v188, v189, v190, v191, v192, v193, v194, v195, v196, v197, v198, v199, v200, v201, v202, v203, v204, v205, v206, v207, v208, v209, v210, v211, v212, v213, v214, v215, v216, v217, v218, v219, v220, v221, v222, v223, v224, v225, v226, v227, v228, v229, v230, v231, v232, v233, v234, v235, v236, v237, v238, v239, v240, v241, v242, v243, v244] V = #[V 87, v1, v2, v3, v4, v5, v6, v7, v8, v9, v10, v11, v12, v13, v14, v15, v16, v17, v18, v19, v20, v21, v22, v23, v24, v25, v26, v27, v28, v29, v30, v31, v32, v33, v34, v35, v36, v37, v38, v39, v40, v41, v42, v43, v44, v45, v46, v47, v48, v49, v50, v51, v52, v53, v54, v55, v56, v57, v58, v59, v60, v61, v62, v63, v64, v65, v66, v67, v68, v69, v70, v71, v72, v73, v74, v75, v76, v77, v78, v79, v80, v81, v82, v83, v84, v85, v86, v87, v88, v89, v90, v91, v92, v93, v94, v95, v96, v97, v98, v99, v100, v101, v102, v103, v104, v105, v106, v107, v108, v109, v110, v111, v112, v113, v114, v115, v116, v117, v118, v119, v120, v121, v122, v123, v124, v125, v126, v127, v128, v129, v130, v131, v132, v133, v134, v135, v136, v137, v138, v139, v140, v141, v142, v143, v144, v145, v146, v147, v148, v149, v150, v151, v152, v153, v154, v155, v156, v157, V 0, V 1, V 2, V 3, V 4, V 5, V 6, V 7, V 8, V 9, V 10, V 11, V 12, V 13, V 14, V 15, V 16, V 17, V 18, V 19, V 20, V 21, V 22, V 23, V 24, V 25, V 26, V 27, V 28, V 29, V 30, V 31, V 32, V 33, V 34, V 35, V 36, V 37, V 38, V 39, V 40, V 41, V 42, V 43, V 44, V 45, V 46, V 47, V 48, V 49, V 50, V 51, V 52, V 53, V 54, V 55, V 56, V 57, V 58, V 59, V 60, V 61, V 62, V 63, V 64, V 65, V 66, V 67, V 68, V 69, V 70, V 71, V 72, V 73, V 74, V 75, V 76, V 77, V 78, V 79, V 80, V 81, V 82, V 83, V 84, V 85, V 86] := by
  kernel_rfl
def vn22L (q17 q19 q21 : Nat) : List (Value → World → Prop) := [IsV (vv 0 0 ⟨#[]⟩), IsV (.int .i64 2), IsV (.bool true), IsV (.bool true), IsV (vv 0 0 ⟨#[]⟩), IsV (.int .i64 2), IsV (.bool true), IsV (.bool true), IsV (.bool true), IsV (vv 0 0 ⟨#[]⟩), IsV (.int .i64 2), IsV (.bool true), IsV (.bool true), IsV (.bool true), IsV (.bool true), IsV (.bool true), IsV (.bool true), IsV (.bool true), IsV (.bool true), IsV (.bool true), IsV (.bool true), IsV (.bool true), IsV (.bool true), IsV (vv 1 5 ⟨#[]⟩), IsM 99, IsV (vv 1 5 ⟨#[]⟩), IsL [(1, 5, ⟨#[]⟩)], IsC, IsV (.bool true), IsV (.bool true), IsV (.bool true), IsV (vv 0 0 ⟨#[]⟩), IsV (vv 0 0 ⟨#[]⟩), IsV (vv 0 0 ⟨#[]⟩), IsL [(0, 0, ⟨#[]⟩), (0, 0, ⟨#[]⟩)], IsV (.bool true), IsV (.bool true), IsV (.bool true), IsV (vv 2 0 ⟨#[105, 110, 116, 101, 103, 101, 114]⟩), IsV (vv 1 1 ⟨#[]⟩), IsL [(1, 1, ⟨#[]⟩)], IsV (.bool true), IsV (.bool true), IsV (.bool true), IsV (vv 1 3 ⟨#[]⟩), IsV (vv 2 0 ⟨#[97, 98, 99, 97, 98]⟩), IsV (vv 2 0 ⟨#[99, 97]⟩), IsL [(2, 0, ⟨#[97, 98, 99, 97, 98]⟩), (2, 0, ⟨#[99, 97]⟩)], IsV (.bool true), IsV (.bool true), IsV (.bool true), IsV (vv 1 1 ⟨#[]⟩), IsV (vv 2 0 ⟨#[97]⟩), IsV (vv 2 0 ⟨#[]⟩), IsL [(2, 0, ⟨#[97]⟩), (2, 0, ⟨#[]⟩)], IsV (.bool true), IsV (.bool true), IsV (.bool true), IsV (vv 1 0 ⟨#[]⟩), IsV (vv 2 0 ⟨#[]⟩), IsV (vv 2 0 ⟨#[97]⟩), IsL [(2, 0, ⟨#[]⟩), (2, 0, ⟨#[97]⟩)], IsV (.bool true), IsV (.bool true), IsV (.bool true), IsV (vv 3 0 ⟨#[0]⟩), IsV (vv 3 0 ⟨#[1, 0]⟩), IsV (vv 1 2 ⟨#[]⟩), IsL [(3, 0, ⟨#[1, 0]⟩), (1, 2, ⟨#[]⟩)], IsV (.bool true), IsV (.bool true), IsV (.bool true), IsV (vv 2 0 ⟨#[50, 51]⟩), IsV (vv 1 (-123) ⟨#[]⟩), IsV (vv 1 (-2) ⟨#[]⟩), IsL [(1, (-123), ⟨#[]⟩), (1, (-2), ⟨#[]⟩)], IsV (.bool true), IsV (.bool true), IsV (.bool true), IsV (vv 2 0 ⟨#[65, 90, 91, 65, 123]⟩), IsV (vv 2 0 ⟨#[97, 122, 91, 97, 123]⟩), IsL [(2, 0, ⟨#[97, 122, 91, 97, 123]⟩)], IsV (.bool true), IsV (.bool true), IsV (.bool true), IsV (.bool true), IsV (.bool true), IsV (.bool true)]
def vn22F (q17 q19 q21 : Nat) (i : Nat) : Value → World → Prop := (vn22L q17 q19 q21).getD i AnyF
theorem vn22F_mono (q17 q19 q21 : Nat) (i : Nat) (v : Value) (w w' : World) (hp : (vn22F q17 q19 q21) i v w) (hb : Below w.heap.size w w') : (vn22F q17 q19 q21) i v w' := by
  refine monoL ?_ i v w w' hp hb
  unfold vn22L
  simp only [List.forall_mem_cons]
  exact ⟨mono_isV _, mono_isV _, mono_isV _, mono_isV _, mono_isV _, mono_isV _, mono_isV _, mono_isV _, mono_isV _, mono_isV _, mono_isV _, mono_isV _, mono_isV _, mono_isV _, mono_isV _, mono_isV _, mono_isV _, mono_isV _, mono_isV _, mono_isV _, mono_isV _, mono_isV _, mono_isV _, mono_isV _, mono_isM _, mono_isV _, mono_isL _, mono_isC, mono_isV _, mono_isV _, mono_isV _, mono_isV _, mono_isV _, mono_isV _, mono_isL _, mono_isV _, mono_isV _, mono_isV _, mono_isV _, mono_isV _, mono_isL _, mono_isV _, mono_isV _, mono_isV _, mono_isV _, mono_isV _, mono_isV _, mono_isL _, mono_isV _, mono_isV _, mono_isV _, mono_isV _, mono_isV _, mono_isV _, mono_isL _, mono_isV _, mono_isV _, mono_isV _, mono_isV _, mono_isV _, mono_isV _, mono_isL _, mono_isV _, mono_isV _, mono_isV _, mono_isV _, mono_isV _, mono_isV _, mono_isL _, mono_isV _, mono_isV _, mono_isV _, mono_isV _, mono_isV _, mono_isV _, mono_isL _, mono_isV _, mono_isV _, mono_isV _, mono_isV _, mono_isV _, mono_isL _, mono_isV _, mono_isV _, mono_isV _, mono_isV _, mono_isV _, mono_isV _, fun _ h => by cases h⟩
theorem vn22_s0 {Q : Exit → Act → World → Prop} {w0 : World} {xs : Nat → Value} (q17 q19 q21 : Nat) (hb17 : BoxOn w0 q17 0 0 ⟨#[]⟩) (hb19 : BoxOn w0 q19 0 0 ⟨#[]⟩) (hb21 : BoxOn w0 q21 0 0 ⟨#[]⟩) (wd : WdOn w0) (cA : CoalIs w0) (c0 : CallIs w0 0 0 ⟨#[]⟩ ⟨#[105, 102, 110, 117, 108, 108]⟩ [(0, 0, ⟨#[]⟩), (0, 0, ⟨#[]⟩)]) (c1 : CallIs w0 2 0 ⟨#[105, 110, 116, 101, 103, 101, 114]⟩ ⟨#[116, 121, 112, 101, 111, 102]⟩ [(1, 1, ⟨#[]⟩)]) (c2 : CallIs w0 1 3 ⟨#[]⟩ ⟨#[105, 110, 115, 116, 114]⟩ [(2, 0, ⟨#[97, 98, 99, 97, 98]⟩), (2, 0, ⟨#[99, 97]⟩)]) (c3 : CallIs w0 1 1 ⟨#[]⟩ ⟨#[105, 110, 115, 116, 114]⟩ [(2, 0, ⟨#[97]⟩), (2, 0, ⟨#[]⟩)]) (c4 : CallIs w0 1 0 ⟨#[]⟩ ⟨#[105, 110, 115, 116, 114]⟩ [(2, 0, ⟨#[]⟩), (2, 0, ⟨#[97]⟩)]) (c5 : CallIs w0 3 0 ⟨#[0]⟩ ⟨#[115, 117, 98, 115, 116, 114]⟩ [(3, 0, ⟨#[1, 0]⟩), (1, 2, ⟨#[]⟩)]) (c6 : CallIs w0 2 0 ⟨#[50, 51]⟩ ⟨#[115, 117, 98, 115, 116, 114]⟩ [(1, (-123), ⟨#[]⟩), (1, (-2), ⟨#[]⟩)]) (c7 : CallIs w0 2 0 ⟨#[65, 90, 91, 65, 123]⟩ ⟨#[117, 112, 112, 101, 114]⟩ [(2, 0, ⟨#[97, 122, 91, 97, 123]⟩)]) (hx17 : xs 17 = .pointer (some ⟨q17, 0, none⟩)) (hx19 : xs 19 = .pointer (some ⟨q19, 0, none⟩)) (hx21 : xs 21 = .pointer (some ⟨q21, 0, none⟩)) (hx18 : xs 18 = .int .i64 2) (hx20 : xs 20 = .int .i64 2) (hx22 : xs 22 = .int .i64 2) : OpStep Tryz.prog vn22Ops Q (vn22F q17 q19 q21) w0 245 xs 0 := by
  intro act w hb hk hF
  have g17 : act.eval (.tmp 17) = .pointer (some ⟨q17, 0, none⟩) := (hk 17 (by decide) (by kernel_rfl)).trans hx17
  exact step_loadB (show opO vn22Ops 0 = some (.load 24 (.tmp 17)) by kernel_rfl) (.free (by kernel_rfl)) g17 (hb17 w hb) ⟨rfl, Below.refl _ _⟩

theorem vn22_s1 {Q : Exit → Act → World → Prop} {w0 : World} {xs : Nat → Value} (q17 q19 q21 : Nat) (hb17 : BoxOn w0 q17 0 0 ⟨#[]⟩) (hb19 : BoxOn w0 q19 0 0 ⟨#[]⟩) (hb21 : BoxOn w0 q21 0 0 ⟨#[]⟩) (wd : WdOn w0) (cA : CoalIs w0) (c0 : CallIs w0 0 0 ⟨#[]⟩ ⟨#[105, 102, 110, 117, 108, 108]⟩ [(0, 0, ⟨#[]⟩), (0, 0, ⟨#[]⟩)]) (c1 : CallIs w0 2 0 ⟨#[105, 110, 116, 101, 103, 101, 114]⟩ ⟨#[116, 121, 112, 101, 111, 102]⟩ [(1, 1, ⟨#[]⟩)]) (c2 : CallIs w0 1 3 ⟨#[]⟩ ⟨#[105, 110, 115, 116, 114]⟩ [(2, 0, ⟨#[97, 98, 99, 97, 98]⟩), (2, 0, ⟨#[99, 97]⟩)]) (c3 : CallIs w0 1 1 ⟨#[]⟩ ⟨#[105, 110, 115, 116, 114]⟩ [(2, 0, ⟨#[97]⟩), (2, 0, ⟨#[]⟩)]) (c4 : CallIs w0 1 0 ⟨#[]⟩ ⟨#[105, 110, 115, 116, 114]⟩ [(2, 0, ⟨#[]⟩), (2, 0, ⟨#[97]⟩)]) (c5 : CallIs w0 3 0 ⟨#[0]⟩ ⟨#[115, 117, 98, 115, 116, 114]⟩ [(3, 0, ⟨#[1, 0]⟩), (1, 2, ⟨#[]⟩)]) (c6 : CallIs w0 2 0 ⟨#[50, 51]⟩ ⟨#[115, 117, 98, 115, 116, 114]⟩ [(1, (-123), ⟨#[]⟩), (1, (-2), ⟨#[]⟩)]) (c7 : CallIs w0 2 0 ⟨#[65, 90, 91, 65, 123]⟩ ⟨#[117, 112, 112, 101, 114]⟩ [(2, 0, ⟨#[97, 122, 91, 97, 123]⟩)]) (hx17 : xs 17 = .pointer (some ⟨q17, 0, none⟩)) (hx19 : xs 19 = .pointer (some ⟨q19, 0, none⟩)) (hx21 : xs 21 = .pointer (some ⟨q21, 0, none⟩)) (hx18 : xs 18 = .int .i64 2) (hx20 : xs 20 = .int .i64 2) (hx22 : xs 22 = .int .i64 2) : OpStep Tryz.prog vn22Ops Q (vn22F q17 q19 q21) w0 245 xs 1 := by
  intro act w hb hk hF
  have g18 : act.eval (.tmp 18) = .int .i64 2 := (hk 18 (by decide) (by kernel_rfl)).trans hx18
  exact step_move (show opO vn22Ops 1 = some (.move (.tmp 18)) by kernel_rfl) (.free (by kernel_rfl)) g18 ⟨rfl, Below.refl _ _⟩

theorem vn22_s2 {Q : Exit → Act → World → Prop} {w0 : World} {xs : Nat → Value} (q17 q19 q21 : Nat) (hb17 : BoxOn w0 q17 0 0 ⟨#[]⟩) (hb19 : BoxOn w0 q19 0 0 ⟨#[]⟩) (hb21 : BoxOn w0 q21 0 0 ⟨#[]⟩) (wd : WdOn w0) (cA : CoalIs w0) (c0 : CallIs w0 0 0 ⟨#[]⟩ ⟨#[105, 102, 110, 117, 108, 108]⟩ [(0, 0, ⟨#[]⟩), (0, 0, ⟨#[]⟩)]) (c1 : CallIs w0 2 0 ⟨#[105, 110, 116, 101, 103, 101, 114]⟩ ⟨#[116, 121, 112, 101, 111, 102]⟩ [(1, 1, ⟨#[]⟩)]) (c2 : CallIs w0 1 3 ⟨#[]⟩ ⟨#[105, 110, 115, 116, 114]⟩ [(2, 0, ⟨#[97, 98, 99, 97, 98]⟩), (2, 0, ⟨#[99, 97]⟩)]) (c3 : CallIs w0 1 1 ⟨#[]⟩ ⟨#[105, 110, 115, 116, 114]⟩ [(2, 0, ⟨#[97]⟩), (2, 0, ⟨#[]⟩)]) (c4 : CallIs w0 1 0 ⟨#[]⟩ ⟨#[105, 110, 115, 116, 114]⟩ [(2, 0, ⟨#[]⟩), (2, 0, ⟨#[97]⟩)]) (c5 : CallIs w0 3 0 ⟨#[0]⟩ ⟨#[115, 117, 98, 115, 116, 114]⟩ [(3, 0, ⟨#[1, 0]⟩), (1, 2, ⟨#[]⟩)]) (c6 : CallIs w0 2 0 ⟨#[50, 51]⟩ ⟨#[115, 117, 98, 115, 116, 114]⟩ [(1, (-123), ⟨#[]⟩), (1, (-2), ⟨#[]⟩)]) (c7 : CallIs w0 2 0 ⟨#[65, 90, 91, 65, 123]⟩ ⟨#[117, 112, 112, 101, 114]⟩ [(2, 0, ⟨#[97, 122, 91, 97, 123]⟩)]) (hx17 : xs 17 = .pointer (some ⟨q17, 0, none⟩)) (hx19 : xs 19 = .pointer (some ⟨q19, 0, none⟩)) (hx21 : xs 21 = .pointer (some ⟨q21, 0, none⟩)) (hx18 : xs 18 = .int .i64 2) (hx20 : xs 20 = .int .i64 2) (hx22 : xs 22 = .int .i64 2) : OpStep Tryz.prog vn22Ops Q (vn22F q17 q19 q21) w0 245 xs 2 := by
  intro act w hb hk hF
  have g158 : act.eval (.tmp 158) = vv 0 0 ⟨#[]⟩ := hF 0 (of_decide_eq_true (by kernel_rfl)) 158 (by kernel_rfl)
  have g159 : act.eval (.tmp 159) = .int .i64 2 := hF 1 (of_decide_eq_true (by kernel_rfl)) 159 (by kernel_rfl)
  exact step_call (f := 18) (xs := #[.tmp 158, .tmp 159, .const (.int .i64 2)]) (by kernel_rfl) (.free (by kernel_rfl)) (map3 g158 g159 rfl) (enters_of Tryz.func18 (by kernel_rfl) rfl) ((errs_yes 2 w).mono fun e w' h => ⟨_, h.1, rfl, h.2⟩)

theorem vn22_s3 {Q : Exit → Act → World → Prop} {w0 : World} {xs : Nat → Value} (q17 q19 q21 : Nat) (hb17 : BoxOn w0 q17 0 0 ⟨#[]⟩) (hb19 : BoxOn w0 q19 0 0 ⟨#[]⟩) (hb21 : BoxOn w0 q21 0 0 ⟨#[]⟩) (wd : WdOn w0) (cA : CoalIs w0) (c0 : CallIs w0 0 0 ⟨#[]⟩ ⟨#[105, 102, 110, 117, 108, 108]⟩ [(0, 0, ⟨#[]⟩), (0, 0, ⟨#[]⟩)]) (c1 : CallIs w0 2 0 ⟨#[105, 110, 116, 101, 103, 101, 114]⟩ ⟨#[116, 121, 112, 101, 111, 102]⟩ [(1, 1, ⟨#[]⟩)]) (c2 : CallIs w0 1 3 ⟨#[]⟩ ⟨#[105, 110, 115, 116, 114]⟩ [(2, 0, ⟨#[97, 98, 99, 97, 98]⟩), (2, 0, ⟨#[99, 97]⟩)]) (c3 : CallIs w0 1 1 ⟨#[]⟩ ⟨#[105, 110, 115, 116, 114]⟩ [(2, 0, ⟨#[97]⟩), (2, 0, ⟨#[]⟩)]) (c4 : CallIs w0 1 0 ⟨#[]⟩ ⟨#[105, 110, 115, 116, 114]⟩ [(2, 0, ⟨#[]⟩), (2, 0, ⟨#[97]⟩)]) (c5 : CallIs w0 3 0 ⟨#[0]⟩ ⟨#[115, 117, 98, 115, 116, 114]⟩ [(3, 0, ⟨#[1, 0]⟩), (1, 2, ⟨#[]⟩)]) (c6 : CallIs w0 2 0 ⟨#[50, 51]⟩ ⟨#[115, 117, 98, 115, 116, 114]⟩ [(1, (-123), ⟨#[]⟩), (1, (-2), ⟨#[]⟩)]) (c7 : CallIs w0 2 0 ⟨#[65, 90, 91, 65, 123]⟩ ⟨#[117, 112, 112, 101, 114]⟩ [(2, 0, ⟨#[97, 122, 91, 97, 123]⟩)]) (hx17 : xs 17 = .pointer (some ⟨q17, 0, none⟩)) (hx19 : xs 19 = .pointer (some ⟨q19, 0, none⟩)) (hx21 : xs 21 = .pointer (some ⟨q21, 0, none⟩)) (hx18 : xs 18 = .int .i64 2) (hx20 : xs 20 = .int .i64 2) (hx22 : xs 22 = .int .i64 2) : OpStep Tryz.prog vn22Ops Q (vn22F q17 q19 q21) w0 245 xs 3 := by
  intro act w hb hk hF
  have g160 : act.eval (.tmp 160) = .bool true := hF 2 (of_decide_eq_true (by kernel_rfl)) 160 (by kernel_rfl)
  exact step_move (show opO vn22Ops 3 = some (.move (.tmp 160)) by kernel_rfl) (.free (by kernel_rfl)) g160 ⟨rfl, Below.refl _ _⟩

theorem vn22_s4 {Q : Exit → Act → World → Prop} {w0 : World} {xs : Nat → Value} (q17 q19 q21 : Nat) (hb17 : BoxOn w0 q17 0 0 ⟨#[]⟩) (hb19 : BoxOn w0 q19 0 0 ⟨#[]⟩) (hb21 : BoxOn w0 q21 0 0 ⟨#[]⟩) (wd : WdOn w0) (cA : CoalIs w0) (c0 : CallIs w0 0 0 ⟨#[]⟩ ⟨#[105, 102, 110, 117, 108, 108]⟩ [(0, 0, ⟨#[]⟩), (0, 0, ⟨#[]⟩)]) (c1 : CallIs w0 2 0 ⟨#[105, 110, 116, 101, 103, 101, 114]⟩ ⟨#[116, 121, 112, 101, 111, 102]⟩ [(1, 1, ⟨#[]⟩)]) (c2 : CallIs w0 1 3 ⟨#[]⟩ ⟨#[105, 110, 115, 116, 114]⟩ [(2, 0, ⟨#[97, 98, 99, 97, 98]⟩), (2, 0, ⟨#[99, 97]⟩)]) (c3 : CallIs w0 1 1 ⟨#[]⟩ ⟨#[105, 110, 115, 116, 114]⟩ [(2, 0, ⟨#[97]⟩), (2, 0, ⟨#[]⟩)]) (c4 : CallIs w0 1 0 ⟨#[]⟩ ⟨#[105, 110, 115, 116, 114]⟩ [(2, 0, ⟨#[]⟩), (2, 0, ⟨#[97]⟩)]) (c5 : CallIs w0 3 0 ⟨#[0]⟩ ⟨#[115, 117, 98, 115, 116, 114]⟩ [(3, 0, ⟨#[1, 0]⟩), (1, 2, ⟨#[]⟩)]) (c6 : CallIs w0 2 0 ⟨#[50, 51]⟩ ⟨#[115, 117, 98, 115, 116, 114]⟩ [(1, (-123), ⟨#[]⟩), (1, (-2), ⟨#[]⟩)]) (c7 : CallIs w0 2 0 ⟨#[65, 90, 91, 65, 123]⟩ ⟨#[117, 112, 112, 101, 114]⟩ [(2, 0, ⟨#[97, 122, 91, 97, 123]⟩)]) (hx17 : xs 17 = .pointer (some ⟨q17, 0, none⟩)) (hx19 : xs 19 = .pointer (some ⟨q19, 0, none⟩)) (hx21 : xs 21 = .pointer (some ⟨q21, 0, none⟩)) (hx18 : xs 18 = .int .i64 2) (hx20 : xs 20 = .int .i64 2) (hx22 : xs 22 = .int .i64 2) : OpStep Tryz.prog vn22Ops Q (vn22F q17 q19 q21) w0 245 xs 4 := by
  intro act w hb hk hF
  have g161 : act.eval (.tmp 161) = .bool true := hF 3 (of_decide_eq_true (by kernel_rfl)) 161 (by kernel_rfl)
  have g19 : act.eval (.tmp 19) = .pointer (some ⟨q19, 0, none⟩) := (hk 19 (by decide) (by kernel_rfl)).trans hx19
  exact step_loadB (show opO vn22Ops 4 = some (.load 24 (.tmp 19)) by kernel_rfl) (.told 3 true 161 (by kernel_rfl) (by kernel_rfl) g161) g19 (hb19 w hb) ⟨rfl, Below.refl _ _⟩

theorem vn22_s5 {Q : Exit → Act → World → Prop} {w0 : World} {xs : Nat → Value} (q17 q19 q21 : Nat) (hb17 : BoxOn w0 q17 0 0 ⟨#[]⟩) (hb19 : BoxOn w0 q19 0 0 ⟨#[]⟩) (hb21 : BoxOn w0 q21 0 0 ⟨#[]⟩) (wd : WdOn w0) (cA : CoalIs w0) (c0 : CallIs w0 0 0 ⟨#[]⟩ ⟨#[105, 102, 110, 117, 108, 108]⟩ [(0, 0, ⟨#[]⟩), (0, 0, ⟨#[]⟩)]) (c1 : CallIs w0 2 0 ⟨#[105, 110, 116, 101, 103, 101, 114]⟩ ⟨#[116, 121, 112, 101, 111, 102]⟩ [(1, 1, ⟨#[]⟩)]) (c2 : CallIs w0 1 3 ⟨#[]⟩ ⟨#[105, 110, 115, 116, 114]⟩ [(2, 0, ⟨#[97, 98, 99, 97, 98]⟩), (2, 0, ⟨#[99, 97]⟩)]) (c3 : CallIs w0 1 1 ⟨#[]⟩ ⟨#[105, 110, 115, 116, 114]⟩ [(2, 0, ⟨#[97]⟩), (2, 0, ⟨#[]⟩)]) (c4 : CallIs w0 1 0 ⟨#[]⟩ ⟨#[105, 110, 115, 116, 114]⟩ [(2, 0, ⟨#[]⟩), (2, 0, ⟨#[97]⟩)]) (c5 : CallIs w0 3 0 ⟨#[0]⟩ ⟨#[115, 117, 98, 115, 116, 114]⟩ [(3, 0, ⟨#[1, 0]⟩), (1, 2, ⟨#[]⟩)]) (c6 : CallIs w0 2 0 ⟨#[50, 51]⟩ ⟨#[115, 117, 98, 115, 116, 114]⟩ [(1, (-123), ⟨#[]⟩), (1, (-2), ⟨#[]⟩)]) (c7 : CallIs w0 2 0 ⟨#[65, 90, 91, 65, 123]⟩ ⟨#[117, 112, 112, 101, 114]⟩ [(2, 0, ⟨#[97, 122, 91, 97, 123]⟩)]) (hx17 : xs 17 = .pointer (some ⟨q17, 0, none⟩)) (hx19 : xs 19 = .pointer (some ⟨q19, 0, none⟩)) (hx21 : xs 21 = .pointer (some ⟨q21, 0, none⟩)) (hx18 : xs 18 = .int .i64 2) (hx20 : xs 20 = .int .i64 2) (hx22 : xs 22 = .int .i64 2) : OpStep Tryz.prog vn22Ops Q (vn22F q17 q19 q21) w0 245 xs 5 := by
  intro act w hb hk hF
  have g161 : act.eval (.tmp 161) = .bool true := hF 3 (of_decide_eq_true (by kernel_rfl)) 161 (by kernel_rfl)
  have g20 : act.eval (.tmp 20) = .int .i64 2 := (hk 20 (by decide) (by kernel_rfl)).trans hx20
  exact step_move (show opO vn22Ops 5 = some (.move (.tmp 20)) by kernel_rfl) (.told 3 true 161 (by kernel_rfl) (by kernel_rfl) g161) g20 ⟨rfl, Below.refl _ _⟩

theorem vn22_s6 {Q : Exit → Act → World → Prop} {w0 : World} {xs : Nat → Value} (q17 q19 q21 : Nat) (hb17 : BoxOn w0 q17 0 0 ⟨#[]⟩) (hb19 : BoxOn w0 q19 0 0 ⟨#[]⟩) (hb21 : BoxOn w0 q21 0 0 ⟨#[]⟩) (wd : WdOn w0) (cA : CoalIs w0) (c0 : CallIs w0 0 0 ⟨#[]⟩ ⟨#[105, 102, 110, 117, 108, 108]⟩ [(0, 0, ⟨#[]⟩), (0, 0, ⟨#[]⟩)]) (c1 : CallIs w0 2 0 ⟨#[105, 110, 116, 101, 103, 101, 114]⟩ ⟨#[116, 121, 112, 101, 111, 102]⟩ [(1, 1, ⟨#[]⟩)]) (c2 : CallIs w0 1 3 ⟨#[]⟩ ⟨#[105, 110, 115, 116, 114]⟩ [(2, 0, ⟨#[97, 98, 99, 97, 98]⟩), (2, 0, ⟨#[99, 97]⟩)]) (c3 : CallIs w0 1 1 ⟨#[]⟩ ⟨#[105, 110, 115, 116, 114]⟩ [(2, 0, ⟨#[97]⟩), (2, 0, ⟨#[]⟩)]) (c4 : CallIs w0 1 0 ⟨#[]⟩ ⟨#[105, 110, 115, 116, 114]⟩ [(2, 0, ⟨#[]⟩), (2, 0, ⟨#[97]⟩)]) (c5 : CallIs w0 3 0 ⟨#[0]⟩ ⟨#[115, 117, 98, 115, 116, 114]⟩ [(3, 0, ⟨#[1, 0]⟩), (1, 2, ⟨#[]⟩)]) (c6 : CallIs w0 2 0 ⟨#[50, 51]⟩ ⟨#[115, 117, 98, 115, 116, 114]⟩ [(1, (-123), ⟨#[]⟩), (1, (-2), ⟨#[]⟩)]) (c7 : CallIs w0 2 0 ⟨#[65, 90, 91, 65, 123]⟩ ⟨#[117, 112, 112, 101, 114]⟩ [(2, 0, ⟨#[97, 122, 91, 97, 123]⟩)]) (hx17 : xs 17 = .pointer (some ⟨q17, 0, none⟩)) (hx19 : xs 19 = .pointer (some ⟨q19, 0, none⟩)) (hx21 : xs 21 = .pointer (some ⟨q21, 0, none⟩)) (hx18 : xs 18 = .int .i64 2) (hx20 : xs 20 = .int .i64 2) (hx22 : xs 22 = .int .i64 2) : OpStep Tryz.prog vn22Ops Q (vn22F q17 q19 q21) w0 245 xs 6 := by
  intro act w hb hk hF
  have g161 : act.eval (.tmp 161) = .bool true := hF 3 (of_decide_eq_true (by kernel_rfl)) 161 (by kernel_rfl)
  have g162 : act.eval (.tmp 162) = vv 0 0 ⟨#[]⟩ := hF 4 (of_decide_eq_true (by kernel_rfl)) 162 (by kernel_rfl)
  have g163 : act.eval (.tmp 163) = .int .i64 2 := hF 5 (of_decide_eq_true (by kernel_rfl)) 163 (by kernel_rfl)
  exact step_call (f := 18) (xs := #[.tmp 162, .tmp 163, .const (.int .i64 2)]) (by kernel_rfl) (.told 3 true 161 (by kernel_rfl) (by kernel_rfl) g161) (map3 g162 g163 rfl) (enters_of Tryz.func18 (by kernel_rfl) rfl) ((errs_yes 2 w).mono fun e w' h => ⟨_, h.1, rfl, h.2⟩)

theorem vn22_s7 {Q : Exit → Act → World → Prop} {w0 : World} {xs : Nat → Value} (q17 q19 q21 : Nat) (hb17 : BoxOn w0 q17 0 0 ⟨#[]⟩) (hb19 : BoxOn w0 q19 0 0 ⟨#[]⟩) (hb21 : BoxOn w0 q21 0 0 ⟨#[]⟩) (wd : WdOn w0) (cA : CoalIs w0) (c0 : CallIs w0 0 0 ⟨#[]⟩ ⟨#[105, 102, 110, 117, 108, 108]⟩ [(0, 0, ⟨#[]⟩), (0, 0, ⟨#[]⟩)]) (c1 : CallIs w0 2 0 ⟨#[105, 110, 116, 101, 103, 101, 114]⟩ ⟨#[116, 121, 112, 101, 111, 102]⟩ [(1, 1, ⟨#[]⟩)]) (c2 : CallIs w0 1 3 ⟨#[]⟩ ⟨#[105, 110, 115, 116, 114]⟩ [(2, 0, ⟨#[97, 98, 99, 97, 98]⟩), (2, 0, ⟨#[99, 97]⟩)]) (c3 : CallIs w0 1 1 ⟨#[]⟩ ⟨#[105, 110, 115, 116, 114]⟩ [(2, 0, ⟨#[97]⟩), (2, 0, ⟨#[]⟩)]) (c4 : CallIs w0 1 0 ⟨#[]⟩ ⟨#[105, 110, 115, 116, 114]⟩ [(2, 0, ⟨#[]⟩), (2, 0, ⟨#[97]⟩)]) (c5 : CallIs w0 3 0 ⟨#[0]⟩ ⟨#[115, 117, 98, 115, 116, 114]⟩ [(3, 0, ⟨#[1, 0]⟩), (1, 2, ⟨#[]⟩)]) (c6 : CallIs w0 2 0 ⟨#[50, 51]⟩ ⟨#[115, 117, 98, 115, 116, 114]⟩ [(1, (-123), ⟨#[]⟩), (1, (-2), ⟨#[]⟩)]) (c7 : CallIs w0 2 0 ⟨#[65, 90, 91, 65, 123]⟩ ⟨#[117, 112, 112, 101, 114]⟩ [(2, 0, ⟨#[97, 122, 91, 97, 123]⟩)]) (hx17 : xs 17 = .pointer (some ⟨q17, 0, none⟩)) (hx19 : xs 19 = .pointer (some ⟨q19, 0, none⟩)) (hx21 : xs 21 = .pointer (some ⟨q21, 0, none⟩)) (hx18 : xs 18 = .int .i64 2) (hx20 : xs 20 = .int .i64 2) (hx22 : xs 22 = .int .i64 2) : OpStep Tryz.prog vn22Ops Q (vn22F q17 q19 q21) w0 245 xs 7 := by
  intro act w hb hk hF
  have g161 : act.eval (.tmp 161) = .bool true := hF 3 (of_decide_eq_true (by kernel_rfl)) 161 (by kernel_rfl)
  have g164 : act.eval (.tmp 164) = .bool true := hF 6 (of_decide_eq_true (by kernel_rfl)) 164 (by kernel_rfl)
  exact step_pickT (show opO vn22Ops 7 = some (.pick (.tmp 161) (.tmp 164) (.const (.bool false))) by kernel_rfl) (.free (by kernel_rfl)) g161 g164 ⟨rfl, Below.refl _ _⟩

theorem vn22_s8 {Q : Exit → Act → World → Prop} {w0 : World} {xs : Nat → Value} (q17 q19 q21 : Nat) (hb17 : BoxOn w0 q17 0 0 ⟨#[]⟩) (hb19 : BoxOn w0 q19 0 0 ⟨#[]⟩) (hb21 : BoxOn w0 q21 0 0 ⟨#[]⟩) (wd : WdOn w0) (cA : CoalIs w0) (c0 : CallIs w0 0 0 ⟨#[]⟩ ⟨#[105, 102, 110, 117, 108, 108]⟩ [(0, 0, ⟨#[]⟩), (0, 0, ⟨#[]⟩)]) (c1 : CallIs w0 2 0 ⟨#[105, 110, 116, 101, 103, 101, 114]⟩ ⟨#[116, 121, 112, 101, 111, 102]⟩ [(1, 1, ⟨#[]⟩)]) (c2 : CallIs w0 1 3 ⟨#[]⟩ ⟨#[105, 110, 115, 116, 114]⟩ [(2, 0, ⟨#[97, 98, 99, 97, 98]⟩), (2, 0, ⟨#[99, 97]⟩)]) (c3 : CallIs w0 1 1 ⟨#[]⟩ ⟨#[105, 110, 115, 116, 114]⟩ [(2, 0, ⟨#[97]⟩), (2, 0, ⟨#[]⟩)]) (c4 : CallIs w0 1 0 ⟨#[]⟩ ⟨#[105, 110, 115, 116, 114]⟩ [(2, 0, ⟨#[]⟩), (2, 0, ⟨#[97]⟩)]) (c5 : CallIs w0 3 0 ⟨#[0]⟩ ⟨#[115, 117, 98, 115, 116, 114]⟩ [(3, 0, ⟨#[1, 0]⟩), (1, 2, ⟨#[]⟩)]) (c6 : CallIs w0 2 0 ⟨#[50, 51]⟩ ⟨#[115, 117, 98, 115, 116, 114]⟩ [(1, (-123), ⟨#[]⟩), (1, (-2), ⟨#[]⟩)]) (c7 : CallIs w0 2 0 ⟨#[65, 90, 91, 65, 123]⟩ ⟨#[117, 112, 112, 101, 114]⟩ [(2, 0, ⟨#[97, 122, 91, 97, 123]⟩)]) (hx17 : xs 17 = .pointer (some ⟨q17, 0, none⟩)) (hx19 : xs 19 = .pointer (some ⟨q19, 0, none⟩)) (hx21 : xs 21 = .pointer (some ⟨q21, 0, none⟩)) (hx18 : xs 18 = .int .i64 2) (hx20 : xs 20 = .int .i64 2) (hx22 : xs 22 = .int .i64 2) : OpStep Tryz.prog vn22Ops Q (vn22F q17 q19 q21) w0 245 xs 8 := by
  intro act w hb hk hF
  have g165 : act.eval (.tmp 165) = .bool true := hF 7 (of_decide_eq_true (by kernel_rfl)) 165 (by kernel_rfl)
  exact step_move (show opO vn22Ops 8 = some (.move (.tmp 165)) by kernel_rfl) (.free (by kernel_rfl)) g165 ⟨rfl, Below.refl _ _⟩

theorem vn22_s9 {Q : Exit → Act → World → Prop} {w0 : World} {xs : Nat → Value} (q17 q19 q21 : Nat) (hb17 : BoxOn w0 q17 0 0 ⟨#[]⟩) (hb19 : BoxOn w0 q19 0 0 ⟨#[]⟩) (hb21 : BoxOn w0 q21 0 0 ⟨#[]⟩) (wd : WdOn w0) (cA : CoalIs w0) (c0 : CallIs w0 0 0 ⟨#[]⟩ ⟨#[105, 102, 110, 117, 108, 108]⟩ [(0, 0, ⟨#[]⟩), (0, 0, ⟨#[]⟩)]) (c1 : CallIs w0 2 0 ⟨#[105, 110, 116, 101, 103, 101, 114]⟩ ⟨#[116, 121, 112, 101, 111, 102]⟩ [(1, 1, ⟨#[]⟩)]) (c2 : CallIs w0 1 3 ⟨#[]⟩ ⟨#[105, 110, 115, 116, 114]⟩ [(2, 0, ⟨#[97, 98, 99, 97, 98]⟩), (2, 0, ⟨#[99, 97]⟩)]) (c3 : CallIs w0 1 1 ⟨#[]⟩ ⟨#[105, 110, 115, 116, 114]⟩ [(2, 0, ⟨#[97]⟩), (2, 0, ⟨#[]⟩)]) (c4 : CallIs w0 1 0 ⟨#[]⟩ ⟨#[105, 110, 115, 116, 114]⟩ [(2, 0, ⟨#[]⟩), (2, 0, ⟨#[97]⟩)]) (c5 : CallIs w0 3 0 ⟨#[0]⟩ ⟨#[115, 117, 98, 115, 116, 114]⟩ [(3, 0, ⟨#[1, 0]⟩), (1, 2, ⟨#[]⟩)]) (c6 : CallIs w0 2 0 ⟨#[50, 51]⟩ ⟨#[115, 117, 98, 115, 116, 114]⟩ [(1, (-123), ⟨#[]⟩), (1, (-2), ⟨#[]⟩)]) (c7 : CallIs w0 2 0 ⟨#[65, 90, 91, 65, 123]⟩ ⟨#[117, 112, 112, 101, 114]⟩ [(2, 0, ⟨#[97, 122, 91, 97, 123]⟩)]) (hx17 : xs 17 = .pointer (some ⟨q17, 0, none⟩)) (hx19 : xs 19 = .pointer (some ⟨q19, 0, none⟩)) (hx21 : xs 21 = .pointer (some ⟨q21, 0, none⟩)) (hx18 : xs 18 = .int .i64 2) (hx20 : xs 20 = .int .i64 2) (hx22 : xs 22 = .int .i64 2) : OpStep Tryz.prog vn22Ops Q (vn22F q17 q19 q21) w0 245 xs 9 := by
  intro act w hb hk hF
  have g166 : act.eval (.tmp 166) = .bool true := hF 8 (of_decide_eq_true (by kernel_rfl)) 166 (by kernel_rfl)
  have g21 : act.eval (.tmp 21) = .pointer (some ⟨q21, 0, none⟩) := (hk 21 (by decide) (by kernel_rfl)).trans hx21
  exact step_loadB (show opO vn22Ops 9 = some (.load 24 (.tmp 21)) by kernel_rfl) (.told 8 true 166 (by kernel_rfl) (by kernel_rfl) g166) g21 (hb21 w hb) ⟨rfl, Below.refl _ _⟩

theorem vn22_s10 {Q : Exit → Act → World → Prop} {w0 : World} {xs : Nat → Value} (q17 q19 q21 : Nat) (hb17 : BoxOn w0 q17 0 0 ⟨#[]⟩) (hb19 : BoxOn w0 q19 0 0 ⟨#[]⟩) (hb21 : BoxOn w0 q21 0 0 ⟨#[]⟩) (wd : WdOn w0) (cA : CoalIs w0) (c0 : CallIs w0 0 0 ⟨#[]⟩ ⟨#[105, 102, 110, 117, 108, 108]⟩ [(0, 0, ⟨#[]⟩), (0, 0, ⟨#[]⟩)]) (c1 : CallIs w0 2 0 ⟨#[105, 110, 116, 101, 103, 101, 114]⟩ ⟨#[116, 121, 112, 101, 111, 102]⟩ [(1, 1, ⟨#[]⟩)]) (c2 : CallIs w0 1 3 ⟨#[]⟩ ⟨#[105, 110, 115, 116, 114]⟩ [(2, 0, ⟨#[97, 98, 99, 97, 98]⟩), (2, 0, ⟨#[99, 97]⟩)]) (c3 : CallIs w0 1 1 ⟨#[]⟩ ⟨#[105, 110, 115, 116, 114]⟩ [(2, 0, ⟨#[97]⟩), (2, 0, ⟨#[]⟩)]) (c4 : CallIs w0 1 0 ⟨#[]⟩ ⟨#[105, 110, 115, 116, 114]⟩ [(2, 0, ⟨#[]⟩), (2, 0, ⟨#[97]⟩)]) (c5 : CallIs w0 3 0 ⟨#[0]⟩ ⟨#[115, 117, 98, 115, 116, 114]⟩ [(3, 0, ⟨#[1, 0]⟩), (1, 2, ⟨#[]⟩)]) (c6 : CallIs w0 2 0 ⟨#[50, 51]⟩ ⟨#[115, 117, 98, 115, 116, 114]⟩ [(1, (-123), ⟨#[]⟩), (1, (-2), ⟨#[]⟩)]) (c7 : CallIs w0 2 0 ⟨#[65, 90, 91, 65, 123]⟩ ⟨#[117, 112, 112, 101, 114]⟩ [(2, 0, ⟨#[97, 122, 91, 97, 123]⟩)]) (hx17 : xs 17 = .pointer (some ⟨q17, 0, none⟩)) (hx19 : xs 19 = .pointer (some ⟨q19, 0, none⟩)) (hx21 : xs 21 = .pointer (some ⟨q21, 0, none⟩)) (hx18 : xs 18 = .int .i64 2) (hx20 : xs 20 = .int .i64 2) (hx22 : xs 22 = .int .i64 2) : OpStep Tryz.prog vn22Ops Q (vn22F q17 q19 q21) w0 245 xs 10 := by
  intro act w hb hk hF
  have g166 : act.eval (.tmp 166) = .bool true := hF 8 (of_decide_eq_true (by kernel_rfl)) 166 (by kernel_rfl)
  have g22 : act.eval (.tmp 22) = .int .i64 2 := (hk 22 (by decide) (by kernel_rfl)).trans hx22
  exact step_move (show opO vn22Ops 10 = some (.move (.tmp 22)) by kernel_rfl) (.told 8 true 166 (by kernel_rfl) (by kernel_rfl) g166) g22 ⟨rfl, Below.refl _ _⟩

theorem vn22_s11 {Q : Exit → Act → World → Prop} {w0 : World} {xs : Nat → Value} (q17 q19 q21 : Nat) (hb17 : BoxOn w0 q17 0 0 ⟨#[]⟩) (hb19 : BoxOn w0 q19 0 0 ⟨#[]⟩) (hb21 : BoxOn w0 q21 0 0 ⟨#[]⟩) (wd : WdOn w0) (cA : CoalIs w0) (c0 : CallIs w0 0 0 ⟨#[]⟩ ⟨#[105, 102, 110, 117, 108, 108]⟩ [(0, 0, ⟨#[]⟩), (0, 0, ⟨#[]⟩)]) (c1 : CallIs w0 2 0 ⟨#[105, 110, 116, 101, 103, 101, 114]⟩ ⟨#[116, 121, 112, 101, 111, 102]⟩ [(1, 1, ⟨#[]⟩)]) (c2 : CallIs w0 1 3 ⟨#[]⟩ ⟨#[105, 110, 115, 116, 114]⟩ [(2, 0, ⟨#[97, 98, 99, 97, 98]⟩), (2, 0, ⟨#[99, 97]⟩)]) (c3 : CallIs w0 1 1 ⟨#[]⟩ ⟨#[105, 110, 115, 116, 114]⟩ [(2, 0, ⟨#[97]⟩), (2, 0, ⟨#[]⟩)]) (c4 : CallIs w0 1 0 ⟨#[]⟩ ⟨#[105, 110, 115, 116, 114]⟩ [(2, 0, ⟨#[]⟩), (2, 0, ⟨#[97]⟩)]) (c5 : CallIs w0 3 0 ⟨#[0]⟩ ⟨#[115, 117, 98, 115, 116, 114]⟩ [(3, 0, ⟨#[1, 0]⟩), (1, 2, ⟨#[]⟩)]) (c6 : CallIs w0 2 0 ⟨#[50, 51]⟩ ⟨#[115, 117, 98, 115, 116, 114]⟩ [(1, (-123), ⟨#[]⟩), (1, (-2), ⟨#[]⟩)]) (c7 : CallIs w0 2 0 ⟨#[65, 90, 91, 65, 123]⟩ ⟨#[117, 112, 112, 101, 114]⟩ [(2, 0, ⟨#[97, 122, 91, 97, 123]⟩)]) (hx17 : xs 17 = .pointer (some ⟨q17, 0, none⟩)) (hx19 : xs 19 = .pointer (some ⟨q19, 0, none⟩)) (hx21 : xs 21 = .pointer (some ⟨q21, 0, none⟩)) (hx18 : xs 18 = .int .i64 2) (hx20 : xs 20 = .int .i64 2) (hx22 : xs 22 = .int .i64 2) : OpStep Tryz.prog vn22Ops Q (vn22F q17 q19 q21) w0 245 xs 11 := by
  intro act w hb hk hF
  have g166 : act.eval (.tmp 166) = .bool true := hF 8 (of_decide_eq_true (by kernel_rfl)) 166 (by kernel_rfl)
  have g167 : act.eval (.tmp 167) = vv 0 0 ⟨#[]⟩ := hF 9 (of_decide_eq_true (by kernel_rfl)) 167 (by kernel_rfl)
  have g168 : act.eval (.tmp 168) = .int .i64 2 := hF 10 (of_decide_eq_true (by kernel_rfl)) 168 (by kernel_rfl)
  exact step_call (f := 18) (xs := #[.tmp 167, .tmp 168, .const (.int .i64 2)]) (by kernel_rfl) (.told 8 true 166 (by kernel_rfl) (by kernel_rfl) g166) (map3 g167 g168 rfl) (enters_of Tryz.func18 (by kernel_rfl) rfl) ((errs_yes 2 w).mono fun e w' h => ⟨_, h.1, rfl, h.2⟩)

theorem vn22_s12 {Q : Exit → Act → World → Prop} {w0 : World} {xs : Nat → Value} (q17 q19 q21 : Nat) (hb17 : BoxOn w0 q17 0 0 ⟨#[]⟩) (hb19 : BoxOn w0 q19 0 0 ⟨#[]⟩) (hb21 : BoxOn w0 q21 0 0 ⟨#[]⟩) (wd : WdOn w0) (cA : CoalIs w0) (c0 : CallIs w0 0 0 ⟨#[]⟩ ⟨#[105, 102, 110, 117, 108, 108]⟩ [(0, 0, ⟨#[]⟩), (0, 0, ⟨#[]⟩)]) (c1 : CallIs w0 2 0 ⟨#[105, 110, 116, 101, 103, 101, 114]⟩ ⟨#[116, 121, 112, 101, 111, 102]⟩ [(1, 1, ⟨#[]⟩)]) (c2 : CallIs w0 1 3 ⟨#[]⟩ ⟨#[105, 110, 115, 116, 114]⟩ [(2, 0, ⟨#[97, 98, 99, 97, 98]⟩), (2, 0, ⟨#[99, 97]⟩)]) (c3 : CallIs w0 1 1 ⟨#[]⟩ ⟨#[105, 110, 115, 116, 114]⟩ [(2, 0, ⟨#[97]⟩), (2, 0, ⟨#[]⟩)]) (c4 : CallIs w0 1 0 ⟨#[]⟩ ⟨#[105, 110, 115, 116, 114]⟩ [(2, 0, ⟨#[]⟩), (2, 0, ⟨#[97]⟩)]) (c5 : CallIs w0 3 0 ⟨#[0]⟩ ⟨#[115, 117, 98, 115, 116, 114]⟩ [(3, 0, ⟨#[1, 0]⟩), (1, 2, ⟨#[]⟩)]) (c6 : CallIs w0 2 0 ⟨#[50, 51]⟩ ⟨#[115, 117, 98, 115, 116, 114]⟩ [(1, (-123), ⟨#[]⟩), (1, (-2), ⟨#[]⟩)]) (c7 : CallIs w0 2 0 ⟨#[65, 90, 91, 65, 123]⟩ ⟨#[117, 112, 112, 101, 114]⟩ [(2, 0, ⟨#[97, 122, 91, 97, 123]⟩)]) (hx17 : xs 17 = .pointer (some ⟨q17, 0, none⟩)) (hx19 : xs 19 = .pointer (some ⟨q19, 0, none⟩)) (hx21 : xs 21 = .pointer (some ⟨q21, 0, none⟩)) (hx18 : xs 18 = .int .i64 2) (hx20 : xs 20 = .int .i64 2) (hx22 : xs 22 = .int .i64 2) : OpStep Tryz.prog vn22Ops Q (vn22F q17 q19 q21) w0 245 xs 12 := by
  intro act w hb hk hF
  have g166 : act.eval (.tmp 166) = .bool true := hF 8 (of_decide_eq_true (by kernel_rfl)) 166 (by kernel_rfl)
  have g169 : act.eval (.tmp 169) = .bool true := hF 11 (of_decide_eq_true (by kernel_rfl)) 169 (by kernel_rfl)
  exact step_pickT (show opO vn22Ops 12 = some (.pick (.tmp 166) (.tmp 169) (.const (.bool false))) by kernel_rfl) (.free (by kernel_rfl)) g166 g169 ⟨rfl, Below.refl _ _⟩

theorem vn22_s13 {Q : Exit → Act → World → Prop} {w0 : World} {xs : Nat → Value} (q17 q19 q21 : Nat) (hb17 : BoxOn w0 q17 0 0 ⟨#[]⟩) (hb19 : BoxOn w0 q19 0 0 ⟨#[]⟩) (hb21 : BoxOn w0 q21 0 0 ⟨#[]⟩) (wd : WdOn w0) (cA : CoalIs w0) (c0 : CallIs w0 0 0 ⟨#[]⟩ ⟨#[105, 102, 110, 117, 108, 108]⟩ [(0, 0, ⟨#[]⟩), (0, 0, ⟨#[]⟩)]) (c1 : CallIs w0 2 0 ⟨#[105, 110, 116, 101, 103, 101, 114]⟩ ⟨#[116, 121, 112, 101, 111, 102]⟩ [(1, 1, ⟨#[]⟩)]) (c2 : CallIs w0 1 3 ⟨#[]⟩ ⟨#[105, 110, 115, 116, 114]⟩ [(2, 0, ⟨#[97, 98, 99, 97, 98]⟩), (2, 0, ⟨#[99, 97]⟩)]) (c3 : CallIs w0 1 1 ⟨#[]⟩ ⟨#[105, 110, 115, 116, 114]⟩ [(2, 0, ⟨#[97]⟩), (2, 0, ⟨#[]⟩)]) (c4 : CallIs w0 1 0 ⟨#[]⟩ ⟨#[105, 110, 115, 116, 114]⟩ [(2, 0, ⟨#[]⟩), (2, 0, ⟨#[97]⟩)]) (c5 : CallIs w0 3 0 ⟨#[0]⟩ ⟨#[115, 117, 98, 115, 116, 114]⟩ [(3, 0, ⟨#[1, 0]⟩), (1, 2, ⟨#[]⟩)]) (c6 : CallIs w0 2 0 ⟨#[50, 51]⟩ ⟨#[115, 117, 98, 115, 116, 114]⟩ [(1, (-123), ⟨#[]⟩), (1, (-2), ⟨#[]⟩)]) (c7 : CallIs w0 2 0 ⟨#[65, 90, 91, 65, 123]⟩ ⟨#[117, 112, 112, 101, 114]⟩ [(2, 0, ⟨#[97, 122, 91, 97, 123]⟩)]) (hx17 : xs 17 = .pointer (some ⟨q17, 0, none⟩)) (hx19 : xs 19 = .pointer (some ⟨q19, 0, none⟩)) (hx21 : xs 21 = .pointer (some ⟨q21, 0, none⟩)) (hx18 : xs 18 = .int .i64 2) (hx20 : xs 20 = .int .i64 2) (hx22 : xs 22 = .int .i64 2) : OpStep Tryz.prog vn22Ops Q (vn22F q17 q19 q21) w0 245 xs 13 := by
  intro act w hb hk hF
  have g170 : act.eval (.tmp 170) = .bool true := hF 12 (of_decide_eq_true (by kernel_rfl)) 170 (by kernel_rfl)
  exact step_move (show opO vn22Ops 13 = some (.move (.tmp 170)) by kernel_rfl) (.free (by kernel_rfl)) g170 ⟨rfl, Below.refl _ _⟩

theorem vn22_s14 {Q : Exit → Act → World → Prop} {w0 : World} {xs : Nat → Value} (q17 q19 q21 : Nat) (hb17 : BoxOn w0 q17 0 0 ⟨#[]⟩) (hb19 : BoxOn w0 q19 0 0 ⟨#[]⟩) (hb21 : BoxOn w0 q21 0 0 ⟨#[]⟩) (wd : WdOn w0) (cA : CoalIs w0) (c0 : CallIs w0 0 0 ⟨#[]⟩ ⟨#[105, 102, 110, 117, 108, 108]⟩ [(0, 0, ⟨#[]⟩), (0, 0, ⟨#[]⟩)]) (c1 : CallIs w0 2 0 ⟨#[105, 110, 116, 101, 103, 101, 114]⟩ ⟨#[116, 121, 112, 101, 111, 102]⟩ [(1, 1, ⟨#[]⟩)]) (c2 : CallIs w0 1 3 ⟨#[]⟩ ⟨#[105, 110, 115, 116, 114]⟩ [(2, 0, ⟨#[97, 98, 99, 97, 98]⟩), (2, 0, ⟨#[99, 97]⟩)]) (c3 : CallIs w0 1 1 ⟨#[]⟩ ⟨#[105, 110, 115, 116, 114]⟩ [(2, 0, ⟨#[97]⟩), (2, 0, ⟨#[]⟩)]) (c4 : CallIs w0 1 0 ⟨#[]⟩ ⟨#[105, 110, 115, 116, 114]⟩ [(2, 0, ⟨#[]⟩), (2, 0, ⟨#[97]⟩)]) (c5 : CallIs w0 3 0 ⟨#[0]⟩ ⟨#[115, 117, 98, 115, 116, 114]⟩ [(3, 0, ⟨#[1, 0]⟩), (1, 2, ⟨#[]⟩)]) (c6 : CallIs w0 2 0 ⟨#[50, 51]⟩ ⟨#[115, 117, 98, 115, 116, 114]⟩ [(1, (-123), ⟨#[]⟩), (1, (-2), ⟨#[]⟩)]) (c7 : CallIs w0 2 0 ⟨#[65, 90, 91, 65, 123]⟩ ⟨#[117, 112, 112, 101, 114]⟩ [(2, 0, ⟨#[97, 122, 91, 97, 123]⟩)]) (hx17 : xs 17 = .pointer (some ⟨q17, 0, none⟩)) (hx19 : xs 19 = .pointer (some ⟨q19, 0, none⟩)) (hx21 : xs 21 = .pointer (some ⟨q21, 0, none⟩)) (hx18 : xs 18 = .int .i64 2) (hx20 : xs 20 = .int .i64 2) (hx22 : xs 22 = .int .i64 2) : OpStep Tryz.prog vn22Ops Q (vn22F q17 q19 q21) w0 245 xs 14 := by
  intro act w hb hk hF
  have g171 : act.eval (.tmp 171) = .bool true := hF 13 (of_decide_eq_true (by kernel_rfl)) 171 (by kernel_rfl)
  exact step_call (f := 20) (xs := #[]) (by kernel_rfl) (.told 13 true 171 (by kernel_rfl) (by kernel_rfl) g171) (map0 _) (enters_of Tryz.func20 (by kernel_rfl) rfl) ((ints_any w (wd w hb)).mono fun e w' h => ⟨_, h.1, rfl, h.2⟩)

theorem vn22_s15 {Q : Exit → Act → World → Prop} {w0 : World} {xs : Nat → Value} (q17 q19 q21 : Nat) (hb17 : BoxOn w0 q17 0 0 ⟨#[]⟩) (hb19 : BoxOn w0 q19 0 0 ⟨#[]⟩) (hb21 : BoxOn w0 q21 0 0 ⟨#[]⟩) (wd : WdOn w0) (cA : CoalIs w0) (c0 : CallIs w0 0 0 ⟨#[]⟩ ⟨#[105, 102, 110, 117, 108, 108]⟩ [(0, 0, ⟨#[]⟩), (0, 0, ⟨#[]⟩)]) (c1 : CallIs w0 2 0 ⟨#[105, 110, 116, 101, 103, 101, 114]⟩ ⟨#[116, 121, 112, 101, 111, 102]⟩ [(1, 1, ⟨#[]⟩)]) (c2 : CallIs w0 1 3 ⟨#[]⟩ ⟨#[105, 110, 115, 116, 114]⟩ [(2, 0, ⟨#[97, 98, 99, 97, 98]⟩), (2, 0, ⟨#[99, 97]⟩)]) (c3 : CallIs w0 1 1 ⟨#[]⟩ ⟨#[105, 110, 115, 116, 114]⟩ [(2, 0, ⟨#[97]⟩), (2, 0, ⟨#[]⟩)]) (c4 : CallIs w0 1 0 ⟨#[]⟩ ⟨#[105, 110, 115, 116, 114]⟩ [(2, 0, ⟨#[]⟩), (2, 0, ⟨#[97]⟩)]) (c5 : CallIs w0 3 0 ⟨#[0]⟩ ⟨#[115, 117, 98, 115, 116, 114]⟩ [(3, 0, ⟨#[1, 0]⟩), (1, 2, ⟨#[]⟩)]) (c6 : CallIs w0 2 0 ⟨#[50, 51]⟩ ⟨#[115, 117, 98, 115, 116, 114]⟩ [(1, (-123), ⟨#[]⟩), (1, (-2), ⟨#[]⟩)]) (c7 : CallIs w0 2 0 ⟨#[65, 90, 91, 65, 123]⟩ ⟨#[117, 112, 112, 101, 114]⟩ [(2, 0, ⟨#[97, 122, 91, 97, 123]⟩)]) (hx17 : xs 17 = .pointer (some ⟨q17, 0, none⟩)) (hx19 : xs 19 = .pointer (some ⟨q19, 0, none⟩)) (hx21 : xs 21 = .pointer (some ⟨q21, 0, none⟩)) (hx18 : xs 18 = .int .i64 2) (hx20 : xs 20 = .int .i64 2) (hx22 : xs 22 = .int .i64 2) : OpStep Tryz.prog vn22Ops Q (vn22F q17 q19 q21) w0 245 xs 15 := by
  intro act w hb hk hF
  have g171 : act.eval (.tmp 171) = .bool true := hF 13 (of_decide_eq_true (by kernel_rfl)) 171 (by kernel_rfl)
  have g172 : act.eval (.tmp 172) = .bool true := hF 14 (of_decide_eq_true (by kernel_rfl)) 172 (by kernel_rfl)
  exact step_pickT (show opO vn22Ops 15 = some (.pick (.tmp 171) (.tmp 172) (.const (.bool false))) by kernel_rfl) (.free (by kernel_rfl)) g171 g172 ⟨rfl, Below.refl _ _⟩

theorem vn22_s16 {Q : Exit → Act → World → Prop} {w0 : World} {xs : Nat → Value} (q17 q19 q21 : Nat) (hb17 : BoxOn w0 q17 0 0 ⟨#[]⟩) (hb19 : BoxOn w0 q19 0 0 ⟨#[]⟩) (hb21 : BoxOn w0 q21 0 0 ⟨#[]⟩) (wd : WdOn w0) (cA : CoalIs w0) (c0 : CallIs w0 0 0 ⟨#[]⟩ ⟨#[105, 102, 110, 117, 108, 108]⟩ [(0, 0, ⟨#[]⟩), (0, 0, ⟨#[]⟩)]) (c1 : CallIs w0 2 0 ⟨#[105, 110, 116, 101, 103, 101, 114]⟩ ⟨#[116, 121, 112, 101, 111, 102]⟩ [(1, 1, ⟨#[]⟩)]) (c2 : CallIs w0 1 3 ⟨#[]⟩ ⟨#[105, 110, 115, 116, 114]⟩ [(2, 0, ⟨#[97, 98, 99, 97, 98]⟩), (2, 0, ⟨#[99, 97]⟩)]) (c3 : CallIs w0 1 1 ⟨#[]⟩ ⟨#[105, 110, 115, 116, 114]⟩ [(2, 0, ⟨#[97]⟩), (2, 0, ⟨#[]⟩)]) (c4 : CallIs w0 1 0 ⟨#[]⟩ ⟨#[105, 110, 115, 116, 114]⟩ [(2, 0, ⟨#[]⟩), (2, 0, ⟨#[97]⟩)]) (c5 : CallIs w0 3 0 ⟨#[0]⟩ ⟨#[115, 117, 98, 115, 116, 114]⟩ [(3, 0, ⟨#[1, 0]⟩), (1, 2, ⟨#[]⟩)]) (c6 : CallIs w0 2 0 ⟨#[50, 51]⟩ ⟨#[115, 117, 98, 115, 116, 114]⟩ [(1, (-123), ⟨#[]⟩), (1, (-2), ⟨#[]⟩)]) (c7 : CallIs w0 2 0 ⟨#[65, 90, 91, 65, 123]⟩ ⟨#[117, 112, 112, 101, 114]⟩ [(2, 0, ⟨#[97, 122, 91, 97, 123]⟩)]) (hx17 : xs 17 = .pointer (some ⟨q17, 0, none⟩)) (hx19 : xs 19 = .pointer (some ⟨q19, 0, none⟩)) (hx21 : xs 21 = .pointer (some ⟨q21, 0, none⟩)) (hx18 : xs 18 = .int .i64 2) (hx20 : xs 20 = .int .i64 2) (hx22 : xs 22 = .int .i64 2) : OpStep Tryz.prog vn22Ops Q (vn22F q17 q19 q21) w0 245 xs 16 := by
  intro act w hb hk hF
  have g173 : act.eval (.tmp 173) = .bool true := hF 15 (of_decide_eq_true (by kernel_rfl)) 173 (by kernel_rfl)
  exact step_move (show opO vn22Ops 16 = some (.move (.tmp 173)) by kernel_rfl) (.free (by kernel_rfl)) g173 ⟨rfl, Below.refl _ _⟩

theorem vn22_s17 {Q : Exit → Act → World → Prop} {w0 : World} {xs : Nat → Value} (q17 q19 q21 : Nat) (hb17 : BoxOn w0 q17 0 0 ⟨#[]⟩) (hb19 : BoxOn w0 q19 0 0 ⟨#[]⟩) (hb21 : BoxOn w0 q21 0 0 ⟨#[]⟩) (wd : WdOn w0) (cA : CoalIs w0) (c0 : CallIs w0 0 0 ⟨#[]⟩ ⟨#[105, 102, 110, 117, 108, 108]⟩ [(0, 0, ⟨#[]⟩), (0, 0, ⟨#[]⟩)]) (c1 : CallIs w0 2 0 ⟨#[105, 110, 116, 101, 103, 101, 114]⟩ ⟨#[116, 121, 112, 101, 111, 102]⟩ [(1, 1, ⟨#[]⟩)]) (c2 : CallIs w0 1 3 ⟨#[]⟩ ⟨#[105, 110, 115, 116, 114]⟩ [(2, 0, ⟨#[97, 98, 99, 97, 98]⟩), (2, 0, ⟨#[99, 97]⟩)]) (c3 : CallIs w0 1 1 ⟨#[]⟩ ⟨#[105, 110, 115, 116, 114]⟩ [(2, 0, ⟨#[97]⟩), (2, 0, ⟨#[]⟩)]) (c4 : CallIs w0 1 0 ⟨#[]⟩ ⟨#[105, 110, 115, 116, 114]⟩ [(2, 0, ⟨#[]⟩), (2, 0, ⟨#[97]⟩)]) (c5 : CallIs w0 3 0 ⟨#[0]⟩ ⟨#[115, 117, 98, 115, 116, 114]⟩ [(3, 0, ⟨#[1, 0]⟩), (1, 2, ⟨#[]⟩)]) (c6 : CallIs w0 2 0 ⟨#[50, 51]⟩ ⟨#[115, 117, 98, 115, 116, 114]⟩ [(1, (-123), ⟨#[]⟩), (1, (-2), ⟨#[]⟩)]) (c7 : CallIs w0 2 0 ⟨#[65, 90, 91, 65, 123]⟩ ⟨#[117, 112, 112, 101, 114]⟩ [(2, 0, ⟨#[97, 122, 91, 97, 123]⟩)]) (hx17 : xs 17 = .pointer (some ⟨q17, 0, none⟩)) (hx19 : xs 19 = .pointer (some ⟨q19, 0, none⟩)) (hx21 : xs 21 = .pointer (some ⟨q21, 0, none⟩)) (hx18 : xs 18 = .int .i64 2) (hx20 : xs 20 = .int .i64 2) (hx22 : xs 22 = .int .i64 2) : OpStep Tryz.prog vn22Ops Q (vn22F q17 q19 q21) w0 245 xs 17 := by
  intro act w hb hk hF
  have g174 : act.eval (.tmp 174) = .bool true := hF 16 (of_decide_eq_true (by kernel_rfl)) 174 (by kernel_rfl)
  exact step_call (f := 21) (xs := #[]) (by kernel_rfl) (.told 16 true 174 (by kernel_rfl) (by kernel_rfl) g174) (map0 _) (enters_of Tryz.func21 (by kernel_rfl) rfl) ((ends_any w (wd w hb)).mono fun e w' h => ⟨_, h.1, rfl, h.2⟩)

theorem vn22_s18 {Q : Exit → Act → World → Prop} {w0 : World} {xs : Nat → Value} (q17 q19 q21 : Nat) (hb17 : BoxOn w0 q17 0 0 ⟨#[]⟩) (hb19 : BoxOn w0 q19 0 0 ⟨#[]⟩) (hb21 : BoxOn w0 q21 0 0 ⟨#[]⟩) (wd : WdOn w0) (cA : CoalIs w0) (c0 : CallIs w0 0 0 ⟨#[]⟩ ⟨#[105, 102, 110, 117, 108, 108]⟩ [(0, 0, ⟨#[]⟩), (0, 0, ⟨#[]⟩)]) (c1 : CallIs w0 2 0 ⟨#[105, 110, 116, 101, 103, 101, 114]⟩ ⟨#[116, 121, 112, 101, 111, 102]⟩ [(1, 1, ⟨#[]⟩)]) (c2 : CallIs w0 1 3 ⟨#[]⟩ ⟨#[105, 110, 115, 116, 114]⟩ [(2, 0, ⟨#[97, 98, 99, 97, 98]⟩), (2, 0, ⟨#[99, 97]⟩)]) (c3 : CallIs w0 1 1 ⟨#[]⟩ ⟨#[105, 110, 115, 116, 114]⟩ [(2, 0, ⟨#[97]⟩), (2, 0, ⟨#[]⟩)]) (c4 : CallIs w0 1 0 ⟨#[]⟩ ⟨#[105, 110, 115, 116, 114]⟩ [(2, 0, ⟨#[]⟩), (2, 0, ⟨#[97]⟩)]) (c5 : CallIs w0 3 0 ⟨#[0]⟩ ⟨#[115, 117, 98, 115, 116, 114]⟩ [(3, 0, ⟨#[1, 0]⟩), (1, 2, ⟨#[]⟩)]) (c6 : CallIs w0 2 0 ⟨#[50, 51]⟩ ⟨#[115, 117, 98, 115, 116, 114]⟩ [(1, (-123), ⟨#[]⟩), (1, (-2), ⟨#[]⟩)]) (c7 : CallIs w0 2 0 ⟨#[65, 90, 91, 65, 123]⟩ ⟨#[117, 112, 112, 101, 114]⟩ [(2, 0, ⟨#[97, 122, 91, 97, 123]⟩)]) (hx17 : xs 17 = .pointer (some ⟨q17, 0, none⟩)) (hx19 : xs 19 = .pointer (some ⟨q19, 0, none⟩)) (hx21 : xs 21 = .pointer (some ⟨q21, 0, none⟩)) (hx18 : xs 18 = .int .i64 2) (hx20 : xs 20 = .int .i64 2) (hx22 : xs 22 = .int .i64 2) : OpStep Tryz.prog vn22Ops Q (vn22F q17 q19 q21) w0 245 xs 18 := by
  intro act w hb hk hF
  have g174 : act.eval (.tmp 174) = .bool true := hF 16 (of_decide_eq_true (by kernel_rfl)) 174 (by kernel_rfl)
  have g175 : act.eval (.tmp 175) = .bool true := hF 17 (of_decide_eq_true (by kernel_rfl)) 175 (by kernel_rfl)
  exact step_pickT (show opO vn22Ops 18 = some (.pick (.tmp 174) (.tmp 175) (.const (.bool false))) by kernel_rfl) (.free (by kernel_rfl)) g174 g175 ⟨rfl, Below.refl _ _⟩

theorem vn22_s19 {Q : Exit → Act → World → Prop} {w0 : World} {xs : Nat → Value} (q17 q19 q21 : Nat) (hb17 : BoxOn w0 q17 0 0 ⟨#[]⟩) (hb19 : BoxOn w0 q19 0 0 ⟨#[]⟩) (hb21 : BoxOn w0 q21 0 0 ⟨#[]⟩) (wd : WdOn w0) (cA : CoalIs w0) (c0 : CallIs w0 0 0 ⟨#[]⟩ ⟨#[105, 102, 110, 117, 108, 108]⟩ [(0, 0, ⟨#[]⟩), (0, 0, ⟨#[]⟩)]) (c1 : CallIs w0 2 0 ⟨#[105, 110, 116, 101, 103, 101, 114]⟩ ⟨#[116, 121, 112, 101, 111, 102]⟩ [(1, 1, ⟨#[]⟩)]) (c2 : CallIs w0 1 3 ⟨#[]⟩ ⟨#[105, 110, 115, 116, 114]⟩ [(2, 0, ⟨#[97, 98, 99, 97, 98]⟩), (2, 0, ⟨#[99, 97]⟩)]) (c3 : CallIs w0 1 1 ⟨#[]⟩ ⟨#[105, 110, 115, 116, 114]⟩ [(2, 0, ⟨#[97]⟩), (2, 0, ⟨#[]⟩)]) (c4 : CallIs w0 1 0 ⟨#[]⟩ ⟨#[105, 110, 115, 116, 114]⟩ [(2, 0, ⟨#[]⟩), (2, 0, ⟨#[97]⟩)]) (c5 : CallIs w0 3 0 ⟨#[0]⟩ ⟨#[115, 117, 98, 115, 116, 114]⟩ [(3, 0, ⟨#[1, 0]⟩), (1, 2, ⟨#[]⟩)]) (c6 : CallIs w0 2 0 ⟨#[50, 51]⟩ ⟨#[115, 117, 98, 115, 116, 114]⟩ [(1, (-123), ⟨#[]⟩), (1, (-2), ⟨#[]⟩)]) (c7 : CallIs w0 2 0 ⟨#[65, 90, 91, 65, 123]⟩ ⟨#[117, 112, 112, 101, 114]⟩ [(2, 0, ⟨#[97, 122, 91, 97, 123]⟩)]) (hx17 : xs 17 = .pointer (some ⟨q17, 0, none⟩)) (hx19 : xs 19 = .pointer (some ⟨q19, 0, none⟩)) (hx21 : xs 21 = .pointer (some ⟨q21, 0, none⟩)) (hx18 : xs 18 = .int .i64 2) (hx20 : xs 20 = .int .i64 2) (hx22 : xs 22 = .int .i64 2) : OpStep Tryz.prog vn22Ops Q (vn22F q17 q19 q21) w0 245 xs 19 := by
  intro act w hb hk hF
  have g176 : act.eval (.tmp 176) = .bool true := hF 18 (of_decide_eq_true (by kernel_rfl)) 176 (by kernel_rfl)
  exact step_move (show opO vn22Ops 19 = some (.move (.tmp 176)) by kernel_rfl) (.free (by kernel_rfl)) g176 ⟨rfl, Below.refl _ _⟩

theorem vn22_s20 {Q : Exit → Act → World → Prop} {w0 : World} {xs : Nat → Value} (q17 q19 q21 : Nat) (hb17 : BoxOn w0 q17 0 0 ⟨#[]⟩) (hb19 : BoxOn w0 q19 0 0 ⟨#[]⟩) (hb21 : BoxOn w0 q21 0 0 ⟨#[]⟩) (wd : WdOn w0) (cA : CoalIs w0) (c0 : CallIs w0 0 0 ⟨#[]⟩ ⟨#[105, 102, 110, 117, 108, 108]⟩ [(0, 0, ⟨#[]⟩), (0, 0, ⟨#[]⟩)]) (c1 : CallIs w0 2 0 ⟨#[105, 110, 116, 101, 103, 101, 114]⟩ ⟨#[116, 121, 112, 101, 111, 102]⟩ [(1, 1, ⟨#[]⟩)]) (c2 : CallIs w0 1 3 ⟨#[]⟩ ⟨#[105, 110, 115, 116, 114]⟩ [(2, 0, ⟨#[97, 98, 99, 97, 98]⟩), (2, 0, ⟨#[99, 97]⟩)]) (c3 : CallIs w0 1 1 ⟨#[]⟩ ⟨#[105, 110, 115, 116, 114]⟩ [(2, 0, ⟨#[97]⟩), (2, 0, ⟨#[]⟩)]) (c4 : CallIs w0 1 0 ⟨#[]⟩ ⟨#[105, 110, 115, 116, 114]⟩ [(2, 0, ⟨#[]⟩), (2, 0, ⟨#[97]⟩)]) (c5 : CallIs w0 3 0 ⟨#[0]⟩ ⟨#[115, 117, 98, 115, 116, 114]⟩ [(3, 0, ⟨#[1, 0]⟩), (1, 2, ⟨#[]⟩)]) (c6 : CallIs w0 2 0 ⟨#[50, 51]⟩ ⟨#[115, 117, 98, 115, 116, 114]⟩ [(1, (-123), ⟨#[]⟩), (1, (-2), ⟨#[]⟩)]) (c7 : CallIs w0 2 0 ⟨#[65, 90, 91, 65, 123]⟩ ⟨#[117, 112, 112, 101, 114]⟩ [(2, 0, ⟨#[97, 122, 91, 97, 123]⟩)]) (hx17 : xs 17 = .pointer (some ⟨q17, 0, none⟩)) (hx19 : xs 19 = .pointer (some ⟨q19, 0, none⟩)) (hx21 : xs 21 = .pointer (some ⟨q21, 0, none⟩)) (hx18 : xs 18 = .int .i64 2) (hx20 : xs 20 = .int .i64 2) (hx22 : xs 22 = .int .i64 2) : OpStep Tryz.prog vn22Ops Q (vn22F q17 q19 q21) w0 245 xs 20 := by
  intro act w hb hk hF
  have g177 : act.eval (.tmp 177) = .bool true := hF 19 (of_decide_eq_true (by kernel_rfl)) 177 (by kernel_rfl)
  exact step_call (f := 19) (xs := #[.const (.string ⟨#[99, 111, 97, 108, 101, 115, 99, 101]⟩), .const (.int .i64 100)]) (by kernel_rfl) (.told 19 true 177 (by kernel_rfl) (by kernel_rfl) g177) (map2 rfl rfl) (enters_of Tryz.func19 (by kernel_rfl) rfl) ((known_100 w).mono fun e w' h => ⟨_, h.1, rfl, h.2⟩)

theorem vn22_s21 {Q : Exit → Act → World → Prop} {w0 : World} {xs : Nat → Value} (q17 q19 q21 : Nat) (hb17 : BoxOn w0 q17 0 0 ⟨#[]⟩) (hb19 : BoxOn w0 q19 0 0 ⟨#[]⟩) (hb21 : BoxOn w0 q21 0 0 ⟨#[]⟩) (wd : WdOn w0) (cA : CoalIs w0) (c0 : CallIs w0 0 0 ⟨#[]⟩ ⟨#[105, 102, 110, 117, 108, 108]⟩ [(0, 0, ⟨#[]⟩), (0, 0, ⟨#[]⟩)]) (c1 : CallIs w0 2 0 ⟨#[105, 110, 116, 101, 103, 101, 114]⟩ ⟨#[116, 121, 112, 101, 111, 102]⟩ [(1, 1, ⟨#[]⟩)]) (c2 : CallIs w0 1 3 ⟨#[]⟩ ⟨#[105, 110, 115, 116, 114]⟩ [(2, 0, ⟨#[97, 98, 99, 97, 98]⟩), (2, 0, ⟨#[99, 97]⟩)]) (c3 : CallIs w0 1 1 ⟨#[]⟩ ⟨#[105, 110, 115, 116, 114]⟩ [(2, 0, ⟨#[97]⟩), (2, 0, ⟨#[]⟩)]) (c4 : CallIs w0 1 0 ⟨#[]⟩ ⟨#[105, 110, 115, 116, 114]⟩ [(2, 0, ⟨#[]⟩), (2, 0, ⟨#[97]⟩)]) (c5 : CallIs w0 3 0 ⟨#[0]⟩ ⟨#[115, 117, 98, 115, 116, 114]⟩ [(3, 0, ⟨#[1, 0]⟩), (1, 2, ⟨#[]⟩)]) (c6 : CallIs w0 2 0 ⟨#[50, 51]⟩ ⟨#[115, 117, 98, 115, 116, 114]⟩ [(1, (-123), ⟨#[]⟩), (1, (-2), ⟨#[]⟩)]) (c7 : CallIs w0 2 0 ⟨#[65, 90, 91, 65, 123]⟩ ⟨#[117, 112, 112, 101, 114]⟩ [(2, 0, ⟨#[97, 122, 91, 97, 123]⟩)]) (hx17 : xs 17 = .pointer (some ⟨q17, 0, none⟩)) (hx19 : xs 19 = .pointer (some ⟨q19, 0, none⟩)) (hx21 : xs 21 = .pointer (some ⟨q21, 0, none⟩)) (hx18 : xs 18 = .int .i64 2) (hx20 : xs 20 = .int .i64 2) (hx22 : xs 22 = .int .i64 2) : OpStep Tryz.prog vn22Ops Q (vn22F q17 q19 q21) w0 245 xs 21 := by
  intro act w hb hk hF
  have g177 : act.eval (.tmp 177) = .bool true := hF 19 (of_decide_eq_true (by kernel_rfl)) 177 (by kernel_rfl)
  have g178 : act.eval (.tmp 178) = .bool true := hF 20 (of_decide_eq_true (by kernel_rfl)) 178 (by kernel_rfl)
  exact step_pickT (show opO vn22Ops 21 = some (.pick (.tmp 177) (.tmp 178) (.const (.bool false))) by kernel_rfl) (.free (by kernel_rfl)) g177 g178 ⟨rfl, Below.refl _ _⟩

theorem vn22_s22 {Q : Exit → Act → World → Prop} {w0 : World} {xs : Nat → Value} (q17 q19 q21 : Nat) (hb17 : BoxOn w0 q17 0 0 ⟨#[]⟩) (hb19 : BoxOn w0 q19 0 0 ⟨#[]⟩) (hb21 : BoxOn w0 q21 0 0 ⟨#[]⟩) (wd : WdOn w0) (cA : CoalIs w0) (c0 : CallIs w0 0 0 ⟨#[]⟩ ⟨#[105, 102, 110, 117, 108, 108]⟩ [(0, 0, ⟨#[]⟩), (0, 0, ⟨#[]⟩)]) (c1 : CallIs w0 2 0 ⟨#[105, 110, 116, 101, 103, 101, 114]⟩ ⟨#[116, 121, 112, 101, 111, 102]⟩ [(1, 1, ⟨#[]⟩)]) (c2 : CallIs w0 1 3 ⟨#[]⟩ ⟨#[105, 110, 115, 116, 114]⟩ [(2, 0, ⟨#[97, 98, 99, 97, 98]⟩), (2, 0, ⟨#[99, 97]⟩)]) (c3 : CallIs w0 1 1 ⟨#[]⟩ ⟨#[105, 110, 115, 116, 114]⟩ [(2, 0, ⟨#[97]⟩), (2, 0, ⟨#[]⟩)]) (c4 : CallIs w0 1 0 ⟨#[]⟩ ⟨#[105, 110, 115, 116, 114]⟩ [(2, 0, ⟨#[]⟩), (2, 0, ⟨#[97]⟩)]) (c5 : CallIs w0 3 0 ⟨#[0]⟩ ⟨#[115, 117, 98, 115, 116, 114]⟩ [(3, 0, ⟨#[1, 0]⟩), (1, 2, ⟨#[]⟩)]) (c6 : CallIs w0 2 0 ⟨#[50, 51]⟩ ⟨#[115, 117, 98, 115, 116, 114]⟩ [(1, (-123), ⟨#[]⟩), (1, (-2), ⟨#[]⟩)]) (c7 : CallIs w0 2 0 ⟨#[65, 90, 91, 65, 123]⟩ ⟨#[117, 112, 112, 101, 114]⟩ [(2, 0, ⟨#[97, 122, 91, 97, 123]⟩)]) (hx17 : xs 17 = .pointer (some ⟨q17, 0, none⟩)) (hx19 : xs 19 = .pointer (some ⟨q19, 0, none⟩)) (hx21 : xs 21 = .pointer (some ⟨q21, 0, none⟩)) (hx18 : xs 18 = .int .i64 2) (hx20 : xs 20 = .int .i64 2) (hx22 : xs 22 = .int .i64 2) : OpStep Tryz.prog vn22Ops Q (vn22F q17 q19 q21) w0 245 xs 22 := by
  intro act w hb hk hF
  have g179 : act.eval (.tmp 179) = .bool true := hF 21 (of_decide_eq_true (by kernel_rfl)) 179 (by kernel_rfl)
  exact step_move (show opO vn22Ops 22 = some (.move (.tmp 179)) by kernel_rfl) (.free (by kernel_rfl)) g179 ⟨rfl, Below.refl _ _⟩

theorem vn22_s23 {Q : Exit → Act → World → Prop} {w0 : World} {xs : Nat → Value} (q17 q19 q21 : Nat) (hb17 : BoxOn w0 q17 0 0 ⟨#[]⟩) (hb19 : BoxOn w0 q19 0 0 ⟨#[]⟩) (hb21 : BoxOn w0 q21 0 0 ⟨#[]⟩) (wd : WdOn w0) (cA : CoalIs w0) (c0 : CallIs w0 0 0 ⟨#[]⟩ ⟨#[105, 102, 110, 117, 108, 108]⟩ [(0, 0, ⟨#[]⟩), (0, 0, ⟨#[]⟩)]) (c1 : CallIs w0 2 0 ⟨#[105, 110, 116, 101, 103, 101, 114]⟩ ⟨#[116, 121, 112, 101, 111, 102]⟩ [(1, 1, ⟨#[]⟩)]) (c2 : CallIs w0 1 3 ⟨#[]⟩ ⟨#[105, 110, 115, 116, 114]⟩ [(2, 0, ⟨#[97, 98, 99, 97, 98]⟩), (2, 0, ⟨#[99, 97]⟩)]) (c3 : CallIs w0 1 1 ⟨#[]⟩ ⟨#[105, 110, 115, 116, 114]⟩ [(2, 0, ⟨#[97]⟩), (2, 0, ⟨#[]⟩)]) (c4 : CallIs w0 1 0 ⟨#[]⟩ ⟨#[105, 110, 115, 116, 114]⟩ [(2, 0, ⟨#[]⟩), (2, 0, ⟨#[97]⟩)]) (c5 : CallIs w0 3 0 ⟨#[0]⟩ ⟨#[115, 117, 98, 115, 116, 114]⟩ [(3, 0, ⟨#[1, 0]⟩), (1, 2, ⟨#[]⟩)]) (c6 : CallIs w0 2 0 ⟨#[50, 51]⟩ ⟨#[115, 117, 98, 115, 116, 114]⟩ [(1, (-123), ⟨#[]⟩), (1, (-2), ⟨#[]⟩)]) (c7 : CallIs w0 2 0 ⟨#[65, 90, 91, 65, 123]⟩ ⟨#[117, 112, 112, 101, 114]⟩ [(2, 0, ⟨#[97, 122, 91, 97, 123]⟩)]) (hx17 : xs 17 = .pointer (some ⟨q17, 0, none⟩)) (hx19 : xs 19 = .pointer (some ⟨q19, 0, none⟩)) (hx21 : xs 21 = .pointer (some ⟨q21, 0, none⟩)) (hx18 : xs 18 = .int .i64 2) (hx20 : xs 20 = .int .i64 2) (hx22 : xs 22 = .int .i64 2) : OpStep Tryz.prog vn22Ops Q (vn22F q17 q19 q21) w0 245 xs 23 := by
  intro act w hb hk hF
  have g180 : act.eval (.tmp 180) = .bool true := hF 22 (of_decide_eq_true (by kernel_rfl)) 180 (by kernel_rfl)
  exact step_call (f := 13) (xs := #[.const (.int .i64 5)]) (by kernel_rfl) (.told 22 true 180 (by kernel_rfl) (by kernel_rfl) g180) (map1 rfl) (enters_of Tryz.func13 (by kernel_rfl) rfl) ((num_any 5 w).mono fun e w' h => ⟨_, h.1, rfl, h.2⟩)

theorem vn22_s24 {Q : Exit → Act → World → Prop} {w0 : World} {xs : Nat → Value} (q17 q19 q21 : Nat) (hb17 : BoxOn w0 q17 0 0 ⟨#[]⟩) (hb19 : BoxOn w0 q19 0 0 ⟨#[]⟩) (hb21 : BoxOn w0 q21 0 0 ⟨#[]⟩) (wd : WdOn w0) (cA : CoalIs w0) (c0 : CallIs w0 0 0 ⟨#[]⟩ ⟨#[105, 102, 110, 117, 108, 108]⟩ [(0, 0, ⟨#[]⟩), (0, 0, ⟨#[]⟩)]) (c1 : CallIs w0 2 0 ⟨#[105, 110, 116, 101, 103, 101, 114]⟩ ⟨#[116, 121, 112, 101, 111, 102]⟩ [(1, 1, ⟨#[]⟩)]) (c2 : CallIs w0 1 3 ⟨#[]⟩ ⟨#[105, 110, 115, 116, 114]⟩ [(2, 0, ⟨#[97, 98, 99, 97, 98]⟩), (2, 0, ⟨#[99, 97]⟩)]) (c3 : CallIs w0 1 1 ⟨#[]⟩ ⟨#[105, 110, 115, 116, 114]⟩ [(2, 0, ⟨#[97]⟩), (2, 0, ⟨#[]⟩)]) (c4 : CallIs w0 1 0 ⟨#[]⟩ ⟨#[105, 110, 115, 116, 114]⟩ [(2, 0, ⟨#[]⟩), (2, 0, ⟨#[97]⟩)]) (c5 : CallIs w0 3 0 ⟨#[0]⟩ ⟨#[115, 117, 98, 115, 116, 114]⟩ [(3, 0, ⟨#[1, 0]⟩), (1, 2, ⟨#[]⟩)]) (c6 : CallIs w0 2 0 ⟨#[50, 51]⟩ ⟨#[115, 117, 98, 115, 116, 114]⟩ [(1, (-123), ⟨#[]⟩), (1, (-2), ⟨#[]⟩)]) (c7 : CallIs w0 2 0 ⟨#[65, 90, 91, 65, 123]⟩ ⟨#[117, 112, 112, 101, 114]⟩ [(2, 0, ⟨#[97, 122, 91, 97, 123]⟩)]) (hx17 : xs 17 = .pointer (some ⟨q17, 0, none⟩)) (hx19 : xs 19 = .pointer (some ⟨q19, 0, none⟩)) (hx21 : xs 21 = .pointer (some ⟨q21, 0, none⟩)) (hx18 : xs 18 = .int .i64 2) (hx20 : xs 20 = .int .i64 2) (hx22 : xs 22 = .int .i64 2) : OpStep Tryz.prog vn22Ops Q (vn22F q17 q19 q21) w0 245 xs 24 := by
  intro act w hb hk hF
  have g180 : act.eval (.tmp 180) = .bool true := hF 22 (of_decide_eq_true (by kernel_rfl)) 180 (by kernel_rfl)
  exact step_makeN (n := 99) (show opO vn22Ops 24 = some (.makeSlice 27 (.const (.int .i64 99)) (.const (.int .i64 99))) by kernel_rfl) (.told 22 true 180 (by kernel_rfl) (by kernel_rfl) g180) rfl rfl (by decide) fun b hR hb' => ⟨⟨b, rfl, hR⟩, hb'⟩

theorem vn22_s25 {Q : Exit → Act → World → Prop} {w0 : World} {xs : Nat → Value} (q17 q19 q21 : Nat) (hb17 : BoxOn w0 q17 0 0 ⟨#[]⟩) (hb19 : BoxOn w0 q19 0 0 ⟨#[]⟩) (hb21 : BoxOn w0 q21 0 0 ⟨#[]⟩) (wd : WdOn w0) (cA : CoalIs w0) (c0 : CallIs w0 0 0 ⟨#[]⟩ ⟨#[105, 102, 110, 117, 108, 108]⟩ [(0, 0, ⟨#[]⟩), (0, 0, ⟨#[]⟩)]) (c1 : CallIs w0 2 0 ⟨#[105, 110, 116, 101, 103, 101, 114]⟩ ⟨#[116, 121, 112, 101, 111, 102]⟩ [(1, 1, ⟨#[]⟩)]) (c2 : CallIs w0 1 3 ⟨#[]⟩ ⟨#[105, 110, 115, 116, 114]⟩ [(2, 0, ⟨#[97, 98, 99, 97, 98]⟩), (2, 0, ⟨#[99, 97]⟩)]) (c3 : CallIs w0 1 1 ⟨#[]⟩ ⟨#[105, 110, 115, 116, 114]⟩ [(2, 0, ⟨#[97]⟩), (2, 0, ⟨#[]⟩)]) (c4 : CallIs w0 1 0 ⟨#[]⟩ ⟨#[105, 110, 115, 116, 114]⟩ [(2, 0, ⟨#[]⟩), (2, 0, ⟨#[97]⟩)]) (c5 : CallIs w0 3 0 ⟨#[0]⟩ ⟨#[115, 117, 98, 115, 116, 114]⟩ [(3, 0, ⟨#[1, 0]⟩), (1, 2, ⟨#[]⟩)]) (c6 : CallIs w0 2 0 ⟨#[50, 51]⟩ ⟨#[115, 117, 98, 115, 116, 114]⟩ [(1, (-123), ⟨#[]⟩), (1, (-2), ⟨#[]⟩)]) (c7 : CallIs w0 2 0 ⟨#[65, 90, 91, 65, 123]⟩ ⟨#[117, 112, 112, 101, 114]⟩ [(2, 0, ⟨#[97, 122, 91, 97, 123]⟩)]) (hx17 : xs 17 = .pointer (some ⟨q17, 0, none⟩)) (hx19 : xs 19 = .pointer (some ⟨q19, 0, none⟩)) (hx21 : xs 21 = .pointer (some ⟨q21, 0, none⟩)) (hx18 : xs 18 = .int .i64 2) (hx20 : xs 20 = .int .i64 2) (hx22 : xs 22 = .int .i64 2) : OpStep Tryz.prog vn22Ops Q (vn22F q17 q19 q21) w0 245 xs 25 := by
  intro act w hb hk hF
  have g180 : act.eval (.tmp 180) = .bool true := hF 22 (of_decide_eq_true (by kernel_rfl)) 180 (by kernel_rfl)
  exact step_call (f := 13) (xs := #[.const (.int .i64 5)]) (by kernel_rfl) (.told 22 true 180 (by kernel_rfl) (by kernel_rfl) g180) (map1 rfl) (enters_of Tryz.func13 (by kernel_rfl) rfl) ((num_any 5 w).mono fun e w' h => ⟨_, h.1, rfl, h.2⟩)

theorem vn22_s26 {Q : Exit → Act → World → Prop} {w0 : World} {xs : Nat → Value} (q17 q19 q21 : Nat) (hb17 : BoxOn w0 q17 0 0 ⟨#[]⟩) (hb19 : BoxOn w0 q19 0 0 ⟨#[]⟩) (hb21 : BoxOn w0 q21 0 0 ⟨#[]⟩) (wd : WdOn w0) (cA : CoalIs w0) (c0 : CallIs w0 0 0 ⟨#[]⟩ ⟨#[105, 102, 110, 117, 108, 108]⟩ [(0, 0, ⟨#[]⟩), (0, 0, ⟨#[]⟩)]) (c1 : CallIs w0 2 0 ⟨#[105, 110, 116, 101, 103, 101, 114]⟩ ⟨#[116, 121, 112, 101, 111, 102]⟩ [(1, 1, ⟨#[]⟩)]) (c2 : CallIs w0 1 3 ⟨#[]⟩ ⟨#[105, 110, 115, 116, 114]⟩ [(2, 0, ⟨#[97, 98, 99, 97, 98]⟩), (2, 0, ⟨#[99, 97]⟩)]) (c3 : CallIs w0 1 1 ⟨#[]⟩ ⟨#[105, 110, 115, 116, 114]⟩ [(2, 0, ⟨#[97]⟩), (2, 0, ⟨#[]⟩)]) (c4 : CallIs w0 1 0 ⟨#[]⟩ ⟨#[105, 110, 115, 116, 114]⟩ [(2, 0, ⟨#[]⟩), (2, 0, ⟨#[97]⟩)]) (c5 : CallIs w0 3 0 ⟨#[0]⟩ ⟨#[115, 117, 98, 115, 116, 114]⟩ [(3, 0, ⟨#[1, 0]⟩), (1, 2, ⟨#[]⟩)]) (c6 : CallIs w0 2 0 ⟨#[50, 51]⟩ ⟨#[115, 117, 98, 115, 116, 114]⟩ [(1, (-123), ⟨#[]⟩), (1, (-2), ⟨#[]⟩)]) (c7 : CallIs w0 2 0 ⟨#[65, 90, 91, 65, 123]⟩ ⟨#[117, 112, 112, 101, 114]⟩ [(2, 0, ⟨#[97, 122, 91, 97, 123]⟩)]) (hx17 : xs 17 = .pointer (some ⟨q17, 0, none⟩)) (hx19 : xs 19 = .pointer (some ⟨q19, 0, none⟩)) (hx21 : xs 21 = .pointer (some ⟨q21, 0, none⟩)) (hx18 : xs 18 = .int .i64 2) (hx20 : xs 20 = .int .i64 2) (hx22 : xs 22 = .int .i64 2) : OpStep Tryz.prog vn22Ops Q (vn22F q17 q19 q21) w0 245 xs 26 := by
  intro act w hb hk hF
  have g180 : act.eval (.tmp 180) = .bool true := hF 22 (of_decide_eq_true (by kernel_rfl)) 180 (by kernel_rfl)
  have g183 : act.eval (.tmp 183) = vv 1 5 ⟨#[]⟩ := hF 25 (of_decide_eq_true (by kernel_rfl)) 183 (by kernel_rfl)
  exact step_build1 (show opO vn22Ops 26 = some (.buildSlice 27 1 #[(0, .tmp 183)]) by kernel_rfl) (.told 22 true 180 (by kernel_rfl) (by kernel_rfl) g180) g183 fun b hR hb' => ⟨⟨b, rfl, hR⟩, hb'⟩

theorem vn22_s27 {Q : Exit → Act → World → Prop} {w0 : World} {xs : Nat → Value} (q17 q19 q21 : Nat) (hb17 : BoxOn w0 q17 0 0 ⟨#[]⟩) (hb19 : BoxOn w0 q19 0 0 ⟨#[]⟩) (hb21 : BoxOn w0 q21 0 0 ⟨#[]⟩) (wd : WdOn w0) (cA : CoalIs w0) (c0 : CallIs w0 0 0 ⟨#[]⟩ ⟨#[105, 102, 110, 117, 108, 108]⟩ [(0, 0, ⟨#[]⟩), (0, 0, ⟨#[]⟩)]) (c1 : CallIs w0 2 0 ⟨#[105, 110, 116, 101, 103, 101, 114]⟩ ⟨#[116, 121, 112, 101, 111, 102]⟩ [(1, 1, ⟨#[]⟩)]) (c2 : CallIs w0 1 3 ⟨#[]⟩ ⟨#[105, 110, 115, 116, 114]⟩ [(2, 0, ⟨#[97, 98, 99, 97, 98]⟩), (2, 0, ⟨#[99, 97]⟩)]) (c3 : CallIs w0 1 1 ⟨#[]⟩ ⟨#[105, 110, 115, 116, 114]⟩ [(2, 0, ⟨#[97]⟩), (2, 0, ⟨#[]⟩)]) (c4 : CallIs w0 1 0 ⟨#[]⟩ ⟨#[105, 110, 115, 116, 114]⟩ [(2, 0, ⟨#[]⟩), (2, 0, ⟨#[97]⟩)]) (c5 : CallIs w0 3 0 ⟨#[0]⟩ ⟨#[115, 117, 98, 115, 116, 114]⟩ [(3, 0, ⟨#[1, 0]⟩), (1, 2, ⟨#[]⟩)]) (c6 : CallIs w0 2 0 ⟨#[50, 51]⟩ ⟨#[115, 117, 98, 115, 116, 114]⟩ [(1, (-123), ⟨#[]⟩), (1, (-2), ⟨#[]⟩)]) (c7 : CallIs w0 2 0 ⟨#[65, 90, 91, 65, 123]⟩ ⟨#[117, 112, 112, 101, 114]⟩ [(2, 0, ⟨#[97, 122, 91, 97, 123]⟩)]) (hx17 : xs 17 = .pointer (some ⟨q17, 0, none⟩)) (hx19 : xs 19 = .pointer (some ⟨q19, 0, none⟩)) (hx21 : xs 21 = .pointer (some ⟨q21, 0, none⟩)) (hx18 : xs 18 = .int .i64 2) (hx20 : xs 20 = .int .i64 2) (hx22 : xs 22 = .int .i64 2) : OpStep Tryz.prog vn22Ops Q (vn22F q17 q19 q21) w0 245 xs 27 := by
  intro act w hb hk hF
  have g180 : act.eval (.tmp 180) = .bool true := hF 22 (of_decide_eq_true (by kernel_rfl)) 180 (by kernel_rfl)
  obtain ⟨b182, g182, hR182⟩ := (show IsM 99 _ w from hF 24 (of_decide_eq_true (by kernel_rfl)) 182 (by kernel_rfl))
  obtain ⟨b184, g184, hR184⟩ := (show IsL [(1, 5, ⟨#[]⟩)] _ w from hF 26 (of_decide_eq_true (by kernel_rfl)) 184 (by kernel_rfl))
  exact step_appV (List.replicate 99 (0, 0, ⟨#[]⟩)) [(1, 5, ⟨#[]⟩)] (n := 99) (m := 1) (by simp) rfl (show opO vn22Ops 27 = some (.call { callee := .builtin .append, args := #[.tmp 182, .tmp 184], argTypes := #[27, 27] }) by kernel_rfl) (.told 22 true 180 (by kernel_rfl) (by kernel_rfl) g180) g182 g184 hR182 hR184 (by simp) (by simp) fun g cap w' h1 h2 => ⟨⟨g, cap, rfl, h1⟩, h2⟩

theorem vn22_s28 {Q : Exit → Act → World → Prop} {w0 : World} {xs : Nat → Value} (q17 q19 q21 : Nat) (hb17 : BoxOn w0 q17 0 0 ⟨#[]⟩) (hb19 : BoxOn w0 q19 0 0 ⟨#[]⟩) (hb21 : BoxOn w0 q21 0 0 ⟨#[]⟩) (wd : WdOn w0) (cA : CoalIs w0) (c0 : CallIs w0 0 0 ⟨#[]⟩ ⟨#[105, 102, 110, 117, 108, 108]⟩ [(0, 0, ⟨#[]⟩), (0, 0, ⟨#[]⟩)]) (c1 : CallIs w0 2 0 ⟨#[105, 110, 116, 101, 103, 101, 114]⟩ ⟨#[116, 121, 112, 101, 111, 102]⟩ [(1, 1, ⟨#[]⟩)]) (c2 : CallIs w0 1 3 ⟨#[]⟩ ⟨#[105, 110, 115, 116, 114]⟩ [(2, 0, ⟨#[97, 98, 99, 97, 98]⟩), (2, 0, ⟨#[99, 97]⟩)]) (c3 : CallIs w0 1 1 ⟨#[]⟩ ⟨#[105, 110, 115, 116, 114]⟩ [(2, 0, ⟨#[97]⟩), (2, 0, ⟨#[]⟩)]) (c4 : CallIs w0 1 0 ⟨#[]⟩ ⟨#[105, 110, 115, 116, 114]⟩ [(2, 0, ⟨#[]⟩), (2, 0, ⟨#[97]⟩)]) (c5 : CallIs w0 3 0 ⟨#[0]⟩ ⟨#[115, 117, 98, 115, 116, 114]⟩ [(3, 0, ⟨#[1, 0]⟩), (1, 2, ⟨#[]⟩)]) (c6 : CallIs w0 2 0 ⟨#[50, 51]⟩ ⟨#[115, 117, 98, 115, 116, 114]⟩ [(1, (-123), ⟨#[]⟩), (1, (-2), ⟨#[]⟩)]) (c7 : CallIs w0 2 0 ⟨#[65, 90, 91, 65, 123]⟩ ⟨#[117, 112, 112, 101, 114]⟩ [(2, 0, ⟨#[97, 122, 91, 97, 123]⟩)]) (hx17 : xs 17 = .pointer (some ⟨q17, 0, none⟩)) (hx19 : xs 19 = .pointer (some ⟨q19, 0, none⟩)) (hx21 : xs 21 = .pointer (some ⟨q21, 0, none⟩)) (hx18 : xs 18 = .int .i64 2) (hx20 : xs 20 = .int .i64 2) (hx22 : xs 22 = .int .i64 2) : OpStep Tryz.prog vn22Ops Q (vn22F q17 q19 q21) w0 245 xs 28 := by
  intro act w hb hk hF
  have g180 : act.eval (.tmp 180) = .bool true := hF 22 (of_decide_eq_true (by kernel_rfl)) 180 (by kernel_rfl)
  have g181 : act.eval (.tmp 181) = vv 1 5 ⟨#[]⟩ := hF 23 (of_decide_eq_true (by kernel_rfl)) 181 (by kernel_rfl)
  obtain ⟨b185, c185, g185, hR185⟩ := (show IsC _ w from hF 27 (of_decide_eq_true (by kernel_rfl)) 185 (by kernel_rfl))
  exact step_call (f := 22) (xs := #[.tmp 181, .const (.string ⟨#[99, 111, 97, 108, 101, 115, 99, 101]⟩), .tmp 185]) (by kernel_rfl) (.told 22 true 180 (by kernel_rfl) (by kernel_rfl) g180) (map3 g181 rfl g185) (enters_of Tryz.func22 (by kernel_rfl) rfl) ((cA w b185 c185 hb hR185).mono fun e w' h => ⟨_, h.1, rfl, h.2⟩)

theorem vn22_s29 {Q : Exit → Act → World → Prop} {w0 : World} {xs : Nat → Value} (q17 q19 q21 : Nat) (hb17 : BoxOn w0 q17 0 0 ⟨#[]⟩) (hb19 : BoxOn w0 q19 0 0 ⟨#[]⟩) (hb21 : BoxOn w0 q21 0 0 ⟨#[]⟩) (wd : WdOn w0) (cA : CoalIs w0) (c0 : CallIs w0 0 0 ⟨#[]⟩ ⟨#[105, 102, 110, 117, 108, 108]⟩ [(0, 0, ⟨#[]⟩), (0, 0, ⟨#[]⟩)]) (c1 : CallIs w0 2 0 ⟨#[105, 110, 116, 101, 103, 101, 114]⟩ ⟨#[116, 121, 112, 101, 111, 102]⟩ [(1, 1, ⟨#[]⟩)]) (c2 : CallIs w0 1 3 ⟨#[]⟩ ⟨#[105, 110, 115, 116, 114]⟩ [(2, 0, ⟨#[97, 98, 99, 97, 98]⟩), (2, 0, ⟨#[99, 97]⟩)]) (c3 : CallIs w0 1 1 ⟨#[]⟩ ⟨#[105, 110, 115, 116, 114]⟩ [(2, 0, ⟨#[97]⟩), (2, 0, ⟨#[]⟩)]) (c4 : CallIs w0 1 0 ⟨#[]⟩ ⟨#[105, 110, 115, 116, 114]⟩ [(2, 0, ⟨#[]⟩), (2, 0, ⟨#[97]⟩)]) (c5 : CallIs w0 3 0 ⟨#[0]⟩ ⟨#[115, 117, 98, 115, 116, 114]⟩ [(3, 0, ⟨#[1, 0]⟩), (1, 2, ⟨#[]⟩)]) (c6 : CallIs w0 2 0 ⟨#[50, 51]⟩ ⟨#[115, 117, 98, 115, 116, 114]⟩ [(1, (-123), ⟨#[]⟩), (1, (-2), ⟨#[]⟩)]) (c7 : CallIs w0 2 0 ⟨#[65, 90, 91, 65, 123]⟩ ⟨#[117, 112, 112, 101, 114]⟩ [(2, 0, ⟨#[97, 122, 91, 97, 123]⟩)]) (hx17 : xs 17 = .pointer (some ⟨q17, 0, none⟩)) (hx19 : xs 19 = .pointer (some ⟨q19, 0, none⟩)) (hx21 : xs 21 = .pointer (some ⟨q21, 0, none⟩)) (hx18 : xs 18 = .int .i64 2) (hx20 : xs 20 = .int .i64 2) (hx22 : xs 22 = .int .i64 2) : OpStep Tryz.prog vn22Ops Q (vn22F q17 q19 q21) w0 245 xs 29 := by
  intro act w hb hk hF
  have g180 : act.eval (.tmp 180) = .bool true := hF 22 (of_decide_eq_true (by kernel_rfl)) 180 (by kernel_rfl)
  have g186 : act.eval (.tmp 186) = .bool true := hF 28 (of_decide_eq_true (by kernel_rfl)) 186 (by kernel_rfl)
  exact step_pickT (show opO vn22Ops 29 = some (.pick (.tmp 180) (.tmp 186) (.const (.bool false))) by kernel_rfl) (.free (by kernel_rfl)) g180 g186 ⟨rfl, Below.refl _ _⟩

theorem vn22_s30 {Q : Exit → Act → World → Prop} {w0 : World} {xs : Nat → Value} (q17 q19 q21 : Nat) (hb17 : BoxOn w0 q17 0 0 ⟨#[]⟩) (hb19 : BoxOn w0 q19 0 0 ⟨#[]⟩) (hb21 : BoxOn w0 q21 0 0 ⟨#[]⟩) (wd : WdOn w0) (cA : CoalIs w0) (c0 : CallIs w0 0 0 ⟨#[]⟩ ⟨#[105, 102, 110, 117, 108, 108]⟩ [(0, 0, ⟨#[]⟩), (0, 0, ⟨#[]⟩)]) (c1 : CallIs w0 2 0 ⟨#[105, 110, 116, 101, 103, 101, 114]⟩ ⟨#[116, 121, 112, 101, 111, 102]⟩ [(1, 1, ⟨#[]⟩)]) (c2 : CallIs w0 1 3 ⟨#[]⟩ ⟨#[105, 110, 115, 116, 114]⟩ [(2, 0, ⟨#[97, 98, 99, 97, 98]⟩), (2, 0, ⟨#[99, 97]⟩)]) (c3 : CallIs w0 1 1 ⟨#[]⟩ ⟨#[105, 110, 115, 116, 114]⟩ [(2, 0, ⟨#[97]⟩), (2, 0, ⟨#[]⟩)]) (c4 : CallIs w0 1 0 ⟨#[]⟩ ⟨#[105, 110, 115, 116, 114]⟩ [(2, 0, ⟨#[]⟩), (2, 0, ⟨#[97]⟩)]) (c5 : CallIs w0 3 0 ⟨#[0]⟩ ⟨#[115, 117, 98, 115, 116, 114]⟩ [(3, 0, ⟨#[1, 0]⟩), (1, 2, ⟨#[]⟩)]) (c6 : CallIs w0 2 0 ⟨#[50, 51]⟩ ⟨#[115, 117, 98, 115, 116, 114]⟩ [(1, (-123), ⟨#[]⟩), (1, (-2), ⟨#[]⟩)]) (c7 : CallIs w0 2 0 ⟨#[65, 90, 91, 65, 123]⟩ ⟨#[117, 112, 112, 101, 114]⟩ [(2, 0, ⟨#[97, 122, 91, 97, 123]⟩)]) (hx17 : xs 17 = .pointer (some ⟨q17, 0, none⟩)) (hx19 : xs 19 = .pointer (some ⟨q19, 0, none⟩)) (hx21 : xs 21 = .pointer (some ⟨q21, 0, none⟩)) (hx18 : xs 18 = .int .i64 2) (hx20 : xs 20 = .int .i64 2) (hx22 : xs 22 = .int .i64 2) : OpStep Tryz.prog vn22Ops Q (vn22F q17 q19 q21) w0 245 xs 30 := by
  intro act w hb hk hF
  have g187 : act.eval (.tmp 187) = .bool true := hF 29 (of_decide_eq_true (by kernel_rfl)) 187 (by kernel_rfl)
  exact step_move (show opO vn22Ops 30 = some (.move (.tmp 187)) by kernel_rfl) (.free (by kernel_rfl)) g187 ⟨rfl, Below.refl _ _⟩

theorem vn22_s31 {Q : Exit → Act → World → Prop} {w0 : World} {xs : Nat → Value} (q17 q19 q21 : Nat) (hb17 : BoxOn w0 q17 0 0 ⟨#[]⟩) (hb19 : BoxOn w0 q19 0 0 ⟨#[]⟩) (hb21 : BoxOn w0 q21 0 0 ⟨#[]⟩) (wd : WdOn w0) (cA : CoalIs w0) (c0 : CallIs w0 0 0 ⟨#[]⟩ ⟨#[105, 102, 110, 117, 108, 108]⟩ [(0, 0, ⟨#[]⟩), (0, 0, ⟨#[]⟩)]) (c1 : CallIs w0 2 0 ⟨#[105, 110, 116, 101, 103, 101, 114]⟩ ⟨#[116, 121, 112, 101, 111, 102]⟩ [(1, 1, ⟨#[]⟩)]) (c2 : CallIs w0 1 3 ⟨#[]⟩ ⟨#[105, 110, 115, 116, 114]⟩ [(2, 0, ⟨#[97, 98, 99, 97, 98]⟩), (2, 0, ⟨#[99, 97]⟩)]) (c3 : CallIs w0 1 1 ⟨#[]⟩ ⟨#[105, 110, 115, 116, 114]⟩ [(2, 0, ⟨#[97]⟩), (2, 0, ⟨#[]⟩)]) (c4 : CallIs w0 1 0 ⟨#[]⟩ ⟨#[105, 110, 115, 116, 114]⟩ [(2, 0, ⟨#[]⟩), (2, 0, ⟨#[97]⟩)]) (c5 : CallIs w0 3 0 ⟨#[0]⟩ ⟨#[115, 117, 98, 115, 116, 114]⟩ [(3, 0, ⟨#[1, 0]⟩), (1, 2, ⟨#[]⟩)]) (c6 : CallIs w0 2 0 ⟨#[50, 51]⟩ ⟨#[115, 117, 98, 115, 116, 114]⟩ [(1, (-123), ⟨#[]⟩), (1, (-2), ⟨#[]⟩)]) (c7 : CallIs w0 2 0 ⟨#[65, 90, 91, 65, 123]⟩ ⟨#[117, 112, 112, 101, 114]⟩ [(2, 0, ⟨#[97, 122, 91, 97, 123]⟩)]) (hx17 : xs 17 = .pointer (some ⟨q17, 0, none⟩)) (hx19 : xs 19 = .pointer (some ⟨q19, 0, none⟩)) (hx21 : xs 21 = .pointer (some ⟨q21, 0, none⟩)) (hx18 : xs 18 = .int .i64 2) (hx20 : xs 20 = .int .i64 2) (hx22 : xs 22 = .int .i64 2) : OpStep Tryz.prog vn22Ops Q (vn22F q17 q19 q21) w0 245 xs 31 := by
  intro act w hb hk hF
  have g188 : act.eval (.tmp 188) = .bool true := hF 30 (of_decide_eq_true (by kernel_rfl)) 188 (by kernel_rfl)
  exact step_nul (show opO vn22Ops 31 = some (.build 24 #[]) by kernel_rfl) (.told 30 true 188 (by kernel_rfl) (by kernel_rfl) g188) ⟨rfl, Below.refl _ _⟩

theorem vn22_s32 {Q : Exit → Act → World → Prop} {w0 : World} {xs : Nat → Value} (q17 q19 q21 : Nat) (hb17 : BoxOn w0 q17 0 0 ⟨#[]⟩) (hb19 : BoxOn w0 q19 0 0 ⟨#[]⟩) (hb21 : BoxOn w0 q21 0 0 ⟨#[]⟩) (wd : WdOn w0) (cA : CoalIs w0) (c0 : CallIs w0 0 0 ⟨#[]⟩ ⟨#[105, 102, 110, 117, 108, 108]⟩ [(0, 0, ⟨#[]⟩), (0, 0, ⟨#[]⟩)]) (c1 : CallIs w0 2 0 ⟨#[105, 110, 116, 101, 103, 101, 114]⟩ ⟨#[116, 121, 112, 101, 111, 102]⟩ [(1, 1, ⟨#[]⟩)]) (c2 : CallIs w0 1 3 ⟨#[]⟩ ⟨#[105, 110, 115, 116, 114]⟩ [(2, 0, ⟨#[97, 98, 99, 97, 98]⟩), (2, 0, ⟨#[99, 97]⟩)]) (c3 : CallIs w0 1 1 ⟨#[]⟩ ⟨#[105, 110, 115, 116, 114]⟩ [(2, 0, ⟨#[97]⟩), (2, 0, ⟨#[]⟩)]) (c4 : CallIs w0 1 0 ⟨#[]⟩ ⟨#[105, 110, 115, 116, 114]⟩ [(2, 0, ⟨#[]⟩), (2, 0, ⟨#[97]⟩)]) (c5 : CallIs w0 3 0 ⟨#[0]⟩ ⟨#[115, 117, 98, 115, 116, 114]⟩ [(3, 0, ⟨#[1, 0]⟩), (1, 2, ⟨#[]⟩)]) (c6 : CallIs w0 2 0 ⟨#[50, 51]⟩ ⟨#[115, 117, 98, 115, 116, 114]⟩ [(1, (-123), ⟨#[]⟩), (1, (-2), ⟨#[]⟩)]) (c7 : CallIs w0 2 0 ⟨#[65, 90, 91, 65, 123]⟩ ⟨#[117, 112, 112, 101, 114]⟩ [(2, 0, ⟨#[97, 122, 91, 97, 123]⟩)]) (hx17 : xs 17 = .pointer (some ⟨q17, 0, none⟩)) (hx19 : xs 19 = .pointer (some ⟨q19, 0, none⟩)) (hx21 : xs 21 = .pointer (some ⟨q21, 0, none⟩)) (hx18 : xs 18 = .int .i64 2) (hx20 : xs 20 = .int .i64 2) (hx22 : xs 22 = .int .i64 2) : OpStep Tryz.prog vn22Ops Q (vn22F q17 q19 q21) w0 245 xs 32 := by
  intro act w hb hk hF
  have g188 : act.eval (.tmp 188) = .bool true := hF 30 (of_decide_eq_true (by kernel_rfl)) 188 (by kernel_rfl)
  exact step_nul (show opO vn22Ops 32 = some (.build 24 #[]) by kernel_rfl) (.told 30 true 188 (by kernel_rfl) (by kernel_rfl) g188) ⟨rfl, Below.refl _ _⟩

theorem vn22_s33 {Q : Exit → Act → World → Prop} {w0 : World} {xs : Nat → Value} (q17 q19 q21 : Nat) (hb17 : BoxOn w0 q17 0 0 ⟨#[]⟩) (hb19 : BoxOn w0 q19 0 0 ⟨#[]⟩) (hb21 : BoxOn w0 q21 0 0 ⟨#[]⟩) (wd : WdOn w0) (cA : CoalIs w0) (c0 : CallIs w0 0 0 ⟨#[]⟩ ⟨#[105, 102, 110, 117, 108, 108]⟩ [(0, 0, ⟨#[]⟩), (0, 0, ⟨#[]⟩)]) (c1 : CallIs w0 2 0 ⟨#[105, 110, 116, 101, 103, 101, 114]⟩ ⟨#[116, 121, 112, 101, 111, 102]⟩ [(1, 1, ⟨#[]⟩)]) (c2 : CallIs w0 1 3 ⟨#[]⟩ ⟨#[105, 110, 115, 116, 114]⟩ [(2, 0, ⟨#[97, 98, 99, 97, 98]⟩), (2, 0, ⟨#[99, 97]⟩)]) (c3 : CallIs w0 1 1 ⟨#[]⟩ ⟨#[105, 110, 115, 116, 114]⟩ [(2, 0, ⟨#[97]⟩), (2, 0, ⟨#[]⟩)]) (c4 : CallIs w0 1 0 ⟨#[]⟩ ⟨#[105, 110, 115, 116, 114]⟩ [(2, 0, ⟨#[]⟩), (2, 0, ⟨#[97]⟩)]) (c5 : CallIs w0 3 0 ⟨#[0]⟩ ⟨#[115, 117, 98, 115, 116, 114]⟩ [(3, 0, ⟨#[1, 0]⟩), (1, 2, ⟨#[]⟩)]) (c6 : CallIs w0 2 0 ⟨#[50, 51]⟩ ⟨#[115, 117, 98, 115, 116, 114]⟩ [(1, (-123), ⟨#[]⟩), (1, (-2), ⟨#[]⟩)]) (c7 : CallIs w0 2 0 ⟨#[65, 90, 91, 65, 123]⟩ ⟨#[117, 112, 112, 101, 114]⟩ [(2, 0, ⟨#[97, 122, 91, 97, 123]⟩)]) (hx17 : xs 17 = .pointer (some ⟨q17, 0, none⟩)) (hx19 : xs 19 = .pointer (some ⟨q19, 0, none⟩)) (hx21 : xs 21 = .pointer (some ⟨q21, 0, none⟩)) (hx18 : xs 18 = .int .i64 2) (hx20 : xs 20 = .int .i64 2) (hx22 : xs 22 = .int .i64 2) : OpStep Tryz.prog vn22Ops Q (vn22F q17 q19 q21) w0 245 xs 33 := by
  intro act w hb hk hF
  have g188 : act.eval (.tmp 188) = .bool true := hF 30 (of_decide_eq_true (by kernel_rfl)) 188 (by kernel_rfl)
  exact step_nul (show opO vn22Ops 33 = some (.build 24 #[]) by kernel_rfl) (.told 30 true 188 (by kernel_rfl) (by kernel_rfl) g188) ⟨rfl, Below.refl _ _⟩

theorem vn22_s34 {Q : Exit → Act → World → Prop} {w0 : World} {xs : Nat → Value} (q17 q19 q21 : Nat) (hb17 : BoxOn w0 q17 0 0 ⟨#[]⟩) (hb19 : BoxOn w0 q19 0 0 ⟨#[]⟩) (hb21 : BoxOn w0 q21 0 0 ⟨#[]⟩) (wd : WdOn w0) (cA : CoalIs w0) (c0 : CallIs w0 0 0 ⟨#[]⟩ ⟨#[105, 102, 110, 117, 108, 108]⟩ [(0, 0, ⟨#[]⟩), (0, 0, ⟨#[]⟩)]) (c1 : CallIs w0 2 0 ⟨#[105, 110, 116, 101, 103, 101, 114]⟩ ⟨#[116, 121, 112, 101, 111, 102]⟩ [(1, 1, ⟨#[]⟩)]) (c2 : CallIs w0 1 3 ⟨#[]⟩ ⟨#[105, 110, 115, 116, 114]⟩ [(2, 0, ⟨#[97, 98, 99, 97, 98]⟩), (2, 0, ⟨#[99, 97]⟩)]) (c3 : CallIs w0 1 1 ⟨#[]⟩ ⟨#[105, 110, 115, 116, 114]⟩ [(2, 0, ⟨#[97]⟩), (2, 0, ⟨#[]⟩)]) (c4 : CallIs w0 1 0 ⟨#[]⟩ ⟨#[105, 110, 115, 116, 114]⟩ [(2, 0, ⟨#[]⟩), (2, 0, ⟨#[97]⟩)]) (c5 : CallIs w0 3 0 ⟨#[0]⟩ ⟨#[115, 117, 98, 115, 116, 114]⟩ [(3, 0, ⟨#[1, 0]⟩), (1, 2, ⟨#[]⟩)]) (c6 : CallIs w0 2 0 ⟨#[50, 51]⟩ ⟨#[115, 117, 98, 115, 116, 114]⟩ [(1, (-123), ⟨#[]⟩), (1, (-2), ⟨#[]⟩)]) (c7 : CallIs w0 2 0 ⟨#[65, 90, 91, 65, 123]⟩ ⟨#[117, 112, 112, 101, 114]⟩ [(2, 0, ⟨#[97, 122, 91, 97, 123]⟩)]) (hx17 : xs 17 = .pointer (some ⟨q17, 0, none⟩)) (hx19 : xs 19 = .pointer (some ⟨q19, 0, none⟩)) (hx21 : xs 21 = .pointer (some ⟨q21, 0, none⟩)) (hx18 : xs 18 = .int .i64 2) (hx20 : xs 20 = .int .i64 2) (hx22 : xs 22 = .int .i64 2) : OpStep Tryz.prog vn22Ops Q (vn22F q17 q19 q21) w0 245 xs 34 := by
  intro act w hb hk hF
  have g188 : act.eval (.tmp 188) = .bool true := hF 30 (of_decide_eq_true (by kernel_rfl)) 188 (by kernel_rfl)
  have g190 : act.eval (.tmp 190) = vv 0 0 ⟨#[]⟩ := hF 32 (of_decide_eq_true (by kernel_rfl)) 190 (by kernel_rfl)
  have g191 : act.eval (.tmp 191) = vv 0 0 ⟨#[]⟩ := hF 33 (of_decide_eq_true (by kernel_rfl)) 191 (by kernel_rfl)
  exact step_build2 (show opO vn22Ops 34 = some (.buildSlice 27 2 #[(0, .tmp 190), (1, .tmp 191)]) by kernel_rfl) (.told 30 true 188 (by kernel_rfl) (by kernel_rfl) g188) g190 g191 fun b hR hb' => ⟨⟨b, rfl, hR⟩, hb'⟩

theorem vn22_s35 {Q : Exit → Act → World → Prop} {w0 : World} {xs : Nat → Value} (q17 q19 q21 : Nat) (hb17 : BoxOn w0 q17 0 0 ⟨#[]⟩) (hb19 : BoxOn w0 q19 0 0 ⟨#[]⟩) (hb21 : BoxOn w0 q21 0 0 ⟨#[]⟩) (wd : WdOn w0) (cA : CoalIs w0) (c0 : CallIs w0 0 0 ⟨#[]⟩ ⟨#[105, 102, 110, 117, 108, 108]⟩ [(0, 0, ⟨#[]⟩), (0, 0, ⟨#[]⟩)]) (c1 : CallIs w0 2 0 ⟨#[105, 110, 116, 101, 103, 101, 114]⟩ ⟨#[116, 121, 112, 101, 111, 102]⟩ [(1, 1, ⟨#[]⟩)]) (c2 : CallIs w0 1 3 ⟨#[]⟩ ⟨#[105, 110, 115, 116, 114]⟩ [(2, 0, ⟨#[97, 98, 99, 97, 98]⟩), (2, 0, ⟨#[99, 97]⟩)]) (c3 : CallIs w0 1 1 ⟨#[]⟩ ⟨#[105, 110, 115, 116, 114]⟩ [(2, 0, ⟨#[97]⟩), (2, 0, ⟨#[]⟩)]) (c4 : CallIs w0 1 0 ⟨#[]⟩ ⟨#[105, 110, 115, 116, 114]⟩ [(2, 0, ⟨#[]⟩), (2, 0, ⟨#[97]⟩)]) (c5 : CallIs w0 3 0 ⟨#[0]⟩ ⟨#[115, 117, 98, 115, 116, 114]⟩ [(3, 0, ⟨#[1, 0]⟩), (1, 2, ⟨#[]⟩)]) (c6 : CallIs w0 2 0 ⟨#[50, 51]⟩ ⟨#[115, 117, 98, 115, 116, 114]⟩ [(1, (-123), ⟨#[]⟩), (1, (-2), ⟨#[]⟩)]) (c7 : CallIs w0 2 0 ⟨#[65, 90, 91, 65, 123]⟩ ⟨#[117, 112, 112, 101, 114]⟩ [(2, 0, ⟨#[97, 122, 91, 97, 123]⟩)]) (hx17 : xs 17 = .pointer (some ⟨q17, 0, none⟩)) (hx19 : xs 19 = .pointer (some ⟨q19, 0, none⟩)) (hx21 : xs 21 = .pointer (some ⟨q21, 0, none⟩)) (hx18 : xs 18 = .int .i64 2) (hx20 : xs 20 = .int .i64 2) (hx22 : xs 22 = .int .i64 2) : OpStep Tryz.prog vn22Ops Q (vn22F q17 q19 q21) w0 245 xs 35 := by
  intro act w hb hk hF
  have g188 : act.eval (.tmp 188) = .bool true := hF 30 (of_decide_eq_true (by kernel_rfl)) 188 (by kernel_rfl)
  have g189 : act.eval (.tmp 189) = vv 0 0 ⟨#[]⟩ := hF 31 (of_decide_eq_true (by kernel_rfl)) 189 (by kernel_rfl)
  obtain ⟨b192, g192, hR192⟩ := (show IsL [(0, 0, ⟨#[]⟩), (0, 0, ⟨#[]⟩)] _ w from hF 34 (of_decide_eq_true (by kernel_rfl)) 192 (by kernel_rfl))
  exact step_call (f := 22) (xs := #[.tmp 189, .const (.string ⟨#[105, 102, 110, 117, 108, 108]⟩), .tmp 192]) (by kernel_rfl) (.told 30 true 188 (by kernel_rfl) (by kernel_rfl) g188) (map3 g189 rfl g192) (enters_of Tryz.func22 (by kernel_rfl) rfl) ((c0 w b192 hb hR192).mono fun e w' h => ⟨_, h.1, rfl, h.2⟩)

theorem vn22_s36 {Q : Exit → Act → World → Prop} {w0 : World} {xs : Nat → Value} (q17 q19 q21 : Nat) (hb17 : BoxOn w0 q17 0 0 ⟨#[]⟩) (hb19 : BoxOn w0 q19 0 0 ⟨#[]⟩) (hb21 : BoxOn w0 q21 0 0 ⟨#[]⟩) (wd : WdOn w0) (cA : CoalIs w0) (c0 : CallIs w0 0 0 ⟨#[]⟩ ⟨#[105, 102, 110, 117, 108, 108]⟩ [(0, 0, ⟨#[]⟩), (0, 0, ⟨#[]⟩)]) (c1 : CallIs w0 2 0 ⟨#[105, 110, 116, 101, 103, 101, 114]⟩ ⟨#[116, 121, 112, 101, 111, 102]⟩ [(1, 1, ⟨#[]⟩)]) (c2 : CallIs w0 1 3 ⟨#[]⟩ ⟨#[105, 110, 115, 116, 114]⟩ [(2, 0, ⟨#[97, 98, 99, 97, 98]⟩), (2, 0, ⟨#[99, 97]⟩)]) (c3 : CallIs w0 1 1 ⟨#[]⟩ ⟨#[105, 110, 115, 116, 114]⟩ [(2, 0, ⟨#[97]⟩), (2, 0, ⟨#[]⟩)]) (c4 : CallIs w0 1 0 ⟨#[]⟩ ⟨#[105, 110, 115, 116, 114]⟩ [(2, 0, ⟨#[]⟩), (2, 0, ⟨#[97]⟩)]) (c5 : CallIs w0 3 0 ⟨#[0]⟩ ⟨#[115, 117, 98, 115, 116, 114]⟩ [(3, 0, ⟨#[1, 0]⟩), (1, 2, ⟨#[]⟩)]) (c6 : CallIs w0 2 0 ⟨#[50, 51]⟩ ⟨#[115, 117, 98, 115, 116, 114]⟩ [(1, (-123), ⟨#[]⟩), (1, (-2), ⟨#[]⟩)]) (c7 : CallIs w0 2 0 ⟨#[65, 90, 91, 65, 123]⟩ ⟨#[117, 112, 112, 101, 114]⟩ [(2, 0, ⟨#[97, 122, 91, 97, 123]⟩)]) (hx17 : xs 17 = .pointer (some ⟨q17, 0, none⟩)) (hx19 : xs 19 = .pointer (some ⟨q19, 0, none⟩)) (hx21 : xs 21 = .pointer (some ⟨q21, 0, none⟩)) (hx18 : xs 18 = .int .i64 2) (hx20 : xs 20 = .int .i64 2) (hx22 : xs 22 = .int .i64 2) : OpStep Tryz.prog vn22Ops Q (vn22F q17 q19 q21) w0 245 xs 36 := by
  intro act w hb hk hF
  have g188 : act.eval (.tmp 188) = .bool true := hF 30 (of_decide_eq_true (by kernel_rfl)) 188 (by kernel_rfl)
  have g193 : act.eval (.tmp 193) = .bool true := hF 35 (of_decide_eq_true (by kernel_rfl)) 193 (by kernel_rfl)
  exact step_pickT (show opO vn22Ops 36 = some (.pick (.tmp 188) (.tmp 193) (.const (.bool false))) by kernel_rfl) (.free (by kernel_rfl)) g188 g193 ⟨rfl, Below.refl _ _⟩

theorem vn22_s37 {Q : Exit → Act → World → Prop} {w0 : World} {xs : Nat → Value} (q17 q19 q21 : Nat) (hb17 : BoxOn w0 q17 0 0 ⟨#[]⟩) (hb19 : BoxOn w0 q19 0 0 ⟨#[]⟩) (hb21 : BoxOn w0 q21 0 0 ⟨#[]⟩) (wd : WdOn w0) (cA : CoalIs w0) (c0 : CallIs w0 0 0 ⟨#[]⟩ ⟨#[105, 102, 110, 117, 108, 108]⟩ [(0, 0, ⟨#[]⟩), (0, 0, ⟨#[]⟩)]) (c1 : CallIs w0 2 0 ⟨#[105, 110, 116, 101, 103, 101, 114]⟩ ⟨#[116, 121, 112, 101, 111, 102]⟩ [(1, 1, ⟨#[]⟩)]) (c2 : CallIs w0 1 3 ⟨#[]⟩ ⟨#[105, 110, 115, 116, 114]⟩ [(2, 0, ⟨#[97, 98, 99, 97, 98]⟩), (2, 0, ⟨#[99, 97]⟩)]) (c3 : CallIs w0 1 1 ⟨#[]⟩ ⟨#[105, 110, 115, 116, 114]⟩ [(2, 0, ⟨#[97]⟩), (2, 0, ⟨#[]⟩)]) (c4 : CallIs w0 1 0 ⟨#[]⟩ ⟨#[105, 110, 115, 116, 114]⟩ [(2, 0, ⟨#[]⟩), (2, 0, ⟨#[97]⟩)]) (c5 : CallIs w0 3 0 ⟨#[0]⟩ ⟨#[115, 117, 98, 115, 116, 114]⟩ [(3, 0, ⟨#[1, 0]⟩), (1, 2, ⟨#[]⟩)]) (c6 : CallIs w0 2 0 ⟨#[50, 51]⟩ ⟨#[115, 117, 98, 115, 116, 114]⟩ [(1, (-123), ⟨#[]⟩), (1, (-2), ⟨#[]⟩)]) (c7 : CallIs w0 2 0 ⟨#[65, 90, 91, 65, 123]⟩ ⟨#[117, 112, 112, 101, 114]⟩ [(2, 0, ⟨#[97, 122, 91, 97, 123]⟩)]) (hx17 : xs 17 = .pointer (some ⟨q17, 0, none⟩)) (hx19 : xs 19 = .pointer (some ⟨q19, 0, none⟩)) (hx21 : xs 21 = .pointer (some ⟨q21, 0, none⟩)) (hx18 : xs 18 = .int .i64 2) (hx20 : xs 20 = .int .i64 2) (hx22 : xs 22 = .int .i64 2) : OpStep Tryz.prog vn22Ops Q (vn22F q17 q19 q21) w0 245 xs 37 := by
  intro act w hb hk hF
  have g194 : act.eval (.tmp 194) = .bool true := hF 36 (of_decide_eq_true (by kernel_rfl)) 194 (by kernel_rfl)
  exact step_move (show opO vn22Ops 37 = some (.move (.tmp 194)) by kernel_rfl) (.free (by kernel_rfl)) g194 ⟨rfl, Below.refl _ _⟩

theorem vn22_s38 {Q : Exit → Act → World → Prop} {w0 : World} {xs : Nat → Value} (q17 q19 q21 : Nat) (hb17 : BoxOn w0 q17 0 0 ⟨#[]⟩) (hb19 : BoxOn w0 q19 0 0 ⟨#[]⟩) (hb21 : BoxOn w0 q21 0 0 ⟨#[]⟩) (wd : WdOn w0) (cA : CoalIs w0) (c0 : CallIs w0 0 0 ⟨#[]⟩ ⟨#[105, 102, 110, 117, 108, 108]⟩ [(0, 0, ⟨#[]⟩), (0, 0, ⟨#[]⟩)]) (c1 : CallIs w0 2 0 ⟨#[105, 110, 116, 101, 103, 101, 114]⟩ ⟨#[116, 121, 112, 101, 111, 102]⟩ [(1, 1, ⟨#[]⟩)]) (c2 : CallIs w0 1 3 ⟨#[]⟩ ⟨#[105, 110, 115, 116, 114]⟩ [(2, 0, ⟨#[97, 98, 99, 97, 98]⟩), (2, 0, ⟨#[99, 97]⟩)]) (c3 : CallIs w0 1 1 ⟨#[]⟩ ⟨#[105, 110, 115, 116, 114]⟩ [(2, 0, ⟨#[97]⟩), (2, 0, ⟨#[]⟩)]) (c4 : CallIs w0 1 0 ⟨#[]⟩ ⟨#[105, 110, 115, 116, 114]⟩ [(2, 0, ⟨#[]⟩), (2, 0, ⟨#[97]⟩)]) (c5 : CallIs w0 3 0 ⟨#[0]⟩ ⟨#[115, 117, 98, 115, 116, 114]⟩ [(3, 0, ⟨#[1, 0]⟩), (1, 2, ⟨#[]⟩)]) (c6 : CallIs w0 2 0 ⟨#[50, 51]⟩ ⟨#[115, 117, 98, 115, 116, 114]⟩ [(1, (-123), ⟨#[]⟩), (1, (-2), ⟨#[]⟩)]) (c7 : CallIs w0 2 0 ⟨#[65, 90, 91, 65, 123]⟩ ⟨#[117, 112, 112, 101, 114]⟩ [(2, 0, ⟨#[97, 122, 91, 97, 123]⟩)]) (hx17 : xs 17 = .pointer (some ⟨q17, 0, none⟩)) (hx19 : xs 19 = .pointer (some ⟨q19, 0, none⟩)) (hx21 : xs 21 = .pointer (some ⟨q21, 0, none⟩)) (hx18 : xs 18 = .int .i64 2) (hx20 : xs 20 = .int .i64 2) (hx22 : xs 22 = .int .i64 2) : OpStep Tryz.prog vn22Ops Q (vn22F q17 q19 q21) w0 245 xs 38 := by
  intro act w hb hk hF
  have g195 : act.eval (.tmp 195) = .bool true := hF 37 (of_decide_eq_true (by kernel_rfl)) 195 (by kernel_rfl)
  exact step_call (f := 10) (xs := #[.const (.string ⟨#[105, 110, 116, 101, 103, 101, 114]⟩)]) (by kernel_rfl) (.told 37 true 195 (by kernel_rfl) (by kernel_rfl) g195) (map1 rfl) (enters_of Tryz.func10 (by kernel_rfl) rfl) ((text_any ⟨#[105, 110, 116, 101, 103, 101, 114]⟩ w).mono fun e w' h => ⟨_, h.1, rfl, h.2⟩)

theorem vn22_s39 {Q : Exit → Act → World → Prop} {w0 : World} {xs : Nat → Value} (q17 q19 q21 : Nat) (hb17 : BoxOn w0 q17 0 0 ⟨#[]⟩) (hb19 : BoxOn w0 q19 0 0 ⟨#[]⟩) (hb21 : BoxOn w0 q21 0 0 ⟨#[]⟩) (wd : WdOn w0) (cA : CoalIs w0) (c0 : CallIs w0 0 0 ⟨#[]⟩ ⟨#[105, 102, 110, 117, 108, 108]⟩ [(0, 0, ⟨#[]⟩), (0, 0, ⟨#[]⟩)]) (c1 : CallIs w0 2 0 ⟨#[105, 110, 116, 101, 103, 101, 114]⟩ ⟨#[116, 121, 112, 101, 111, 102]⟩ [(1, 1, ⟨#[]⟩)]) (c2 : CallIs w0 1 3 ⟨#[]⟩ ⟨#[105, 110, 115, 116, 114]⟩ [(2, 0, ⟨#[97, 98, 99, 97, 98]⟩), (2, 0, ⟨#[99, 97]⟩)]) (c3 : CallIs w0 1 1 ⟨#[]⟩ ⟨#[105, 110, 115, 116, 114]⟩ [(2, 0, ⟨#[97]⟩), (2, 0, ⟨#[]⟩)]) (c4 : CallIs w0 1 0 ⟨#[]⟩ ⟨#[105, 110, 115, 116, 114]⟩ [(2, 0, ⟨#[]⟩), (2, 0, ⟨#[97]⟩)]) (c5 : CallIs w0 3 0 ⟨#[0]⟩ ⟨#[115, 117, 98, 115, 116, 114]⟩ [(3, 0, ⟨#[1, 0]⟩), (1, 2, ⟨#[]⟩)]) (c6 : CallIs w0 2 0 ⟨#[50, 51]⟩ ⟨#[115, 117, 98, 115, 116, 114]⟩ [(1, (-123), ⟨#[]⟩), (1, (-2), ⟨#[]⟩)]) (c7 : CallIs w0 2 0 ⟨#[65, 90, 91, 65, 123]⟩ ⟨#[117, 112, 112, 101, 114]⟩ [(2, 0, ⟨#[97, 122, 91, 97, 123]⟩)]) (hx17 : xs 17 = .pointer (some ⟨q17, 0, none⟩)) (hx19 : xs 19 = .pointer (some ⟨q19, 0, none⟩)) (hx21 : xs 21 = .pointer (some ⟨q21, 0, none⟩)) (hx18 : xs 18 = .int .i64 2) (hx20 : xs 20 = .int .i64 2) (hx22 : xs 22 = .int .i64 2) : OpStep Tryz.prog vn22Ops Q (vn22F q17 q19 q21) w0 245 xs 39 := by
  intro act w hb hk hF
  have g195 : act.eval (.tmp 195) = .bool true := hF 37 (of_decide_eq_true (by kernel_rfl)) 195 (by kernel_rfl)
  exact step_call (f := 13) (xs := #[.const (.int .i64 1)]) (by kernel_rfl) (.told 37 true 195 (by kernel_rfl) (by kernel_rfl) g195) (map1 rfl) (enters_of Tryz.func13 (by kernel_rfl) rfl) ((num_any 1 w).mono fun e w' h => ⟨_, h.1, rfl, h.2⟩)

theorem vn22_s40 {Q : Exit → Act → World → Prop} {w0 : World} {xs : Nat → Value} (q17 q19 q21 : Nat) (hb17 : BoxOn w0 q17 0 0 ⟨#[]⟩) (hb19 : BoxOn w0 q19 0 0 ⟨#[]⟩) (hb21 : BoxOn w0 q21 0 0 ⟨#[]⟩) (wd : WdOn w0) (cA : CoalIs w0) (c0 : CallIs w0 0 0 ⟨#[]⟩ ⟨#[105, 102, 110, 117, 108, 108]⟩ [(0, 0, ⟨#[]⟩), (0, 0, ⟨#[]⟩)]) (c1 : CallIs w0 2 0 ⟨#[105, 110, 116, 101, 103, 101, 114]⟩ ⟨#[116, 121, 112, 101, 111, 102]⟩ [(1, 1, ⟨#[]⟩)]) (c2 : CallIs w0 1 3 ⟨#[]⟩ ⟨#[105, 110, 115, 116, 114]⟩ [(2, 0, ⟨#[97, 98, 99, 97, 98]⟩), (2, 0, ⟨#[99, 97]⟩)]) (c3 : CallIs w0 1 1 ⟨#[]⟩ ⟨#[105, 110, 115, 116, 114]⟩ [(2, 0, ⟨#[97]⟩), (2, 0, ⟨#[]⟩)]) (c4 : CallIs w0 1 0 ⟨#[]⟩ ⟨#[105, 110, 115, 116, 114]⟩ [(2, 0, ⟨#[]⟩), (2, 0, ⟨#[97]⟩)]) (c5 : CallIs w0 3 0 ⟨#[0]⟩ ⟨#[115, 117, 98, 115, 116, 114]⟩ [(3, 0, ⟨#[1, 0]⟩), (1, 2, ⟨#[]⟩)]) (c6 : CallIs w0 2 0 ⟨#[50, 51]⟩ ⟨#[115, 117, 98, 115, 116, 114]⟩ [(1, (-123), ⟨#[]⟩), (1, (-2), ⟨#[]⟩)]) (c7 : CallIs w0 2 0 ⟨#[65, 90, 91, 65, 123]⟩ ⟨#[117, 112, 112, 101, 114]⟩ [(2, 0, ⟨#[97, 122, 91, 97, 123]⟩)]) (hx17 : xs 17 = .pointer (some ⟨q17, 0, none⟩)) (hx19 : xs 19 = .pointer (some ⟨q19, 0, none⟩)) (hx21 : xs 21 = .pointer (some ⟨q21, 0, none⟩)) (hx18 : xs 18 = .int .i64 2) (hx20 : xs 20 = .int .i64 2) (hx22 : xs 22 = .int .i64 2) : OpStep Tryz.prog vn22Ops Q (vn22F q17 q19 q21) w0 245 xs 40 := by
  intro act w hb hk hF
  have g195 : act.eval (.tmp 195) = .bool true := hF 37 (of_decide_eq_true (by kernel_rfl)) 195 (by kernel_rfl)
  have g197 : act.eval (.tmp 197) = vv 1 1 ⟨#[]⟩ := hF 39 (of_decide_eq_true (by kernel_rfl)) 197 (by kernel_rfl)
  exact step_build1 (show opO vn22Ops 40 = some (.buildSlice 27 1 #[(0, .tmp 197)]) by kernel_rfl) (.told 37 true 195 (by kernel_rfl) (by kernel_rfl) g195) g197 fun b hR hb' => ⟨⟨b, rfl, hR⟩, hb'⟩

theorem vn22_s41 {Q : Exit → Act → World → Prop} {w0 : World} {xs : Nat → Value} (q17 q19 q21 : Nat) (hb17 : BoxOn w0 q17 0 0 ⟨#[]⟩) (hb19 : BoxOn w0 q19 0 0 ⟨#[]⟩) (hb21 : BoxOn w0 q21 0 0 ⟨#[]⟩) (wd : WdOn w0) (cA : CoalIs w0) (c0 : CallIs w0 0 0 ⟨#[]⟩ ⟨#[105, 102, 110, 117, 108, 108]⟩ [(0, 0, ⟨#[]⟩), (0, 0, ⟨#[]⟩)]) (c1 : CallIs w0 2 0 ⟨#[105, 110, 116, 101, 103, 101, 114]⟩ ⟨#[116, 121, 112, 101, 111, 102]⟩ [(1, 1, ⟨#[]⟩)]) (c2 : CallIs w0 1 3 ⟨#[]⟩ ⟨#[105, 110, 115, 116, 114]⟩ [(2, 0, ⟨#[97, 98, 99, 97, 98]⟩), (2, 0, ⟨#[99, 97]⟩)]) (c3 : CallIs w0 1 1 ⟨#[]⟩ ⟨#[105, 110, 115, 116, 114]⟩ [(2, 0, ⟨#[97]⟩), (2, 0, ⟨#[]⟩)]) (c4 : CallIs w0 1 0 ⟨#[]⟩ ⟨#[105, 110, 115, 116, 114]⟩ [(2, 0, ⟨#[]⟩), (2, 0, ⟨#[97]⟩)]) (c5 : CallIs w0 3 0 ⟨#[0]⟩ ⟨#[115, 117, 98, 115, 116, 114]⟩ [(3, 0, ⟨#[1, 0]⟩), (1, 2, ⟨#[]⟩)]) (c6 : CallIs w0 2 0 ⟨#[50, 51]⟩ ⟨#[115, 117, 98, 115, 116, 114]⟩ [(1, (-123), ⟨#[]⟩), (1, (-2), ⟨#[]⟩)]) (c7 : CallIs w0 2 0 ⟨#[65, 90, 91, 65, 123]⟩ ⟨#[117, 112, 112, 101, 114]⟩ [(2, 0, ⟨#[97, 122, 91, 97, 123]⟩)]) (hx17 : xs 17 = .pointer (some ⟨q17, 0, none⟩)) (hx19 : xs 19 = .pointer (some ⟨q19, 0, none⟩)) (hx21 : xs 21 = .pointer (some ⟨q21, 0, none⟩)) (hx18 : xs 18 = .int .i64 2) (hx20 : xs 20 = .int .i64 2) (hx22 : xs 22 = .int .i64 2) : OpStep Tryz.prog vn22Ops Q (vn22F q17 q19 q21) w0 245 xs 41 := by
  intro act w hb hk hF
  have g195 : act.eval (.tmp 195) = .bool true := hF 37 (of_decide_eq_true (by kernel_rfl)) 195 (by kernel_rfl)
  have g196 : act.eval (.tmp 196) = vv 2 0 ⟨#[105, 110, 116, 101, 103, 101, 114]⟩ := hF 38 (of_decide_eq_true (by kernel_rfl)) 196 (by kernel_rfl)
  obtain ⟨b198, g198, hR198⟩ := (show IsL [(1, 1, ⟨#[]⟩)] _ w from hF 40 (of_decide_eq_true (by kernel_rfl)) 198 (by kernel_rfl))
  exact step_call (f := 22) (xs := #[.tmp 196, .const (.string ⟨#[116, 121, 112, 101, 111, 102]⟩), .tmp 198]) (by kernel_rfl) (.told 37 true 195 (by kernel_rfl) (by kernel_rfl) g195) (map3 g196 rfl g198) (enters_of Tryz.func22 (by kernel_rfl) rfl) ((c1 w b198 hb hR198).mono fun e w' h => ⟨_, h.1, rfl, h.2⟩)

theorem vn22_s42 {Q : Exit → Act → World → Prop} {w0 : World} {xs : Nat → Value} (q17 q19 q21 : Nat) (hb17 : BoxOn w0 q17 0 0 ⟨#[]⟩) (hb19 : BoxOn w0 q19 0 0 ⟨#[]⟩) (hb21 : BoxOn w0 q21 0 0 ⟨#[]⟩) (wd : WdOn w0) (cA : CoalIs w0) (c0 : CallIs w0 0 0 ⟨#[]⟩ ⟨#[105, 102, 110, 117, 108, 108]⟩ [(0, 0, ⟨#[]⟩), (0, 0, ⟨#[]⟩)]) (c1 : CallIs w0 2 0 ⟨#[105, 110, 116, 101, 103, 101, 114]⟩ ⟨#[116, 121, 112, 101, 111, 102]⟩ [(1, 1, ⟨#[]⟩)]) (c2 : CallIs w0 1 3 ⟨#[]⟩ ⟨#[105, 110, 115, 116, 114]⟩ [(2, 0, ⟨#[97, 98, 99, 97, 98]⟩), (2, 0, ⟨#[99, 97]⟩)]) (c3 : CallIs w0 1 1 ⟨#[]⟩ ⟨#[105, 110, 115, 116, 114]⟩ [(2, 0, ⟨#[97]⟩), (2, 0, ⟨#[]⟩)]) (c4 : CallIs w0 1 0 ⟨#[]⟩ ⟨#[105, 110, 115, 116, 114]⟩ [(2, 0, ⟨#[]⟩), (2, 0, ⟨#[97]⟩)]) (c5 : CallIs w0 3 0 ⟨#[0]⟩ ⟨#[115, 117, 98, 115, 116, 114]⟩ [(3, 0, ⟨#[1, 0]⟩), (1, 2, ⟨#[]⟩)]) (c6 : CallIs w0 2 0 ⟨#[50, 51]⟩ ⟨#[115, 117, 98, 115, 116, 114]⟩ [(1, (-123), ⟨#[]⟩), (1, (-2), ⟨#[]⟩)]) (c7 : CallIs w0 2 0 ⟨#[65, 90, 91, 65, 123]⟩ ⟨#[117, 112, 112, 101, 114]⟩ [(2, 0, ⟨#[97, 122, 91, 97, 123]⟩)]) (hx17 : xs 17 = .pointer (some ⟨q17, 0, none⟩)) (hx19 : xs 19 = .pointer (some ⟨q19, 0, none⟩)) (hx21 : xs 21 = .pointer (some ⟨q21, 0, none⟩)) (hx18 : xs 18 = .int .i64 2) (hx20 : xs 20 = .int .i64 2) (hx22 : xs 22 = .int .i64 2) : OpStep Tryz.prog vn22Ops Q (vn22F q17 q19 q21) w0 245 xs 42 := by
  intro act w hb hk hF
  have g195 : act.eval (.tmp 195) = .bool true := hF 37 (of_decide_eq_true (by kernel_rfl)) 195 (by kernel_rfl)
  have g199 : act.eval (.tmp 199) = .bool true := hF 41 (of_decide_eq_true (by kernel_rfl)) 199 (by kernel_rfl)
  exact step_pickT (show opO vn22Ops 42 = some (.pick (.tmp 195) (.tmp 199) (.const (.bool false))) by kernel_rfl) (.free (by kernel_rfl)) g195 g199 ⟨rfl, Below.refl _ _⟩

theorem vn22_s43 {Q : Exit → Act → World → Prop} {w0 : World} {xs : Nat → Value} (q17 q19 q21 : Nat) (hb17 : BoxOn w0 q17 0 0 ⟨#[]⟩) (hb19 : BoxOn w0 q19 0 0 ⟨#[]⟩) (hb21 : BoxOn w0 q21 0 0 ⟨#[]⟩) (wd : WdOn w0) (cA : CoalIs w0) (c0 : CallIs w0 0 0 ⟨#[]⟩ ⟨#[105, 102, 110, 117, 108, 108]⟩ [(0, 0, ⟨#[]⟩), (0, 0, ⟨#[]⟩)]) (c1 : CallIs w0 2 0 ⟨#[105, 110, 116, 101, 103, 101, 114]⟩ ⟨#[116, 121, 112, 101, 111, 102]⟩ [(1, 1, ⟨#[]⟩)]) (c2 : CallIs w0 1 3 ⟨#[]⟩ ⟨#[105, 110, 115, 116, 114]⟩ [(2, 0, ⟨#[97, 98, 99, 97, 98]⟩), (2, 0, ⟨#[99, 97]⟩)]) (c3 : CallIs w0 1 1 ⟨#[]⟩ ⟨#[105, 110, 115, 116, 114]⟩ [(2, 0, ⟨#[97]⟩), (2, 0, ⟨#[]⟩)]) (c4 : CallIs w0 1 0 ⟨#[]⟩ ⟨#[105, 110, 115, 116, 114]⟩ [(2, 0, ⟨#[]⟩), (2, 0, ⟨#[97]⟩)]) (c5 : CallIs w0 3 0 ⟨#[0]⟩ ⟨#[115, 117, 98, 115, 116, 114]⟩ [(3, 0, ⟨#[1, 0]⟩), (1, 2, ⟨#[]⟩)]) (c6 : CallIs w0 2 0 ⟨#[50, 51]⟩ ⟨#[115, 117, 98, 115, 116, 114]⟩ [(1, (-123), ⟨#[]⟩), (1, (-2), ⟨#[]⟩)]) (c7 : CallIs w0 2 0 ⟨#[65, 90, 91, 65, 123]⟩ ⟨#[117, 112, 112, 101, 114]⟩ [(2, 0, ⟨#[97, 122, 91, 97, 123]⟩)]) (hx17 : xs 17 = .pointer (some ⟨q17, 0, none⟩)) (hx19 : xs 19 = .pointer (some ⟨q19, 0, none⟩)) (hx21 : xs 21 = .pointer (some ⟨q21, 0, none⟩)) (hx18 : xs 18 = .int .i64 2) (hx20 : xs 20 = .int .i64 2) (hx22 : xs 22 = .int .i64 2) : OpStep Tryz.prog vn22Ops Q (vn22F q17 q19 q21) w0 245 xs 43 := by
  intro act w hb hk hF
  have g200 : act.eval (.tmp 200) = .bool true := hF 42 (of_decide_eq_true (by kernel_rfl)) 200 (by kernel_rfl)
  exact step_move (show opO vn22Ops 43 = some (.move (.tmp 200)) by kernel_rfl) (.free (by kernel_rfl)) g200 ⟨rfl, Below.refl _ _⟩

theorem vn22_s44 {Q : Exit → Act → World → Prop} {w0 : World} {xs : Nat → Value} (q17 q19 q21 : Nat) (hb17 : BoxOn w0 q17 0 0 ⟨#[]⟩) (hb19 : BoxOn w0 q19 0 0 ⟨#[]⟩) (hb21 : BoxOn w0 q21 0 0 ⟨#[]⟩) (wd : WdOn w0) (cA : CoalIs w0) (c0 : CallIs w0 0 0 ⟨#[]⟩ ⟨#[105, 102, 110, 117, 108, 108]⟩ [(0, 0, ⟨#[]⟩), (0, 0, ⟨#[]⟩)]) (c1 : CallIs w0 2 0 ⟨#[105, 110, 116, 101, 103, 101, 114]⟩ ⟨#[116, 121, 112, 101, 111, 102]⟩ [(1, 1, ⟨#[]⟩)]) (c2 : CallIs w0 1 3 ⟨#[]⟩ ⟨#[105, 110, 115, 116, 114]⟩ [(2, 0, ⟨#[97, 98, 99, 97, 98]⟩), (2, 0, ⟨#[99, 97]⟩)]) (c3 : CallIs w0 1 1 ⟨#[]⟩ ⟨#[105, 110, 115, 116, 114]⟩ [(2, 0, ⟨#[97]⟩), (2, 0, ⟨#[]⟩)]) (c4 : CallIs w0 1 0 ⟨#[]⟩ ⟨#[105, 110, 115, 116, 114]⟩ [(2, 0, ⟨#[]⟩), (2, 0, ⟨#[97]⟩)]) (c5 : CallIs w0 3 0 ⟨#[0]⟩ ⟨#[115, 117, 98, 115, 116, 114]⟩ [(3, 0, ⟨#[1, 0]⟩), (1, 2, ⟨#[]⟩)]) (c6 : CallIs w0 2 0 ⟨#[50, 51]⟩ ⟨#[115, 117, 98, 115, 116, 114]⟩ [(1, (-123), ⟨#[]⟩), (1, (-2), ⟨#[]⟩)]) (c7 : CallIs w0 2 0 ⟨#[65, 90, 91, 65, 123]⟩ ⟨#[117, 112, 112, 101, 114]⟩ [(2, 0, ⟨#[97, 122, 91, 97, 123]⟩)]) (hx17 : xs 17 = .pointer (some ⟨q17, 0, none⟩)) (hx19 : xs 19 = .pointer (some ⟨q19, 0, none⟩)) (hx21 : xs 21 = .pointer (some ⟨q21, 0, none⟩)) (hx18 : xs 18 = .int .i64 2) (hx20 : xs 20 = .int .i64 2) (hx22 : xs 22 = .int .i64 2) : OpStep Tryz.prog vn22Ops Q (vn22F q17 q19 q21) w0 245 xs 44 := by
  intro act w hb hk hF
  have g201 : act.eval (.tmp 201) = .bool true := hF 43 (of_decide_eq_true (by kernel_rfl)) 201 (by kernel_rfl)
  exact step_call (f := 13) (xs := #[.const (.int .i64 3)]) (by kernel_rfl) (.told 43 true 201 (by kernel_rfl) (by kernel_rfl) g201) (map1 rfl) (enters_of Tryz.func13 (by kernel_rfl) rfl) ((num_any 3 w).mono fun e w' h => ⟨_, h.1, rfl, h.2⟩)

theorem vn22_s45 {Q : Exit → Act → World → Prop} {w0 : World} {xs : Nat → Value} (q17 q19 q21 : Nat) (hb17 : BoxOn w0 q17 0 0 ⟨#[]⟩) (hb19 : BoxOn w0 q19 0 0 ⟨#[]⟩) (hb21 : BoxOn w0 q21 0 0 ⟨#[]⟩) (wd : WdOn w0) (cA : CoalIs w0) (c0 : CallIs w0 0 0 ⟨#[]⟩ ⟨#[105, 102, 110, 117, 108, 108]⟩ [(0, 0, ⟨#[]⟩), (0, 0, ⟨#[]⟩)]) (c1 : CallIs w0 2 0 ⟨#[105, 110, 116, 101, 103, 101, 114]⟩ ⟨#[116, 121, 112, 101, 111, 102]⟩ [(1, 1, ⟨#[]⟩)]) (c2 : CallIs w0 1 3 ⟨#[]⟩ ⟨#[105, 110, 115, 116, 114]⟩ [(2, 0, ⟨#[97, 98, 99, 97, 98]⟩), (2, 0, ⟨#[99, 97]⟩)]) (c3 : CallIs w0 1 1 ⟨#[]⟩ ⟨#[105, 110, 115, 116, 114]⟩ [(2, 0, ⟨#[97]⟩), (2, 0, ⟨#[]⟩)]) (c4 : CallIs w0 1 0 ⟨#[]⟩ ⟨#[105, 110, 115, 116, 114]⟩ [(2, 0, ⟨#[]⟩), (2, 0, ⟨#[97]⟩)]) (c5 : CallIs w0 3 0 ⟨#[0]⟩ ⟨#[115, 117, 98, 115, 116, 114]⟩ [(3, 0, ⟨#[1, 0]⟩), (1, 2, ⟨#[]⟩)]) (c6 : CallIs w0 2 0 ⟨#[50, 51]⟩ ⟨#[115, 117, 98, 115, 116, 114]⟩ [(1, (-123), ⟨#[]⟩), (1, (-2), ⟨#[]⟩)]) (c7 : CallIs w0 2 0 ⟨#[65, 90, 91, 65, 123]⟩ ⟨#[117, 112, 112, 101, 114]⟩ [(2, 0, ⟨#[97, 122, 91, 97, 123]⟩)]) (hx17 : xs 17 = .pointer (some ⟨q17, 0, none⟩)) (hx19 : xs 19 = .pointer (some ⟨q19, 0, none⟩)) (hx21 : xs 21 = .pointer (some ⟨q21, 0, none⟩)) (hx18 : xs 18 = .int .i64 2) (hx20 : xs 20 = .int .i64 2) (hx22 : xs 22 = .int .i64 2) : OpStep Tryz.prog vn22Ops Q (vn22F q17 q19 q21) w0 245 xs 45 := by
  intro act w hb hk hF
  have g201 : act.eval (.tmp 201) = .bool true := hF 43 (of_decide_eq_true (by kernel_rfl)) 201 (by kernel_rfl)
  exact step_call (f := 10) (xs := #[.const (.string ⟨#[97, 98, 99, 97, 98]⟩)]) (by kernel_rfl) (.told 43 true 201 (by kernel_rfl) (by kernel_rfl) g201) (map1 rfl) (enters_of Tryz.func10 (by kernel_rfl) rfl) ((text_any ⟨#[97, 98, 99, 97, 98]⟩ w).mono fun e w' h => ⟨_, h.1, rfl, h.2⟩)

theorem vn22_s46 {Q : Exit → Act → World → Prop} {w0 : World} {xs : Nat → Value} (q17 q19 q21 : Nat) (hb17 : BoxOn w0 q17 0 0 ⟨#[]⟩) (hb19 : BoxOn w0 q19 0 0 ⟨#[]⟩) (hb21 : BoxOn w0 q21 0 0 ⟨#[]⟩) (wd : WdOn w0) (cA : CoalIs w0) (c0 : CallIs w0 0 0 ⟨#[]⟩ ⟨#[105, 102, 110, 117, 108, 108]⟩ [(0, 0, ⟨#[]⟩), (0, 0, ⟨#[]⟩)]) (c1 : CallIs w0 2 0 ⟨#[105, 110, 116, 101, 103, 101, 114]⟩ ⟨#[116, 121, 112, 101, 111, 102]⟩ [(1, 1, ⟨#[]⟩)]) (c2 : CallIs w0 1 3 ⟨#[]⟩ ⟨#[105, 110, 115, 116, 114]⟩ [(2, 0, ⟨#[97, 98, 99, 97, 98]⟩), (2, 0, ⟨#[99, 97]⟩)]) (c3 : CallIs w0 1 1 ⟨#[]⟩ ⟨#[105, 110, 115, 116, 114]⟩ [(2, 0, ⟨#[97]⟩), (2, 0, ⟨#[]⟩)]) (c4 : CallIs w0 1 0 ⟨#[]⟩ ⟨#[105, 110, 115, 116, 114]⟩ [(2, 0, ⟨#[]⟩), (2, 0, ⟨#[97]⟩)]) (c5 : CallIs w0 3 0 ⟨#[0]⟩ ⟨#[115, 117, 98, 115, 116, 114]⟩ [(3, 0, ⟨#[1, 0]⟩), (1, 2, ⟨#[]⟩)]) (c6 : CallIs w0 2 0 ⟨#[50, 51]⟩ ⟨#[115, 117, 98, 115, 116, 114]⟩ [(1, (-123), ⟨#[]⟩), (1, (-2), ⟨#[]⟩)]) (c7 : CallIs w0 2 0 ⟨#[65, 90, 91, 65, 123]⟩ ⟨#[117, 112, 112, 101, 114]⟩ [(2, 0, ⟨#[97, 122, 91, 97, 123]⟩)]) (hx17 : xs 17 = .pointer (some ⟨q17, 0, none⟩)) (hx19 : xs 19 = .pointer (some ⟨q19, 0, none⟩)) (hx21 : xs 21 = .pointer (some ⟨q21, 0, none⟩)) (hx18 : xs 18 = .int .i64 2) (hx20 : xs 20 = .int .i64 2) (hx22 : xs 22 = .int .i64 2) : OpStep Tryz.prog vn22Ops Q (vn22F q17 q19 q21) w0 245 xs 46 := by
  intro act w hb hk hF
  have g201 : act.eval (.tmp 201) = .bool true := hF 43 (of_decide_eq_true (by kernel_rfl)) 201 (by kernel_rfl)
  exact step_call (f := 10) (xs := #[.const (.string ⟨#[99, 97]⟩)]) (by kernel_rfl) (.told 43 true 201 (by kernel_rfl) (by kernel_rfl) g201) (map1 rfl) (enters_of Tryz.func10 (by kernel_rfl) rfl) ((text_any ⟨#[99, 97]⟩ w).mono fun e w' h => ⟨_, h.1, rfl, h.2⟩)

theorem vn22_s47 {Q : Exit → Act → World → Prop} {w0 : World} {xs : Nat → Value} (q17 q19 q21 : Nat) (hb17 : BoxOn w0 q17 0 0 ⟨#[]⟩) (hb19 : BoxOn w0 q19 0 0 ⟨#[]⟩) (hb21 : BoxOn w0 q21 0 0 ⟨#[]⟩) (wd : WdOn w0) (cA : CoalIs w0) (c0 : CallIs w0 0 0 ⟨#[]⟩ ⟨#[105, 102, 110, 117, 108, 108]⟩ [(0, 0, ⟨#[]⟩), (0, 0, ⟨#[]⟩)]) (c1 : CallIs w0 2 0 ⟨#[105, 110, 116, 101, 103, 101, 114]⟩ ⟨#[116, 121, 112, 101, 111, 102]⟩ [(1, 1, ⟨#[]⟩)]) (c2 : CallIs w0 1 3 ⟨#[]⟩ ⟨#[105, 110, 115, 116, 114]⟩ [(2, 0, ⟨#[97, 98, 99, 97, 98]⟩), (2, 0, ⟨#[99, 97]⟩)]) (c3 : CallIs w0 1 1 ⟨#[]⟩ ⟨#[105, 110, 115, 116, 114]⟩ [(2, 0, ⟨#[97]⟩), (2, 0, ⟨#[]⟩)]) (c4 : CallIs w0 1 0 ⟨#[]⟩ ⟨#[105, 110, 115, 116, 114]⟩ [(2, 0, ⟨#[]⟩), (2, 0, ⟨#[97]⟩)]) (c5 : CallIs w0 3 0 ⟨#[0]⟩ ⟨#[115, 117, 98, 115, 116, 114]⟩ [(3, 0, ⟨#[1, 0]⟩), (1, 2, ⟨#[]⟩)]) (c6 : CallIs w0 2 0 ⟨#[50, 51]⟩ ⟨#[115, 117, 98, 115, 116, 114]⟩ [(1, (-123), ⟨#[]⟩), (1, (-2), ⟨#[]⟩)]) (c7 : CallIs w0 2 0 ⟨#[65, 90, 91, 65, 123]⟩ ⟨#[117, 112, 112, 101, 114]⟩ [(2, 0, ⟨#[97, 122, 91, 97, 123]⟩)]) (hx17 : xs 17 = .pointer (some ⟨q17, 0, none⟩)) (hx19 : xs 19 = .pointer (some ⟨q19, 0, none⟩)) (hx21 : xs 21 = .pointer (some ⟨q21, 0, none⟩)) (hx18 : xs 18 = .int .i64 2) (hx20 : xs 20 = .int .i64 2) (hx22 : xs 22 = .int .i64 2) : OpStep Tryz.prog vn22Ops Q (vn22F q17 q19 q21) w0 245 xs 47 := by
  intro act w hb hk hF
  have g201 : act.eval (.tmp 201) = .bool true := hF 43 (of_decide_eq_true (by kernel_rfl)) 201 (by kernel_rfl)
  have g203 : act.eval (.tmp 203) = vv 2 0 ⟨#[97, 98, 99, 97, 98]⟩ := hF 45 (of_decide_eq_true (by kernel_rfl)) 203 (by kernel_rfl)
  have g204 : act.eval (.tmp 204) = vv 2 0 ⟨#[99, 97]⟩ := hF 46 (of_decide_eq_true (by kernel_rfl)) 204 (by kernel_rfl)
  exact step_build2 (show opO vn22Ops 47 = some (.buildSlice 27 2 #[(0, .tmp 203), (1, .tmp 204)]) by kernel_rfl) (.told 43 true 201 (by kernel_rfl) (by kernel_rfl) g201) g203 g204 fun b hR hb' => ⟨⟨b, rfl, hR⟩, hb'⟩

theorem vn22_s48 {Q : Exit → Act → World → Prop} {w0 : World} {xs : Nat → Value} (q17 q19 q21 : Nat) (hb17 : BoxOn w0 q17 0 0 ⟨#[]⟩) (hb19 : BoxOn w0 q19 0 0 ⟨#[]⟩) (hb21 : BoxOn w0 q21 0 0 ⟨#[]⟩) (wd : WdOn w0) (cA : CoalIs w0) (c0 : CallIs w0 0 0 ⟨#[]⟩ ⟨#[105, 102, 110, 117, 108, 108]⟩ [(0, 0, ⟨#[]⟩), (0, 0, ⟨#[]⟩)]) (c1 : CallIs w0 2 0 ⟨#[105, 110, 116, 101, 103, 101, 114]⟩ ⟨#[116, 121, 112, 101, 111, 102]⟩ [(1, 1, ⟨#[]⟩)]) (c2 : CallIs w0 1 3 ⟨#[]⟩ ⟨#[105, 110, 115, 116, 114]⟩ [(2, 0, ⟨#[97, 98, 99, 97, 98]⟩), (2, 0, ⟨#[99, 97]⟩)]) (c3 : CallIs w0 1 1 ⟨#[]⟩ ⟨#[105, 110, 115, 116, 114]⟩ [(2, 0, ⟨#[97]⟩), (2, 0, ⟨#[]⟩)]) (c4 : CallIs w0 1 0 ⟨#[]⟩ ⟨#[105, 110, 115, 116, 114]⟩ [(2, 0, ⟨#[]⟩), (2, 0, ⟨#[97]⟩)]) (c5 : CallIs w0 3 0 ⟨#[0]⟩ ⟨#[115, 117, 98, 115, 116, 114]⟩ [(3, 0, ⟨#[1, 0]⟩), (1, 2, ⟨#[]⟩)]) (c6 : CallIs w0 2 0 ⟨#[50, 51]⟩ ⟨#[115, 117, 98, 115, 116, 114]⟩ [(1, (-123), ⟨#[]⟩), (1, (-2), ⟨#[]⟩)]) (c7 : CallIs w0 2 0 ⟨#[65, 90, 91, 65, 123]⟩ ⟨#[117, 112, 112, 101, 114]⟩ [(2, 0, ⟨#[97, 122, 91, 97, 123]⟩)]) (hx17 : xs 17 = .pointer (some ⟨q17, 0, none⟩)) (hx19 : xs 19 = .pointer (some ⟨q19, 0, none⟩)) (hx21 : xs 21 = .pointer (some ⟨q21, 0, none⟩)) (hx18 : xs 18 = .int .i64 2) (hx20 : xs 20 = .int .i64 2) (hx22 : xs 22 = .int .i64 2) : OpStep Tryz.prog vn22Ops Q (vn22F q17 q19 q21) w0 245 xs 48 := by
  intro act w hb hk hF
  have g201 : act.eval (.tmp 201) = .bool true := hF 43 (of_decide_eq_true (by kernel_rfl)) 201 (by kernel_rfl)
  have g202 : act.eval (.tmp 202) = vv 1 3 ⟨#[]⟩ := hF 44 (of_decide_eq_true (by kernel_rfl)) 202 (by kernel_rfl)
  obtain ⟨b205, g205, hR205⟩ := (show IsL [(2, 0, ⟨#[97, 98, 99, 97, 98]⟩), (2, 0, ⟨#[99, 97]⟩)] _ w from hF 47 (of_decide_eq_true (by kernel_rfl)) 205 (by kernel_rfl))
  exact step_call (f := 22) (xs := #[.tmp 202, .const (.string ⟨#[105, 110, 115, 116, 114]⟩), .tmp 205]) (by kernel_rfl) (.told 43 true 201 (by kernel_rfl) (by kernel_rfl) g201) (map3 g202 rfl g205) (enters_of Tryz.func22 (by kernel_rfl) rfl) ((c2 w b205 hb hR205).mono fun e w' h => ⟨_, h.1, rfl, h.2⟩)

theorem vn22_s49 {Q : Exit → Act → World → Prop} {w0 : World} {xs : Nat → Value} (q17 q19 q21 : Nat) (hb17 : BoxOn w0 q17 0 0 ⟨#[]⟩) (hb19 : BoxOn w0 q19 0 0 ⟨#[]⟩) (hb21 : BoxOn w0 q21 0 0 ⟨#[]⟩) (wd : WdOn w0) (cA : CoalIs w0) (c0 : CallIs w0 0 0 ⟨#[]⟩ ⟨#[105, 102, 110, 117, 108, 108]⟩ [(0, 0, ⟨#[]⟩), (0, 0, ⟨#[]⟩)]) (c1 : CallIs w0 2 0 ⟨#[105, 110, 116, 101, 103, 101, 114]⟩ ⟨#[116, 121, 112, 101, 111, 102]⟩ [(1, 1, ⟨#[]⟩)]) (c2 : CallIs w0 1 3 ⟨#[]⟩ ⟨#[105, 110, 115, 116, 114]⟩ [(2, 0, ⟨#[97, 98, 99, 97, 98]⟩), (2, 0, ⟨#[99, 97]⟩)]) (c3 : CallIs w0 1 1 ⟨#[]⟩ ⟨#[105, 110, 115, 116, 114]⟩ [(2, 0, ⟨#[97]⟩), (2, 0, ⟨#[]⟩)]) (c4 : CallIs w0 1 0 ⟨#[]⟩ ⟨#[105, 110, 115, 116, 114]⟩ [(2, 0, ⟨#[]⟩), (2, 0, ⟨#[97]⟩)]) (c5 : CallIs w0 3 0 ⟨#[0]⟩ ⟨#[115, 117, 98, 115, 116, 114]⟩ [(3, 0, ⟨#[1, 0]⟩), (1, 2, ⟨#[]⟩)]) (c6 : CallIs w0 2 0 ⟨#[50, 51]⟩ ⟨#[115, 117, 98, 115, 116, 114]⟩ [(1, (-123), ⟨#[]⟩), (1, (-2), ⟨#[]⟩)]) (c7 : CallIs w0 2 0 ⟨#[65, 90, 91, 65, 123]⟩ ⟨#[117, 112, 112, 101, 114]⟩ [(2, 0, ⟨#[97, 122, 91, 97, 123]⟩)]) (hx17 : xs 17 = .pointer (some ⟨q17, 0, none⟩)) (hx19 : xs 19 = .pointer (some ⟨q19, 0, none⟩)) (hx21 : xs 21 = .pointer (some ⟨q21, 0, none⟩)) (hx18 : xs 18 = .int .i64 2) (hx20 : xs 20 = .int .i64 2) (hx22 : xs 22 = .int .i64 2) : OpStep Tryz.prog vn22Ops Q (vn22F q17 q19 q21) w0 245 xs 49 := by
  intro act w hb hk hF
  have g201 : act.eval (.tmp 201) = .bool true := hF 43 (of_decide_eq_true (by kernel_rfl)) 201 (by kernel_rfl)
  have g206 : act.eval (.tmp 206) = .bool true := hF 48 (of_decide_eq_true (by kernel_rfl)) 206 (by kernel_rfl)
  exact step_pickT (show opO vn22Ops 49 = some (.pick (.tmp 201) (.tmp 206) (.const (.bool false))) by kernel_rfl) (.free (by kernel_rfl)) g201 g206 ⟨rfl, Below.refl _ _⟩

theorem vn22_s50 {Q : Exit → Act → World → Prop} {w0 : World} {xs : Nat → Value} (q17 q19 q21 : Nat) (hb17 : BoxOn w0 q17 0 0 ⟨#[]⟩) (hb19 : BoxOn w0 q19 0 0 ⟨#[]⟩) (hb21 : BoxOn w0 q21 0 0 ⟨#[]⟩) (wd : WdOn w0) (cA : CoalIs w0) (c0 : CallIs w0 0 0 ⟨#[]⟩ ⟨#[105, 102, 110, 117, 108, 108]⟩ [(0, 0, ⟨#[]⟩), (0, 0, ⟨#[]⟩)]) (c1 : CallIs w0 2 0 ⟨#[105, 110, 116, 101, 103, 101, 114]⟩ ⟨#[116, 121, 112, 101, 111, 102]⟩ [(1, 1, ⟨#[]⟩)]) (c2 : CallIs w0 1 3 ⟨#[]⟩ ⟨#[105, 110, 115, 116, 114]⟩ [(2, 0, ⟨#[97, 98, 99, 97, 98]⟩), (2, 0, ⟨#[99, 97]⟩)]) (c3 : CallIs w0 1 1 ⟨#[]⟩ ⟨#[105, 110, 115, 116, 114]⟩ [(2, 0, ⟨#[97]⟩), (2, 0, ⟨#[]⟩)]) (c4 : CallIs w0 1 0 ⟨#[]⟩ ⟨#[105, 110, 115, 116, 114]⟩ [(2, 0, ⟨#[]⟩), (2, 0, ⟨#[97]⟩)]) (c5 : CallIs w0 3 0 ⟨#[0]⟩ ⟨#[115, 117, 98, 115, 116, 114]⟩ [(3, 0, ⟨#[1, 0]⟩), (1, 2, ⟨#[]⟩)]) (c6 : CallIs w0 2 0 ⟨#[50, 51]⟩ ⟨#[115, 117, 98, 115, 116, 114]⟩ [(1, (-123), ⟨#[]⟩), (1, (-2), ⟨#[]⟩)]) (c7 : CallIs w0 2 0 ⟨#[65, 90, 91, 65, 123]⟩ ⟨#[117, 112, 112, 101, 114]⟩ [(2, 0, ⟨#[97, 122, 91, 97, 123]⟩)]) (hx17 : xs 17 = .pointer (some ⟨q17, 0, none⟩)) (hx19 : xs 19 = .pointer (some ⟨q19, 0, none⟩)) (hx21 : xs 21 = .pointer (some ⟨q21, 0, none⟩)) (hx18 : xs 18 = .int .i64 2) (hx20 : xs 20 = .int .i64 2) (hx22 : xs 22 = .int .i64 2) : OpStep Tryz.prog vn22Ops Q (vn22F q17 q19 q21) w0 245 xs 50 := by
  intro act w hb hk hF
  have g207 : act.eval (.tmp 207) = .bool true := hF 49 (of_decide_eq_true (by kernel_rfl)) 207 (by kernel_rfl)
  exact step_move (show opO vn22Ops 50 = some (.move (.tmp 207)) by kernel_rfl) (.free (by kernel_rfl)) g207 ⟨rfl, Below.refl _ _⟩

theorem vn22_s51 {Q : Exit → Act → World → Prop} {w0 : World} {xs : Nat → Value} (q17 q19 q21 : Nat) (hb17 : BoxOn w0 q17 0 0 ⟨#[]⟩) (hb19 : BoxOn w0 q19 0 0 ⟨#[]⟩) (hb21 : BoxOn w0 q21 0 0 ⟨#[]⟩) (wd : WdOn w0) (cA : CoalIs w0) (c0 : CallIs w0 0 0 ⟨#[]⟩ ⟨#[105, 102, 110, 117, 108, 108]⟩ [(0, 0, ⟨#[]⟩), (0, 0, ⟨#[]⟩)]) (c1 : CallIs w0 2 0 ⟨#[105, 110, 116, 101, 103, 101, 114]⟩ ⟨#[116, 121, 112, 101, 111, 102]⟩ [(1, 1, ⟨#[]⟩)]) (c2 : CallIs w0 1 3 ⟨#[]⟩ ⟨#[105, 110, 115, 116, 114]⟩ [(2, 0, ⟨#[97, 98, 99, 97, 98]⟩), (2, 0, ⟨#[99, 97]⟩)]) (c3 : CallIs w0 1 1 ⟨#[]⟩ ⟨#[105, 110, 115, 116, 114]⟩ [(2, 0, ⟨#[97]⟩), (2, 0, ⟨#[]⟩)]) (c4 : CallIs w0 1 0 ⟨#[]⟩ ⟨#[105, 110, 115, 116, 114]⟩ [(2, 0, ⟨#[]⟩), (2, 0, ⟨#[97]⟩)]) (c5 : CallIs w0 3 0 ⟨#[0]⟩ ⟨#[115, 117, 98, 115, 116, 114]⟩ [(3, 0, ⟨#[1, 0]⟩), (1, 2, ⟨#[]⟩)]) (c6 : CallIs w0 2 0 ⟨#[50, 51]⟩ ⟨#[115, 117, 98, 115, 116, 114]⟩ [(1, (-123), ⟨#[]⟩), (1, (-2), ⟨#[]⟩)]) (c7 : CallIs w0 2 0 ⟨#[65, 90, 91, 65, 123]⟩ ⟨#[117, 112, 112, 101, 114]⟩ [(2, 0, ⟨#[97, 122, 91, 97, 123]⟩)]) (hx17 : xs 17 = .pointer (some ⟨q17, 0, none⟩)) (hx19 : xs 19 = .pointer (some ⟨q19, 0, none⟩)) (hx21 : xs 21 = .pointer (some ⟨q21, 0, none⟩)) (hx18 : xs 18 = .int .i64 2) (hx20 : xs 20 = .int .i64 2) (hx22 : xs 22 = .int .i64 2) : OpStep Tryz.prog vn22Ops Q (vn22F q17 q19 q21) w0 245 xs 51 := by
  intro act w hb hk hF
  have g208 : act.eval (.tmp 208) = .bool true := hF 50 (of_decide_eq_true (by kernel_rfl)) 208 (by kernel_rfl)
  exact step_call (f := 13) (xs := #[.const (.int .i64 1)]) (by kernel_rfl) (.told 50 true 208 (by kernel_rfl) (by kernel_rfl) g208) (map1 rfl) (enters_of Tryz.func13 (by kernel_rfl) rfl) ((num_any 1 w).mono fun e w' h => ⟨_, h.1, rfl, h.2⟩)

theorem vn22_s52 {Q : Exit → Act → World → Prop} {w0 : World} {xs : Nat → Value} (q17 q19 q21 : Nat) (hb17 : BoxOn w0 q17 0 0 ⟨#[]⟩) (hb19 : BoxOn w0 q19 0 0 ⟨#[]⟩) (hb21 : BoxOn w0 q21 0 0 ⟨#[]⟩) (wd : WdOn w0) (cA : CoalIs w0) (c0 : CallIs w0 0 0 ⟨#[]⟩ ⟨#[105, 102, 110, 117, 108, 108]⟩ [(0, 0, ⟨#[]⟩), (0, 0, ⟨#[]⟩)]) (c1 : CallIs w0 2 0 ⟨#[105, 110, 116, 101, 103, 101, 114]⟩ ⟨#[116, 121, 112, 101, 111, 102]⟩ [(1, 1, ⟨#[]⟩)]) (c2 : CallIs w0 1 3 ⟨#[]⟩ ⟨#[105, 110, 115, 116, 114]⟩ [(2, 0, ⟨#[97, 98, 99, 97, 98]⟩), (2, 0, ⟨#[99, 97]⟩)]) (c3 : CallIs w0 1 1 ⟨#[]⟩ ⟨#[105, 110, 115, 116, 114]⟩ [(2, 0, ⟨#[97]⟩), (2, 0, ⟨#[]⟩)]) (c4 : CallIs w0 1 0 ⟨#[]⟩ ⟨#[105, 110, 115, 116, 114]⟩ [(2, 0, ⟨#[]⟩), (2, 0, ⟨#[97]⟩)]) (c5 : CallIs w0 3 0 ⟨#[0]⟩ ⟨#[115, 117, 98, 115, 116, 114]⟩ [(3, 0, ⟨#[1, 0]⟩), (1, 2, ⟨#[]⟩)]) (c6 : CallIs w0 2 0 ⟨#[50, 51]⟩ ⟨#[115, 117, 98, 115, 116, 114]⟩ [(1, (-123), ⟨#[]⟩), (1, (-2), ⟨#[]⟩)]) (c7 : CallIs w0 2 0 ⟨#[65, 90, 91, 65, 123]⟩ ⟨#[117, 112, 112, 101, 114]⟩ [(2, 0, ⟨#[97, 122, 91, 97, 123]⟩)]) (hx17 : xs 17 = .pointer (some ⟨q17, 0, none⟩)) (hx19 : xs 19 = .pointer (some ⟨q19, 0, none⟩)) (hx21 : xs 21 = .pointer (some ⟨q21, 0, none⟩)) (hx18 : xs 18 = .int .i64 2) (hx20 : xs 20 = .int .i64 2) (hx22 : xs 22 = .int .i64 2) : OpStep Tryz.prog vn22Ops Q (vn22F q17 q19 q21) w0 245 xs 52 := by
  intro act w hb hk hF
  have g208 : act.eval (.tmp 208) = .bool true := hF 50 (of_decide_eq_true (by kernel_rfl)) 208 (by kernel_rfl)
  exact step_call (f := 10) (xs := #[.const (.string ⟨#[97]⟩)]) (by kernel_rfl) (.told 50 true 208 (by kernel_rfl) (by kernel_rfl) g208) (map1 rfl) (enters_of Tryz.func10 (by kernel_rfl) rfl) ((text_any ⟨#[97]⟩ w).mono fun e w' h => ⟨_, h.1, rfl, h.2⟩)

theorem vn22_s53 {Q : Exit → Act → World → Prop} {w0 : World} {xs : Nat → Value} (q17 q19 q21 : Nat) (hb17 : BoxOn w0 q17 0 0 ⟨#[]⟩) (hb19 : BoxOn w0 q19 0 0 ⟨#[]⟩) (hb21 : BoxOn w0 q21 0 0 ⟨#[]⟩) (wd : WdOn w0) (cA : CoalIs w0) (c0 : CallIs w0 0 0 ⟨#[]⟩ ⟨#[105, 102, 110, 117, 108, 108]⟩ [(0, 0, ⟨#[]⟩), (0, 0, ⟨#[]⟩)]) (c1 : CallIs w0 2 0 ⟨#[105, 110, 116, 101, 103, 101, 114]⟩ ⟨#[116, 121, 112, 101, 111, 102]⟩ [(1, 1, ⟨#[]⟩)]) (c2 : CallIs w0 1 3 ⟨#[]⟩ ⟨#[105, 110, 115, 116, 114]⟩ [(2, 0, ⟨#[97, 98, 99, 97, 98]⟩), (2, 0, ⟨#[99, 97]⟩)]) (c3 : CallIs w0 1 1 ⟨#[]⟩ ⟨#[105, 110, 115, 116, 114]⟩ [(2, 0, ⟨#[97]⟩), (2, 0, ⟨#[]⟩)]) (c4 : CallIs w0 1 0 ⟨#[]⟩ ⟨#[105, 110, 115, 116, 114]⟩ [(2, 0, ⟨#[]⟩), (2, 0, ⟨#[97]⟩)]) (c5 : CallIs w0 3 0 ⟨#[0]⟩ ⟨#[115, 117, 98, 115, 116, 114]⟩ [(3, 0, ⟨#[1, 0]⟩), (1, 2, ⟨#[]⟩)]) (c6 : CallIs w0 2 0 ⟨#[50, 51]⟩ ⟨#[115, 117, 98, 115, 116, 114]⟩ [(1, (-123), ⟨#[]⟩), (1, (-2), ⟨#[]⟩)]) (c7 : CallIs w0 2 0 ⟨#[65, 90, 91, 65, 123]⟩ ⟨#[117, 112, 112, 101, 114]⟩ [(2, 0, ⟨#[97, 122, 91, 97, 123]⟩)]) (hx17 : xs 17 = .pointer (some ⟨q17, 0, none⟩)) (hx19 : xs 19 = .pointer (some ⟨q19, 0, none⟩)) (hx21 : xs 21 = .pointer (some ⟨q21, 0, none⟩)) (hx18 : xs 18 = .int .i64 2) (hx20 : xs 20 = .int .i64 2) (hx22 : xs 22 = .int .i64 2) : OpStep Tryz.prog vn22Ops Q (vn22F q17 q19 q21) w0 245 xs 53 := by
  intro act w hb hk hF
  have g208 : act.eval (.tmp 208) = .bool true := hF 50 (of_decide_eq_true (by kernel_rfl)) 208 (by kernel_rfl)
  exact step_call (f := 10) (xs := #[.const (.string ⟨#[]⟩)]) (by kernel_rfl) (.told 50 true 208 (by kernel_rfl) (by kernel_rfl) g208) (map1 rfl) (enters_of Tryz.func10 (by kernel_rfl) rfl) ((text_any ⟨#[]⟩ w).mono fun e w' h => ⟨_, h.1, rfl, h.2⟩)

theorem vn22_s54 {Q : Exit → Act → World → Prop} {w0 : World} {xs : Nat → Value} (q17 q19 q21 : Nat) (hb17 : BoxOn w0 q17 0 0 ⟨#[]⟩) (hb19 : BoxOn w0 q19 0 0 ⟨#[]⟩) (hb21 : BoxOn w0 q21 0 0 ⟨#[]⟩) (wd : WdOn w0) (cA : CoalIs w0) (c0 : CallIs w0 0 0 ⟨#[]⟩ ⟨#[105, 102, 110, 117, 108, 108]⟩ [(0, 0, ⟨#[]⟩), (0, 0, ⟨#[]⟩)]) (c1 : CallIs w0 2 0 ⟨#[105, 110, 116, 101, 103, 101, 114]⟩ ⟨#[116, 121, 112, 101, 111, 102]⟩ [(1, 1, ⟨#[]⟩)]) (c2 : CallIs w0 1 3 ⟨#[]⟩ ⟨#[105, 110, 115, 116, 114]⟩ [(2, 0, ⟨#[97, 98, 99, 97, 98]⟩), (2, 0, ⟨#[99, 97]⟩)]) (c3 : CallIs w0 1 1 ⟨#[]⟩ ⟨#[105, 110, 115, 116, 114]⟩ [(2, 0, ⟨#[97]⟩), (2, 0, ⟨#[]⟩)]) (c4 : CallIs w0 1 0 ⟨#[]⟩ ⟨#[105, 110, 115, 116, 114]⟩ [(2, 0, ⟨#[]⟩), (2, 0, ⟨#[97]⟩)]) (c5 : CallIs w0 3 0 ⟨#[0]⟩ ⟨#[115, 117, 98, 115, 116, 114]⟩ [(3, 0, ⟨#[1, 0]⟩), (1, 2, ⟨#[]⟩)]) (c6 : CallIs w0 2 0 ⟨#[50, 51]⟩ ⟨#[115, 117, 98, 115, 116, 114]⟩ [(1, (-123), ⟨#[]⟩), (1, (-2), ⟨#[]⟩)]) (c7 : CallIs w0 2 0 ⟨#[65, 90, 91, 65, 123]⟩ ⟨#[117, 112, 112, 101, 114]⟩ [(2, 0, ⟨#[97, 122, 91, 97, 123]⟩)]) (hx17 : xs 17 = .pointer (some ⟨q17, 0, none⟩)) (hx19 : xs 19 = .pointer (some ⟨q19, 0, none⟩)) (hx21 : xs 21 = .pointer (some ⟨q21, 0, none⟩)) (hx18 : xs 18 = .int .i64 2) (hx20 : xs 20 = .int .i64 2) (hx22 : xs 22 = .int .i64 2) : OpStep Tryz.prog vn22Ops Q (vn22F q17 q19 q21) w0 245 xs 54 := by
  intro act w hb hk hF
  have g208 : act.eval (.tmp 208) = .bool true := hF 50 (of_decide_eq_true (by kernel_rfl)) 208 (by kernel_rfl)
  have g210 : act.eval (.tmp 210) = vv 2 0 ⟨#[97]⟩ := hF 52 (of_decide_eq_true (by kernel_rfl)) 210 (by kernel_rfl)
  have g211 : act.eval (.tmp 211) = vv 2 0 ⟨#[]⟩ := hF 53 (of_decide_eq_true (by kernel_rfl)) 211 (by kernel_rfl)
  exact step_build2 (show opO vn22Ops 54 = some (.buildSlice 27 2 #[(0, .tmp 210), (1, .tmp 211)]) by kernel_rfl) (.told 50 true 208 (by kernel_rfl) (by kernel_rfl) g208) g210 g211 fun b hR hb' => ⟨⟨b, rfl, hR⟩, hb'⟩

theorem vn22_s55 {Q : Exit → Act → World → Prop} {w0 : World} {xs : Nat → Value} (q17 q19 q21 : Nat) (hb17 : BoxOn w0 q17 0 0 ⟨#[]⟩) (hb19 : BoxOn w0 q19 0 0 ⟨#[]⟩) (hb21 : BoxOn w0 q21 0 0 ⟨#[]⟩) (wd : WdOn w0) (cA : CoalIs w0) (c0 : CallIs w0 0 0 ⟨#[]⟩ ⟨#[105, 102, 110, 117, 108, 108]⟩ [(0, 0, ⟨#[]⟩), (0, 0, ⟨#[]⟩)]) (c1 : CallIs w0 2 0 ⟨#[105, 110, 116, 101, 103, 101, 114]⟩ ⟨#[116, 121, 112, 101, 111, 102]⟩ [(1, 1, ⟨#[]⟩)]) (c2 : CallIs w0 1 3 ⟨#[]⟩ ⟨#[105, 110, 115, 116, 114]⟩ [(2, 0, ⟨#[97, 98, 99, 97, 98]⟩), (2, 0, ⟨#[99, 97]⟩)]) (c3 : CallIs w0 1 1 ⟨#[]⟩ ⟨#[105, 110, 115, 116, 114]⟩ [(2, 0, ⟨#[97]⟩), (2, 0, ⟨#[]⟩)]) (c4 : CallIs w0 1 0 ⟨#[]⟩ ⟨#[105, 110, 115, 116, 114]⟩ [(2, 0, ⟨#[]⟩), (2, 0, ⟨#[97]⟩)]) (c5 : CallIs w0 3 0 ⟨#[0]⟩ ⟨#[115, 117, 98, 115, 116, 114]⟩ [(3, 0, ⟨#[1, 0]⟩), (1, 2, ⟨#[]⟩)]) (c6 : CallIs w0 2 0 ⟨#[50, 51]⟩ ⟨#[115, 117, 98, 115, 116, 114]⟩ [(1, (-123), ⟨#[]⟩), (1, (-2), ⟨#[]⟩)]) (c7 : CallIs w0 2 0 ⟨#[65, 90, 91, 65, 123]⟩ ⟨#[117, 112, 112, 101, 114]⟩ [(2, 0, ⟨#[97, 122, 91, 97, 123]⟩)]) (hx17 : xs 17 = .pointer (some ⟨q17, 0, none⟩)) (hx19 : xs 19 = .pointer (some ⟨q19, 0, none⟩)) (hx21 : xs 21 = .pointer (some ⟨q21, 0, none⟩)) (hx18 : xs 18 = .int .i64 2) (hx20 : xs 20 = .int .i64 2) (hx22 : xs 22 = .int .i64 2) : OpStep Tryz.prog vn22Ops Q (vn22F q17 q19 q21) w0 245 xs 55 := by
  intro act w hb hk hF
  have g208 : act.eval (.tmp 208) = .bool true := hF 50 (of_decide_eq_true (by kernel_rfl)) 208 (by kernel_rfl)
  have g209 : act.eval (.tmp 209) = vv 1 1 ⟨#[]⟩ := hF 51 (of_decide_eq_true (by kernel_rfl)) 209 (by kernel_rfl)
  obtain ⟨b212, g212, hR212⟩ := (show IsL [(2, 0, ⟨#[97]⟩), (2, 0, ⟨#[]⟩)] _ w from hF 54 (of_decide_eq_true (by kernel_rfl)) 212 (by kernel_rfl))
  exact step_call (f := 22) (xs := #[.tmp 209, .const (.string ⟨#[105, 110, 115, 116, 114]⟩), .tmp 212]) (by kernel_rfl) (.told 50 true 208 (by kernel_rfl) (by kernel_rfl) g208) (map3 g209 rfl g212) (enters_of Tryz.func22 (by kernel_rfl) rfl) ((c3 w b212 hb hR212).mono fun e w' h => ⟨_, h.1, rfl, h.2⟩)

theorem vn22_s56 {Q : Exit → Act → World → Prop} {w0 : World} {xs : Nat → Value} (q17 q19 q21 : Nat) (hb17 : BoxOn w0 q17 0 0 ⟨#[]⟩) (hb19 : BoxOn w0 q19 0 0 ⟨#[]⟩) (hb21 : BoxOn w0 q21 0 0 ⟨#[]⟩) (wd : WdOn w0) (cA : CoalIs w0) (c0 : CallIs w0 0 0 ⟨#[]⟩ ⟨#[105, 102, 110, 117, 108, 108]⟩ [(0, 0, ⟨#[]⟩), (0, 0, ⟨#[]⟩)]) (c1 : CallIs w0 2 0 ⟨#[105, 110, 116, 101, 103, 101, 114]⟩ ⟨#[116, 121, 112, 101, 111, 102]⟩ [(1, 1, ⟨#[]⟩)]) (c2 : CallIs w0 1 3 ⟨#[]⟩ ⟨#[105, 110, 115, 116, 114]⟩ [(2, 0, ⟨#[97, 98, 99, 97, 98]⟩), (2, 0, ⟨#[99, 97]⟩)]) (c3 : CallIs w0 1 1 ⟨#[]⟩ ⟨#[105, 110, 115, 116, 114]⟩ [(2, 0, ⟨#[97]⟩), (2, 0, ⟨#[]⟩)]) (c4 : CallIs w0 1 0 ⟨#[]⟩ ⟨#[105, 110, 115, 116, 114]⟩ [(2, 0, ⟨#[]⟩), (2, 0, ⟨#[97]⟩)]) (c5 : CallIs w0 3 0 ⟨#[0]⟩ ⟨#[115, 117, 98, 115, 116, 114]⟩ [(3, 0, ⟨#[1, 0]⟩), (1, 2, ⟨#[]⟩)]) (c6 : CallIs w0 2 0 ⟨#[50, 51]⟩ ⟨#[115, 117, 98, 115, 116, 114]⟩ [(1, (-123), ⟨#[]⟩), (1, (-2), ⟨#[]⟩)]) (c7 : CallIs w0 2 0 ⟨#[65, 90, 91, 65, 123]⟩ ⟨#[117, 112, 112, 101, 114]⟩ [(2, 0, ⟨#[97, 122, 91, 97, 123]⟩)]) (hx17 : xs 17 = .pointer (some ⟨q17, 0, none⟩)) (hx19 : xs 19 = .pointer (some ⟨q19, 0, none⟩)) (hx21 : xs 21 = .pointer (some ⟨q21, 0, none⟩)) (hx18 : xs 18 = .int .i64 2) (hx20 : xs 20 = .int .i64 2) (hx22 : xs 22 = .int .i64 2) : OpStep Tryz.prog vn22Ops Q (vn22F q17 q19 q21) w0 245 xs 56 := by
  intro act w hb hk hF
  have g208 : act.eval (.tmp 208) = .bool true := hF 50 (of_decide_eq_true (by kernel_rfl)) 208 (by kernel_rfl)
  have g213 : act.eval (.tmp 213) = .bool true := hF 55 (of_decide_eq_true (by kernel_rfl)) 213 (by kernel_rfl)
  exact step_pickT (show opO vn22Ops 56 = some (.pick (.tmp 208) (.tmp 213) (.const (.bool false))) by kernel_rfl) (.free (by kernel_rfl)) g208 g213 ⟨rfl, Below.refl _ _⟩

theorem vn22_s57 {Q : Exit → Act → World → Prop} {w0 : World} {xs : Nat → Value} (q17 q19 q21 : Nat) (hb17 : BoxOn w0 q17 0 0 ⟨#[]⟩) (hb19 : BoxOn w0 q19 0 0 ⟨#[]⟩) (hb21 : BoxOn w0 q21 0 0 ⟨#[]⟩) (wd : WdOn w0) (cA : CoalIs w0) (c0 : CallIs w0 0 0 ⟨#[]⟩ ⟨#[105, 102, 110, 117, 108, 108]⟩ [(0, 0, ⟨#[]⟩), (0, 0, ⟨#[]⟩)]) (c1 : CallIs w0 2 0 ⟨#[105, 110, 116, 101, 103, 101, 114]⟩ ⟨#[116, 121, 112, 101, 111, 102]⟩ [(1, 1, ⟨#[]⟩)]) (c2 : CallIs w0 1 3 ⟨#[]⟩ ⟨#[105, 110, 115, 116, 114]⟩ [(2, 0, ⟨#[97, 98, 99, 97, 98]⟩), (2, 0, ⟨#[99, 97]⟩)]) (c3 : CallIs w0 1 1 ⟨#[]⟩ ⟨#[105, 110, 115, 116, 114]⟩ [(2, 0, ⟨#[97]⟩), (2, 0, ⟨#[]⟩)]) (c4 : CallIs w0 1 0 ⟨#[]⟩ ⟨#[105, 110, 115, 116, 114]⟩ [(2, 0, ⟨#[]⟩), (2, 0, ⟨#[97]⟩)]) (c5 : CallIs w0 3 0 ⟨#[0]⟩ ⟨#[115, 117, 98, 115, 116, 114]⟩ [(3, 0, ⟨#[1, 0]⟩), (1, 2, ⟨#[]⟩)]) (c6 : CallIs w0 2 0 ⟨#[50, 51]⟩ ⟨#[115, 117, 98, 115, 116, 114]⟩ [(1, (-123), ⟨#[]⟩), (1, (-2), ⟨#[]⟩)]) (c7 : CallIs w0 2 0 ⟨#[65, 90, 91, 65, 123]⟩ ⟨#[117, 112, 112, 101, 114]⟩ [(2, 0, ⟨#[97, 122, 91, 97, 123]⟩)]) (hx17 : xs 17 = .pointer (some ⟨q17, 0, none⟩)) (hx19 : xs 19 = .pointer (some ⟨q19, 0, none⟩)) (hx21 : xs 21 = .pointer (some ⟨q21, 0, none⟩)) (hx18 : xs 18 = .int .i64 2) (hx20 : xs 20 = .int .i64 2) (hx22 : xs 22 = .int .i64 2) : OpStep Tryz.prog vn22Ops Q (vn22F q17 q19 q21) w0 245 xs 57 := by
  intro act w hb hk hF
  have g214 : act.eval (.tmp 214) = .bool true := hF 56 (of_decide_eq_true (by kernel_rfl)) 214 (by kernel_rfl)
  exact step_move (show opO vn22Ops 57 = some (.move (.tmp 214)) by kernel_rfl) (.free (by kernel_rfl)) g214 ⟨rfl, Below.refl _ _⟩

theorem vn22_s58 {Q : Exit → Act → World → Prop} {w0 : World} {xs : Nat → Value} (q17 q19 q21 : Nat) (hb17 : BoxOn w0 q17 0 0 ⟨#[]⟩) (hb19 : BoxOn w0 q19 0 0 ⟨#[]⟩) (hb21 : BoxOn w0 q21 0 0 ⟨#[]⟩) (wd : WdOn w0) (cA : CoalIs w0) (c0 : CallIs w0 0 0 ⟨#[]⟩ ⟨#[105, 102, 110, 117, 108, 108]⟩ [(0, 0, ⟨#[]⟩), (0, 0, ⟨#[]⟩)]) (c1 : CallIs w0 2 0 ⟨#[105, 110, 116, 101, 103, 101, 114]⟩ ⟨#[116, 121, 112, 101, 111, 102]⟩ [(1, 1, ⟨#[]⟩)]) (c2 : CallIs w0 1 3 ⟨#[]⟩ ⟨#[105, 110, 115, 116, 114]⟩ [(2, 0, ⟨#[97, 98, 99, 97, 98]⟩), (2, 0, ⟨#[99, 97]⟩)]) (c3 : CallIs w0 1 1 ⟨#[]⟩ ⟨#[105, 110, 115, 116, 114]⟩ [(2, 0, ⟨#[97]⟩), (2, 0, ⟨#[]⟩)]) (c4 : CallIs w0 1 0 ⟨#[]⟩ ⟨#[105, 110, 115, 116, 114]⟩ [(2, 0, ⟨#[]⟩), (2, 0, ⟨#[97]⟩)]) (c5 : CallIs w0 3 0 ⟨#[0]⟩ ⟨#[115, 117, 98, 115, 116, 114]⟩ [(3, 0, ⟨#[1, 0]⟩), (1, 2, ⟨#[]⟩)]) (c6 : CallIs w0 2 0 ⟨#[50, 51]⟩ ⟨#[115, 117, 98, 115, 116, 114]⟩ [(1, (-123), ⟨#[]⟩), (1, (-2), ⟨#[]⟩)]) (c7 : CallIs w0 2 0 ⟨#[65, 90, 91, 65, 123]⟩ ⟨#[117, 112, 112, 101, 114]⟩ [(2, 0, ⟨#[97, 122, 91, 97, 123]⟩)]) (hx17 : xs 17 = .pointer (some ⟨q17, 0, none⟩)) (hx19 : xs 19 = .pointer (some ⟨q19, 0, none⟩)) (hx21 : xs 21 = .pointer (some ⟨q21, 0, none⟩)) (hx18 : xs 18 = .int .i64 2) (hx20 : xs 20 = .int .i64 2) (hx22 : xs 22 = .int .i64 2) : OpStep Tryz.prog vn22Ops Q (vn22F q17 q19 q21) w0 245 xs 58 := by
  intro act w hb hk hF
  have g215 : act.eval (.tmp 215) = .bool true := hF 57 (of_decide_eq_true (by kernel_rfl)) 215 (by kernel_rfl)
  exact step_call (f := 13) (xs := #[.const (.int .i64 0)]) (by kernel_rfl) (.told 57 true 215 (by kernel_rfl) (by kernel_rfl) g215) (map1 rfl) (enters_of Tryz.func13 (by kernel_rfl) rfl) ((num_any 0 w).mono fun e w' h => ⟨_, h.1, rfl, h.2⟩)

theorem vn22_s59 {Q : Exit → Act → World → Prop} {w0 : World} {xs : Nat → Value} (q17 q19 q21 : Nat) (hb17 : BoxOn w0 q17 0 0 ⟨#[]⟩) (hb19 : BoxOn w0 q19 0 0 ⟨#[]⟩) (hb21 : BoxOn w0 q21 0 0 ⟨#[]⟩) (wd : WdOn w0) (cA : CoalIs w0) (c0 : CallIs w0 0 0 ⟨#[]⟩ ⟨#[105, 102, 110, 117, 108, 108]⟩ [(0, 0, ⟨#[]⟩), (0, 0, ⟨#[]⟩)]) (c1 : CallIs w0 2 0 ⟨#[105, 110, 116, 101, 103, 101, 114]⟩ ⟨#[116, 121, 112, 101, 111, 102]⟩ [(1, 1, ⟨#[]⟩)]) (c2 : CallIs w0 1 3 ⟨#[]⟩ ⟨#[105, 110, 115, 116, 114]⟩ [(2, 0, ⟨#[97, 98, 99, 97, 98]⟩), (2, 0, ⟨#[99, 97]⟩)]) (c3 : CallIs w0 1 1 ⟨#[]⟩ ⟨#[105, 110, 115, 116, 114]⟩ [(2, 0, ⟨#[97]⟩), (2, 0, ⟨#[]⟩)]) (c4 : CallIs w0 1 0 ⟨#[]⟩ ⟨#[105, 110, 115, 116, 114]⟩ [(2, 0, ⟨#[]⟩), (2, 0, ⟨#[97]⟩)]) (c5 : CallIs w0 3 0 ⟨#[0]⟩ ⟨#[115, 117, 98, 115, 116, 114]⟩ [(3, 0, ⟨#[1, 0]⟩), (1, 2, ⟨#[]⟩)]) (c6 : CallIs w0 2 0 ⟨#[50, 51]⟩ ⟨#[115, 117, 98, 115, 116, 114]⟩ [(1, (-123), ⟨#[]⟩), (1, (-2), ⟨#[]⟩)]) (c7 : CallIs w0 2 0 ⟨#[65, 90, 91, 65, 123]⟩ ⟨#[117, 112, 112, 101, 114]⟩ [(2, 0, ⟨#[97, 122, 91, 97, 123]⟩)]) (hx17 : xs 17 = .pointer (some ⟨q17, 0, none⟩)) (hx19 : xs 19 = .pointer (some ⟨q19, 0, none⟩)) (hx21 : xs 21 = .pointer (some ⟨q21, 0, none⟩)) (hx18 : xs 18 = .int .i64 2) (hx20 : xs 20 = .int .i64 2) (hx22 : xs 22 = .int .i64 2) : OpStep Tryz.prog vn22Ops Q (vn22F q17 q19 q21) w0 245 xs 59 := by
  intro act w hb hk hF
  have g215 : act.eval (.tmp 215) = .bool true := hF 57 (of_decide_eq_true (by kernel_rfl)) 215 (by kernel_rfl)
  exact step_call (f := 10) (xs := #[.const (.string ⟨#[]⟩)]) (by kernel_rfl) (.told 57 true 215 (by kernel_rfl) (by kernel_rfl) g215) (map1 rfl) (enters_of Tryz.func10 (by kernel_rfl) rfl) ((text_any ⟨#[]⟩ w).mono fun e w' h => ⟨_, h.1, rfl, h.2⟩)

theorem vn22_s60 {Q : Exit → Act → World → Prop} {w0 : World} {xs : Nat → Value} (q17 q19 q21 : Nat) (hb17 : BoxOn w0 q17 0 0 ⟨#[]⟩) (hb19 : BoxOn w0 q19 0 0 ⟨#[]⟩) (hb21 : BoxOn w0 q21 0 0 ⟨#[]⟩) (wd : WdOn w0) (cA : CoalIs w0) (c0 : CallIs w0 0 0 ⟨#[]⟩ ⟨#[105, 102, 110, 117, 108, 108]⟩ [(0, 0, ⟨#[]⟩), (0, 0, ⟨#[]⟩)]) (c1 : CallIs w0 2 0 ⟨#[105, 110, 116, 101, 103, 101, 114]⟩ ⟨#[116, 121, 112, 101, 111, 102]⟩ [(1, 1, ⟨#[]⟩)]) (c2 : CallIs w0 1 3 ⟨#[]⟩ ⟨#[105, 110, 115, 116, 114]⟩ [(2, 0, ⟨#[97, 98, 99, 97, 98]⟩), (2, 0, ⟨#[99, 97]⟩)]) (c3 : CallIs w0 1 1 ⟨#[]⟩ ⟨#[105, 110, 115, 116, 114]⟩ [(2, 0, ⟨#[97]⟩), (2, 0, ⟨#[]⟩)]) (c4 : CallIs w0 1 0 ⟨#[]⟩ ⟨#[105, 110, 115, 116, 114]⟩ [(2, 0, ⟨#[]⟩), (2, 0, ⟨#[97]⟩)]) (c5 : CallIs w0 3 0 ⟨#[0]⟩ ⟨#[115, 117, 98, 115, 116, 114]⟩ [(3, 0, ⟨#[1, 0]⟩), (1, 2, ⟨#[]⟩)]) (c6 : CallIs w0 2 0 ⟨#[50, 51]⟩ ⟨#[115, 117, 98, 115, 116, 114]⟩ [(1, (-123), ⟨#[]⟩), (1, (-2), ⟨#[]⟩)]) (c7 : CallIs w0 2 0 ⟨#[65, 90, 91, 65, 123]⟩ ⟨#[117, 112, 112, 101, 114]⟩ [(2, 0, ⟨#[97, 122, 91, 97, 123]⟩)]) (hx17 : xs 17 = .pointer (some ⟨q17, 0, none⟩)) (hx19 : xs 19 = .pointer (some ⟨q19, 0, none⟩)) (hx21 : xs 21 = .pointer (some ⟨q21, 0, none⟩)) (hx18 : xs 18 = .int .i64 2) (hx20 : xs 20 = .int .i64 2) (hx22 : xs 22 = .int .i64 2) : OpStep Tryz.prog vn22Ops Q (vn22F q17 q19 q21) w0 245 xs 60 := by
  intro act w hb hk hF
  have g215 : act.eval (.tmp 215) = .bool true := hF 57 (of_decide_eq_true (by kernel_rfl)) 215 (by kernel_rfl)
  exact step_call (f := 10) (xs := #[.const (.string ⟨#[97]⟩)]) (by kernel_rfl) (.told 57 true 215 (by kernel_rfl) (by kernel_rfl) g215) (map1 rfl) (enters_of Tryz.func10 (by kernel_rfl) rfl) ((text_any ⟨#[97]⟩ w).mono fun e w' h => ⟨_, h.1, rfl, h.2⟩)

theorem vn22_s61 {Q : Exit → Act → World → Prop} {w0 : World} {xs : Nat → Value} (q17 q19 q21 : Nat) (hb17 : BoxOn w0 q17 0 0 ⟨#[]⟩) (hb19 : BoxOn w0 q19 0 0 ⟨#[]⟩) (hb21 : BoxOn w0 q21 0 0 ⟨#[]⟩) (wd : WdOn w0) (cA : CoalIs w0) (c0 : CallIs w0 0 0 ⟨#[]⟩ ⟨#[105, 102, 110, 117, 108, 108]⟩ [(0, 0, ⟨#[]⟩), (0, 0, ⟨#[]⟩)]) (c1 : CallIs w0 2 0 ⟨#[105, 110, 116, 101, 103, 101, 114]⟩ ⟨#[116, 121, 112, 101, 111, 102]⟩ [(1, 1, ⟨#[]⟩)]) (c2 : CallIs w0 1 3 ⟨#[]⟩ ⟨#[105, 110, 115, 116, 114]⟩ [(2, 0, ⟨#[97, 98, 99, 97, 98]⟩), (2, 0, ⟨#[99, 97]⟩)]) (c3 : CallIs w0 1 1 ⟨#[]⟩ ⟨#[105, 110, 115, 116, 114]⟩ [(2, 0, ⟨#[97]⟩), (2, 0, ⟨#[]⟩)]) (c4 : CallIs w0 1 0 ⟨#[]⟩ ⟨#[105, 110, 115, 116, 114]⟩ [(2, 0, ⟨#[]⟩), (2, 0, ⟨#[97]⟩)]) (c5 : CallIs w0 3 0 ⟨#[0]⟩ ⟨#[115, 117, 98, 115, 116, 114]⟩ [(3, 0, ⟨#[1, 0]⟩), (1, 2, ⟨#[]⟩)]) (c6 : CallIs w0 2 0 ⟨#[50, 51]⟩ ⟨#[115, 117, 98, 115, 116, 114]⟩ [(1, (-123), ⟨#[]⟩), (1, (-2), ⟨#[]⟩)]) (c7 : CallIs w0 2 0 ⟨#[65, 90, 91, 65, 123]⟩ ⟨#[117, 112, 112, 101, 114]⟩ [(2, 0, ⟨#[97, 122, 91, 97, 123]⟩)]) (hx17 : xs 17 = .pointer (some ⟨q17, 0, none⟩)) (hx19 : xs 19 = .pointer (some ⟨q19, 0, none⟩)) (hx21 : xs 21 = .pointer (some ⟨q21, 0, none⟩)) (hx18 : xs 18 = .int .i64 2) (hx20 : xs 20 = .int .i64 2) (hx22 : xs 22 = .int .i64 2) : OpStep Tryz.prog vn22Ops Q (vn22F q17 q19 q21) w0 245 xs 61 := by
  intro act w hb hk hF
  have g215 : act.eval (.tmp 215) = .bool true := hF 57 (of_decide_eq_true (by kernel_rfl)) 215 (by kernel_rfl)
  have g217 : act.eval (.tmp 217) = vv 2 0 ⟨#[]⟩ := hF 59 (of_decide_eq_true (by kernel_rfl)) 217 (by kernel_rfl)
  have g218 : act.eval (.tmp 218) = vv 2 0 ⟨#[97]⟩ := hF 60 (of_decide_eq_true (by kernel_rfl)) 218 (by kernel_rfl)
  exact step_build2 (show opO vn22Ops 61 = some (.buildSlice 27 2 #[(0, .tmp 217), (1, .tmp 218)]) by kernel_rfl) (.told 57 true 215 (by kernel_rfl) (by kernel_rfl) g215) g217 g218 fun b hR hb' => ⟨⟨b, rfl, hR⟩, hb'⟩

theorem vn22_s62 {Q : Exit → Act → World → Prop} {w0 : World} {xs : Nat → Value} (q17 q19 q21 : Nat) (hb17 : BoxOn w0 q17 0 0 ⟨#[]⟩) (hb19 : BoxOn w0 q19 0 0 ⟨#[]⟩) (hb21 : BoxOn w0 q21 0 0 ⟨#[]⟩) (wd : WdOn w0) (cA : CoalIs w0) (c0 : CallIs w0 0 0 ⟨#[]⟩ ⟨#[105, 102, 110, 117, 108, 108]⟩ [(0, 0, ⟨#[]⟩), (0, 0, ⟨#[]⟩)]) (c1 : CallIs w0 2 0 ⟨#[105, 110, 116, 101, 103, 101, 114]⟩ ⟨#[116, 121, 112, 101, 111, 102]⟩ [(1, 1, ⟨#[]⟩)]) (c2 : CallIs w0 1 3 ⟨#[]⟩ ⟨#[105, 110, 115, 116, 114]⟩ [(2, 0, ⟨#[97, 98, 99, 97, 98]⟩), (2, 0, ⟨#[99, 97]⟩)]) (c3 : CallIs w0 1 1 ⟨#[]⟩ ⟨#[105, 110, 115, 116, 114]⟩ [(2, 0, ⟨#[97]⟩), (2, 0, ⟨#[]⟩)]) (c4 : CallIs w0 1 0 ⟨#[]⟩ ⟨#[105, 110, 115, 116, 114]⟩ [(2, 0, ⟨#[]⟩), (2, 0, ⟨#[97]⟩)]) (c5 : CallIs w0 3 0 ⟨#[0]⟩ ⟨#[115, 117, 98, 115, 116, 114]⟩ [(3, 0, ⟨#[1, 0]⟩), (1, 2, ⟨#[]⟩)]) (c6 : CallIs w0 2 0 ⟨#[50, 51]⟩ ⟨#[115, 117, 98, 115, 116, 114]⟩ [(1, (-123), ⟨#[]⟩), (1, (-2), ⟨#[]⟩)]) (c7 : CallIs w0 2 0 ⟨#[65, 90, 91, 65, 123]⟩ ⟨#[117, 112, 112, 101, 114]⟩ [(2, 0, ⟨#[97, 122, 91, 97, 123]⟩)]) (hx17 : xs 17 = .pointer (some ⟨q17, 0, none⟩)) (hx19 : xs 19 = .pointer (some ⟨q19, 0, none⟩)) (hx21 : xs 21 = .pointer (some ⟨q21, 0, none⟩)) (hx18 : xs 18 = .int .i64 2) (hx20 : xs 20 = .int .i64 2) (hx22 : xs 22 = .int .i64 2) : OpStep Tryz.prog vn22Ops Q (vn22F q17 q19 q21) w0 245 xs 62 := by
  intro act w hb hk hF
  have g215 : act.eval (.tmp 215) = .bool true := hF 57 (of_decide_eq_true (by kernel_rfl)) 215 (by kernel_rfl)
  have g216 : act.eval (.tmp 216) = vv 1 0 ⟨#[]⟩ := hF 58 (of_decide_eq_true (by kernel_rfl)) 216 (by kernel_rfl)
  obtain ⟨b219, g219, hR219⟩ := (show IsL [(2, 0, ⟨#[]⟩), (2, 0, ⟨#[97]⟩)] _ w from hF 61 (of_decide_eq_true (by kernel_rfl)) 219 (by kernel_rfl))
  exact step_call (f := 22) (xs := #[.tmp 216, .const (.string ⟨#[105, 110, 115, 116, 114]⟩), .tmp 219]) (by kernel_rfl) (.told 57 true 215 (by kernel_rfl) (by kernel_rfl) g215) (map3 g216 rfl g219) (enters_of Tryz.func22 (by kernel_rfl) rfl) ((c4 w b219 hb hR219).mono fun e w' h => ⟨_, h.1, rfl, h.2⟩)

theorem vn22_s63 {Q : Exit → Act → World → Prop} {w0 : World} {xs : Nat → Value} (q17 q19 q21 : Nat) (hb17 : BoxOn w0 q17 0 0 ⟨#[]⟩) (hb19 : BoxOn w0 q19 0 0 ⟨#[]⟩) (hb21 : BoxOn w0 q21 0 0 ⟨#[]⟩) (wd : WdOn w0) (cA : CoalIs w0) (c0 : CallIs w0 0 0 ⟨#[]⟩ ⟨#[105, 102, 110, 117, 108, 108]⟩ [(0, 0, ⟨#[]⟩), (0, 0, ⟨#[]⟩)]) (c1 : CallIs w0 2 0 ⟨#[105, 110, 116, 101, 103, 101, 114]⟩ ⟨#[116, 121, 112, 101, 111, 102]⟩ [(1, 1, ⟨#[]⟩)]) (c2 : CallIs w0 1 3 ⟨#[]⟩ ⟨#[105, 110, 115, 116, 114]⟩ [(2, 0, ⟨#[97, 98, 99, 97, 98]⟩), (2, 0, ⟨#[99, 97]⟩)]) (c3 : CallIs w0 1 1 ⟨#[]⟩ ⟨#[105, 110, 115, 116, 114]⟩ [(2, 0, ⟨#[97]⟩), (2, 0, ⟨#[]⟩)]) (c4 : CallIs w0 1 0 ⟨#[]⟩ ⟨#[105, 110, 115, 116, 114]⟩ [(2, 0, ⟨#[]⟩), (2, 0, ⟨#[97]⟩)]) (c5 : CallIs w0 3 0 ⟨#[0]⟩ ⟨#[115, 117, 98, 115, 116, 114]⟩ [(3, 0, ⟨#[1, 0]⟩), (1, 2, ⟨#[]⟩)]) (c6 : CallIs w0 2 0 ⟨#[50, 51]⟩ ⟨#[115, 117, 98, 115, 116, 114]⟩ [(1, (-123), ⟨#[]⟩), (1, (-2), ⟨#[]⟩)]) (c7 : CallIs w0 2 0 ⟨#[65, 90, 91, 65, 123]⟩ ⟨#[117, 112, 112, 101, 114]⟩ [(2, 0, ⟨#[97, 122, 91, 97, 123]⟩)]) (hx17 : xs 17 = .pointer (some ⟨q17, 0, none⟩)) (hx19 : xs 19 = .pointer (some ⟨q19, 0, none⟩)) (hx21 : xs 21 = .pointer (some ⟨q21, 0, none⟩)) (hx18 : xs 18 = .int .i64 2) (hx20 : xs 20 = .int .i64 2) (hx22 : xs 22 = .int .i64 2) : OpStep Tryz.prog vn22Ops Q (vn22F q17 q19 q21) w0 245 xs 63 := by
  intro act w hb hk hF
  have g215 : act.eval (.tmp 215) = .bool true := hF 57 (of_decide_eq_true (by kernel_rfl)) 215 (by kernel_rfl)
  have g220 : act.eval (.tmp 220) = .bool true := hF 62 (of_decide_eq_true (by kernel_rfl)) 220 (by kernel_rfl)
  exact step_pickT (show opO vn22Ops 63 = some (.pick (.tmp 215) (.tmp 220) (.const (.bool false))) by kernel_rfl) (.free (by kernel_rfl)) g215 g220 ⟨rfl, Below.refl _ _⟩

theorem vn22_s64 {Q : Exit → Act → World → Prop} {w0 : World} {xs : Nat → Value} (q17 q19 q21 : Nat) (hb17 : BoxOn w0 q17 0 0 ⟨#[]⟩) (hb19 : BoxOn w0 q19 0 0 ⟨#[]⟩) (hb21 : BoxOn w0 q21 0 0 ⟨#[]⟩) (wd : WdOn w0) (cA : CoalIs w0) (c0 : CallIs w0 0 0 ⟨#[]⟩ ⟨#[105, 102, 110, 117, 108, 108]⟩ [(0, 0, ⟨#[]⟩), (0, 0, ⟨#[]⟩)]) (c1 : CallIs w0 2 0 ⟨#[105, 110, 116, 101, 103, 101, 114]⟩ ⟨#[116, 121, 112, 101, 111, 102]⟩ [(1, 1, ⟨#[]⟩)]) (c2 : CallIs w0 1 3 ⟨#[]⟩ ⟨#[105, 110, 115, 116, 114]⟩ [(2, 0, ⟨#[97, 98, 99, 97, 98]⟩), (2, 0, ⟨#[99, 97]⟩)]) (c3 : CallIs w0 1 1 ⟨#[]⟩ ⟨#[105, 110, 115, 116, 114]⟩ [(2, 0, ⟨#[97]⟩), (2, 0, ⟨#[]⟩)]) (c4 : CallIs w0 1 0 ⟨#[]⟩ ⟨#[105, 110, 115, 116, 114]⟩ [(2, 0, ⟨#[]⟩), (2, 0, ⟨#[97]⟩)]) (c5 : CallIs w0 3 0 ⟨#[0]⟩ ⟨#[115, 117, 98, 115, 116, 114]⟩ [(3, 0, ⟨#[1, 0]⟩), (1, 2, ⟨#[]⟩)]) (c6 : CallIs w0 2 0 ⟨#[50, 51]⟩ ⟨#[115, 117, 98, 115, 116, 114]⟩ [(1, (-123), ⟨#[]⟩), (1, (-2), ⟨#[]⟩)]) (c7 : CallIs w0 2 0 ⟨#[65, 90, 91, 65, 123]⟩ ⟨#[117, 112, 112, 101, 114]⟩ [(2, 0, ⟨#[97, 122, 91, 97, 123]⟩)]) (hx17 : xs 17 = .pointer (some ⟨q17, 0, none⟩)) (hx19 : xs 19 = .pointer (some ⟨q19, 0, none⟩)) (hx21 : xs 21 = .pointer (some ⟨q21, 0, none⟩)) (hx18 : xs 18 = .int .i64 2) (hx20 : xs 20 = .int .i64 2) (hx22 : xs 22 = .int .i64 2) : OpStep Tryz.prog vn22Ops Q (vn22F q17 q19 q21) w0 245 xs 64 := by
  intro act w hb hk hF
  have g221 : act.eval (.tmp 221) = .bool true := hF 63 (of_decide_eq_true (by kernel_rfl)) 221 (by kernel_rfl)
  exact step_move (show opO vn22Ops 64 = some (.move (.tmp 221)) by kernel_rfl) (.free (by kernel_rfl)) g221 ⟨rfl, Below.refl _ _⟩

theorem vn22_s65 {Q : Exit → Act → World → Prop} {w0 : World} {xs : Nat → Value} (q17 q19 q21 : Nat) (hb17 : BoxOn w0 q17 0 0 ⟨#[]⟩) (hb19 : BoxOn w0 q19 0 0 ⟨#[]⟩) (hb21 : BoxOn w0 q21 0 0 ⟨#[]⟩) (wd : WdOn w0) (cA : CoalIs w0) (c0 : CallIs w0 0 0 ⟨#[]⟩ ⟨#[105, 102, 110, 117, 108, 108]⟩ [(0, 0, ⟨#[]⟩), (0, 0, ⟨#[]⟩)]) (c1 : CallIs w0 2 0 ⟨#[105, 110, 116, 101, 103, 101, 114]⟩ ⟨#[116, 121, 112, 101, 111, 102]⟩ [(1, 1, ⟨#[]⟩)]) (c2 : CallIs w0 1 3 ⟨#[]⟩ ⟨#[105, 110, 115, 116, 114]⟩ [(2, 0, ⟨#[97, 98, 99, 97, 98]⟩), (2, 0, ⟨#[99, 97]⟩)]) (c3 : CallIs w0 1 1 ⟨#[]⟩ ⟨#[105, 110, 115, 116, 114]⟩ [(2, 0, ⟨#[97]⟩), (2, 0, ⟨#[]⟩)]) (c4 : CallIs w0 1 0 ⟨#[]⟩ ⟨#[105, 110, 115, 116, 114]⟩ [(2, 0, ⟨#[]⟩), (2, 0, ⟨#[97]⟩)]) (c5 : CallIs w0 3 0 ⟨#[0]⟩ ⟨#[115, 117, 98, 115, 116, 114]⟩ [(3, 0, ⟨#[1, 0]⟩), (1, 2, ⟨#[]⟩)]) (c6 : CallIs w0 2 0 ⟨#[50, 51]⟩ ⟨#[115, 117, 98, 115, 116, 114]⟩ [(1, (-123), ⟨#[]⟩), (1, (-2), ⟨#[]⟩)]) (c7 : CallIs w0 2 0 ⟨#[65, 90, 91, 65, 123]⟩ ⟨#[117, 112, 112, 101, 114]⟩ [(2, 0, ⟨#[97, 122, 91, 97, 123]⟩)]) (hx17 : xs 17 = .pointer (some ⟨q17, 0, none⟩)) (hx19 : xs 19 = .pointer (some ⟨q19, 0, none⟩)) (hx21 : xs 21 = .pointer (some ⟨q21, 0, none⟩)) (hx18 : xs 18 = .int .i64 2) (hx20 : xs 20 = .int .i64 2) (hx22 : xs 22 = .int .i64 2) : OpStep Tryz.prog vn22Ops Q (vn22F q17 q19 q21) w0 245 xs 65 := by
  intro act w hb hk hF
  have g222 : act.eval (.tmp 222) = .bool true := hF 64 (of_decide_eq_true (by kernel_rfl)) 222 (by kernel_rfl)
  exact step_call (f := 23) (xs := #[.const (.string ⟨#[0]⟩)]) (by kernel_rfl) (.told 64 true 222 (by kernel_rfl) (by kernel_rfl) g222) (map1 rfl) (enters_of Tryz.func23 (by kernel_rfl) rfl) ((blob_any ⟨#[0]⟩ w).mono fun e w' h => ⟨_, h.1, rfl, h.2⟩)

theorem vn22_s66 {Q : Exit → Act → World → Prop} {w0 : World} {xs : Nat → Value} (q17 q19 q21 : Nat) (hb17 : BoxOn w0 q17 0 0 ⟨#[]⟩) (hb19 : BoxOn w0 q19 0 0 ⟨#[]⟩) (hb21 : BoxOn w0 q21 0 0 ⟨#[]⟩) (wd : WdOn w0) (cA : CoalIs w0) (c0 : CallIs w0 0 0 ⟨#[]⟩ ⟨#[105, 102, 110, 117, 108, 108]⟩ [(0, 0, ⟨#[]⟩), (0, 0, ⟨#[]⟩)]) (c1 : CallIs w0 2 0 ⟨#[105, 110, 116, 101, 103, 101, 114]⟩ ⟨#[116, 121, 112, 101, 111, 102]⟩ [(1, 1, ⟨#[]⟩)]) (c2 : CallIs w0 1 3 ⟨#[]⟩ ⟨#[105, 110, 115, 116, 114]⟩ [(2, 0, ⟨#[97, 98, 99, 97, 98]⟩), (2, 0, ⟨#[99, 97]⟩)]) (c3 : CallIs w0 1 1 ⟨#[]⟩ ⟨#[105, 110, 115, 116, 114]⟩ [(2, 0, ⟨#[97]⟩), (2, 0, ⟨#[]⟩)]) (c4 : CallIs w0 1 0 ⟨#[]⟩ ⟨#[105, 110, 115, 116, 114]⟩ [(2, 0, ⟨#[]⟩), (2, 0, ⟨#[97]⟩)]) (c5 : CallIs w0 3 0 ⟨#[0]⟩ ⟨#[115, 117, 98, 115, 116, 114]⟩ [(3, 0, ⟨#[1, 0]⟩), (1, 2, ⟨#[]⟩)]) (c6 : CallIs w0 2 0 ⟨#[50, 51]⟩ ⟨#[115, 117, 98, 115, 116, 114]⟩ [(1, (-123), ⟨#[]⟩), (1, (-2), ⟨#[]⟩)]) (c7 : CallIs w0 2 0 ⟨#[65, 90, 91, 65, 123]⟩ ⟨#[117, 112, 112, 101, 114]⟩ [(2, 0, ⟨#[97, 122, 91, 97, 123]⟩)]) (hx17 : xs 17 = .pointer (some ⟨q17, 0, none⟩)) (hx19 : xs 19 = .pointer (some ⟨q19, 0, none⟩)) (hx21 : xs 21 = .pointer (some ⟨q21, 0, none⟩)) (hx18 : xs 18 = .int .i64 2) (hx20 : xs 20 = .int .i64 2) (hx22 : xs 22 = .int .i64 2) : OpStep Tryz.prog vn22Ops Q (vn22F q17 q19 q21) w0 245 xs 66 := by
  intro act w hb hk hF
  have g222 : act.eval (.tmp 222) = .bool true := hF 64 (of_decide_eq_true (by kernel_rfl)) 222 (by kernel_rfl)
  exact step_call (f := 23) (xs := #[.const (.string ⟨#[1, 0]⟩)]) (by kernel_rfl) (.told 64 true 222 (by kernel_rfl) (by kernel_rfl) g222) (map1 rfl) (enters_of Tryz.func23 (by kernel_rfl) rfl) ((blob_any ⟨#[1, 0]⟩ w).mono fun e w' h => ⟨_, h.1, rfl, h.2⟩)

theorem vn22_s67 {Q : Exit → Act → World → Prop} {w0 : World} {xs : Nat → Value} (q17 q19 q21 : Nat) (hb17 : BoxOn w0 q17 0 0 ⟨#[]⟩) (hb19 : BoxOn w0 q19 0 0 ⟨#[]⟩) (hb21 : BoxOn w0 q21 0 0 ⟨#[]⟩) (wd : WdOn w0) (cA : CoalIs w0) (c0 : CallIs w0 0 0 ⟨#[]⟩ ⟨#[105, 102, 110, 117, 108, 108]⟩ [(0, 0, ⟨#[]⟩), (0, 0, ⟨#[]⟩)]) (c1 : CallIs w0 2 0 ⟨#[105, 110, 116, 101, 103, 101, 114]⟩ ⟨#[116, 121, 112, 101, 111, 102]⟩ [(1, 1, ⟨#[]⟩)]) (c2 : CallIs w0 1 3 ⟨#[]⟩ ⟨#[105, 110, 115, 116, 114]⟩ [(2, 0, ⟨#[97, 98, 99, 97, 98]⟩), (2, 0, ⟨#[99, 97]⟩)]) (c3 : CallIs w0 1 1 ⟨#[]⟩ ⟨#[105, 110, 115, 116, 114]⟩ [(2, 0, ⟨#[97]⟩), (2, 0, ⟨#[]⟩)]) (c4 : CallIs w0 1 0 ⟨#[]⟩ ⟨#[105, 110, 115, 116, 114]⟩ [(2, 0, ⟨#[]⟩), (2, 0, ⟨#[97]⟩)]) (c5 : CallIs w0 3 0 ⟨#[0]⟩ ⟨#[115, 117, 98, 115, 116, 114]⟩ [(3, 0, ⟨#[1, 0]⟩), (1, 2, ⟨#[]⟩)]) (c6 : CallIs w0 2 0 ⟨#[50, 51]⟩ ⟨#[115, 117, 98, 115, 116, 114]⟩ [(1, (-123), ⟨#[]⟩), (1, (-2), ⟨#[]⟩)]) (c7 : CallIs w0 2 0 ⟨#[65, 90, 91, 65, 123]⟩ ⟨#[117, 112, 112, 101, 114]⟩ [(2, 0, ⟨#[97, 122, 91, 97, 123]⟩)]) (hx17 : xs 17 = .pointer (some ⟨q17, 0, none⟩)) (hx19 : xs 19 = .pointer (some ⟨q19, 0, none⟩)) (hx21 : xs 21 = .pointer (some ⟨q21, 0, none⟩)) (hx18 : xs 18 = .int .i64 2) (hx20 : xs 20 = .int .i64 2) (hx22 : xs 22 = .int .i64 2) : OpStep Tryz.prog vn22Ops Q (vn22F q17 q19 q21) w0 245 xs 67 := by
  intro act w hb hk hF
  have g222 : act.eval (.tmp 222) = .bool true := hF 64 (of_decide_eq_true (by kernel_rfl)) 222 (by kernel_rfl)
  exact step_call (f := 13) (xs := #[.const (.int .i64 2)]) (by kernel_rfl) (.told 64 true 222 (by kernel_rfl) (by kernel_rfl) g222) (map1 rfl) (enters_of Tryz.func13 (by kernel_rfl) rfl) ((num_any 2 w).mono fun e w' h => ⟨_, h.1, rfl, h.2⟩)

theorem vn22_s68 {Q : Exit → Act → World → Prop} {w0 : World} {xs : Nat → Value} (q17 q19 q21 : Nat) (hb17 : BoxOn w0 q17 0 0 ⟨#[]⟩) (hb19 : BoxOn w0 q19 0 0 ⟨#[]⟩) (hb21 : BoxOn w0 q21 0 0 ⟨#[]⟩) (wd : WdOn w0) (cA : CoalIs w0) (c0 : CallIs w0 0 0 ⟨#[]⟩ ⟨#[105, 102, 110, 117, 108, 108]⟩ [(0, 0, ⟨#[]⟩), (0, 0, ⟨#[]⟩)]) (c1 : CallIs w0 2 0 ⟨#[105, 110, 116, 101, 103, 101, 114]⟩ ⟨#[116, 121, 112, 101, 111, 102]⟩ [(1, 1, ⟨#[]⟩)]) (c2 : CallIs w0 1 3 ⟨#[]⟩ ⟨#[105, 110, 115, 116, 114]⟩ [(2, 0, ⟨#[97, 98, 99, 97, 98]⟩), (2, 0, ⟨#[99, 97]⟩)]) (c3 : CallIs w0 1 1 ⟨#[]⟩ ⟨#[105, 110, 115, 116, 114]⟩ [(2, 0, ⟨#[97]⟩), (2, 0, ⟨#[]⟩)]) (c4 : CallIs w0 1 0 ⟨#[]⟩ ⟨#[105, 110, 115, 116, 114]⟩ [(2, 0, ⟨#[]⟩), (2, 0, ⟨#[97]⟩)]) (c5 : CallIs w0 3 0 ⟨#[0]⟩ ⟨#[115, 117, 98, 115, 116, 114]⟩ [(3, 0, ⟨#[1, 0]⟩), (1, 2, ⟨#[]⟩)]) (c6 : CallIs w0 2 0 ⟨#[50, 51]⟩ ⟨#[115, 117, 98, 115, 116, 114]⟩ [(1, (-123), ⟨#[]⟩), (1, (-2), ⟨#[]⟩)]) (c7 : CallIs w0 2 0 ⟨#[65, 90, 91, 65, 123]⟩ ⟨#[117, 112, 112, 101, 114]⟩ [(2, 0, ⟨#[97, 122, 91, 97, 123]⟩)]) (hx17 : xs 17 = .pointer (some ⟨q17, 0, none⟩)) (hx19 : xs 19 = .pointer (some ⟨q19, 0, none⟩)) (hx21 : xs 21 = .pointer (some ⟨q21, 0, none⟩)) (hx18 : xs 18 = .int .i64 2) (hx20 : xs 20 = .int .i64 2) (hx22 : xs 22 = .int .i64 2) : OpStep Tryz.prog vn22Ops Q (vn22F q17 q19 q21) w0 245 xs 68 := by
  intro act w hb hk hF
  have g222 : act.eval (.tmp 222) = .bool true := hF 64 (of_decide_eq_true (by kernel_rfl)) 222 (by kernel_rfl)
  have g224 : act.eval (.tmp 224) = vv 3 0 ⟨#[1, 0]⟩ := hF 66 (of_decide_eq_true (by kernel_rfl)) 224 (by kernel_rfl)
  have g225 : act.eval (.tmp 225) = vv 1 2 ⟨#[]⟩ := hF 67 (of_decide_eq_true (by kernel_rfl)) 225 (by kernel_rfl)
  exact step_build2 (show opO vn22Ops 68 = some (.buildSlice 27 2 #[(0, .tmp 224), (1, .tmp 225)]) by kernel_rfl) (.told 64 true 222 (by kernel_rfl) (by kernel_rfl) g222) g224 g225 fun b hR hb' => ⟨⟨b, rfl, hR⟩, hb'⟩

theorem vn22_s69 {Q : Exit → Act → World → Prop} {w0 : World} {xs : Nat → Value} (q17 q19 q21 : Nat) (hb17 : BoxOn w0 q17 0 0 ⟨#[]⟩) (hb19 : BoxOn w0 q19 0 0 ⟨#[]⟩) (hb21 : BoxOn w0 q21 0 0 ⟨#[]⟩) (wd : WdOn w0) (cA : CoalIs w0) (c0 : CallIs w0 0 0 ⟨#[]⟩ ⟨#[105, 102, 110, 117, 108, 108]⟩ [(0, 0, ⟨#[]⟩), (0, 0, ⟨#[]⟩)]) (c1 : CallIs w0 2 0 ⟨#[105, 110, 116, 101, 103, 101, 114]⟩ ⟨#[116, 121, 112, 101, 111, 102]⟩ [(1, 1, ⟨#[]⟩)]) (c2 : CallIs w0 1 3 ⟨#[]⟩ ⟨#[105, 110, 115, 116, 114]⟩ [(2, 0, ⟨#[97, 98, 99, 97, 98]⟩), (2, 0, ⟨#[99, 97]⟩)]) (c3 : CallIs w0 1 1 ⟨#[]⟩ ⟨#[105, 110, 115, 116, 114]⟩ [(2, 0, ⟨#[97]⟩), (2, 0, ⟨#[]⟩)]) (c4 : CallIs w0 1 0 ⟨#[]⟩ ⟨#[105, 110, 115, 116, 114]⟩ [(2, 0, ⟨#[]⟩), (2, 0, ⟨#[97]⟩)]) (c5 : CallIs w0 3 0 ⟨#[0]⟩ ⟨#[115, 117, 98, 115, 116, 114]⟩ [(3, 0, ⟨#[1, 0]⟩), (1, 2, ⟨#[]⟩)]) (c6 : CallIs w0 2 0 ⟨#[50, 51]⟩ ⟨#[115, 117, 98, 115, 116, 114]⟩ [(1, (-123), ⟨#[]⟩), (1, (-2), ⟨#[]⟩)]) (c7 : CallIs w0 2 0 ⟨#[65, 90, 91, 65, 123]⟩ ⟨#[117, 112, 112, 101, 114]⟩ [(2, 0, ⟨#[97, 122, 91, 97, 123]⟩)]) (hx17 : xs 17 = .pointer (some ⟨q17, 0, none⟩)) (hx19 : xs 19 = .pointer (some ⟨q19, 0, none⟩)) (hx21 : xs 21 = .pointer (some ⟨q21, 0, none⟩)) (hx18 : xs 18 = .int .i64 2) (hx20 : xs 20 = .int .i64 2) (hx22 : xs 22 = .int .i64 2) : OpStep Tryz.prog vn22Ops Q (vn22F q17 q19 q21) w0 245 xs 69 := by
  intro act w hb hk hF
  have g222 : act.eval (.tmp 222) = .bool true := hF 64 (of_decide_eq_true (by kernel_rfl)) 222 (by kernel_rfl)
  have g223 : act.eval (.tmp 223) = vv 3 0 ⟨#[0]⟩ := hF 65 (of_decide_eq_true (by kernel_rfl)) 223 (by kernel_rfl)
  obtain ⟨b226, g226, hR226⟩ := (show IsL [(3, 0, ⟨#[1, 0]⟩), (1, 2, ⟨#[]⟩)] _ w from hF 68 (of_decide_eq_true (by kernel_rfl)) 226 (by kernel_rfl))
  exact step_call (f := 22) (xs := #[.tmp 223, .const (.string ⟨#[115, 117, 98, 115, 116, 114]⟩), .tmp 226]) (by kernel_rfl) (.told 64 true 222 (by kernel_rfl) (by kernel_rfl) g222) (map3 g223 rfl g226) (enters_of Tryz.func22 (by kernel_rfl) rfl) ((c5 w b226 hb hR226).mono fun e w' h => ⟨_, h.1, rfl, h.2⟩)

theorem vn22_s70 {Q : Exit → Act → World → Prop} {w0 : World} {xs : Nat → Value} (q17 q19 q21 : Nat) (hb17 : BoxOn w0 q17 0 0 ⟨#[]⟩) (hb19 : BoxOn w0 q19 0 0 ⟨#[]⟩) (hb21 : BoxOn w0 q21 0 0 ⟨#[]⟩) (wd : WdOn w0) (cA : CoalIs w0) (c0 : CallIs w0 0 0 ⟨#[]⟩ ⟨#[105, 102, 110, 117, 108, 108]⟩ [(0, 0, ⟨#[]⟩), (0, 0, ⟨#[]⟩)]) (c1 : CallIs w0 2 0 ⟨#[105, 110, 116, 101, 103, 101, 114]⟩ ⟨#[116, 121, 112, 101, 111, 102]⟩ [(1, 1, ⟨#[]⟩)]) (c2 : CallIs w0 1 3 ⟨#[]⟩ ⟨#[105, 110, 115, 116, 114]⟩ [(2, 0, ⟨#[97, 98, 99, 97, 98]⟩), (2, 0, ⟨#[99, 97]⟩)]) (c3 : CallIs w0 1 1 ⟨#[]⟩ ⟨#[105, 110, 115, 116, 114]⟩ [(2, 0, ⟨#[97]⟩), (2, 0, ⟨#[]⟩)]) (c4 : CallIs w0 1 0 ⟨#[]⟩ ⟨#[105, 110, 115, 116, 114]⟩ [(2, 0, ⟨#[]⟩), (2, 0, ⟨#[97]⟩)]) (c5 : CallIs w0 3 0 ⟨#[0]⟩ ⟨#[115, 117, 98, 115, 116, 114]⟩ [(3, 0, ⟨#[1, 0]⟩), (1, 2, ⟨#[]⟩)]) (c6 : CallIs w0 2 0 ⟨#[50, 51]⟩ ⟨#[115, 117, 98, 115, 116, 114]⟩ [(1, (-123), ⟨#[]⟩), (1, (-2), ⟨#[]⟩)]) (c7 : CallIs w0 2 0 ⟨#[65, 90, 91, 65, 123]⟩ ⟨#[117, 112, 112, 101, 114]⟩ [(2, 0, ⟨#[97, 122, 91, 97, 123]⟩)]) (hx17 : xs 17 = .pointer (some ⟨q17, 0, none⟩)) (hx19 : xs 19 = .pointer (some ⟨q19, 0, none⟩)) (hx21 : xs 21 = .pointer (some ⟨q21, 0, none⟩)) (hx18 : xs 18 = .int .i64 2) (hx20 : xs 20 = .int .i64 2) (hx22 : xs 22 = .int .i64 2) : OpStep Tryz.prog vn22Ops Q (vn22F q17 q19 q21) w0 245 xs 70 := by
  intro act w hb hk hF
  have g222 : act.eval (.tmp 222) = .bool true := hF 64 (of_decide_eq_true (by kernel_rfl)) 222 (by kernel_rfl)
  have g227 : act.eval (.tmp 227) = .bool true := hF 69 (of_decide_eq_true (by kernel_rfl)) 227 (by kernel_rfl)
  exact step_pickT (show opO vn22Ops 70 = some (.pick (.tmp 222) (.tmp 227) (.const (.bool false))) by kernel_rfl) (.free (by kernel_rfl)) g222 g227 ⟨rfl, Below.refl _ _⟩

theorem vn22_s71 {Q : Exit → Act → World → Prop} {w0 : World} {xs : Nat → Value} (q17 q19 q21 : Nat) (hb17 : BoxOn w0 q17 0 0 ⟨#[]⟩) (hb19 : BoxOn w0 q19 0 0 ⟨#[]⟩) (hb21 : BoxOn w0 q21 0 0 ⟨#[]⟩) (wd : WdOn w0) (cA : CoalIs w0) (c0 : CallIs w0 0 0 ⟨#[]⟩ ⟨#[105, 102, 110, 117, 108, 108]⟩ [(0, 0, ⟨#[]⟩), (0, 0, ⟨#[]⟩)]) (c1 : CallIs w0 2 0 ⟨#[105, 110, 116, 101, 103, 101, 114]⟩ ⟨#[116, 121, 112, 101, 111, 102]⟩ [(1, 1, ⟨#[]⟩)]) (c2 : CallIs w0 1 3 ⟨#[]⟩ ⟨#[105, 110, 115, 116, 114]⟩ [(2, 0, ⟨#[97, 98, 99, 97, 98]⟩), (2, 0, ⟨#[99, 97]⟩)]) (c3 : CallIs w0 1 1 ⟨#[]⟩ ⟨#[105, 110, 115, 116, 114]⟩ [(2, 0, ⟨#[97]⟩), (2, 0, ⟨#[]⟩)]) (c4 : CallIs w0 1 0 ⟨#[]⟩ ⟨#[105, 110, 115, 116, 114]⟩ [(2, 0, ⟨#[]⟩), (2, 0, ⟨#[97]⟩)]) (c5 : CallIs w0 3 0 ⟨#[0]⟩ ⟨#[115, 117, 98, 115, 116, 114]⟩ [(3, 0, ⟨#[1, 0]⟩), (1, 2, ⟨#[]⟩)]) (c6 : CallIs w0 2 0 ⟨#[50, 51]⟩ ⟨#[115, 117, 98, 115, 116, 114]⟩ [(1, (-123), ⟨#[]⟩), (1, (-2), ⟨#[]⟩)]) (c7 : CallIs w0 2 0 ⟨#[65, 90, 91, 65, 123]⟩ ⟨#[117, 112, 112, 101, 114]⟩ [(2, 0, ⟨#[97, 122, 91, 97, 123]⟩)]) (hx17 : xs 17 = .pointer (some ⟨q17, 0, none⟩)) (hx19 : xs 19 = .pointer (some ⟨q19, 0, none⟩)) (hx21 : xs 21 = .pointer (some ⟨q21, 0, none⟩)) (hx18 : xs 18 = .int .i64 2) (hx20 : xs 20 = .int .i64 2) (hx22 : xs 22 = .int .i64 2) : OpStep Tryz.prog vn22Ops Q (vn22F q17 q19 q21) w0 245 xs 71 := by
  intro act w hb hk hF
  have g228 : act.eval (.tmp 228) = .bool true := hF 70 (of_decide_eq_true (by kernel_rfl)) 228 (by kernel_rfl)
  exact step_move (show opO vn22Ops 71 = some (.move (.tmp 228)) by kernel_rfl) (.free (by kernel_rfl)) g228 ⟨rfl, Below.refl _ _⟩

theorem vn22_s72 {Q : Exit → Act → World → Prop} {w0 : World} {xs : Nat → Value} (q17 q19 q21 : Nat) (hb17 : BoxOn w0 q17 0 0 ⟨#[]⟩) (hb19 : BoxOn w0 q19 0 0 ⟨#[]⟩) (hb21 : BoxOn w0 q21 0 0 ⟨#[]⟩) (wd : WdOn w0) (cA : CoalIs w0) (c0 : CallIs w0 0 0 ⟨#[]⟩ ⟨#[105, 102, 110, 117, 108, 108]⟩ [(0, 0, ⟨#[]⟩), (0, 0, ⟨#[]⟩)]) (c1 : CallIs w0 2 0 ⟨#[105, 110, 116, 101, 103, 101, 114]⟩ ⟨#[116, 121, 112, 101, 111, 102]⟩ [(1, 1, ⟨#[]⟩)]) (c2 : CallIs w0 1 3 ⟨#[]⟩ ⟨#[105, 110, 115, 116, 114]⟩ [(2, 0, ⟨#[97, 98, 99, 97, 98]⟩), (2, 0, ⟨#[99, 97]⟩)]) (c3 : CallIs w0 1 1 ⟨#[]⟩ ⟨#[105, 110, 115, 116, 114]⟩ [(2, 0, ⟨#[97]⟩), (2, 0, ⟨#[]⟩)]) (c4 : CallIs w0 1 0 ⟨#[]⟩ ⟨#[105, 110, 115, 116, 114]⟩ [(2, 0, ⟨#[]⟩), (2, 0, ⟨#[97]⟩)]) (c5 : CallIs w0 3 0 ⟨#[0]⟩ ⟨#[115, 117, 98, 115, 116, 114]⟩ [(3, 0, ⟨#[1, 0]⟩), (1, 2, ⟨#[]⟩)]) (c6 : CallIs w0 2 0 ⟨#[50, 51]⟩ ⟨#[115, 117, 98, 115, 116, 114]⟩ [(1, (-123), ⟨#[]⟩), (1, (-2), ⟨#[]⟩)]) (c7 : CallIs w0 2 0 ⟨#[65, 90, 91, 65, 123]⟩ ⟨#[117, 112, 112, 101, 114]⟩ [(2, 0, ⟨#[97, 122, 91, 97, 123]⟩)]) (hx17 : xs 17 = .pointer (some ⟨q17, 0, none⟩)) (hx19 : xs 19 = .pointer (some ⟨q19, 0, none⟩)) (hx21 : xs 21 = .pointer (some ⟨q21, 0, none⟩)) (hx18 : xs 18 = .int .i64 2) (hx20 : xs 20 = .int .i64 2) (hx22 : xs 22 = .int .i64 2) : OpStep Tryz.prog vn22Ops Q (vn22F q17 q19 q21) w0 245 xs 72 := by
  intro act w hb hk hF
  have g229 : act.eval (.tmp 229) = .bool true := hF 71 (of_decide_eq_true (by kernel_rfl)) 229 (by kernel_rfl)
  exact step_call (f := 10) (xs := #[.const (.string ⟨#[50, 51]⟩)]) (by kernel_rfl) (.told 71 true 229 (by kernel_rfl) (by kernel_rfl) g229) (map1 rfl) (enters_of Tryz.func10 (by kernel_rfl) rfl) ((text_any ⟨#[50, 51]⟩ w).mono fun e w' h => ⟨_, h.1, rfl, h.2⟩)

theorem vn22_s73 {Q : Exit → Act → World → Prop} {w0 : World} {xs : Nat → Value} (q17 q19 q21 : Nat) (hb17 : BoxOn w0 q17 0 0 ⟨#[]⟩) (hb19 : BoxOn w0 q19 0 0 ⟨#[]⟩) (hb21 : BoxOn w0 q21 0 0 ⟨#[]⟩) (wd : WdOn w0) (cA : CoalIs w0) (c0 : CallIs w0 0 0 ⟨#[]⟩ ⟨#[105, 102, 110, 117, 108, 108]⟩ [(0, 0, ⟨#[]⟩), (0, 0, ⟨#[]⟩)]) (c1 : CallIs w0 2 0 ⟨#[105, 110, 116, 101, 103, 101, 114]⟩ ⟨#[116, 121, 112, 101, 111, 102]⟩ [(1, 1, ⟨#[]⟩)]) (c2 : CallIs w0 1 3 ⟨#[]⟩ ⟨#[105, 110, 115, 116, 114]⟩ [(2, 0, ⟨#[97, 98, 99, 97, 98]⟩), (2, 0, ⟨#[99, 97]⟩)]) (c3 : CallIs w0 1 1 ⟨#[]⟩ ⟨#[105, 110, 115, 116, 114]⟩ [(2, 0, ⟨#[97]⟩), (2, 0, ⟨#[]⟩)]) (c4 : CallIs w0 1 0 ⟨#[]⟩ ⟨#[105, 110, 115, 116, 114]⟩ [(2, 0, ⟨#[]⟩), (2, 0, ⟨#[97]⟩)]) (c5 : CallIs w0 3 0 ⟨#[0]⟩ ⟨#[115, 117, 98, 115, 116, 114]⟩ [(3, 0, ⟨#[1, 0]⟩), (1, 2, ⟨#[]⟩)]) (c6 : CallIs w0 2 0 ⟨#[50, 51]⟩ ⟨#[115, 117, 98, 115, 116, 114]⟩ [(1, (-123), ⟨#[]⟩), (1, (-2), ⟨#[]⟩)]) (c7 : CallIs w0 2 0 ⟨#[65, 90, 91, 65, 123]⟩ ⟨#[117, 112, 112, 101, 114]⟩ [(2, 0, ⟨#[97, 122, 91, 97, 123]⟩)]) (hx17 : xs 17 = .pointer (some ⟨q17, 0, none⟩)) (hx19 : xs 19 = .pointer (some ⟨q19, 0, none⟩)) (hx21 : xs 21 = .pointer (some ⟨q21, 0, none⟩)) (hx18 : xs 18 = .int .i64 2) (hx20 : xs 20 = .int .i64 2) (hx22 : xs 22 = .int .i64 2) : OpStep Tryz.prog vn22Ops Q (vn22F q17 q19 q21) w0 245 xs 73 := by
  intro act w hb hk hF
  have g229 : act.eval (.tmp 229) = .bool true := hF 71 (of_decide_eq_true (by kernel_rfl)) 229 (by kernel_rfl)
  exact step_call (f := 13) (xs := #[.const (.int .i64 (-123))]) (by kernel_rfl) (.told 71 true 229 (by kernel_rfl) (by kernel_rfl) g229) (map1 rfl) (enters_of Tryz.func13 (by kernel_rfl) rfl) ((num_any (-123) w).mono fun e w' h => ⟨_, h.1, rfl, h.2⟩)

theorem vn22_s74 {Q : Exit → Act → World → Prop} {w0 : World} {xs : Nat → Value} (q17 q19 q21 : Nat) (hb17 : BoxOn w0 q17 0 0 ⟨#[]⟩) (hb19 : BoxOn w0 q19 0 0 ⟨#[]⟩) (hb21 : BoxOn w0 q21 0 0 ⟨#[]⟩) (wd : WdOn w0) (cA : CoalIs w0) (c0 : CallIs w0 0 0 ⟨#[]⟩ ⟨#[105, 102, 110, 117, 108, 108]⟩ [(0, 0, ⟨#[]⟩), (0, 0, ⟨#[]⟩)]) (c1 : CallIs w0 2 0 ⟨#[105, 110, 116, 101, 103, 101, 114]⟩ ⟨#[116, 121, 112, 101, 111, 102]⟩ [(1, 1, ⟨#[]⟩)]) (c2 : CallIs w0 1 3 ⟨#[]⟩ ⟨#[105, 110, 115, 116, 114]⟩ [(2, 0, ⟨#[97, 98, 99, 97, 98]⟩), (2, 0, ⟨#[99, 97]⟩)]) (c3 : CallIs w0 1 1 ⟨#[]⟩ ⟨#[105, 110, 115, 116, 114]⟩ [(2, 0, ⟨#[97]⟩), (2, 0, ⟨#[]⟩)]) (c4 : CallIs w0 1 0 ⟨#[]⟩ ⟨#[105, 110, 115, 116, 114]⟩ [(2, 0, ⟨#[]⟩), (2, 0, ⟨#[97]⟩)]) (c5 : CallIs w0 3 0 ⟨#[0]⟩ ⟨#[115, 117, 98, 115, 116, 114]⟩ [(3, 0, ⟨#[1, 0]⟩), (1, 2, ⟨#[]⟩)]) (c6 : CallIs w0 2 0 ⟨#[50, 51]⟩ ⟨#[115, 117, 98, 115, 116, 114]⟩ [(1, (-123), ⟨#[]⟩), (1, (-2), ⟨#[]⟩)]) (c7 : CallIs w0 2 0 ⟨#[65, 90, 91, 65, 123]⟩ ⟨#[117, 112, 112, 101, 114]⟩ [(2, 0, ⟨#[97, 122, 91, 97, 123]⟩)]) (hx17 : xs 17 = .pointer (some ⟨q17, 0, none⟩)) (hx19 : xs 19 = .pointer (some ⟨q19, 0, none⟩)) (hx21 : xs 21 = .pointer (some ⟨q21, 0, none⟩)) (hx18 : xs 18 = .int .i64 2) (hx20 : xs 20 = .int .i64 2) (hx22 : xs 22 = .int .i64 2) : OpStep Tryz.prog vn22Ops Q (vn22F q17 q19 q21) w0 245 xs 74 := by
  intro act w hb hk hF
  have g229 : act.eval (.tmp 229) = .bool true := hF 71 (of_decide_eq_true (by kernel_rfl)) 229 (by kernel_rfl)
  exact step_call (f := 13) (xs := #[.const (.int .i64 (-2))]) (by kernel_rfl) (.told 71 true 229 (by kernel_rfl) (by kernel_rfl) g229) (map1 rfl) (enters_of Tryz.func13 (by kernel_rfl) rfl) ((num_any (-2) w).mono fun e w' h => ⟨_, h.1, rfl, h.2⟩)

theorem vn22_s75 {Q : Exit → Act → World → Prop} {w0 : World} {xs : Nat → Value} (q17 q19 q21 : Nat) (hb17 : BoxOn w0 q17 0 0 ⟨#[]⟩) (hb19 : BoxOn w0 q19 0 0 ⟨#[]⟩) (hb21 : BoxOn w0 q21 0 0 ⟨#[]⟩) (wd : WdOn w0) (cA : CoalIs w0) (c0 : CallIs w0 0 0 ⟨#[]⟩ ⟨#[105, 102, 110, 117, 108, 108]⟩ [(0, 0, ⟨#[]⟩), (0, 0, ⟨#[]⟩)]) (c1 : CallIs w0 2 0 ⟨#[105, 110, 116, 101, 103, 101, 114]⟩ ⟨#[116, 121, 112, 101, 111, 102]⟩ [(1, 1, ⟨#[]⟩)]) (c2 : CallIs w0 1 3 ⟨#[]⟩ ⟨#[105, 110, 115, 116, 114]⟩ [(2, 0, ⟨#[97, 98, 99, 97, 98]⟩), (2, 0, ⟨#[99, 97]⟩)]) (c3 : CallIs w0 1 1 ⟨#[]⟩ ⟨#[105, 110, 115, 116, 114]⟩ [(2, 0, ⟨#[97]⟩), (2, 0, ⟨#[]⟩)]) (c4 : CallIs w0 1 0 ⟨#[]⟩ ⟨#[105, 110, 115, 116, 114]⟩ [(2, 0, ⟨#[]⟩), (2, 0, ⟨#[97]⟩)]) (c5 : CallIs w0 3 0 ⟨#[0]⟩ ⟨#[115, 117, 98, 115, 116, 114]⟩ [(3, 0, ⟨#[1, 0]⟩), (1, 2, ⟨#[]⟩)]) (c6 : CallIs w0 2 0 ⟨#[50, 51]⟩ ⟨#[115, 117, 98, 115, 116, 114]⟩ [(1, (-123), ⟨#[]⟩), (1, (-2), ⟨#[]⟩)]) (c7 : CallIs w0 2 0 ⟨#[65, 90, 91, 65, 123]⟩ ⟨#[117, 112, 112, 101, 114]⟩ [(2, 0, ⟨#[97, 122, 91, 97, 123]⟩)]) (hx17 : xs 17 = .pointer (some ⟨q17, 0, none⟩)) (hx19 : xs 19 = .pointer (some ⟨q19, 0, none⟩)) (hx21 : xs 21 = .pointer (some ⟨q21, 0, none⟩)) (hx18 : xs 18 = .int .i64 2) (hx20 : xs 20 = .int .i64 2) (hx22 : xs 22 = .int .i64 2) : OpStep Tryz.prog vn22Ops Q (vn22F q17 q19 q21) w0 245 xs 75 := by
  intro act w hb hk hF
  have g229 : act.eval (.tmp 229) = .bool true := hF 71 (of_decide_eq_true (by kernel_rfl)) 229 (by kernel_rfl)
  have g231 : act.eval (.tmp 231) = vv 1 (-123) ⟨#[]⟩ := hF 73 (of_decide_eq_true (by kernel_rfl)) 231 (by kernel_rfl)
  have g232 : act.eval (.tmp 232) = vv 1 (-2) ⟨#[]⟩ := hF 74 (of_decide_eq_true (by kernel_rfl)) 232 (by kernel_rfl)
  exact step_build2 (show opO vn22Ops 75 = some (.buildSlice 27 2 #[(0, .tmp 231), (1, .tmp 232)]) by kernel_rfl) (.told 71 true 229 (by kernel_rfl) (by kernel_rfl) g229) g231 g232 fun b hR hb' => ⟨⟨b, rfl, hR⟩, hb'⟩

theorem vn22_s76 {Q : Exit → Act → World → Prop} {w0 : World} {xs : Nat → Value} (q17 q19 q21 : Nat) (hb17 : BoxOn w0 q17 0 0 ⟨#[]⟩) (hb19 : BoxOn w0 q19 0 0 ⟨#[]⟩) (hb21 : BoxOn w0 q21 0 0 ⟨#[]⟩) (wd : WdOn w0) (cA : CoalIs w0) (c0 : CallIs w0 0 0 ⟨#[]⟩ ⟨#[105, 102, 110, 117, 108, 108]⟩ [(0, 0, ⟨#[]⟩), (0, 0, ⟨#[]⟩)]) (c1 : CallIs w0 2 0 ⟨#[105, 110, 116, 101, 103, 101, 114]⟩ ⟨#[116, 121, 112, 101, 111, 102]⟩ [(1, 1, ⟨#[]⟩)]) (c2 : CallIs w0 1 3 ⟨#[]⟩ ⟨#[105, 110, 115, 116, 114]⟩ [(2, 0, ⟨#[97, 98, 99, 97, 98]⟩), (2, 0, ⟨#[99, 97]⟩)]) (c3 : CallIs w0 1 1 ⟨#[]⟩ ⟨#[105, 110, 115, 116, 114]⟩ [(2, 0, ⟨#[97]⟩), (2, 0, ⟨#[]⟩)]) (c4 : CallIs w0 1 0 ⟨#[]⟩ ⟨#[105, 110, 115, 116, 114]⟩ [(2, 0, ⟨#[]⟩), (2, 0, ⟨#[97]⟩)]) (c5 : CallIs w0 3 0 ⟨#[0]⟩ ⟨#[115, 117, 98, 115, 116, 114]⟩ [(3, 0, ⟨#[1, 0]⟩), (1, 2, ⟨#[]⟩)]) (c6 : CallIs w0 2 0 ⟨#[50, 51]⟩ ⟨#[115, 117, 98, 115, 116, 114]⟩ [(1, (-123), ⟨#[]⟩), (1, (-2), ⟨#[]⟩)]) (c7 : CallIs w0 2 0 ⟨#[65, 90, 91, 65, 123]⟩ ⟨#[117, 112, 112, 101, 114]⟩ [(2, 0, ⟨#[97, 122, 91, 97, 123]⟩)]) (hx17 : xs 17 = .pointer (some ⟨q17, 0, none⟩)) (hx19 : xs 19 = .pointer (some ⟨q19, 0, none⟩)) (hx21 : xs 21 = .pointer (some ⟨q21, 0, none⟩)) (hx18 : xs 18 = .int .i64 2) (hx20 : xs 20 = .int .i64 2) (hx22 : xs 22 = .int .i64 2) : OpStep Tryz.prog vn22Ops Q (vn22F q17 q19 q21) w0 245 xs 76 := by
  intro act w hb hk hF
  have g229 : act.eval (.tmp 229) = .bool true := hF 71 (of_decide_eq_true (by kernel_rfl)) 229 (by kernel_rfl)
  have g230 : act.eval (.tmp 230) = vv 2 0 ⟨#[50, 51]⟩ := hF 72 (of_decide_eq_true (by kernel_rfl)) 230 (by kernel_rfl)
  obtain ⟨b233, g233, hR233⟩ := (show IsL [(1, (-123), ⟨#[]⟩), (1, (-2), ⟨#[]⟩)] _ w from hF 75 (of_decide_eq_true (by kernel_rfl)) 233 (by kernel_rfl))
  exact step_call (f := 22) (xs := #[.tmp 230, .const (.string ⟨#[115, 117, 98, 115, 116, 114]⟩), .tmp 233]) (by kernel_rfl) (.told 71 true 229 (by kernel_rfl) (by kernel_rfl) g229) (map3 g230 rfl g233) (enters_of Tryz.func22 (by kernel_rfl) rfl) ((c6 w b233 hb hR233).mono fun e w' h => ⟨_, h.1, rfl, h.2⟩)

theorem vn22_s77 {Q : Exit → Act → World → Prop} {w0 : World} {xs : Nat → Value} (q17 q19 q21 : Nat) (hb17 : BoxOn w0 q17 0 0 ⟨#[]⟩) (hb19 : BoxOn w0 q19 0 0 ⟨#[]⟩) (hb21 : BoxOn w0 q21 0 0 ⟨#[]⟩) (wd : WdOn w0) (cA : CoalIs w0) (c0 : CallIs w0 0 0 ⟨#[]⟩ ⟨#[105, 102, 110, 117, 108, 108]⟩ [(0, 0, ⟨#[]⟩), (0, 0, ⟨#[]⟩)]) (c1 : CallIs w0 2 0 ⟨#[105, 110, 116, 101, 103, 101, 114]⟩ ⟨#[116, 121, 112, 101, 111, 102]⟩ [(1, 1, ⟨#[]⟩)]) (c2 : CallIs w0 1 3 ⟨#[]⟩ ⟨#[105, 110, 115, 116, 114]⟩ [(2, 0, ⟨#[97, 98, 99, 97, 98]⟩), (2, 0, ⟨#[99, 97]⟩)]) (c3 : CallIs w0 1 1 ⟨#[]⟩ ⟨#[105, 110, 115, 116, 114]⟩ [(2, 0, ⟨#[97]⟩), (2, 0, ⟨#[]⟩)]) (c4 : CallIs w0 1 0 ⟨#[]⟩ ⟨#[105, 110, 115, 116, 114]⟩ [(2, 0, ⟨#[]⟩), (2, 0, ⟨#[97]⟩)]) (c5 : CallIs w0 3 0 ⟨#[0]⟩ ⟨#[115, 117, 98, 115, 116, 114]⟩ [(3, 0, ⟨#[1, 0]⟩), (1, 2, ⟨#[]⟩)]) (c6 : CallIs w0 2 0 ⟨#[50, 51]⟩ ⟨#[115, 117, 98, 115, 116, 114]⟩ [(1, (-123), ⟨#[]⟩), (1, (-2), ⟨#[]⟩)]) (c7 : CallIs w0 2 0 ⟨#[65, 90, 91, 65, 123]⟩ ⟨#[117, 112, 112, 101, 114]⟩ [(2, 0, ⟨#[97, 122, 91, 97, 123]⟩)]) (hx17 : xs 17 = .pointer (some ⟨q17, 0, none⟩)) (hx19 : xs 19 = .pointer (some ⟨q19, 0, none⟩)) (hx21 : xs 21 = .pointer (some ⟨q21, 0, none⟩)) (hx18 : xs 18 = .int .i64 2) (hx20 : xs 20 = .int .i64 2) (hx22 : xs 22 = .int .i64 2) : OpStep Tryz.prog vn22Ops Q (vn22F q17 q19 q21) w0 245 xs 77 := by
  intro act w hb hk hF
  have g229 : act.eval (.tmp 229) = .bool true := hF 71 (of_decide_eq_true (by kernel_rfl)) 229 (by kernel_rfl)
  have g234 : act.eval (.tmp 234) = .bool true := hF 76 (of_decide_eq_true (by kernel_rfl)) 234 (by kernel_rfl)
  exact step_pickT (show opO vn22Ops 77 = some (.pick (.tmp 229) (.tmp 234) (.const (.bool false))) by kernel_rfl) (.free (by kernel_rfl)) g229 g234 ⟨rfl, Below.refl _ _⟩

theorem vn22_s78 {Q : Exit → Act → World → Prop} {w0 : World} {xs : Nat → Value} (q17 q19 q21 : Nat) (hb17 : BoxOn w0 q17 0 0 ⟨#[]⟩) (hb19 : BoxOn w0 q19 0 0 ⟨#[]⟩) (hb21 : BoxOn w0 q21 0 0 ⟨#[]⟩) (wd : WdOn w0) (cA : CoalIs w0) (c0 : CallIs w0 0 0 ⟨#[]⟩ ⟨#[105, 102, 110, 117, 108, 108]⟩ [(0, 0, ⟨#[]⟩), (0, 0, ⟨#[]⟩)]) (c1 : CallIs w0 2 0 ⟨#[105, 110, 116, 101, 103, 101, 114]⟩ ⟨#[116, 121, 112, 101, 111, 102]⟩ [(1, 1, ⟨#[]⟩)]) (c2 : CallIs w0 1 3 ⟨#[]⟩ ⟨#[105, 110, 115, 116, 114]⟩ [(2, 0, ⟨#[97, 98, 99, 97, 98]⟩), (2, 0, ⟨#[99, 97]⟩)]) (c3 : CallIs w0 1 1 ⟨#[]⟩ ⟨#[105, 110, 115, 116, 114]⟩ [(2, 0, ⟨#[97]⟩), (2, 0, ⟨#[]⟩)]) (c4 : CallIs w0 1 0 ⟨#[]⟩ ⟨#[105, 110, 115, 116, 114]⟩ [(2, 0, ⟨#[]⟩), (2, 0, ⟨#[97]⟩)]) (c5 : CallIs w0 3 0 ⟨#[0]⟩ ⟨#[115, 117, 98, 115, 116, 114]⟩ [(3, 0, ⟨#[1, 0]⟩), (1, 2, ⟨#[]⟩)]) (c6 : CallIs w0 2 0 ⟨#[50, 51]⟩ ⟨#[115, 117, 98, 115, 116, 114]⟩ [(1, (-123), ⟨#[]⟩), (1, (-2), ⟨#[]⟩)]) (c7 : CallIs w0 2 0 ⟨#[65, 90, 91, 65, 123]⟩ ⟨#[117, 112, 112, 101, 114]⟩ [(2, 0, ⟨#[97, 122, 91, 97, 123]⟩)]) (hx17 : xs 17 = .pointer (some ⟨q17, 0, none⟩)) (hx19 : xs 19 = .pointer (some ⟨q19, 0, none⟩)) (hx21 : xs 21 = .pointer (some ⟨q21, 0, none⟩)) (hx18 : xs 18 = .int .i64 2) (hx20 : xs 20 = .int .i64 2) (hx22 : xs 22 = .int .i64 2) : OpStep Tryz.prog vn22Ops Q (vn22F q17 q19 q21) w0 245 xs 78 := by
  intro act w hb hk hF
  have g235 : act.eval (.tmp 235) = .bool true := hF 77 (of_decide_eq_true (by kernel_rfl)) 235 (by kernel_rfl)
  exact step_move (show opO vn22Ops 78 = some (.move (.tmp 235)) by kernel_rfl) (.free (by kernel_rfl)) g235 ⟨rfl, Below.refl _ _⟩

theorem vn22_s79 {Q : Exit → Act → World → Prop} {w0 : World} {xs : Nat → Value} (q17 q19 q21 : Nat) (hb17 : BoxOn w0 q17 0 0 ⟨#[]⟩) (hb19 : BoxOn w0 q19 0 0 ⟨#[]⟩) (hb21 : BoxOn w0 q21 0 0 ⟨#[]⟩) (wd : WdOn w0) (cA : CoalIs w0) (c0 : CallIs w0 0 0 ⟨#[]⟩ ⟨#[105, 102, 110, 117, 108, 108]⟩ [(0, 0, ⟨#[]⟩), (0, 0, ⟨#[]⟩)]) (c1 : CallIs w0 2 0 ⟨#[105, 110, 116, 101, 103, 101, 114]⟩ ⟨#[116, 121, 112, 101, 111, 102]⟩ [(1, 1, ⟨#[]⟩)]) (c2 : CallIs w0 1 3 ⟨#[]⟩ ⟨#[105, 110, 115, 116, 114]⟩ [(2, 0, ⟨#[97, 98, 99, 97, 98]⟩), (2, 0, ⟨#[99, 97]⟩)]) (c3 : CallIs w0 1 1 ⟨#[]⟩ ⟨#[105, 110, 115, 116, 114]⟩ [(2, 0, ⟨#[97]⟩), (2, 0, ⟨#[]⟩)]) (c4 : CallIs w0 1 0 ⟨#[]⟩ ⟨#[105, 110, 115, 116, 114]⟩ [(2, 0, ⟨#[]⟩), (2, 0, ⟨#[97]⟩)]) (c5 : CallIs w0 3 0 ⟨#[0]⟩ ⟨#[115, 117, 98, 115, 116, 114]⟩ [(3, 0, ⟨#[1, 0]⟩), (1, 2, ⟨#[]⟩)]) (c6 : CallIs w0 2 0 ⟨#[50, 51]⟩ ⟨#[115, 117, 98, 115, 116, 114]⟩ [(1, (-123), ⟨#[]⟩), (1, (-2), ⟨#[]⟩)]) (c7 : CallIs w0 2 0 ⟨#[65, 90, 91, 65, 123]⟩ ⟨#[117, 112, 112, 101, 114]⟩ [(2, 0, ⟨#[97, 122, 91, 97, 123]⟩)]) (hx17 : xs 17 = .pointer (some ⟨q17, 0, none⟩)) (hx19 : xs 19 = .pointer (some ⟨q19, 0, none⟩)) (hx21 : xs 21 = .pointer (some ⟨q21, 0, none⟩)) (hx18 : xs 18 = .int .i64 2) (hx20 : xs 20 = .int .i64 2) (hx22 : xs 22 = .int .i64 2) : OpStep Tryz.prog vn22Ops Q (vn22F q17 q19 q21) w0 245 xs 79 := by
  intro act w hb hk hF
  have g236 : act.eval (.tmp 236) = .bool true := hF 78 (of_decide_eq_true (by kernel_rfl)) 236 (by kernel_rfl)
  exact step_call (f := 10) (xs := #[.const (.string ⟨#[65, 90, 91, 65, 123]⟩)]) (by kernel_rfl) (.told 78 true 236 (by kernel_rfl) (by kernel_rfl) g236) (map1 rfl) (enters_of Tryz.func10 (by kernel_rfl) rfl) ((text_any ⟨#[65, 90, 91, 65, 123]⟩ w).mono fun e w' h => ⟨_, h.1, rfl, h.2⟩)

theorem vn22_s80 {Q : Exit → Act → World → Prop} {w0 : World} {xs : Nat → Value} (q17 q19 q21 : Nat) (hb17 : BoxOn w0 q17 0 0 ⟨#[]⟩) (hb19 : BoxOn w0 q19 0 0 ⟨#[]⟩) (hb21 : BoxOn w0 q21 0 0 ⟨#[]⟩) (wd : WdOn w0) (cA : CoalIs w0) (c0 : CallIs w0 0 0 ⟨#[]⟩ ⟨#[105, 102, 110, 117, 108, 108]⟩ [(0, 0, ⟨#[]⟩), (0, 0, ⟨#[]⟩)]) (c1 : CallIs w0 2 0 ⟨#[105, 110, 116, 101, 103, 101, 114]⟩ ⟨#[116, 121, 112, 101, 111, 102]⟩ [(1, 1, ⟨#[]⟩)]) (c2 : CallIs w0 1 3 ⟨#[]⟩ ⟨#[105, 110, 115, 116, 114]⟩ [(2, 0, ⟨#[97, 98, 99, 97, 98]⟩), (2, 0, ⟨#[99, 97]⟩)]) (c3 : CallIs w0 1 1 ⟨#[]⟩ ⟨#[105, 110, 115, 116, 114]⟩ [(2, 0, ⟨#[97]⟩), (2, 0, ⟨#[]⟩)]) (c4 : CallIs w0 1 0 ⟨#[]⟩ ⟨#[105, 110, 115, 116, 114]⟩ [(2, 0, ⟨#[]⟩), (2, 0, ⟨#[97]⟩)]) (c5 : CallIs w0 3 0 ⟨#[0]⟩ ⟨#[115, 117, 98, 115, 116, 114]⟩ [(3, 0, ⟨#[1, 0]⟩), (1, 2, ⟨#[]⟩)]) (c6 : CallIs w0 2 0 ⟨#[50, 51]⟩ ⟨#[115, 117, 98, 115, 116, 114]⟩ [(1, (-123), ⟨#[]⟩), (1, (-2), ⟨#[]⟩)]) (c7 : CallIs w0 2 0 ⟨#[65, 90, 91, 65, 123]⟩ ⟨#[117, 112, 112, 101, 114]⟩ [(2, 0, ⟨#[97, 122, 91, 97, 123]⟩)]) (hx17 : xs 17 = .pointer (some ⟨q17, 0, none⟩)) (hx19 : xs 19 = .pointer (some ⟨q19, 0, none⟩)) (hx21 : xs 21 = .pointer (some ⟨q21, 0, none⟩)) (hx18 : xs 18 = .int .i64 2) (hx20 : xs 20 = .int .i64 2) (hx22 : xs 22 = .int .i64 2) : OpStep Tryz.prog vn22Ops Q (vn22F q17 q19 q21) w0 245 xs 80 := by
  intro act w hb hk hF
  have g236 : act.eval (.tmp 236) = .bool true := hF 78 (of_decide_eq_true (by kernel_rfl)) 236 (by kernel_rfl)
  exact step_call (f := 10) (xs := #[.const (.string ⟨#[97, 122, 91, 97, 123]⟩)]) (by kernel_rfl) (.told 78 true 236 (by kernel_rfl) (by kernel_rfl) g236) (map1 rfl) (enters_of Tryz.func10 (by kernel_rfl) rfl) ((text_any ⟨#[97, 122, 91, 97, 123]⟩ w).mono fun e w' h => ⟨_, h.1, rfl, h.2⟩)

theorem vn22_s81 {Q : Exit → Act → World → Prop} {w0 : World} {xs : Nat → Value} (q17 q19 q21 : Nat) (hb17 : BoxOn w0 q17 0 0 ⟨#[]⟩) (hb19 : BoxOn w0 q19 0 0 ⟨#[]⟩) (hb21 : BoxOn w0 q21 0 0 ⟨#[]⟩) (wd : WdOn w0) (cA : CoalIs w0) (c0 : CallIs w0 0 0 ⟨#[]⟩ ⟨#[105, 102, 110, 117, 108, 108]⟩ [(0, 0, ⟨#[]⟩), (0, 0, ⟨#[]⟩)]) (c1 : CallIs w0 2 0 ⟨#[105, 110, 116, 101, 103, 101, 114]⟩ ⟨#[116, 121, 112, 101, 111, 102]⟩ [(1, 1, ⟨#[]⟩)]) (c2 : CallIs w0 1 3 ⟨#[]⟩ ⟨#[105, 110, 115, 116, 114]⟩ [(2, 0, ⟨#[97, 98, 99, 97, 98]⟩), (2, 0, ⟨#[99, 97]⟩)]) (c3 : CallIs w0 1 1 ⟨#[]⟩ ⟨#[105, 110, 115, 116, 114]⟩ [(2, 0, ⟨#[97]⟩), (2, 0, ⟨#[]⟩)]) (c4 : CallIs w0 1 0 ⟨#[]⟩ ⟨#[105, 110, 115, 116, 114]⟩ [(2, 0, ⟨#[]⟩), (2, 0, ⟨#[97]⟩)]) (c5 : CallIs w0 3 0 ⟨#[0]⟩ ⟨#[115, 117, 98, 115, 116, 114]⟩ [(3, 0, ⟨#[1, 0]⟩), (1, 2, ⟨#[]⟩)]) (c6 : CallIs w0 2 0 ⟨#[50, 51]⟩ ⟨#[115, 117, 98, 115, 116, 114]⟩ [(1, (-123), ⟨#[]⟩), (1, (-2), ⟨#[]⟩)]) (c7 : CallIs w0 2 0 ⟨#[65, 90, 91, 65, 123]⟩ ⟨#[117, 112, 112, 101, 114]⟩ [(2, 0, ⟨#[97, 122, 91, 97, 123]⟩)]) (hx17 : xs 17 = .pointer (some ⟨q17, 0, none⟩)) (hx19 : xs 19 = .pointer (some ⟨q19, 0, none⟩)) (hx21 : xs 21 = .pointer (some ⟨q21, 0, none⟩)) (hx18 : xs 18 = .int .i64 2) (hx20 : xs 20 = .int .i64 2) (hx22 : xs 22 = .int .i64 2) : OpStep Tryz.prog vn22Ops Q (vn22F q17 q19 q21) w0 245 xs 81 := by
  intro act w hb hk hF
  have g236 : act.eval (.tmp 236) = .bool true := hF 78 (of_decide_eq_true (by kernel_rfl)) 236 (by kernel_rfl)
  have g238 : act.eval (.tmp 238) = vv 2 0 ⟨#[97, 122, 91, 97, 123]⟩ := hF 80 (of_decide_eq_true (by kernel_rfl)) 238 (by kernel_rfl)
  exact step_build1 (show opO vn22Ops 81 = some (.buildSlice 27 1 #[(0, .tmp 238)]) by kernel_rfl) (.told 78 true 236 (by kernel_rfl) (by kernel_rfl) g236) g238 fun b hR hb' => ⟨⟨b, rfl, hR⟩, hb'⟩

theorem vn22_s82 {Q : Exit → Act → World → Prop} {w0 : World} {xs : Nat → Value} (q17 q19 q21 : Nat) (hb17 : BoxOn w0 q17 0 0 ⟨#[]⟩) (hb19 : BoxOn w0 q19 0 0 ⟨#[]⟩) (hb21 : BoxOn w0 q21 0 0 ⟨#[]⟩) (wd : WdOn w0) (cA : CoalIs w0) (c0 : CallIs w0 0 0 ⟨#[]⟩ ⟨#[105, 102, 110, 117, 108, 108]⟩ [(0, 0, ⟨#[]⟩), (0, 0, ⟨#[]⟩)]) (c1 : CallIs w0 2 0 ⟨#[105, 110, 116, 101, 103, 101, 114]⟩ ⟨#[116, 121, 112, 101, 111, 102]⟩ [(1, 1, ⟨#[]⟩)]) (c2 : CallIs w0 1 3 ⟨#[]⟩ ⟨#[105, 110, 115, 116, 114]⟩ [(2, 0, ⟨#[97, 98, 99, 97, 98]⟩), (2, 0, ⟨#[99, 97]⟩)]) (c3 : CallIs w0 1 1 ⟨#[]⟩ ⟨#[105, 110, 115, 116, 114]⟩ [(2, 0, ⟨#[97]⟩), (2, 0, ⟨#[]⟩)]) (c4 : CallIs w0 1 0 ⟨#[]⟩ ⟨#[105, 110, 115, 116, 114]⟩ [(2, 0, ⟨#[]⟩), (2, 0, ⟨#[97]⟩)]) (c5 : CallIs w0 3 0 ⟨#[0]⟩ ⟨#[115, 117, 98, 115, 116, 114]⟩ [(3, 0, ⟨#[1, 0]⟩), (1, 2, ⟨#[]⟩)]) (c6 : CallIs w0 2 0 ⟨#[50, 51]⟩ ⟨#[115, 117, 98, 115, 116, 114]⟩ [(1, (-123), ⟨#[]⟩), (1, (-2), ⟨#[]⟩)]) (c7 : CallIs w0 2 0 ⟨#[65, 90, 91, 65, 123]⟩ ⟨#[117, 112, 112, 101, 114]⟩ [(2, 0, ⟨#[97, 122, 91, 97, 123]⟩)]) (hx17 : xs 17 = .pointer (some ⟨q17, 0, none⟩)) (hx19 : xs 19 = .pointer (some ⟨q19, 0, none⟩)) (hx21 : xs 21 = .pointer (some ⟨q21, 0, none⟩)) (hx18 : xs 18 = .int .i64 2) (hx20 : xs 20 = .int .i64 2) (hx22 : xs 22 = .int .i64 2) : OpStep Tryz.prog vn22Ops Q (vn22F q17 q19 q21) w0 245 xs 82 := by
  intro act w hb hk hF
  have g236 : act.eval (.tmp 236) = .bool true := hF 78 (of_decide_eq_true (by kernel_rfl)) 236 (by kernel_rfl)
  have g237 : act.eval (.tmp 237) = vv 2 0 ⟨#[65, 90, 91, 65, 123]⟩ := hF 79 (of_decide_eq_true (by kernel_rfl)) 237 (by kernel_rfl)
  obtain ⟨b239, g239, hR239⟩ := (show IsL [(2, 0, ⟨#[97, 122, 91, 97, 123]⟩)] _ w from hF 81 (of_decide_eq_true (by kernel_rfl)) 239 (by kernel_rfl))
  exact step_call (f := 22) (xs := #[.tmp 237, .const (.string ⟨#[117, 112, 112, 101, 114]⟩), .tmp 239]) (by kernel_rfl) (.told 78 true 236 (by kernel_rfl) (by kernel_rfl) g236) (map3 g237 rfl g239) (enters_of Tryz.func22 (by kernel_rfl) rfl) ((c7 w b239 hb hR239).mono fun e w' h => ⟨_, h.1, rfl, h.2⟩)

theorem vn22_s83 {Q : Exit → Act → World → Prop} {w0 : World} {xs : Nat → Value} (q17 q19 q21 : Nat) (hb17 : BoxOn w0 q17 0 0 ⟨#[]⟩) (hb19 : BoxOn w0 q19 0 0 ⟨#[]⟩) (hb21 : BoxOn w0 q21 0 0 ⟨#[]⟩) (wd : WdOn w0) (cA : CoalIs w0) (c0 : CallIs w0 0 0 ⟨#[]⟩ ⟨#[105, 102, 110, 117, 108, 108]⟩ [(0, 0, ⟨#[]⟩), (0, 0, ⟨#[]⟩)]) (c1 : CallIs w0 2 0 ⟨#[105, 110, 116, 101, 103, 101, 114]⟩ ⟨#[116, 121, 112, 101, 111, 102]⟩ [(1, 1, ⟨#[]⟩)]) (c2 : CallIs w0 1 3 ⟨#[]⟩ ⟨#[105, 110, 115, 116, 114]⟩ [(2, 0, ⟨#[97, 98, 99, 97, 98]⟩), (2, 0, ⟨#[99, 97]⟩)]) (c3 : CallIs w0 1 1 ⟨#[]⟩ ⟨#[105, 110, 115, 116, 114]⟩ [(2, 0, ⟨#[97]⟩), (2, 0, ⟨#[]⟩)]) (c4 : CallIs w0 1 0 ⟨#[]⟩ ⟨#[105, 110, 115, 116, 114]⟩ [(2, 0, ⟨#[]⟩), (2, 0, ⟨#[97]⟩)]) (c5 : CallIs w0 3 0 ⟨#[0]⟩ ⟨#[115, 117, 98, 115, 116, 114]⟩ [(3, 0, ⟨#[1, 0]⟩), (1, 2, ⟨#[]⟩)]) (c6 : CallIs w0 2 0 ⟨#[50, 51]⟩ ⟨#[115, 117, 98, 115, 116, 114]⟩ [(1, (-123), ⟨#[]⟩), (1, (-2), ⟨#[]⟩)]) (c7 : CallIs w0 2 0 ⟨#[65, 90, 91, 65, 123]⟩ ⟨#[117, 112, 112, 101, 114]⟩ [(2, 0, ⟨#[97, 122, 91, 97, 123]⟩)]) (hx17 : xs 17 = .pointer (some ⟨q17, 0, none⟩)) (hx19 : xs 19 = .pointer (some ⟨q19, 0, none⟩)) (hx21 : xs 21 = .pointer (some ⟨q21, 0, none⟩)) (hx18 : xs 18 = .int .i64 2) (hx20 : xs 20 = .int .i64 2) (hx22 : xs 22 = .int .i64 2) : OpStep Tryz.prog vn22Ops Q (vn22F q17 q19 q21) w0 245 xs 83 := by
  intro act w hb hk hF
  have g236 : act.eval (.tmp 236) = .bool true := hF 78 (of_decide_eq_true (by kernel_rfl)) 236 (by kernel_rfl)
  have g240 : act.eval (.tmp 240) = .bool true := hF 82 (of_decide_eq_true (by kernel_rfl)) 240 (by kernel_rfl)
  exact step_pickT (show opO vn22Ops 83 = some (.pick (.tmp 236) (.tmp 240) (.const (.bool false))) by kernel_rfl) (.free (by kernel_rfl)) g236 g240 ⟨rfl, Below.refl _ _⟩

theorem vn22_s84 {Q : Exit → Act → World → Prop} {w0 : World} {xs : Nat → Value} (q17 q19 q21 : Nat) (hb17 : BoxOn w0 q17 0 0 ⟨#[]⟩) (hb19 : BoxOn w0 q19 0 0 ⟨#[]⟩) (hb21 : BoxOn w0 q21 0 0 ⟨#[]⟩) (wd : WdOn w0) (cA : CoalIs w0) (c0 : CallIs w0 0 0 ⟨#[]⟩ ⟨#[105, 102, 110, 117, 108, 108]⟩ [(0, 0, ⟨#[]⟩), (0, 0, ⟨#[]⟩)]) (c1 : CallIs w0 2 0 ⟨#[105, 110, 116, 101, 103, 101, 114]⟩ ⟨#[116, 121, 112, 101, 111, 102]⟩ [(1, 1, ⟨#[]⟩)]) (c2 : CallIs w0 1 3 ⟨#[]⟩ ⟨#[105, 110, 115, 116, 114]⟩ [(2, 0, ⟨#[97, 98, 99, 97, 98]⟩), (2, 0, ⟨#[99, 97]⟩)]) (c3 : CallIs w0 1 1 ⟨#[]⟩ ⟨#[105, 110, 115, 116, 114]⟩ [(2, 0, ⟨#[97]⟩), (2, 0, ⟨#[]⟩)]) (c4 : CallIs w0 1 0 ⟨#[]⟩ ⟨#[105, 110, 115, 116, 114]⟩ [(2, 0, ⟨#[]⟩), (2, 0, ⟨#[97]⟩)]) (c5 : CallIs w0 3 0 ⟨#[0]⟩ ⟨#[115, 117, 98, 115, 116, 114]⟩ [(3, 0, ⟨#[1, 0]⟩), (1, 2, ⟨#[]⟩)]) (c6 : CallIs w0 2 0 ⟨#[50, 51]⟩ ⟨#[115, 117, 98, 115, 116, 114]⟩ [(1, (-123), ⟨#[]⟩), (1, (-2), ⟨#[]⟩)]) (c7 : CallIs w0 2 0 ⟨#[65, 90, 91, 65, 123]⟩ ⟨#[117, 112, 112, 101, 114]⟩ [(2, 0, ⟨#[97, 122, 91, 97, 123]⟩)]) (hx17 : xs 17 = .pointer (some ⟨q17, 0, none⟩)) (hx19 : xs 19 = .pointer (some ⟨q19, 0, none⟩)) (hx21 : xs 21 = .pointer (some ⟨q21, 0, none⟩)) (hx18 : xs 18 = .int .i64 2) (hx20 : xs 20 = .int .i64 2) (hx22 : xs 22 = .int .i64 2) : OpStep Tryz.prog vn22Ops Q (vn22F q17 q19 q21) w0 245 xs 84 := by
  intro act w hb hk hF
  have g241 : act.eval (.tmp 241) = .bool true := hF 83 (of_decide_eq_true (by kernel_rfl)) 241 (by kernel_rfl)
  exact step_move (show opO vn22Ops 84 = some (.move (.tmp 241)) by kernel_rfl) (.free (by kernel_rfl)) g241 ⟨rfl, Below.refl _ _⟩

theorem vn22_s85 {Q : Exit → Act → World → Prop} {w0 : World} {xs : Nat → Value} (q17 q19 q21 : Nat) (hb17 : BoxOn w0 q17 0 0 ⟨#[]⟩) (hb19 : BoxOn w0 q19 0 0 ⟨#[]⟩) (hb21 : BoxOn w0 q21 0 0 ⟨#[]⟩) (wd : WdOn w0) (cA : CoalIs w0) (c0 : CallIs w0 0 0 ⟨#[]⟩ ⟨#[105, 102, 110, 117, 108, 108]⟩ [(0, 0, ⟨#[]⟩), (0, 0, ⟨#[]⟩)]) (c1 : CallIs w0 2 0 ⟨#[105, 110, 116, 101, 103, 101, 114]⟩ ⟨#[116, 121, 112, 101, 111, 102]⟩ [(1, 1, ⟨#[]⟩)]) (c2 : CallIs w0 1 3 ⟨#[]⟩ ⟨#[105, 110, 115, 116, 114]⟩ [(2, 0, ⟨#[97, 98, 99, 97, 98]⟩), (2, 0, ⟨#[99, 97]⟩)]) (c3 : CallIs w0 1 1 ⟨#[]⟩ ⟨#[105, 110, 115, 116, 114]⟩ [(2, 0, ⟨#[97]⟩), (2, 0, ⟨#[]⟩)]) (c4 : CallIs w0 1 0 ⟨#[]⟩ ⟨#[105, 110, 115, 116, 114]⟩ [(2, 0, ⟨#[]⟩), (2, 0, ⟨#[97]⟩)]) (c5 : CallIs w0 3 0 ⟨#[0]⟩ ⟨#[115, 117, 98, 115, 116, 114]⟩ [(3, 0, ⟨#[1, 0]⟩), (1, 2, ⟨#[]⟩)]) (c6 : CallIs w0 2 0 ⟨#[50, 51]⟩ ⟨#[115, 117, 98, 115, 116, 114]⟩ [(1, (-123), ⟨#[]⟩), (1, (-2), ⟨#[]⟩)]) (c7 : CallIs w0 2 0 ⟨#[65, 90, 91, 65, 123]⟩ ⟨#[117, 112, 112, 101, 114]⟩ [(2, 0, ⟨#[97, 122, 91, 97, 123]⟩)]) (hx17 : xs 17 = .pointer (some ⟨q17, 0, none⟩)) (hx19 : xs 19 = .pointer (some ⟨q19, 0, none⟩)) (hx21 : xs 21 = .pointer (some ⟨q21, 0, none⟩)) (hx18 : xs 18 = .int .i64 2) (hx20 : xs 20 = .int .i64 2) (hx22 : xs 22 = .int .i64 2) : OpStep Tryz.prog vn22Ops Q (vn22F q17 q19 q21) w0 245 xs 85 := by
  intro act w hb hk hF
  have g242 : act.eval (.tmp 242) = .bool true := hF 84 (of_decide_eq_true (by kernel_rfl)) 242 (by kernel_rfl)
  exact step_call (f := 24) (xs := #[]) (by kernel_rfl) (.told 84 true 242 (by kernel_rfl) (by kernel_rfl) g242) (map0 _) (enters_of Tryz.func24 (by kernel_rfl) rfl) ((awake_any w (wd w hb)).mono fun e w' h => ⟨_, h.1, rfl, h.2⟩)

theorem vn22_s86 {Q : Exit → Act → World → Prop} {w0 : World} {xs : Nat → Value} (q17 q19 q21 : Nat) (hb17 : BoxOn w0 q17 0 0 ⟨#[]⟩) (hb19 : BoxOn w0 q19 0 0 ⟨#[]⟩) (hb21 : BoxOn w0 q21 0 0 ⟨#[]⟩) (wd : WdOn w0) (cA : CoalIs w0) (c0 : CallIs w0 0 0 ⟨#[]⟩ ⟨#[105, 102, 110, 117, 108, 108]⟩ [(0, 0, ⟨#[]⟩), (0, 0, ⟨#[]⟩)]) (c1 : CallIs w0 2 0 ⟨#[105, 110, 116, 101, 103, 101, 114]⟩ ⟨#[116, 121, 112, 101, 111, 102]⟩ [(1, 1, ⟨#[]⟩)]) (c2 : CallIs w0 1 3 ⟨#[]⟩ ⟨#[105, 110, 115, 116, 114]⟩ [(2, 0, ⟨#[97, 98, 99, 97, 98]⟩), (2, 0, ⟨#[99, 97]⟩)]) (c3 : CallIs w0 1 1 ⟨#[]⟩ ⟨#[105, 110, 115, 116, 114]⟩ [(2, 0, ⟨#[97]⟩), (2, 0, ⟨#[]⟩)]) (c4 : CallIs w0 1 0 ⟨#[]⟩ ⟨#[105, 110, 115, 116, 114]⟩ [(2, 0, ⟨#[]⟩), (2, 0, ⟨#[97]⟩)]) (c5 : CallIs w0 3 0 ⟨#[0]⟩ ⟨#[115, 117, 98, 115, 116, 114]⟩ [(3, 0, ⟨#[1, 0]⟩), (1, 2, ⟨#[]⟩)]) (c6 : CallIs w0 2 0 ⟨#[50, 51]⟩ ⟨#[115, 117, 98, 115, 116, 114]⟩ [(1, (-123), ⟨#[]⟩), (1, (-2), ⟨#[]⟩)]) (c7 : CallIs w0 2 0 ⟨#[65, 90, 91, 65, 123]⟩ ⟨#[117, 112, 112, 101, 114]⟩ [(2, 0, ⟨#[97, 122, 91, 97, 123]⟩)]) (hx17 : xs 17 = .pointer (some ⟨q17, 0, none⟩)) (hx19 : xs 19 = .pointer (some ⟨q19, 0, none⟩)) (hx21 : xs 21 = .pointer (some ⟨q21, 0, none⟩)) (hx18 : xs 18 = .int .i64 2) (hx20 : xs 20 = .int .i64 2) (hx22 : xs 22 = .int .i64 2) : OpStep Tryz.prog vn22Ops Q (vn22F q17 q19 q21) w0 245 xs 86 := by
  intro act w hb hk hF
  have g242 : act.eval (.tmp 242) = .bool true := hF 84 (of_decide_eq_true (by kernel_rfl)) 242 (by kernel_rfl)
  have g243 : act.eval (.tmp 243) = .bool true := hF 85 (of_decide_eq_true (by kernel_rfl)) 243 (by kernel_rfl)
  exact step_pickT (show opO vn22Ops 86 = some (.pick (.tmp 242) (.tmp 243) (.const (.bool false))) by kernel_rfl) (.free (by kernel_rfl)) g242 g243 ⟨rfl, Below.refl _ _⟩

theorem vn22_s87 {Q : Exit → Act → World → Prop} {w0 : World} {xs : Nat → Value} (q17 q19 q21 : Nat) (hb17 : BoxOn w0 q17 0 0 ⟨#[]⟩) (hb19 : BoxOn w0 q19 0 0 ⟨#[]⟩) (hb21 : BoxOn w0 q21 0 0 ⟨#[]⟩) (wd : WdOn w0) (cA : CoalIs w0) (c0 : CallIs w0 0 0 ⟨#[]⟩ ⟨#[105, 102, 110, 117, 108, 108]⟩ [(0, 0, ⟨#[]⟩), (0, 0, ⟨#[]⟩)]) (c1 : CallIs w0 2 0 ⟨#[105, 110, 116, 101, 103, 101, 114]⟩ ⟨#[116, 121, 112, 101, 111, 102]⟩ [(1, 1, ⟨#[]⟩)]) (c2 : CallIs w0 1 3 ⟨#[]⟩ ⟨#[105, 110, 115, 116, 114]⟩ [(2, 0, ⟨#[97, 98, 99, 97, 98]⟩), (2, 0, ⟨#[99, 97]⟩)]) (c3 : CallIs w0 1 1 ⟨#[]⟩ ⟨#[105, 110, 115, 116, 114]⟩ [(2, 0, ⟨#[97]⟩), (2, 0, ⟨#[]⟩)]) (c4 : CallIs w0 1 0 ⟨#[]⟩ ⟨#[105, 110, 115, 116, 114]⟩ [(2, 0, ⟨#[]⟩), (2, 0, ⟨#[97]⟩)]) (c5 : CallIs w0 3 0 ⟨#[0]⟩ ⟨#[115, 117, 98, 115, 116, 114]⟩ [(3, 0, ⟨#[1, 0]⟩), (1, 2, ⟨#[]⟩)]) (c6 : CallIs w0 2 0 ⟨#[50, 51]⟩ ⟨#[115, 117, 98, 115, 116, 114]⟩ [(1, (-123), ⟨#[]⟩), (1, (-2), ⟨#[]⟩)]) (c7 : CallIs w0 2 0 ⟨#[65, 90, 91, 65, 123]⟩ ⟨#[117, 112, 112, 101, 114]⟩ [(2, 0, ⟨#[97, 122, 91, 97, 123]⟩)]) (hx17 : xs 17 = .pointer (some ⟨q17, 0, none⟩)) (hx19 : xs 19 = .pointer (some ⟨q19, 0, none⟩)) (hx21 : xs 21 = .pointer (some ⟨q21, 0, none⟩)) (hx18 : xs 18 = .int .i64 2) (hx20 : xs 20 = .int .i64 2) (hx22 : xs 22 = .int .i64 2) : OpStep Tryz.prog vn22Ops Q (vn22F q17 q19 q21) w0 245 xs 87 := by
  intro act w hb hk hF
  have g244 : act.eval (.tmp 244) = .bool true := hF 86 (of_decide_eq_true (by kernel_rfl)) 244 (by kernel_rfl)
  exact step_assign (show opO vn22Ops 87 = some (.assign (.tmp 244)) by kernel_rfl) (.free (by kernel_rfl)) g244 ⟨rfl, Below.refl _ _⟩

theorem vn22 {bb : Bool} {Q : Exit → Act → World → Prop} {a0 : Act} {w0 : World} (q17 q19 q21 : Nat) (hb17 : BoxOn w0 q17 0 0 ⟨#[]⟩) (hb19 : BoxOn w0 q19 0 0 ⟨#[]⟩) (hb21 : BoxOn w0 q21 0 0 ⟨#[]⟩) (wd : WdOn w0) (cA : CoalIs w0) (c0 : CallIs w0 0 0 ⟨#[]⟩ ⟨#[105, 102, 110, 117, 108, 108]⟩ [(0, 0, ⟨#[]⟩), (0, 0, ⟨#[]⟩)]) (c1 : CallIs w0 2 0 ⟨#[105, 110, 116, 101, 103, 101, 114]⟩ ⟨#[116, 121, 112, 101, 111, 102]⟩ [(1, 1, ⟨#[]⟩)]) (c2 : CallIs w0 1 3 ⟨#[]⟩ ⟨#[105, 110, 115, 116, 114]⟩ [(2, 0, ⟨#[97, 98, 99, 97, 98]⟩), (2, 0, ⟨#[99, 97]⟩)]) (c3 : CallIs w0 1 1 ⟨#[]⟩ ⟨#[105, 110, 115, 116, 114]⟩ [(2, 0, ⟨#[97]⟩), (2, 0, ⟨#[]⟩)]) (c4 : CallIs w0 1 0 ⟨#[]⟩ ⟨#[105, 110, 115, 116, 114]⟩ [(2, 0, ⟨#[]⟩), (2, 0, ⟨#[97]⟩)]) (c5 : CallIs w0 3 0 ⟨#[0]⟩ ⟨#[115, 117, 98, 115, 116, 114]⟩ [(3, 0, ⟨#[1, 0]⟩), (1, 2, ⟨#[]⟩)]) (c6 : CallIs w0 2 0 ⟨#[50, 51]⟩ ⟨#[115, 117, 98, 115, 116, 114]⟩ [(1, (-123), ⟨#[]⟩), (1, (-2), ⟨#[]⟩)]) (c7 : CallIs w0 2 0 ⟨#[65, 90, 91, 65, 123]⟩ ⟨#[117, 112, 112, 101, 114]⟩ [(2, 0, ⟨#[97, 122, 91, 97, 123]⟩)]) (hx17 : a0.tmps.getD 17 undef = .pointer (some ⟨q17, 0, none⟩)) (hx19 : a0.tmps.getD 19 undef = .pointer (some ⟨q19, 0, none⟩)) (hx21 : a0.tmps.getD 21 undef = .pointer (some ⟨q21, 0, none⟩)) (hx18 : a0.tmps.getD 18 undef = .int .i64 2) (hx20 : a0.tmps.getD 20 undef = .int .i64 2) (hx22 : a0.tmps.getD 22 undef = .int .i64 2) (hs : a0.tmps.size = 245)
    (hend : ∀ (V : Nat → Value) (X : World), Below w0.heap.size w0 X → V 87 = .bool true → Q .normal ⟨fillT vn22Ops a0.tmps V, a0.defers⟩ X) : (Code.region 22 vn22Ops bb).wp Tryz.prog Q a0 w0 := by
  refine wp_region_both (by kernel_rfl) (vn22F q17 q19 q21) (vn22F_mono q17 q19 q21) (by rw [hs]; kernel_rfl) ?_ ?_
  · rw [hs]
    have size_is : vn22Ops.size = 88 := by kernel_rfl
    rw [size_is]
    have u1 : ∀ i, i < 1 → OpStep Tryz.prog vn22Ops Q (vn22F q17 q19 q21) w0 245 (fun t => a0.tmps.getD t undef) i := upto_succ upto_zero (vn22_s0 q17 q19 q21 hb17 hb19 hb21 wd cA c0 c1 c2 c3 c4 c5 c6 c7 hx17 hx19 hx21 hx18 hx20 hx22)
    have u2 : ∀ i, i < 2 → OpStep Tryz.prog vn22Ops Q (vn22F q17 q19 q21) w0 245 (fun t => a0.tmps.getD t undef) i := upto_succ u1 (vn22_s1 q17 q19 q21 hb17 hb19 hb21 wd cA c0 c1 c2 c3 c4 c5 c6 c7 hx17 hx19 hx21 hx18 hx20 hx22)
    have u3 : ∀ i, i < 3 → OpStep Tryz.prog vn22Ops Q (vn22F q17 q19 q21) w0 245 (fun t => a0.tmps.getD t undef) i := upto_succ u2 (vn22_s2 q17 q19 q21 hb17 hb19 hb21 wd cA c0 c1 c2 c3 c4 c5 c6 c7 hx17 hx19 hx21 hx18 hx20 hx22)
    have u4 : ∀ i, i < 4 → OpStep Tryz.prog vn22Ops Q (vn22F q17 q19 q21) w0 245 (fun t => a0.tmps.getD t undef) i := upto_succ u3 (vn22_s3 q17 q19 q21 hb17 hb19 hb21 wd cA c0 c1 c2 c3 c4 c5 c6 c7 hx17 hx19 hx21 hx18 hx20 hx22)
    have u5 : ∀ i, i < 5 → OpStep Tryz.prog vn22Ops Q (vn22F q17 q19 q21) w0 245 (fun t => a0.tmps.getD t undef) i := upto_succ u4 (vn22_s4 q17 q19 q21 hb17 hb19 hb21 wd cA c0 c1 c2 c3 c4 c5 c6 c7 hx17 hx19 hx21 hx18 hx20 hx22)
    have u6 : ∀ i, i < 6 → OpStep Tryz.prog vn22Ops Q (vn22F q17 q19 q21) w0 245 (fun t => a0.tmps.getD t undef) i := upto_succ u5 (vn22_s5 q17 q19 q21 hb17 hb19 hb21 wd cA c0 c1 c2 c3 c4 c5 c6 c7 hx17 hx19 hx21 hx18 hx20 hx22)
    have u7 : ∀ i, i < 7 → OpStep Tryz.prog vn22Ops Q (vn22F q17 q19 q21) w0 245 (fun t => a0.tmps.getD t undef) i := upto_succ u6 (vn22_s6 q17 q19 q21 hb17 hb19 hb21 wd cA c0 c1 c2 c3 c4 c5 c6 c7 hx17 hx19 hx21 hx18 hx20 hx22)
    have u8 : ∀ i, i < 8 → OpStep Tryz.prog vn22Ops Q (vn22F q17 q19 q21) w0 245 (fun t => a0.tmps.getD t undef) i := upto_succ u7 (vn22_s7 q17 q19 q21 hb17 hb19 hb21 wd cA c0 c1 c2 c3 c4 c5 c6 c7 hx17 hx19 hx21 hx18 hx20 hx22)
    have u9 : ∀ i, i < 9 → OpStep Tryz.prog vn22Ops Q (vn22F q17 q19 q21) w0 245 (fun t => a0.tmps.getD t undef) i := upto_succ u8 (vn22_s8 q17 q19 q21 hb17 hb19 hb21 wd cA c0 c1 c2 c3 c4 c5 c6 c7 hx17 hx19 hx21 hx18 hx20 hx22)
    have u10 : ∀ i, i < 10 → OpStep Tryz.prog vn22Ops Q (vn22F q17 q19 q21) w0 245 (fun t => a0.tmps.getD t undef) i := upto_succ u9 (vn22_s9 q17 q19 q21 hb17 hb19 hb21 wd cA c0 c1 c2 c3 c4 c5 c6 c7 hx17 hx19 hx21 hx18 hx20 hx22)
    have u11 : ∀ i, i < 11 → OpStep Tryz.prog vn22Ops Q (vn22F q17 q19 q21) w0 245 (fun t => a0.tmps.getD t undef) i := upto_succ u10 (vn22_s10 q17 q19 q21 hb17 hb19 hb21 wd cA c0 c1 c2 c3 c4 c5 c6 c7 hx17 hx19 hx21 hx18 hx20 hx22)
    have u12 : ∀ i, i < 12 → OpStep Tryz.prog vn22Ops Q (vn22F q17 q19 q21) w0 245 (fun t => a0.tmps.getD t undef) i := upto_succ u11 (vn22_s11 q17 q19 q21 hb17 hb19 hb21 wd cA c0 c1 c2 c3 c4 c5 c6 c7 hx17 hx19 hx21 hx18 hx20 hx22)
    have u13 : ∀ i, i < 13 → OpStep Tryz.prog vn22Ops Q (vn22F q17 q19 q21) w0 245 (fun t => a0.tmps.getD t undef) i := upto_succ u12 (vn22_s12 q17 q19 q21 hb17 hb19 hb21 wd cA c0 c1 c2 c3 c4 c5 c6 c7 hx17 hx19 hx21 hx18 hx20 hx22)
    have u14 : ∀ i, i < 14 → OpStep Tryz.prog vn22Ops Q (vn22F q17 q19 q21) w0 245 (fun t => a0.tmps.getD t undef) i := upto_succ u13 (vn22_s13 q17 q19 q21 hb17 hb19 hb21 wd cA c0 c1 c2 c3 c4 c5 c6 c7 hx17 hx19 hx21 hx18 hx20 hx22)
    have u15 : ∀ i, i < 15 → OpStep Tryz.prog vn22Ops Q (vn22F q17 q19 q21) w0 245 (fun t => a0.tmps.getD t undef) i := upto_succ u14 (vn22_s14 q17 q19 q21 hb17 hb19 hb21 wd cA c0 c1 c2 c3 c4 c5 c6 c7 hx17 hx19 hx21 hx18 hx20 hx22)
    have u16 : ∀ i, i < 16 → OpStep Tryz.prog vn22Ops Q (vn22F q17 q19 q21) w0 245 (fun t => a0.tmps.getD t undef) i := upto_succ u15 (vn22_s15 q17 q19 q21 hb17 hb19 hb21 wd cA c0 c1 c2 c3 c4 c5 c6 c7 hx17 hx19 hx21 hx18 hx20 hx22)
    have u17 : ∀ i, i < 17 → OpStep Tryz.prog vn22Ops Q (vn22F q17 q19 q21) w0 245 (fun t => a0.tmps.getD t undef) i := upto_succ u16 (vn22_s16 q17 q19 q21 hb17 hb19 hb21 wd cA c0 c1 c2 c3 c4 c5 c6 c7 hx17 hx19 hx21 hx18 hx20 hx22)
    have u18 : ∀ i, i < 18 → OpStep Tryz.prog vn22Ops Q (vn22F q17 q19 q21) w0 245 (fun t => a0.tmps.getD t undef) i := upto_succ u17 (vn22_s17 q17 q19 q21 hb17 hb19 hb21 wd cA c0 c1 c2 c3 c4 c5 c6 c7 hx17 hx19 hx21 hx18 hx20 hx22)
    have u19 : ∀ i, i < 19 → OpStep Tryz.prog vn22Ops Q (vn22F q17 q19 q21) w0 245 (fun t => a0.tmps.getD t undef) i := upto_succ u18 (vn22_s18 q17 q19 q21 hb17 hb19 hb21 wd cA c0 c1 c2 c3 c4 c5 c6 c7 hx17 hx19 hx21 hx18 hx20 hx22)
    have u20 : ∀ i, i < 20 → OpStep Tryz.prog vn22Ops Q (vn22F q17 q19 q21) w0 245 (fun t => a0.tmps.getD t undef) i := upto_succ u19 (vn22_s19 q17 q19 q21 hb17 hb19 hb21 wd cA c0 c1 c2 c3 c4 c5 c6 c7 hx17 hx19 hx21 hx18 hx20 hx22)
    have u21 : ∀ i, i < 21 → OpStep Tryz.prog vn22Ops Q (vn22F q17 q19 q21) w0 245 (fun t => a0.tmps.getD t undef) i := upto_succ u20 (vn22_s20 q17 q19 q21 hb17 hb19 hb21 wd cA c0 c1 c2 c3 c4 c5 c6 c7 hx17 hx19 hx21 hx18 hx20 hx22)
    have u22 : ∀ i, i < 22 → OpStep Tryz.prog vn22Ops Q (vn22F q17 q19 q21) w0 245 (fun t => a0.tmps.getD t undef) i := upto_succ u21 (vn22_s21 q17 q19 q21 hb17 hb19 hb21 wd cA c0 c1 c2 c3 c4 c5 c6 c7 hx17 hx19 hx21 hx18 hx20 hx22)
    have u23 : ∀ i, i < 23 → OpStep Tryz.prog vn22Ops Q (vn22F q17 q19 q21) w0 245 (fun t => a0.tmps.getD t undef) i := upto_succ u22 (vn22_s22 q17 q19 q21 hb17 hb19 hb21 wd cA c0 c1 c2 c3 c4 c5 c6 c7 hx17 hx19 hx21 hx18 hx20 hx22)
    have u24 : ∀ i, i < 24 → OpStep Tryz.prog vn22Ops Q (vn22F q17 q19 q21) w0 245 (fun t => a0.tmps.getD t undef) i := upto_succ u23 (vn22_s23 q17 q19 q21 hb17 hb19 hb21 wd cA c0 c1 c2 c3 c4 c5 c6 c7 hx17 hx19 hx21 hx18 hx20 hx22)
    have u25 : ∀ i, i < 25 → OpStep Tryz.prog vn22Ops Q (vn22F q17 q19 q21) w0 245 (fun t => a0.tmps.getD t undef) i := upto_succ u24 (vn22_s24 q17 q19 q21 hb17 hb19 hb21 wd cA c0 c1 c2 c3 c4 c5 c6 c7 hx17 hx19 hx21 hx18 hx20 hx22)
    have u26 : ∀ i, i < 26 → OpStep Tryz.prog vn22Ops Q (vn22F q17 q19 q21) w0 245 (fun t => a0.tmps.getD t undef) i := upto_succ u25 (vn22_s25 q17 q19 q21 hb17 hb19 hb21 wd cA c0 c1 c2 c3 c4 c5 c6 c7 hx17 hx19 hx21 hx18 hx20 hx22)
    have u27 : ∀ i, i < 27 → OpStep Tryz.prog vn22Ops Q (vn22F q17 q19 q21) w0 245 (fun t => a0.tmps.getD t undef) i := upto_succ u26 (vn22_s26 q17 q19 q21 hb17 hb19 hb21 wd cA c0 c1 c2 c3 c4 c5 c6 c7 hx17 hx19 hx21 hx18 hx20 hx22)
    have u28 : ∀ i, i < 28 → OpStep Tryz.prog vn22Ops Q (vn22F q17 q19 q21) w0 245 (fun t => a0.tmps.getD t undef) i := upto_succ u27 (vn22_s27 q17 q19 q21 hb17 hb19 hb21 wd cA c0 c1 c2 c3 c4 c5 c6 c7 hx17 hx19 hx21 hx18 hx20 hx22)
    have u29 : ∀ i, i < 29 → OpStep Tryz.prog vn22Ops Q (vn22F q17 q19 q21) w0 245 (fun t => a0.tmps.getD t undef) i := upto_succ u28 (vn22_s28 q17 q19 q21 hb17 hb19 hb21 wd cA c0 c1 c2 c3 c4 c5 c6 c7 hx17 hx19 hx21 hx18 hx20 hx22)
    have u30 : ∀ i, i < 30 → OpStep Tryz.prog vn22Ops Q (vn22F q17 q19 q21) w0 245 (fun t => a0.tmps.getD t undef) i := upto_succ u29 (vn22_s29 q17 q19 q21 hb17 hb19 hb21 wd cA c0 c1 c2 c3 c4 c5 c6 c7 hx17 hx19 hx21 hx18 hx20 hx22)
    have u31 : ∀ i, i < 31 → OpStep Tryz.prog vn22Ops Q (vn22F q17 q19 q21) w0 245 (fun t => a0.tmps.getD t undef) i := upto_succ u30 (vn22_s30 q17 q19 q21 hb17 hb19 hb21 wd cA c0 c1 c2 c3 c4 c5 c6 c7 hx17 hx19 hx21 hx18 hx20 hx22)
    have u32 : ∀ i, i < 32 → OpStep Tryz.prog vn22Ops Q (vn22F q17 q19 q21) w0 245 (fun t => a0.tmps.getD t undef) i := upto_succ u31 (vn22_s31 q17 q19 q21 hb17 hb19 hb21 wd cA c0 c1 c2 c3 c4 c5 c6 c7 hx17 hx19 hx21 hx18 hx20 hx22)
    have u33 : ∀ i, i < 33 → OpStep Tryz.prog vn22Ops Q (vn22F q17 q19 q21) w0 245 (fun t => a0.tmps.getD t undef) i := upto_succ u32 (vn22_s32 q17 q19 q21 hb17 hb19 hb21 wd cA c0 c1 c2 c3 c4 c5 c6 c7 hx17 hx19 hx21 hx18 hx20 hx22)
    have u34 : ∀ i, i < 34 → OpStep Tryz.prog vn22Ops Q (vn22F q17 q19 q21) w0 245 (fun t => a0.tmps.getD t undef) i := upto_succ u33 (vn22_s33 q17 q19 q21 hb17 hb19 hb21 wd cA c0 c1 c2 c3 c4 c5 c6 c7 hx17 hx19 hx21 hx18 hx20 hx22)
    have u35 : ∀ i, i < 35 → OpStep Tryz.prog vn22Ops Q (vn22F q17 q19 q21) w0 245 (fun t => a0.tmps.getD t undef) i := upto_succ u34 (vn22_s34 q17 q19 q21 hb17 hb19 hb21 wd cA c0 c1 c2 c3 c4 c5 c6 c7 hx17 hx19 hx21 hx18 hx20 hx22)
    have u36 : ∀ i, i < 36 → OpStep Tryz.prog vn22Ops Q (vn22F q17 q19 q21) w0 245 (fun t => a0.tmps.getD t undef) i := upto_succ u35 (vn22_s35 q17 q19 q21 hb17 hb19 hb21 wd cA c0 c1 c2 c3 c4 c5 c6 c7 hx17 hx19 hx21 hx18 hx20 hx22)
    have u37 : ∀ i, i < 37 → OpStep Tryz.prog vn22Ops Q (vn22F q17 q19 q21) w0 245 (fun t => a0.tmps.getD t undef) i := upto_succ u36 (vn22_s36 q17 q19 q21 hb17 hb19 hb21 wd cA c0 c1 c2 c3 c4 c5 c6 c7 hx17 hx19 hx21 hx18 hx20 hx22)
    have u38 : ∀ i, i < 38 → OpStep Tryz.prog vn22Ops Q (vn22F q17 q19 q21) w0 245 (fun t => a0.tmps.getD t undef) i := upto_succ u37 (vn22_s37 q17 q19 q21 hb17 hb19 hb21 wd cA c0 c1 c2 c3 c4 c5 c6 c7 hx17 hx19 hx21 hx18 hx20 hx22)
    have u39 : ∀ i, i < 39 → OpStep Tryz.prog vn22Ops Q (vn22F q17 q19 q21) w0 245 (fun t => a0.tmps.getD t undef) i := upto_succ u38 (vn22_s38 q17 q19 q21 hb17 hb19 hb21 wd cA c0 c1 c2 c3 c4 c5 c6 c7 hx17 hx19 hx21 hx18 hx20 hx22)
    have u40 : ∀ i, i < 40 → OpStep Tryz.prog vn22Ops Q (vn22F q17 q19 q21) w0 245 (fun t => a0.tmps.getD t undef) i := upto_succ u39 (vn22_s39 q17 q19 q21 hb17 hb19 hb21 wd cA c0 c1 c2 c3 c4 c5 c6 c7 hx17 hx19 hx21 hx18 hx20 hx22)
    have u41 : ∀ i, i < 41 → OpStep Tryz.prog vn22Ops Q (vn22F q17 q19 q21) w0 245 (fun t => a0.tmps.getD t undef) i := upto_succ u40 (vn22_s40 q17 q19 q21 hb17 hb19 hb21 wd cA c0 c1 c2 c3 c4 c5 c6 c7 hx17 hx19 hx21 hx18 hx20 hx22)
    have u42 : ∀ i, i < 42 → OpStep Tryz.prog vn22Ops Q (vn22F q17 q19 q21) w0 245 (fun t => a0.tmps.getD t undef) i := upto_succ u41 (vn22_s41 q17 q19 q21 hb17 hb19 hb21 wd cA c0 c1 c2 c3 c4 c5 c6 c7 hx17 hx19 hx21 hx18 hx20 hx22)
    have u43 : ∀ i, i < 43 → OpStep Tryz.prog vn22Ops Q (vn22F q17 q19 q21) w0 245 (fun t => a0.tmps.getD t undef) i := upto_succ u42 (vn22_s42 q17 q19 q21 hb17 hb19 hb21 wd cA c0 c1 c2 c3 c4 c5 c6 c7 hx17 hx19 hx21 hx18 hx20 hx22)
    have u44 : ∀ i, i < 44 → OpStep Tryz.prog vn22Ops Q (vn22F q17 q19 q21) w0 245 (fun t => a0.tmps.getD t undef) i := upto_succ u43 (vn22_s43 q17 q19 q21 hb17 hb19 hb21 wd cA c0 c1 c2 c3 c4 c5 c6 c7 hx17 hx19 hx21 hx18 hx20 hx22)
    have u45 : ∀ i, i < 45 → OpStep Tryz.prog vn22Ops Q (vn22F q17 q19 q21) w0 245 (fun t => a0.tmps.getD t undef) i := upto_succ u44 (vn22_s44 q17 q19 q21 hb17 hb19 hb21 wd cA c0 c1 c2 c3 c4 c5 c6 c7 hx17 hx19 hx21 hx18 hx20 hx22)
    have u46 : ∀ i, i < 46 → OpStep Tryz.prog vn22Ops Q (vn22F q17 q19 q21) w0 245 (fun t => a0.tmps.getD t undef) i := upto_succ u45 (vn22_s45 q17 q19 q21 hb17 hb19 hb21 wd cA c0 c1 c2 c3 c4 c5 c6 c7 hx17 hx19 hx21 hx18 hx20 hx22)
    have u47 : ∀ i, i < 47 → OpStep Tryz.prog vn22Ops Q (vn22F q17 q19 q21) w0 245 (fun t => a0.tmps.getD t undef) i := upto_succ u46 (vn22_s46 q17 q19 q21 hb17 hb19 hb21 wd cA c0 c1 c2 c3 c4 c5 c6 c7 hx17 hx19 hx21 hx18 hx20 hx22)
    have u48 : ∀ i, i < 48 → OpStep Tryz.prog vn22Ops Q (vn22F q17 q19 q21) w0 245 (fun t => a0.tmps.getD t undef) i := upto_succ u47 (vn22_s47 q17 q19 q21 hb17 hb19 hb21 wd cA c0 c1 c2 c3 c4 c5 c6 c7 hx17 hx19 hx21 hx18 hx20 hx22)
    have u49 : ∀ i, i < 49 → OpStep Tryz.prog vn22Ops Q (vn22F q17 q19 q21) w0 245 (fun t => a0.tmps.getD t undef) i := upto_succ u48 (vn22_s48 q17 q19 q21 hb17 hb19 hb21 wd cA c0 c1 c2 c3 c4 c5 c6 c7 hx17 hx19 hx21 hx18 hx20 hx22)
    have u50 : ∀ i, i < 50 → OpStep Tryz.prog vn22Ops Q (vn22F q17 q19 q21) w0 245 (fun t => a0.tmps.getD t undef) i := upto_succ u49 (vn22_s49 q17 q19 q21 hb17 hb19 hb21 wd cA c0 c1 c2 c3 c4 c5 c6 c7 hx17 hx19 hx21 hx18 hx20 hx22)
    have u51 : ∀ i, i < 51 → OpStep Tryz.prog vn22Ops Q (vn22F q17 q19 q21) w0 245 (fun t => a0.tmps.getD t undef) i := upto_succ u50 (vn22_s50 q17 q19 q21 hb17 hb19 hb21 wd cA c0 c1 c2 c3 c4 c5 c6 c7 hx17 hx19 hx21 hx18 hx20 hx22)
    have u52 : ∀ i, i < 52 → OpStep Tryz.prog vn22Ops Q (vn22F q17 q19 q21) w0 245 (fun t => a0.tmps.getD t undef) i := upto_succ u51 (vn22_s51 q17 q19 q21 hb17 hb19 hb21 wd cA c0 c1 c2 c3 c4 c5 c6 c7 hx17 hx19 hx21 hx18 hx20 hx22)
    have u53 : ∀ i, i < 53 → OpStep Tryz.prog vn22Ops Q (vn22F q17 q19 q21) w0 245 (fun t => a0.tmps.getD t undef) i := upto_succ u52 (vn22_s52 q17 q19 q21 hb17 hb19 hb21 wd cA c0 c1 c2 c3 c4 c5 c6 c7 hx17 hx19 hx21 hx18 hx20 hx22)
    have u54 : ∀ i, i < 54 → OpStep Tryz.prog vn22Ops Q (vn22F q17 q19 q21) w0 245 (fun t => a0.tmps.getD t undef) i := upto_succ u53 (vn22_s53 q17 q19 q21 hb17 hb19 hb21 wd cA c0 c1 c2 c3 c4 c5 c6 c7 hx17 hx19 hx21 hx18 hx20 hx22)
    have u55 : ∀ i, i < 55 → OpStep Tryz.prog vn22Ops Q (vn22F q17 q19 q21) w0 245 (fun t => a0.tmps.getD t undef) i := upto_succ u54 (vn22_s54 q17 q19 q21 hb17 hb19 hb21 wd cA c0 c1 c2 c3 c4 c5 c6 c7 hx17 hx19 hx21 hx18 hx20 hx22)
    have u56 : ∀ i, i < 56 → OpStep Tryz.prog vn22Ops Q (vn22F q17 q19 q21) w0 245 (fun t => a0.tmps.getD t undef) i := upto_succ u55 (vn22_s55 q17 q19 q21 hb17 hb19 hb21 wd cA c0 c1 c2 c3 c4 c5 c6 c7 hx17 hx19 hx21 hx18 hx20 hx22)
    have u57 : ∀ i, i < 57 → OpStep Tryz.prog vn22Ops Q (vn22F q17 q19 q21) w0 245 (fun t => a0.tmps.getD t undef) i := upto_succ u56 (vn22_s56 q17 q19 q21 hb17 hb19 hb21 wd cA c0 c1 c2 c3 c4 c5 c6 c7 hx17 hx19 hx21 hx18 hx20 hx22)
    have u58 : ∀ i, i < 58 → OpStep Tryz.prog vn22Ops Q (vn22F q17 q19 q21) w0 245 (fun t => a0.tmps.getD t undef) i := upto_succ u57 (vn22_s57 q17 q19 q21 hb17 hb19 hb21 wd cA c0 c1 c2 c3 c4 c5 c6 c7 hx17 hx19 hx21 hx18 hx20 hx22)
    have u59 : ∀ i, i < 59 → OpStep Tryz.prog vn22Ops Q (vn22F q17 q19 q21) w0 245 (fun t => a0.tmps.getD t undef) i := upto_succ u58 (vn22_s58 q17 q19 q21 hb17 hb19 hb21 wd cA c0 c1 c2 c3 c4 c5 c6 c7 hx17 hx19 hx21 hx18 hx20 hx22)
    have u60 : ∀ i, i < 60 → OpStep Tryz.prog vn22Ops Q (vn22F q17 q19 q21) w0 245 (fun t => a0.tmps.getD t undef) i := upto_succ u59 (vn22_s59 q17 q19 q21 hb17 hb19 hb21 wd cA c0 c1 c2 c3 c4 c5 c6 c7 hx17 hx19 hx21 hx18 hx20 hx22)
    have u61 : ∀ i, i < 61 → OpStep Tryz.prog vn22Ops Q (vn22F q17 q19 q21) w0 245 (fun t => a0.tmps.getD t undef) i := upto_succ u60 (vn22_s60 q17 q19 q21 hb17 hb19 hb21 wd cA c0 c1 c2 c3 c4 c5 c6 c7 hx17 hx19 hx21 hx18 hx20 hx22)
    have u62 : ∀ i, i < 62 → OpStep Tryz.prog vn22Ops Q (vn22F q17 q19 q21) w0 245 (fun t => a0.tmps.getD t undef) i := upto_succ u61 (vn22_s61 q17 q19 q21 hb17 hb19 hb21 wd cA c0 c1 c2 c3 c4 c5 c6 c7 hx17 hx19 hx21 hx18 hx20 hx22)
    have u63 : ∀ i, i < 63 → OpStep Tryz.prog vn22Ops Q (vn22F q17 q19 q21) w0 245 (fun t => a0.tmps.getD t undef) i := upto_succ u62 (vn22_s62 q17 q19 q21 hb17 hb19 hb21 wd cA c0 c1 c2 c3 c4 c5 c6 c7 hx17 hx19 hx21 hx18 hx20 hx22)
    have u64 : ∀ i, i < 64 → OpStep Tryz.prog vn22Ops Q (vn22F q17 q19 q21) w0 245 (fun t => a0.tmps.getD t undef) i := upto_succ u63 (vn22_s63 q17 q19 q21 hb17 hb19 hb21 wd cA c0 c1 c2 c3 c4 c5 c6 c7 hx17 hx19 hx21 hx18 hx20 hx22)
    have u65 : ∀ i, i < 65 → OpStep Tryz.prog vn22Ops Q (vn22F q17 q19 q21) w0 245 (fun t => a0.tmps.getD t undef) i := upto_succ u64 (vn22_s64 q17 q19 q21 hb17 hb19 hb21 wd cA c0 c1 c2 c3 c4 c5 c6 c7 hx17 hx19 hx21 hx18 hx20 hx22)
    have u66 : ∀ i, i < 66 → OpStep Tryz.prog vn22Ops Q (vn22F q17 q19 q21) w0 245 (fun t => a0.tmps.getD t undef) i := upto_succ u65 (vn22_s65 q17 q19 q21 hb17 hb19 hb21 wd cA c0 c1 c2 c3 c4 c5 c6 c7 hx17 hx19 hx21 hx18 hx20 hx22)
    have u67 : ∀ i, i < 67 → OpStep Tryz.prog vn22Ops Q (vn22F q17 q19 q21) w0 245 (fun t => a0.tmps.getD t undef) i := upto_succ u66 (vn22_s66 q17 q19 q21 hb17 hb19 hb21 wd cA c0 c1 c2 c3 c4 c5 c6 c7 hx17 hx19 hx21 hx18 hx20 hx22)
    have u68 : ∀ i, i < 68 → OpStep Tryz.prog vn22Ops Q (vn22F q17 q19 q21) w0 245 (fun t => a0.tmps.getD t undef) i := upto_succ u67 (vn22_s67 q17 q19 q21 hb17 hb19 hb21 wd cA c0 c1 c2 c3 c4 c5 c6 c7 hx17 hx19 hx21 hx18 hx20 hx22)
    have u69 : ∀ i, i < 69 → OpStep Tryz.prog vn22Ops Q (vn22F q17 q19 q21) w0 245 (fun t => a0.tmps.getD t undef) i := upto_succ u68 (vn22_s68 q17 q19 q21 hb17 hb19 hb21 wd cA c0 c1 c2 c3 c4 c5 c6 c7 hx17 hx19 hx21 hx18 hx20 hx22)
    have u70 : ∀ i, i < 70 → OpStep Tryz.prog vn22Ops Q (vn22F q17 q19 q21) w0 245 (fun t => a0.tmps.getD t undef) i := upto_succ u69 (vn22_s69 q17 q19 q21 hb17 hb19 hb21 wd cA c0 c1 c2 c3 c4 c5 c6 c7 hx17 hx19 hx21 hx18 hx20 hx22)
    have u71 : ∀ i, i < 71 → OpStep Tryz.prog vn22Ops Q (vn22F q17 q19 q21) w0 245 (fun t => a0.tmps.getD t undef) i := upto_succ u70 (vn22_s70 q17 q19 q21 hb17 hb19 hb21 wd cA c0 c1 c2 c3 c4 c5 c6 c7 hx17 hx19 hx21 hx18 hx20 hx22)
    have u72 : ∀ i, i < 72 → OpStep Tryz.prog vn22Ops Q (vn22F q17 q19 q21) w0 245 (fun t => a0.tmps.getD t undef) i := upto_succ u71 (vn22_s71 q17 q19 q21 hb17 hb19 hb21 wd cA c0 c1 c2 c3 c4 c5 c6 c7 hx17 hx19 hx21 hx18 hx20 hx22)
    have u73 : ∀ i, i < 73 → OpStep Tryz.prog vn22Ops Q (vn22F q17 q19 q21) w0 245 (fun t => a0.tmps.getD t undef) i := upto_succ u72 (vn22_s72 q17 q19 q21 hb17 hb19 hb21 wd cA c0 c1 c2 c3 c4 c5 c6 c7 hx17 hx19 hx21 hx18 hx20 hx22)
    have u74 : ∀ i, i < 74 → OpStep Tryz.prog vn22Ops Q (vn22F q17 q19 q21) w0 245 (fun t => a0.tmps.getD t undef) i := upto_succ u73 (vn22_s73 q17 q19 q21 hb17 hb19 hb21 wd cA c0 c1 c2 c3 c4 c5 c6 c7 hx17 hx19 hx21 hx18 hx20 hx22)
    have u75 : ∀ i, i < 75 → OpStep Tryz.prog vn22Ops Q (vn22F q17 q19 q21) w0 245 (fun t => a0.tmps.getD t undef) i := upto_succ u74 (vn22_s74 q17 q19 q21 hb17 hb19 hb21 wd cA c0 c1 c2 c3 c4 c5 c6 c7 hx17 hx19 hx21 hx18 hx20 hx22)
    have u76 : ∀ i, i < 76 → OpStep Tryz.prog vn22Ops Q (vn22F q17 q19 q21) w0 245 (fun t => a0.tmps.getD t undef) i := upto_succ u75 (vn22_s75 q17 q19 q21 hb17 hb19 hb21 wd cA c0 c1 c2 c3 c4 c5 c6 c7 hx17 hx19 hx21 hx18 hx20 hx22)
    have u77 : ∀ i, i < 77 → OpStep Tryz.prog vn22Ops Q (vn22F q17 q19 q21) w0 245 (fun t => a0.tmps.getD t undef) i := upto_succ u76 (vn22_s76 q17 q19 q21 hb17 hb19 hb21 wd cA c0 c1 c2 c3 c4 c5 c6 c7 hx17 hx19 hx21 hx18 hx20 hx22)
    have u78 : ∀ i, i < 78 → OpStep Tryz.prog vn22Ops Q (vn22F q17 q19 q21) w0 245 (fun t => a0.tmps.getD t undef) i := upto_succ u77 (vn22_s77 q17 q19 q21 hb17 hb19 hb21 wd cA c0 c1 c2 c3 c4 c5 c6 c7 hx17 hx19 hx21 hx18 hx20 hx22)
    have u79 : ∀ i, i < 79 → OpStep Tryz.prog vn22Ops Q (vn22F q17 q19 q21) w0 245 (fun t => a0.tmps.getD t undef) i := upto_succ u78 (vn22_s78 q17 q19 q21 hb17 hb19 hb21 wd cA c0 c1 c2 c3 c4 c5 c6 c7 hx17 hx19 hx21 hx18 hx20 hx22)
    have u80 : ∀ i, i < 80 → OpStep Tryz.prog vn22Ops Q (vn22F q17 q19 q21) w0 245 (fun t => a0.tmps.getD t undef) i := upto_succ u79 (vn22_s79 q17 q19 q21 hb17 hb19 hb21 wd cA c0 c1 c2 c3 c4 c5 c6 c7 hx17 hx19 hx21 hx18 hx20 hx22)
    have u81 : ∀ i, i < 81 → OpStep Tryz.prog vn22Ops Q (vn22F q17 q19 q21) w0 245 (fun t => a0.tmps.getD t undef) i := upto_succ u80 (vn22_s80 q17 q19 q21 hb17 hb19 hb21 wd cA c0 c1 c2 c3 c4 c5 c6 c7 hx17 hx19 hx21 hx18 hx20 hx22)
    have u82 : ∀ i, i < 82 → OpStep Tryz.prog vn22Ops Q (vn22F q17 q19 q21) w0 245 (fun t => a0.tmps.getD t undef) i := upto_succ u81 (vn22_s81 q17 q19 q21 hb17 hb19 hb21 wd cA c0 c1 c2 c3 c4 c5 c6 c7 hx17 hx19 hx21 hx18 hx20 hx22)
    have u83 : ∀ i, i < 83 → OpStep Tryz.prog vn22Ops Q (vn22F q17 q19 q21) w0 245 (fun t => a0.tmps.getD t undef) i := upto_succ u82 (vn22_s82 q17 q19 q21 hb17 hb19 hb21 wd cA c0 c1 c2 c3 c4 c5 c6 c7 hx17 hx19 hx21 hx18 hx20 hx22)
    have u84 : ∀ i, i < 84 → OpStep Tryz.prog vn22Ops Q (vn22F q17 q19 q21) w0 245 (fun t => a0.tmps.getD t undef) i := upto_succ u83 (vn22_s83 q17 q19 q21 hb17 hb19 hb21 wd cA c0 c1 c2 c3 c4 c5 c6 c7 hx17 hx19 hx21 hx18 hx20 hx22)
    have u85 : ∀ i, i < 85 → OpStep Tryz.prog vn22Ops Q (vn22F q17 q19 q21) w0 245 (fun t => a0.tmps.getD t undef) i := upto_succ u84 (vn22_s84 q17 q19 q21 hb17 hb19 hb21 wd cA c0 c1 c2 c3 c4 c5 c6 c7 hx17 hx19 hx21 hx18 hx20 hx22)
    have u86 : ∀ i, i < 86 → OpStep Tryz.prog vn22Ops Q (vn22F q17 q19 q21) w0 245 (fun t => a0.tmps.getD t undef) i := upto_succ u85 (vn22_s85 q17 q19 q21 hb17 hb19 hb21 wd cA c0 c1 c2 c3 c4 c5 c6 c7 hx17 hx19 hx21 hx18 hx20 hx22)
    have u87 : ∀ i, i < 87 → OpStep Tryz.prog vn22Ops Q (vn22F q17 q19 q21) w0 245 (fun t => a0.tmps.getD t undef) i := upto_succ u86 (vn22_s86 q17 q19 q21 hb17 hb19 hb21 wd cA c0 c1 c2 c3 c4 c5 c6 c7 hx17 hx19 hx21 hx18 hx20 hx22)
    have u88 : ∀ i, i < 88 → OpStep Tryz.prog vn22Ops Q (vn22F q17 q19 q21) w0 245 (fun t => a0.tmps.getD t undef) i := upto_succ u87 (vn22_s87 q17 q19 q21 hb17 hb19 hb21 wd cA c0 c1 c2 c3 c4 c5 c6 c7 hx17 hx19 hx21 hx18 hx20 hx22)
    exact u88
  · intro V X hb hV
    exact hend V X hb (hV 87 (of_decide_eq_true (by kernel_rfl)) (by kernel_rfl))
end
section
open Go.ChangeShapes Go.WideShapes Go.ChangeAt Go.RowKit Go.ChangeMaps Go.Lib
set_option linter.unusedVariables false
def badL (sb : ByteArray) : List Trip := [(0, 1, ⟨#[]⟩), (0, 0, ⟨#[120]⟩), (1, 0, ⟨#[120]⟩), (2, 1, ⟨#[]⟩), (3, 1, ⟨#[]⟩), (4, 0, ⟨#[]⟩), (2, 0, sb)]
theorem badL_no (sb : ByteArray) (h : sb.size = 65537) : ∀ t ∈ badL sb, ¬ Rt t.1 t.2.1 t.2.2 ∧ t.2.2.size ≤ 100000 := by
  intro t ht
  simp only [badL, List.mem_cons, List.mem_nil_iff, or_false] at ht
  rcases ht with rfl | rfl | rfl | rfl | rfl | rfl | rfl
  · exact ⟨by decide, by decide⟩
  · exact ⟨by decide, by decide⟩
  · exact ⟨by decide, by decide⟩
  · exact ⟨by decide, by decide⟩
  · exact ⟨by decide, by decide⟩
  · exact ⟨by decide, by decide⟩
  · exact ⟨by unfold Rt; simp only; omega, by show sb.size ≤ _; omega⟩
def valCells (l : List Trip) : List Value := l.flatMap fun x => [.int .u8 x.1, .int .i64 x.2.1, .string x.2.2]
theorem valCells_get : ∀ (l : List Trip) (i : Nat) (x : Trip), l[i]? = some x → (valCells l)[i * 3]? = some (.int .u8 x.1) ∧ (valCells l)[i * 3 + 1]? = some (.int .i64 x.2.1) ∧ (valCells l)[i * 3 + 2]? = some (.string x.2.2) := by
  intro l
  induction l with
  | nil => intro i x h; simp at h
  | cons u r ih =>
    intro i x h
    match i, h with
    | 0, h => obtain rfl := Option.some.inj h; exact ⟨rfl, rfl, rfl⟩
    | i + 1, h =>
      have := ih i x h
      rw [show (i + 1) * 3 = i * 3 + 1 + 1 + 1 by omega]
      exact this
def ValsAt (w : World) (g : Nat) (l : List Trip) : Prop := g < w.heap.size ∧ ∀ i x, l[i]? = some x → w.cell? ⟨g, i * 3, none⟩ = some (.int .u8 x.1) ∧ w.cell? ⟨g, i * 3 + 1, none⟩ = some (.int .i64 x.2.1) ∧ w.cell? ⟨g, i * 3 + 2, none⟩ = some (.string x.2.2)
theorem ValsAt.on {w w' : World} {g : Nat} {l : List Trip} (h : ValsAt w g l) (hb : Below w.heap.size w w') : ValsAt w' g l :=
  ⟨Nat.lt_of_lt_of_le h.1 hb.size, fun i x hi => ⟨(hb.cell (p := ⟨g, i * 3, none⟩) h.1).trans (h.2 i x hi).1, (hb.cell (p := ⟨g, i * 3 + 1, none⟩) h.1).trans (h.2 i x hi).2.1, (hb.cell (p := ⟨g, i * 3 + 2, none⟩) h.1).trans (h.2 i x hi).2.2⟩⟩
theorem ValsAt.new (w : World) (l : List Trip) (T : TypeId) : ValsAt (w.alloc (.cells (valCells l).toArray T)) w.heap.size l := by
  have h2 := World.alloc_heap_new w (.cells (valCells l).toArray T)
  refine ⟨by simp, fun i x h => ?_⟩
  obtain ⟨h3, h4, h5⟩ := valCells_get l i x h
  simp only [World.cell?, h2]
  exact ⟨by simpa using h3, by simpa using h4, by simpa using h5⟩
theorem bad_typeof (w : World) (b : Nat) (k n : Int) (s : ByteArray) (h : ¬ Rt k n s) (hs : s.size ≤ 100000) (hR : RdV w b 0 [(k, n, s)]) : Calls Tryz.prog 16 #[.string ⟨#[116, 121, 112, 101, 111, 102]⟩, .slice (some ⟨b, 0, none⟩) 1 1] w (RetV nul 2 w) := by
  refine Call_bad _ 1 1 true _ _ named_typeof b 0 1 [(k, n, s)] w ?_ (by simp) hR (by simp) (by simp) ?_
  · intro t ht
    rw [List.mem_singleton.1 ht]
    show s.size ≤ _
    omega
  · simp [pBad, h]
def fnL : List (ByteArray × Int) := [(⟨#[]⟩, 1), (⟨#[76, 101, 110, 103, 116, 104]⟩, 1), (⟨#[108, 101, 110, 103, 116, 104]⟩, 0), (⟨#[108, 101, 110, 103, 116, 104]⟩, 2), (⟨#[115, 117, 98, 115, 116, 114]⟩, 1), (⟨#[115, 117, 98, 115, 116, 114]⟩, 4), (⟨#[105, 110, 115, 116, 114]⟩, 1), (⟨#[105, 102, 110, 117, 108, 108]⟩, 3), (⟨#[99, 111, 97, 108, 101, 115, 99, 101]⟩, 1), (⟨#[99, 111, 97, 108, 101, 115, 99, 101]⟩, 101), (⟨#[114, 111, 117, 110, 100]⟩, 1)]
theorem fnL_no : ∀ x ∈ fnL, (0 ≤ x.2 ∧ x.2 ≤ 200) ∧ ∀ w : World, Calls Tryz.prog 62 #[.string x.1, .int .i64 x.2] w (FindNo w) := by
  intro x hx
  simp only [fnL, List.mem_cons, List.mem_nil_iff, or_false] at hx
  rcases hx with rfl | rfl | rfl | rfl | rfl | rfl | rfl | rfl | rfl | rfl | rfl
  · exact ⟨by decide, fun w => find_no _ _ (fun c1 c2 => rfl) w⟩
  · exact ⟨by decide, fun w => find_no _ _ (fun c1 c2 => rfl) w⟩
  · exact ⟨by decide, fun w => find_few _ 1 1 _ _ _ _ named_length (by decide) w⟩
  · exact ⟨by decide, fun w => find_many _ 1 1 _ _ _ _ named_length (by decide) (by decide) w⟩
  · exact ⟨by decide, fun w => find_few _ 2 3 _ _ _ _ named_substr (by decide) w⟩
  · exact ⟨by decide, fun w => find_many _ 2 3 _ _ _ _ named_substr (by decide) (by decide) w⟩
  · exact ⟨by decide, fun w => find_few _ 2 2 _ _ _ _ named_instr (by decide) w⟩
  · exact ⟨by decide, fun w => find_many _ 2 2 _ _ _ _ named_ifnull (by decide) (by decide) w⟩
  · exact ⟨by decide, fun w => find_few _ 2 100 _ _ _ _ named_coalesce (by decide) w⟩
  · exact ⟨by decide, fun w => find_many _ 2 100 _ _ _ _ named_coalesce (by decide) (by decide) w⟩
  · exact ⟨by decide, fun w => find_no _ _ (fun c1 c2 => rfl) w⟩
theorem coal_all : AllR (List.replicate 99 (0, 0, ⟨#[]⟩) ++ [(1, 5, ⟨#[]⟩)]) := by
  intro t ht
  rcases List.mem_append.1 ht with h | h
  · rw [List.eq_of_mem_replicate h]; exact Rt_nul
  · rw [List.mem_singleton.1 h]; exact rt1 5
theorem coal_gen (L : List Trip) (hA : AllR L) (hl : L.length = 100) (hf : firstV L = (1, 5, ⟨#[]⟩)) (w : World) (g cap : Nat) (hR : RdV w g 0 L) : Calls Tryz.prog 22 #[vv 1 5 ⟨#[]⟩, .string ⟨#[99, 111, 97, 108, 101, 115, 99, 101]⟩, .slice (some ⟨g, 0, none⟩) L.length cap] w fun e w' => e = .returned (.bool true) ∧ Below w.heap.size w w' := by
  refine calls_yes 1 5 ⟨#[]⟩ _ _ _ cap w fun W hb2 => ?_
  refine Call_fn _ 2 100 true _ _ named_coalesce g 0 cap L W (allR_size hA) (by omega) (hR.on hb2) (by omega) (by omega) (allR_bad hA) (.inl rfl) 1 5 ⟨#[]⟩ 0 enters_first ?_
  intro V c1 c2 hV _
  exact firstNot_any g 0 cap L V (by omega) ((hR.on hb2).on hV) 1 5 ⟨#[]⟩ hf
theorem coal_is (w0 : World) : CoalIs w0 := fun w g cap hb hR => by
  have e : (List.replicate 99 ((0, 0, ⟨#[]⟩) : Trip)).length + [((1, 5, ⟨#[]⟩) : Trip)].length = (List.replicate 99 ((0, 0, ⟨#[]⟩) : Trip) ++ [((1, 5, ⟨#[]⟩) : Trip)]).length := by rw [List.length_append]
  rw [e]
  have hl : (List.replicate 99 ((0, 0, ⟨#[]⟩) : Trip) ++ [((1, 5, ⟨#[]⟩) : Trip)]).length = 100 := by rw [List.length_append, List.length_replicate]; rfl
  have hf : firstV (List.replicate 99 ((0, 0, ⟨#[]⟩) : Trip) ++ [((1, 5, ⟨#[]⟩) : Trip)]) = (1, 5, ⟨#[]⟩) := by kernel_rfl
  exact coal_gen _ coal_all hl hf w g cap hR
theorem tvm : textV 1 (-123) ⟨#[]⟩ = ⟨#[45, 49, 50, 51]⟩ := by simp [textV, Lib.itoa, Lib.decDigits]
theorem nc2 (w0 : World) (hW : Wd w0) : CallIs w0 1 3 ⟨#[]⟩ ⟨#[105, 110, 115, 116, 114]⟩ [(2, 0, ⟨#[97, 98, 99, 97, 98]⟩), (2, 0, ⟨#[99, 97]⟩)] := ci_instr w0 hW _ _ (by decide) (by decide) 2 (by decide +kernel)
theorem nc3 (w0 : World) (hW : Wd w0) : CallIs w0 1 1 ⟨#[]⟩ ⟨#[105, 110, 115, 116, 114]⟩ [(2, 0, ⟨#[97]⟩), (2, 0, ⟨#[]⟩)] := ci_instr w0 hW _ _ (by decide) (by decide) 0 (by decide +kernel)
theorem nc4 (w0 : World) (hW : Wd w0) : CallIs w0 1 0 ⟨#[]⟩ ⟨#[105, 110, 115, 116, 114]⟩ [(2, 0, ⟨#[]⟩), (2, 0, ⟨#[97]⟩)] := by
  have h := ci_instr w0 hW ⟨#[]⟩ ⟨#[97]⟩ (by decide) (by decide) (-1) (by decide +kernel)
  rw [show (-1 + 1 : Int) = 0 from by decide] at h
  exact h
theorem nc6 (w0 : World) (hW : Wd w0) : CallIs w0 2 0 ⟨#[50, 51]⟩ ⟨#[115, 117, 98, 115, 116, 114]⟩ [(1, (-123), ⟨#[]⟩), (1, (-2), ⟨#[]⟩)] := ci_sub2 w0 hW (-123) (-2) ⟨#[50, 51]⟩ (by decide) (by decide) (by rw [tvm]; decide) (by rw [tvm]; kernel_rfl)
theorem nc7 (w0 : World) (hW : Wd w0) : CallIs w0 2 0 ⟨#[65, 90, 91, 65, 123]⟩ ⟨#[117, 112, 112, 101, 114]⟩ [(2, 0, ⟨#[97, 122, 91, 97, 123]⟩)] := ci_upper w0 hW _ _ (by decide) (by kernel_rfl)
set_option maxRecDepth 100000 in
set_option maxHeartbeats 4000000 in
theorem vnum_walk (w : World) (hW : Wd w) : Calls Tryz.prog 3 #[] w fun e w' => e = .returned (.bool true) ∧ Below w.heap.size w w' := by
  have HW := Lib.hid hW
  clear hW
  obtain ⟨sb, hsb⟩ : ∃ s : ByteArray, s = ⟨(Lib.repeatL [120] 65537).toArray⟩ := ⟨_, rfl⟩
  have R1 := Lib.hid (fun (w : World) => (show Calls Tryz.prog 11 #[.string ⟨#[120]⟩, .int .i64 65537] w fun e w' => e = .returned (.string ⟨(Lib.repeatL [120] 65537).toArray⟩) ∧ Below w.heap.size w w' from Tryz.strings_Repeat ⟨#[120]⟩ 65537 w (by decide) (by decide)))
  rw [← hsb] at R1
  have HSB := Lib.hid (rep_size 120 65537 sb hsb)
  clear hsb
  go_enter Tryz.func3, Tryz.ntmps3
  go_wp2_with fail
  refine (R1.out _).mono ?_
  rintro e X1 ⟨rfl, hb⟩
  have HB1 := Lib.hid hb
  clear hb R1
  go_wp2_with fail
  refine (text_any _ _).mono ?_
  rintro e X2 ⟨rfl, hb⟩
  have HB2 := Lib.hid (HB1.out.trans (hb.mono HB1.out.size))
  clear hb
  go_upto_region 2 with (fail)
  have hnw := ValsAt.new X2 (badL sb) 24
  obtain ⟨w1, hw1⟩ : ∃ w1, X2.alloc (.cells (valCells (badL sb)).toArray 24) = w1 := ⟨_, rfl⟩
  have hal : Below X2.heap.size X2 w1 := by rw [← hw1]; exact (Below.refl _ _).alloc (Nat.le_refl _) _
  rw [hw1] at hnw
  have HNW := Lib.hid hnw
  have HB3 := Lib.hid (HB2.out.trans (hal.mono HB2.out.size))
  obtain ⟨g1, hg⟩ : ∃ n, X2.heap.size = n := ⟨_, rfl⟩
  rw [hg] at HNW ⊢
  simp only [badL, valCells, List.flatMap_cons, List.flatMap_nil, List.cons_append, List.nil_append] at hw1
  clear hnw hal hg HB1 HB2
  rw [hw1]
  clear hw1
  go_loopw [33] (fun v wr => LpV w1 7 v wr) (fun v _ => 7 - (intOf v).toNat)
  case atStart => exact ⟨0, by omega, rfl, Below.refl _ _⟩
  case round =>
    obtain ⟨j, hj, rfl, hb⟩ := hrel
    by_cases hlt : j < 7
    · obtain ⟨⟨k, n, s⟩, hx⟩ : ∃ x, (badL sb)[j]? = some x := ⟨_, List.getElem?_eq_getElem (show j < (badL sb).length from hlt)⟩
      obtain ⟨hno, hsz⟩ := badL_no sb HSB.out _ (List.mem_of_getElem? hx)
      obtain ⟨y0, y1, y2⟩ := (HNW.out.on hb).2 j _ hx
      dsimp only at hno hsz y0 y1 y2
      have HNO := Lib.hid hno
      have HSZ := Lib.hid (show s.size ≤ 9223372036854775807 by omega)
      have HTY := Lib.hid (fun (w : World) (b : Nat) (hR : RdV w b 0 [(k, n, s)]) => bad_typeof w b k n s hno hsz hR)
      have HB4 := Lib.hid hb
      have HJ := Lib.hid hlt
      have hj5 : (j : Int) < 7 := by omega
      clear hb hx hlt hno hsz
      go_upto_region 4 with (fail)
      obtain ⟨w5, hw5⟩ : ∃ w5, wr.alloc (box k n s) = w5 := ⟨_, rfl⟩
      have hal : Below wr.heap.size wr w5 := by rw [← hw5]; exact (Below.refl _ _).alloc (Nat.le_refl _) _
      have hbx : w5.heap[wr.heap.size]? = some (box k n s) := by rw [← hw5]; exact World.alloc_heap_new wr _
      have HB5 := Lib.hid (HB4.out.trans (hal.mono HB4.out.size))
      have HX := Lib.hid (show BoxOn w5 wr.heap.size k n s from fun X hX => box_pin hbx hX)
      rw [hw5]
      clear hw5 hal hbx y0 y1 y2
      obtain ⟨p2, hp2⟩ : ∃ n, wr.heap.size = n := ⟨_, rfl⟩
      rw [hp2] at HX ⊢
      clear hp2
      refine region_as2 (ops' := vn4Ops) (by kernel_rfl) ?_
      refine vn4 p2 k n s HX.out (fun w _ => Op_bad1 _ k n s 1 1 ⟨#[]⟩ w HNO.out HSZ.out) rfl rfl ?_
      intro V p3 X hb hvp hp0 hp1 hB hv
      rw [vn4_fill V, hvp, hv]
      have HC := Lib.hid hb
      have HP3 := Lib.hid (show BoxOn X p3 0 0 ⟨#[]⟩ from fun Y hY => boxAt_keep p3 X Y hB hp1 hY)
      have HX1 := Lib.hid (show BoxOn X p2 k n s from fun Y hY => HX.out Y (hb.trans (hY.mono hb.size)))
      clear hb hvp hp0 hp1 hB hv
      go_upto_region 5 with (fail)
      refine region_as2 (ops' := vn5Ops) (by kernel_rfl) ?_
      refine vn5 p2 k n s HX1.out (fun w _ => Op_bad2 _ 1 0 ⟨#[]⟩ k n s w (rt1 0) HNO.out HSZ.out) rfl rfl ?_
      intro V2 p5 Y hb hvp hp0 hp1 hB hv
      rw [vn5_fill V2, hvp, hv]
      have HC := Lib.hid (HC.out.trans (hb.mono HC.out.size))
      have HP3 := Lib.hid (show BoxOn Y p3 0 0 ⟨#[]⟩ from fun Z hZ => HP3.out Z (hb.trans (hZ.mono hb.size)))
      have HP5 := Lib.hid (show BoxOn Y p5 0 0 ⟨#[]⟩ from fun Z hZ => boxAt_keep p5 Y Z hB hp1 hZ)
      clear hb hvp hp0 hp1 hB hv HX1
      obtain ⟨z0, z1, z2⟩ := HX.out Y HC.out
      go_wp2_with fail
      refine (One_bad _ k n s _ HNO.out HSZ.out).mono ?_
      rintro e Y1 ⟨rfl, hb⟩
      have HC := Lib.hid (HC.out.trans (hb.mono HC.out.size))
      have HP3 := Lib.hid (show BoxOn Y1 p3 0 0 ⟨#[]⟩ from fun Z hZ => HP3.out Z (hb.trans (hZ.mono hb.size)))
      have HP5 := Lib.hid (show BoxOn Y1 p5 0 0 ⟨#[]⟩ from fun Z hZ => HP5.out Z (hb.trans (hZ.mono hb.size)))
      clear hb z0 z1 z2
      go_upto_region 7 with (fail)
      obtain ⟨y2, hwy2⟩ : ∃ X, Y1.alloc (box 0 0 ⟨#[]⟩) = X := ⟨_, rfl⟩
      have hal : Below Y1.heap.size Y1 y2 := by rw [← hwy2]; exact (Below.refl _ _).alloc (Nat.le_refl _) _
      have hbx : y2.heap[Y1.heap.size]? = some (box 0 0 ⟨#[]⟩) := by rw [← hwy2]; exact World.alloc_heap_new Y1 _
      rw [hwy2]
      have HC := Lib.hid (HC.out.trans (hal.mono HC.out.size))
      have HP7 := Lib.hid (show BoxOn y2 Y1.heap.size 0 0 ⟨#[]⟩ from fun Z hZ => box_pin hbx hZ)
      have HP3 := Lib.hid (show BoxOn y2 p3 0 0 ⟨#[]⟩ from fun Z hZ => HP3.out Z (hal.trans (hZ.mono hal.size)))
      have HP5 := Lib.hid (show BoxOn y2 p5 0 0 ⟨#[]⟩ from fun Z hZ => HP5.out Z (hal.trans (hZ.mono hal.size)))
      clear hal hbx hwy2
      obtain ⟨p7, hp7⟩ : ∃ n, Y1.heap.size = n := ⟨_, rfl⟩
      rw [hp7] at HP7 ⊢
      clear hp7
      obtain ⟨z0, z1, z2⟩ := HX.out y2 HC.out
      go_wp2_with fail
      refine (Cast_bad _ k n s _ HNO.out HSZ.out).mono ?_
      rintro e Y3 ⟨rfl, hb⟩
      have HC := Lib.hid (HC.out.trans (hb.mono HC.out.size))
      have HP3 := Lib.hid (show BoxOn Y3 p3 0 0 ⟨#[]⟩ from fun Z hZ => HP3.out Z (hb.trans (hZ.mono hb.size)))
      have HP5 := Lib.hid (show BoxOn Y3 p5 0 0 ⟨#[]⟩ from fun Z hZ => HP5.out Z (hb.trans (hZ.mono hb.size)))
      have HP7 := Lib.hid (show BoxOn Y3 p7 0 0 ⟨#[]⟩ from fun Z hZ => HP7.out Z (hb.trans (hZ.mono hb.size)))
      clear hb z0 z1 z2
      go_upto_region 8 with (fail)
      obtain ⟨y4, hwy4⟩ : ∃ X, Y3.alloc (box 0 0 ⟨#[]⟩) = X := ⟨_, rfl⟩
      have hal : Below Y3.heap.size Y3 y4 := by rw [← hwy4]; exact (Below.refl _ _).alloc (Nat.le_refl _) _
      have hbx : y4.heap[Y3.heap.size]? = some (box 0 0 ⟨#[]⟩) := by rw [← hwy4]; exact World.alloc_heap_new Y3 _
      rw [hwy4]
      have HC := Lib.hid (HC.out.trans (hal.mono HC.out.size))
      have HP9 := Lib.hid (show BoxOn y4 Y3.heap.size 0 0 ⟨#[]⟩ from fun Z hZ => box_pin hbx hZ)
      have HP3 := Lib.hid (show BoxOn y4 p3 0 0 ⟨#[]⟩ from fun Z hZ => HP3.out Z (hal.trans (hZ.mono hal.size)))
      have HP5 := Lib.hid (show BoxOn y4 p5 0 0 ⟨#[]⟩ from fun Z hZ => HP5.out Z (hal.trans (hZ.mono hal.size)))
      have HP7 := Lib.hid (show BoxOn y4 p7 0 0 ⟨#[]⟩ from fun Z hZ => HP7.out Z (hal.trans (hZ.mono hal.size)))
      clear hal hbx hwy4
      obtain ⟨p9, hp9⟩ : ∃ n, Y3.heap.size = n := ⟨_, rfl⟩
      rw [hp9] at HP9 ⊢
      clear hp9
      obtain ⟨z0, z1, z2⟩ := HX.out y4 HC.out
      have HTB := Lib.hid (HTY.out (y4.alloc (box k n s)) y4.heap.size (rdv1 y4 k n s))
      go_wp2_with fail
      refine HTB.out.mono ?_
      rintro e Y5 ⟨rfl, hb0⟩
      have hb : Below y4.heap.size y4 Y5 := ((Below.refl _ y4).alloc (Nat.le_refl _) (box k n s)).trans (hb0.mono (by simp))
      have HC := Lib.hid (HC.out.trans (hb.mono HC.out.size))
      have HP3 := Lib.hid (show BoxOn Y5 p3 0 0 ⟨#[]⟩ from fun Z hZ => HP3.out Z (hb.trans (hZ.mono hb.size)))
      have HP5 := Lib.hid (show BoxOn Y5 p5 0 0 ⟨#[]⟩ from fun Z hZ => HP5.out Z (hb.trans (hZ.mono hb.size)))
      have HP7 := Lib.hid (show BoxOn Y5 p7 0 0 ⟨#[]⟩ from fun Z hZ => HP7.out Z (hb.trans (hZ.mono hb.size)))
      have HP9 := Lib.hid (show BoxOn Y5 p9 0 0 ⟨#[]⟩ from fun Z hZ => HP9.out Z (hb.trans (hZ.mono hb.size)))
      clear hb hb0 z0 z1 z2 HTB
      go_upto_region 9 with (fail)
      obtain ⟨y6, hwy6⟩ : ∃ X, Y5.alloc (box 0 0 ⟨#[]⟩) = X := ⟨_, rfl⟩
      have hal : Below Y5.heap.size Y5 y6 := by rw [← hwy6]; exact (Below.refl _ _).alloc (Nat.le_refl _) _
      have hbx : y6.heap[Y5.heap.size]? = some (box 0 0 ⟨#[]⟩) := by rw [← hwy6]; exact World.alloc_heap_new Y5 _
      rw [hwy6]
      have HC := Lib.hid (HC.out.trans (hal.mono HC.out.size))
      have HP11 := Lib.hid (show BoxOn y6 Y5.heap.size 0 0 ⟨#[]⟩ from fun Z hZ => box_pin hbx hZ)
      have HP3 := Lib.hid (show BoxOn y6 p3 0 0 ⟨#[]⟩ from fun Z hZ => HP3.out Z (hal.trans (hZ.mono hal.size)))
      have HP5 := Lib.hid (show BoxOn y6 p5 0 0 ⟨#[]⟩ from fun Z hZ => HP5.out Z (hal.trans (hZ.mono hal.size)))
      have HP7 := Lib.hid (show BoxOn y6 p7 0 0 ⟨#[]⟩ from fun Z hZ => HP7.out Z (hal.trans (hZ.mono hal.size)))
      have HP9 := Lib.hid (show BoxOn y6 p9 0 0 ⟨#[]⟩ from fun Z hZ => HP9.out Z (hal.trans (hZ.mono hal.size)))
      clear hal hbx hwy6
      obtain ⟨p11, hp11⟩ : ∃ n, Y5.heap.size = n := ⟨_, rfl⟩
      rw [hp11] at HP11 ⊢
      clear hp11
      have HX2 := Lib.hid (show BoxOn y6 p2 k n s from fun Z hZ => HX.out Z (HC.out.trans (hZ.mono HC.out.size)))
      have HNR : NotRt k n s := fun w => by
        have h := Right_any k n s w HSZ.out
        rw [decide_eq_false HNO.out] at h
        exact h
      refine region_as2 (ops' := vn9Ops) (by kernel_rfl) ?_
      refine vn9 p2 p3 p5 p7 p9 p11 k n s HX2.out HP3.out HP5.out HP7.out HP9.out HP11.out HNR rfl rfl rfl rfl rfl rfl rfl rfl rfl rfl rfl rfl ?_
      intro V3 Z hb hv
      rw [vn9_fill V3, hv]
      have HBZ := Lib.hid (HB5.out.trans ((HC.out.trans (hb.mono HC.out.size)).mono HB5.out.size))
      clear hb hv
      go_wp2_with fail
      exact ⟨⟨j + 1, HJ.out, by go_num, HBZ.out⟩, by have := HJ.out; simp [intOf]; omega⟩
    · have hj5 : ¬ (j : Int) < 7 := by omega
      have HB4 := Lib.hid (HB3.out.trans (hb.mono HB3.out.size))
      clear hb hlt HNW HB3
      go_upto_region 13 with (fail)
      have hnw := PairsAt.new wr fnL 36
      obtain ⟨w2, hw2⟩ : ∃ w2, wr.alloc (.cells (pairCells fnL).toArray 36) = w2 := ⟨_, rfl⟩
      have hal : Below wr.heap.size wr w2 := by rw [← hw2]; exact (Below.refl _ _).alloc (Nat.le_refl _) _
      rw [hw2] at hnw
      have HNW := Lib.hid hnw
      have HB5 := Lib.hid (HB4.out.trans (hal.mono HB4.out.size))
      obtain ⟨g2, hg⟩ : ∃ n, wr.heap.size = n := ⟨_, rfl⟩
      rw [hg] at HNW ⊢
      simp only [fnL, pairCells, List.flatMap_cons, List.flatMap_nil, List.cons_append, List.nil_append] at hw2
      clear hnw hal hg HB4
      rw [hw2]
      obtain ⟨jj, hjj⟩ : ∃ z : Int, (j : Int) = z := ⟨_, rfl⟩
      rw [hjj]
      clear hw2 hj hj5 hjj
      go_loopw [114] (fun v wr => LpV w2 11 v wr) (fun v _ => 11 - (intOf v).toNat)
      case atStart => exact ⟨0, by omega, rfl, Below.refl _ _⟩
      case round =>
        obtain ⟨i, hi, rfl, hb⟩ := hrel
        by_cases hlt : i < 11
        · obtain ⟨⟨s, n⟩, hx⟩ : ∃ x, fnL[i]? = some x := ⟨_, List.getElem?_eq_getElem (show i < fnL.length from hlt)⟩
          obtain ⟨hn2, hfi⟩ := fnL_no _ (List.mem_of_getElem? hx)
          obtain ⟨y0, y1⟩ := (HNW.out.on hb).2 i _ hx
          dsimp only at hn2 hfi y0 y1
          obtain ⟨m, rfl⟩ : ∃ m : Nat, n = (m : Int) := ⟨n.toNat, by omega⟩
          have HF := Lib.hid hfi
          have HB6 := Lib.hid hb
          have HJ := Lib.hid hlt
          have hj5 : (i : Int) < 11 := by omega
          have HM := Lib.hid hn2
          clear hb hx hlt hfi hn2
          go_upto_region 15 with (fail)
          obtain ⟨w5, hw5⟩ : ∃ w5, wr.alloc (.cells #[.string s, .int .i64 (m : Int)] 36) = w5 := ⟨_, rfl⟩
          have hpb : PairsAt w5 wr.heap.size [(s, (m : Int))] := by rw [← hw5]; exact PairsAt.new wr [(s, (m : Int))] _
          have hal : Below wr.heap.size wr w5 := by rw [← hw5]; exact (Below.refl _ _).alloc (Nat.le_refl _) _
          have HB7 := Lib.hid (HB6.out.trans (hal.mono HB6.out.size))
          have HPB := Lib.hid hpb
          rw [hw5]
          clear hw5 hal hpb y0 y1
          obtain ⟨bx, hbx⟩ : ∃ n, wr.heap.size = n := ⟨_, rfl⟩
          rw [hbx] at HPB ⊢
          clear hbx
          have HC := Lib.hid (Below.refl w5.heap.size w5)
          have q1 : ¬ (m : Int) < 0 := by omega
          have q2 : (m : Int) ≤ 200 := HM.out.2
          have HPO := Lib.hid (show PairOn w5 bx s (m : Int) from fun X hX => pair_at HPB.out hX)
          refine region_as2 (ops' := vn15Ops) (by kernel_rfl) ?_
          refine vn15 bx m s HPO.out (by omega) (fun w b _ => Call_no s b 0 m m HF.out w) rfl rfl ?_
          intro V p15 X hb hvp hp0 hp1 hB hv
          rw [vn15_fill V, hvp, hv]
          have HC := Lib.hid hb
          have HP15 := Lib.hid (show BoxOn X p15 0 0 ⟨#[]⟩ from fun Y hY => boxAt_keep p15 X Y hB hp1 hY)
          have HPO := Lib.hid (show PairOn X bx s (m : Int) from fun Y hY => HPO.out Y (hb.trans (hY.mono hb.size)))
          clear hb hvp hp0 hp1 hB hv
          go_upto_region 16 with (fail)
          refine region_as2 (ops' := vn16Ops) (by kernel_rfl) ?_
          refine vn16 bx p15 m s HP15.out HPO.out (fun w => Known_no s (m : Int) HF.out w) rfl rfl rfl rfl ?_
          intro V2 Y hb hv
          rw [vn16_fill V2, hv]
          have HBY := Lib.hid (HB7.out.trans ((HC.out.trans (hb.mono HC.out.size)).mono HB7.out.size))
          clear hb hv
          go_wp2_with fail
          exact ⟨⟨i + 1, HJ.out, by go_num, HBY.out⟩, by have := HJ.out; simp [intOf]; omega⟩
        · have hj5 : ¬ (i : Int) < 11 := by omega
          have HB6 := Lib.hid (HB5.out.trans (hb.mono HB5.out.size))
          clear hb hlt HNW HB5
          go_upto_region 19 with (fail)
          have HBC := HB6
          go_wp2_with fail
          refine (num_any _ _).mono ?_
          rintro e S1 ⟨rfl, hb⟩
          have HBC := Lib.hid (HBC.out.trans (hb.mono HBC.out.size))
          clear hb
          go_wp2_with fail
          refine (num_any _ _).mono ?_
          rintro e S2 ⟨rfl, hb⟩
          have HBC := Lib.hid (HBC.out.trans (hb.mono HBC.out.size))
          clear hb
          go_wp2_with fail
          refine (Op_none 1 1 ⟨#[]⟩ 1 1 ⟨#[]⟩ _ (rt1 1) (rt1 1)).mono ?_
          rintro e S3 ⟨rfl, hb⟩
          have HBC := Lib.hid (HBC.out.trans (hb.mono HBC.out.size))
          clear hb
          go_upto_region 20 with (fail)
          obtain ⟨S4, hwS4⟩ : ∃ X, S3.alloc (box 0 0 ⟨#[]⟩) = X := ⟨_, rfl⟩
          have hal : Below S3.heap.size S3 S4 := by rw [← hwS4]; exact (Below.refl _ _).alloc (Nat.le_refl _) _
          have hbx : S4.heap[S3.heap.size]? = some (box 0 0 ⟨#[]⟩) := by rw [← hwS4]; exact World.alloc_heap_new S3 _
          rw [hwS4]
          have HBC := Lib.hid (HBC.out.trans (hal.mono HBC.out.size))
          have HQ17 := Lib.hid (show BoxOn S4 S3.heap.size 0 0 ⟨#[]⟩ from fun Z hZ => box_pin hbx hZ)
          clear hal hbx hwS4
          obtain ⟨q17, hq17⟩ : ∃ n, S3.heap.size = n := ⟨_, rfl⟩
          rw [hq17] at HQ17 ⊢
          clear hq17
          go_wp2_with fail
          refine (num_any _ _).mono ?_
          rintro e S5 ⟨rfl, hb⟩
          have HBC := Lib.hid (HBC.out.trans (hb.mono HBC.out.size))
          have HQ17 := Lib.hid (show BoxOn S5 q17 0 0 ⟨#[]⟩ from fun Z hZ => HQ17.out Z (hb.trans (hZ.mono hb.size)))
          clear hb
          go_wp2_with fail
          refine (One_none 1 1 ⟨#[]⟩ _ (rt1 1)).mono ?_
          rintro e S6 ⟨rfl, hb⟩
          have HBC := Lib.hid (HBC.out.trans (hb.mono HBC.out.size))
          have HQ17 := Lib.hid (show BoxOn S6 q17 0 0 ⟨#[]⟩ from fun Z hZ => HQ17.out Z (hb.trans (hZ.mono hb.size)))
          clear hb
          go_upto_region 21 with (fail)
          obtain ⟨S7, hwS7⟩ : ∃ X, S6.alloc (box 0 0 ⟨#[]⟩) = X := ⟨_, rfl⟩
          have hal : Below S6.heap.size S6 S7 := by rw [← hwS7]; exact (Below.refl _ _).alloc (Nat.le_refl _) _
          have hbx : S7.heap[S6.heap.size]? = some (box 0 0 ⟨#[]⟩) := by rw [← hwS7]; exact World.alloc_heap_new S6 _
          rw [hwS7]
          have HBC := Lib.hid (HBC.out.trans (hal.mono HBC.out.size))
          have HQ19 := Lib.hid (show BoxOn S7 S6.heap.size 0 0 ⟨#[]⟩ from fun Z hZ => box_pin hbx hZ)
          have HQ17 := Lib.hid (show BoxOn S7 q17 0 0 ⟨#[]⟩ from fun Z hZ => HQ17.out Z (hal.trans (hZ.mono hal.size)))
          clear hal hbx hwS7
          obtain ⟨q19, hq19⟩ : ∃ n, S6.heap.size = n := ⟨_, rfl⟩
          rw [hq19] at HQ19 ⊢
          clear hq19
          go_wp2_with fail
          refine (num_any _ _).mono ?_
          rintro e S8 ⟨rfl, hb⟩
          have HBC := Lib.hid (HBC.out.trans (hb.mono HBC.out.size))
          have HQ17 := Lib.hid (show BoxOn S8 q17 0 0 ⟨#[]⟩ from fun Z hZ => HQ17.out Z (hb.trans (hZ.mono hb.size)))
          have HQ19 := Lib.hid (show BoxOn S8 q19 0 0 ⟨#[]⟩ from fun Z hZ => HQ19.out Z (hb.trans (hZ.mono hb.size)))
          clear hb
          go_wp2_with fail
          refine (Cast_none 1 1 ⟨#[]⟩ _ (rt1 1)).mono ?_
          rintro e S9 ⟨rfl, hb⟩
          have HBC := Lib.hid (HBC.out.trans (hb.mono HBC.out.size))
          have HQ17 := Lib.hid (show BoxOn S9 q17 0 0 ⟨#[]⟩ from fun Z hZ => HQ17.out Z (hb.trans (hZ.mono hb.size)))
          have HQ19 := Lib.hid (show BoxOn S9 q19 0 0 ⟨#[]⟩ from fun Z hZ => HQ19.out Z (hb.trans (hZ.mono hb.size)))
          clear hb
          go_upto_region 22 with (fail)
          obtain ⟨S10, hwS10⟩ : ∃ X, S9.alloc (box 0 0 ⟨#[]⟩) = X := ⟨_, rfl⟩
          have hal : Below S9.heap.size S9 S10 := by rw [← hwS10]; exact (Below.refl _ _).alloc (Nat.le_refl _) _
          have hbx : S10.heap[S9.heap.size]? = some (box 0 0 ⟨#[]⟩) := by rw [← hwS10]; exact World.alloc_heap_new S9 _
          rw [hwS10]
          have HBC := Lib.hid (HBC.out.trans (hal.mono HBC.out.size))
          have HQ21 := Lib.hid (show BoxOn S10 S9.heap.size 0 0 ⟨#[]⟩ from fun Z hZ => box_pin hbx hZ)
          have HQ17 := Lib.hid (show BoxOn S10 q17 0 0 ⟨#[]⟩ from fun Z hZ => HQ17.out Z (hal.trans (hZ.mono hal.size)))
          have HQ19 := Lib.hid (show BoxOn S10 q19 0 0 ⟨#[]⟩ from fun Z hZ => HQ19.out Z (hal.trans (hZ.mono hal.size)))
          clear hal hbx hwS10
          obtain ⟨q21, hq21⟩ : ∃ n, S9.heap.size = n := ⟨_, rfl⟩
          rw [hq21] at HQ21 ⊢
          clear hq21
          have HWL := Lib.hid (show WdOn S10 from fun X hX => HW.out.on (HBC.out.trans (hX.mono HBC.out.size)))
          have hwl := HWL.out S10 (Below.refl _ _)
          have CA := coal_is S10
          have D0 := ci_ifnull S10
          have D1 := ci_typeof S10
          have D2 := nc2 S10 hwl
          have D3 := nc3 S10 hwl
          have D4 := nc4 S10 hwl
          have D5 := ci_subB S10 hwl
          have D6 := nc6 S10 hwl
          have D7 := nc7 S10 hwl
          refine region_as2 (ops' := vn22Ops) (by kernel_rfl) ?_
          refine vn22 q17 q19 q21 HQ17.out HQ19.out HQ21.out HWL.out CA D0 D1 D2 D3 D4 D5 D6 D7 rfl rfl rfl rfl rfl rfl rfl ?_
          intro V9 Y9 hb hv
          rw [vn22_fill V9, hv]
          have HBY := Lib.hid (HBC.out.trans (hb.mono HBC.out.size))
          clear hb hv
          go_wp2_with fail
          go_ret
          exact ⟨rfl, HBY.out⟩
end
end Go.Proofs.YtceknmibopnmhaaGreatDoor
