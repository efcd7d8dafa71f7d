/-
  BytesDrawer: its region that draws its order, operation by operation: a string of at most 60 bytes is put behind a list. Conditions: where the lists lie.
-/
import Derived.Test.YtlichbiioejpiaaOpen
import Derived.Test.YtlichbiioejpiaaJoin
import Derived.Test.YtlichbiioejpiaaStepTwo
import Derived.Test.YtlichbiioejpiaaSlot
namespace Go.Proofs.Ytlichbiioejpiaa
open Go.ChangeShapes Go.WideShapes Go.ChangeAt Go.RowKit
set_option linter.unusedVariables false
set_option maxRecDepth 100000

section
variable {ops : Array Oper} {Q : Exit → Act → World → Prop} {i : Nat} {a : Act} {w : World} {R : Value → World → Prop}
theorem step_ixLL {x y : Operand} {ad : Addr} {n c k : Nat} (hop : opO ops i = some (.indexAddr 23 x y)) (hw : Wanted ops i a) (hx : a.eval x = .slice (some ad) n c) (hy : a.eval y = .int .i64 k) (hk : k < n) (hR : R (.pointer (some (ad.add k))) w) : wpOp Try.prog ops Q i (fun a' w' => ∃ v, a' = a.put (dstO ops i) v ∧ R v w') a w := by
  refine step_run hop hw (fun o ho => ?_) hR
  have h0 : (0 : Int) ≤ k := by omega
  have h1 : (k : Int) < n := by omega
  simp only [execOp, ho, hx, hy]
  simp [go_sem, h1]
theorem step_ixL {x y : Operand} {ad : Addr} {n c k : Nat} (hop : opO ops i = some (.indexAddr 26 x y)) (hw : Wanted ops i a) (hx : a.eval x = .slice (some ad) n c) (hy : a.eval y = .int .i64 k) (hk : k < n) (hR : R (.pointer (some (ad.add k))) w) : wpOp Try.prog ops Q i (fun a' w' => ∃ v, a' = a.put (dstO ops i) v ∧ R v w') a w := by
  refine step_run hop hw (fun o ho => ?_) hR
  have h0 : (0 : Int) ≤ k := by omega
  have h1 : (k : Int) < n := by omega
  simp only [execOp, ho, hx, hy]
  simp [go_sem, h1]
theorem step_ldL {x : Operand} {ad : Addr} {A : Option Addr} {n c : Nat} (hop : opO ops i = some (.load 26 x)) (hw : Wanted ops i a) (hx : a.eval x = .pointer (some ad)) (hc : w.cell? ad = some (.slice A n c)) (hR : R (.slice A n c) w) : wpOp Try.prog ops Q i (fun a' w' => ∃ v, a' = a.put (dstO ops i) v ∧ R v w') a w := by
  refine step_run hop hw (fun o ho => ?_) hR
  simp only [execOp, ho, hx]
  simp [go_sem, hc]
theorem step_ldB {x : Operand} {ad : Addr} {A : Option Addr} {n c : Nat} (hop : opO ops i = some (.load 24 x)) (hw : Wanted ops i a) (hx : a.eval x = .pointer (some ad)) (hc : w.cell? ad = some (.slice A n c)) (hR : R (.slice A n c) w) : wpOp Try.prog ops Q i (fun a' w' => ∃ v, a' = a.put (dstO ops i) v ∧ R v w') a w := by
  refine step_run hop hw (fun o ho => ?_) hR
  simp only [execOp, ho, hx]
  simp [go_sem, hc]
theorem step_lenB {x : Operand} {A : Option Addr} {n c : Nat} (hop : opO ops i = some (.call { callee := .builtin .len, args := #[x], argTypes := #[24] })) (hw : Wanted ops i a) (hx : a.eval x = .slice A n c) (hR : R (.int .i64 n) w) : wpOp Try.prog ops Q i (fun a' w' => ∃ v, a' = a.put (dstO ops i) v ∧ R v w') a w := by
  refine step_run hop hw (fun o ho => ?_) hR
  simp only [execOp, ho, resolve, List.map_toArray, List.map_cons, List.map_nil, hx]
  simp [invoke, builtin, go_sem]
theorem step_minI {x y : Operand} {k : IntKind} {ts : Array TypeId} {m n r : Int} (hop : opO ops i = some (.call { callee := .builtin .min, args := #[x, y], argTypes := ts })) (hw : Wanted ops i a) (hx : a.eval x = .int k m) (hy : a.eval y = .int k n) (hb : min m n = r) (hR : R (.int k r) w) : wpOp Try.prog ops Q i (fun a' w' => ∃ v, a' = a.put (dstO ops i) v ∧ R v w') a w := by
  refine step_run hop hw (fun o ho => ?_) hR
  subst hb
  simp only [execOp, ho, resolve, List.map_toArray, List.map_cons, List.map_nil, hx, hy]
  simp [invoke, builtin, go_sem]
theorem step_cutB {x y : Operand} {A : Option Addr} {n c m : Nat} (hop : opO ops i = some (.slice 24 x none (some y) none)) (hw : Wanted ops i a) (hx : a.eval x = .slice A n c) (hy : a.eval y = .int .i64 m) (hm : m ≤ c) (hR : R (.slice A m c) w) : wpOp Try.prog ops Q i (fun a' w' => ∃ v, a' = a.put (dstO ops i) v ∧ R v w') a w := by
  refine step_run hop hw (fun o ho => ?_) hR
  have h0 : (0 : Int) ≤ m := by omega
  have h1 : (m : Int) ≤ c := by omega
  simp only [execOp, ho, hx, Option.map_some, Option.map_none, hy]
  simp [go_sem, h1]
theorem step_newL {x : Operand} {A : Option Addr} {n c : Nat} (hop : opO ops i = some (.buildSlice 26 1 #[(0, x)])) (hw : Wanted ops i a) (hx : a.eval x = .slice A n c) (hR : R (.slice (some ⟨w.heap.size, 0, none⟩) 1 1) (w.alloc (.cells #[.slice A n c] 24))) : wpOp Try.prog ops Q i (fun a' w' => ∃ v, a' = a.put (dstO ops i) v ∧ R v w') a w := by
  refine step_run hop hw (fun o ho => ?_) hR
  simp only [execOp, ho, List.map_toArray, List.map_cons, List.map_nil, hx]
  simp [go_sem]
theorem step_appL {s x : Operand} {base n c : Nat} {v : Value} {vs : List Value} {A : Option Addr} {m : Nat} (hop : opO ops i = some (.call { callee := .builtin .append, args := #[s, x], argTypes := #[26, 26] })) (hw : Wanted ops i a) (hs : a.eval s = v) (hown : w.ownsRow base 24 1 v n vs) (hx : a.eval x = .slice (some ⟨w.heap.size, 0, none⟩) 1 1)
    (hn : n ≤ 1000) (hbase : base ≤ w.heap.size) (hR : ∀ v' w', w'.ownsRow base 24 1 v' (n + 1) (vs ++ [.slice A m c]) → Below base w w' → R v' w') : wpOp Try.prog ops Q i (fun a' w' => ∃ v, a' = a.put (dstO ops i) v ∧ R v w') a (w.alloc (.cells #[.slice A m c] 24)) := by
  cases ho : ops[i]? with
  | none => simp [opO, ho] at hop
  | some o =>
    have e : dstO ops i = o.dst := by simp [dstO, ho]
    have hoo : o.op = .call { callee := .builtin .append, args := #[s, x], argTypes := #[26, 26] } := by simpa [opO, ho] using hop
    unfold wpOp
    rw [ho]
    simp only
    rw [if_pos (hw.is ho)]
    left
    obtain ⟨i0, hi, hz0, hz1, hz2⟩ := info_parts Try.info_bytes
    refine wp_append_own _ s x 26 hoo base 24 i0 (.slice none 0 0) 1 24 Try.underlying26 hi hz0 hz1 hz2 rfl (by decide) v n vs hs (hown.alloc _) ⟨w.heap.size, 0, none⟩ 1 1 [.slice A m c] hx rfl ?_ ?_ (by simp only [maxLen]; omega) (by omega) (by simp; omega) ?_
    · intro j q hq
      have hj := getElem_lt hq
      obtain rfl : j = 0 := by simpa using hj
      have hq' : Value.slice A m c = q := by simpa using hq
      subst hq'
      have ha : ((⟨w.heap.size, 0, none⟩ : Addr).add 0) = ⟨w.heap.size, 0, none⟩ := by simp [Addr.add]
      rw [ha]
      simp only [World.cell?, heap_alloc_new]
      rfl
    · intro q hq
      obtain rfl : q = Value.slice A m c := by simpa using hq
      rfl
    · intro v' w' h1 h2 _
      exact ⟨v', by rw [e], hR v' w' h1 (((Below.refl _ _).alloc hbase _).grown h2 (by simp; omega) fun k hk => (hown.lt k hk).1)⟩
end

noncomputable def dr11Ops : Array Oper := regOf Try.f3 11
theorem dr11_fill {v0 v1 v2 v3 v4 v5 v6 v7 v8 v9 v10 v11 v12 v13 v14 v15 v16 v17 v18 v19 v20 v21 v22 v23 v24 v25 v26 v27 v28 v29 v30 v31 v32 v33 v34 v35 v36 v37 v38 v39 v40 v41 v42 v43 v44 v45 v46 v47 v48 v49 v50 v51 v52 v53 v54 v55 v56 v57 v58 v59 v60 v61 v62 v63 v64 v65 v66 v67 v68 v69 v70 v71 v72 v73 v74 v75 v76 v77 v78 v79 v80 v81 v82 v83 v84 v85 v86 v87 v88 v89 v90 v91 v92 v93 v94 v95 v96 v97 v98 v99 v100 v101 v102 v103 v104 v105 v106 v107 v108 v109 v110 v111 v112 v113 v114 v115 v116 v117 v118 v119 v120 v121 v122 v123 v124 v125 v126 v127 v128 v129 v130 v131 v132 v133 v134 v135 v136 v137 v138 v139 v140 v141 v142 v143 v144 v145 v146 v147 v148 v149 v150 v151 v152 v153 v154 v155 v156 v157 v158 v159 v160 v161 v162 v163 v164 v165 v166 v167 v168 v169 v170 v171 v172 v173 v174 v175 v176 v177 v178 v179 v180 v181 v182 v183 v184 v185 v186 v187 v188 : Value} (V : Nat → Value) : fillT dr11Ops #[v0, v1, v2, v3, v4, v5, v6, v7, v8, v9, v10, v11, v12, v13, v14, v15, v16, v17, v18, v19, v20, v21, v22, v23, v24, v25, v26, v27, v28, v29, v30, v31, v32, v33, v34, v35, v36, v37, v38, v39, v40, v41, v42, v43, v44, v45, v46, v47, v48, v49, v50, v51, v52, v53, v54, v55, v56, v57, v58, v59, v60, v61, v62, v63, v64, v65, v66, v67, v68, v69, v70, v71, v72, v73, v74, v75, v76, v77, v78, v79, v80, v81, v82, v83, v84, v85, v86, v87, v88, v89, v90, v91, v92, v93, v94, v95, v96, v97, v98, v99, v100, v101, v102, v103, v104, v105, v106, v107, v108, v109, v110, v111, v112, v113, v114, v115, v116, v117, v118, v119, v120, v121, v122, v123, v124, v125, v126, v127, v128, v129, v130, v131, v132, v133, v134, v135, v136, v137, v138, v139, v140, v141, v142, v143, v144, v145, v146, v147, v148, v149, v150, v151, v152, v153, v154, v155, v156, v157, v158, v159, v160, v161, v162, v163, v164, v165, v166, v167, v168, v169, v170, v171, v172, v173, v174, v175, v176, v177, v178, v179, v180, v181, v182, v183, v184, v185, v186, v187, v188] V = #[v0, v1, v2, v3, v4, v5, v6, v7, v8, v9, v10, V 20, v12, v13, v14, v15, v16, v17, v18, v19, v20, v21, v22, v23, v24, v25, v26, v27, v28, v29, v30, v31, v32, v33, v34, v35, v36, v37, v38, v39, v40, v41, v42, v43, v44, v45, v46, v47, v48, v49, v50, v51, v52, v53, v54, v55, v56, v57, v58, v59, v60, v61, V 0, V 1, V 2, V 3, V 4, V 5, V 6, V 7, V 8, V 9, V 10, V 11, V 12, V 13, V 14, V 15, V 16, V 17, V 18, V 19, v82, v83, v84, v85, v86, v87, v88, v89, v90, v91, v92, v93, v94, v95, v96, v97, v98, v99, v100, v101, v102, v103, v104, v105, v106, v107, v108, v109, v110, v111, v112, v113, v114, v115, v116, v117, v118, v119, v120, v121, v122, v123, v124, v125, v126, v127, v128, v129, v130, v131, v132, v133, v134, v135, v136, v137, v138, v139, v140, v141, v142, v143, v144, v145, v146, v147, v148, v149, v150, v151, v152, v153, v154, v155, v156, v157, v158, v159, v160, v161, v162, v163, v164, v165, v166, v167, v168, v169, v170, v171, v172, v173, v174, v175, v176, v177, v178, v179, v180, v181, v182, v183, v184, v185, v186, v187, v188] := by
  kernel_rfl
def dr11L (ad : Addr) (N c1 i : Nat) (ad2 : Addr) (L c2 k : Nat) (A3 : Option Addr) (n3 c3 : Nat) (v : Value) : List Value := [v, .slice (some ad) N c1, .int .i64 i, .pointer (some (ad.add i)), .slice (some ad2) L c2, .int .i64 k, .pointer (some (ad2.add k)), .slice A3 n3 c3, .slice (some ad) N c1, .int .i64 i, .pointer (some (ad.add i)), .slice (some ad2) L c2, .int .i64 k, .pointer (some (ad2.add k)), .slice A3 n3 c3, .int .i64 n3, .int .i64 ((min n3 60 : Nat) : Int), .slice A3 (min n3 60) c3]
abbrev DrStep (ad : Addr) (N c1 i : Nat) (ad2 : Addr) (L c2 k : Nat) (A3 : Option Addr) (n3 c3 : Nat) (v : Value) (Q : Exit → Act → World → Prop) (j : Nat) : Prop := ∀ (act : Act) (w : World), w.cell? (ad.add i) = some (.slice (some ad2) L c2) → w.cell? (ad2.add k) = some (.slice A3 n3 c3) → act.eval (.tmp 1) = .slice (some ad) N c1 → act.eval (.tmp 10) = .int .i64 i → (j = 0 → act.eval (.tmp 11) = v) → act.eval (.tmp 12) = .int .i64 k →
    (∀ j' ∈ depsO dr11Ops j, j' ≠ 18 → j' ≠ 19 → j' ≠ 20 → ∀ d, dstO dr11Ops j' = some d → act.eval (.tmp d) = (dr11L ad N c1 i ad2 L c2 k A3 n3 c3 v).getD j' undef) → wpOp Try.prog dr11Ops Q j (fun a' w' => ∃ v', a' = act.put (dstO dr11Ops j) v' ∧ (v' = (dr11L ad N c1 i ad2 L c2 k A3 n3 c3 v).getD j undef ∧ w' = w)) act w
theorem dr11_s0 (ad : Addr) (N c1 i : Nat) (ad2 : Addr) (L c2 k : Nat) (A3 : Option Addr) (n3 c3 : Nat) (v : Value) (hi : i < N) (hk : k < L) (hc3 : n3 ≤ c3) {Q : Exit → Act → World → Prop} : DrStep ad N c1 i ad2 L c2 k A3 n3 c3 v Q 0 := by
  intro act w f1 f2 h1 h10 h11 h12 hF
  exact step_move (show opO dr11Ops 0 = some (.move (.tmp 11)) by kernel_rfl) (.free (by kernel_rfl)) (h11 rfl) ⟨rfl, rfl⟩
theorem dr11_s1 (ad : Addr) (N c1 i : Nat) (ad2 : Addr) (L c2 k : Nat) (A3 : Option Addr) (n3 c3 : Nat) (v : Value) (hi : i < N) (hk : k < L) (hc3 : n3 ≤ c3) {Q : Exit → Act → World → Prop} : DrStep ad N c1 i ad2 L c2 k A3 n3 c3 v Q 1 := by
  intro act w f1 f2 h1 h10 h11 h12 hF
  exact step_move (show opO dr11Ops 1 = some (.move (.tmp 1)) by kernel_rfl) (.free (by kernel_rfl)) h1 ⟨rfl, rfl⟩
theorem dr11_s2 (ad : Addr) (N c1 i : Nat) (ad2 : Addr) (L c2 k : Nat) (A3 : Option Addr) (n3 c3 : Nat) (v : Value) (hi : i < N) (hk : k < L) (hc3 : n3 ≤ c3) {Q : Exit → Act → World → Prop} : DrStep ad N c1 i ad2 L c2 k A3 n3 c3 v Q 2 := by
  intro act w f1 f2 h1 h10 h11 h12 hF
  exact step_move (show opO dr11Ops 2 = some (.move (.tmp 10)) by kernel_rfl) (.free (by kernel_rfl)) h10 ⟨rfl, rfl⟩
theorem dr11_s3 (ad : Addr) (N c1 i : Nat) (ad2 : Addr) (L c2 k : Nat) (A3 : Option Addr) (n3 c3 : Nat) (v : Value) (hi : i < N) (hk : k < L) (hc3 : n3 ≤ c3) {Q : Exit → Act → World → Prop} : DrStep ad N c1 i ad2 L c2 k A3 n3 c3 v Q 3 := by
  intro act w f1 f2 h1 h10 h11 h12 hF
  exact step_ixLL (show opO dr11Ops 3 = some (.indexAddr 23 (.tmp 63) (.tmp 64)) by kernel_rfl) (.free (by kernel_rfl)) (hF 1 (of_decide_eq_true (by kernel_rfl)) (by decide) (by decide) (by decide) 63 (by kernel_rfl)) (hF 2 (of_decide_eq_true (by kernel_rfl)) (by decide) (by decide) (by decide) 64 (by kernel_rfl)) hi ⟨rfl, rfl⟩
theorem dr11_s4 (ad : Addr) (N c1 i : Nat) (ad2 : Addr) (L c2 k : Nat) (A3 : Option Addr) (n3 c3 : Nat) (v : Value) (hi : i < N) (hk : k < L) (hc3 : n3 ≤ c3) {Q : Exit → Act → World → Prop} : DrStep ad N c1 i ad2 L c2 k A3 n3 c3 v Q 4 := by
  intro act w f1 f2 h1 h10 h11 h12 hF
  exact step_ldL (show opO dr11Ops 4 = some (.load 26 (.tmp 65)) by kernel_rfl) (.free (by kernel_rfl)) (hF 3 (of_decide_eq_true (by kernel_rfl)) (by decide) (by decide) (by decide) 65 (by kernel_rfl)) f1 ⟨rfl, rfl⟩
theorem dr11_s5 (ad : Addr) (N c1 i : Nat) (ad2 : Addr) (L c2 k : Nat) (A3 : Option Addr) (n3 c3 : Nat) (v : Value) (hi : i < N) (hk : k < L) (hc3 : n3 ≤ c3) {Q : Exit → Act → World → Prop} : DrStep ad N c1 i ad2 L c2 k A3 n3 c3 v Q 5 := by
  intro act w f1 f2 h1 h10 h11 h12 hF
  exact step_move (show opO dr11Ops 5 = some (.move (.tmp 12)) by kernel_rfl) (.free (by kernel_rfl)) h12 ⟨rfl, rfl⟩
theorem dr11_s6 (ad : Addr) (N c1 i : Nat) (ad2 : Addr) (L c2 k : Nat) (A3 : Option Addr) (n3 c3 : Nat) (v : Value) (hi : i < N) (hk : k < L) (hc3 : n3 ≤ c3) {Q : Exit → Act → World → Prop} : DrStep ad N c1 i ad2 L c2 k A3 n3 c3 v Q 6 := by
  intro act w f1 f2 h1 h10 h11 h12 hF
  exact step_ixL (show opO dr11Ops 6 = some (.indexAddr 26 (.tmp 66) (.tmp 67)) by kernel_rfl) (.free (by kernel_rfl)) (hF 4 (of_decide_eq_true (by kernel_rfl)) (by decide) (by decide) (by decide) 66 (by kernel_rfl)) (hF 5 (of_decide_eq_true (by kernel_rfl)) (by decide) (by decide) (by decide) 67 (by kernel_rfl)) hk ⟨rfl, rfl⟩
theorem dr11_s7 (ad : Addr) (N c1 i : Nat) (ad2 : Addr) (L c2 k : Nat) (A3 : Option Addr) (n3 c3 : Nat) (v : Value) (hi : i < N) (hk : k < L) (hc3 : n3 ≤ c3) {Q : Exit → Act → World → Prop} : DrStep ad N c1 i ad2 L c2 k A3 n3 c3 v Q 7 := by
  intro act w f1 f2 h1 h10 h11 h12 hF
  exact step_ldB (show opO dr11Ops 7 = some (.load 24 (.tmp 68)) by kernel_rfl) (.free (by kernel_rfl)) (hF 6 (of_decide_eq_true (by kernel_rfl)) (by decide) (by decide) (by decide) 68 (by kernel_rfl)) f2 ⟨rfl, rfl⟩
theorem dr11_s8 (ad : Addr) (N c1 i : Nat) (ad2 : Addr) (L c2 k : Nat) (A3 : Option Addr) (n3 c3 : Nat) (v : Value) (hi : i < N) (hk : k < L) (hc3 : n3 ≤ c3) {Q : Exit → Act → World → Prop} : DrStep ad N c1 i ad2 L c2 k A3 n3 c3 v Q 8 := by
  intro act w f1 f2 h1 h10 h11 h12 hF
  exact step_move (show opO dr11Ops 8 = some (.move (.tmp 1)) by kernel_rfl) (.free (by kernel_rfl)) h1 ⟨rfl, rfl⟩
theorem dr11_s9 (ad : Addr) (N c1 i : Nat) (ad2 : Addr) (L c2 k : Nat) (A3 : Option Addr) (n3 c3 : Nat) (v : Value) (hi : i < N) (hk : k < L) (hc3 : n3 ≤ c3) {Q : Exit → Act → World → Prop} : DrStep ad N c1 i ad2 L c2 k A3 n3 c3 v Q 9 := by
  intro act w f1 f2 h1 h10 h11 h12 hF
  exact step_move (show opO dr11Ops 9 = some (.move (.tmp 10)) by kernel_rfl) (.free (by kernel_rfl)) h10 ⟨rfl, rfl⟩
theorem dr11_s10 (ad : Addr) (N c1 i : Nat) (ad2 : Addr) (L c2 k : Nat) (A3 : Option Addr) (n3 c3 : Nat) (v : Value) (hi : i < N) (hk : k < L) (hc3 : n3 ≤ c3) {Q : Exit → Act → World → Prop} : DrStep ad N c1 i ad2 L c2 k A3 n3 c3 v Q 10 := by
  intro act w f1 f2 h1 h10 h11 h12 hF
  exact step_ixLL (show opO dr11Ops 10 = some (.indexAddr 23 (.tmp 70) (.tmp 71)) by kernel_rfl) (.free (by kernel_rfl)) (hF 8 (of_decide_eq_true (by kernel_rfl)) (by decide) (by decide) (by decide) 70 (by kernel_rfl)) (hF 9 (of_decide_eq_true (by kernel_rfl)) (by decide) (by decide) (by decide) 71 (by kernel_rfl)) hi ⟨rfl, rfl⟩
theorem dr11_s11 (ad : Addr) (N c1 i : Nat) (ad2 : Addr) (L c2 k : Nat) (A3 : Option Addr) (n3 c3 : Nat) (v : Value) (hi : i < N) (hk : k < L) (hc3 : n3 ≤ c3) {Q : Exit → Act → World → Prop} : DrStep ad N c1 i ad2 L c2 k A3 n3 c3 v Q 11 := by
  intro act w f1 f2 h1 h10 h11 h12 hF
  exact step_ldL (show opO dr11Ops 11 = some (.load 26 (.tmp 72)) by kernel_rfl) (.free (by kernel_rfl)) (hF 10 (of_decide_eq_true (by kernel_rfl)) (by decide) (by decide) (by decide) 72 (by kernel_rfl)) f1 ⟨rfl, rfl⟩
theorem dr11_s12 (ad : Addr) (N c1 i : Nat) (ad2 : Addr) (L c2 k : Nat) (A3 : Option Addr) (n3 c3 : Nat) (v : Value) (hi : i < N) (hk : k < L) (hc3 : n3 ≤ c3) {Q : Exit → Act → World → Prop} : DrStep ad N c1 i ad2 L c2 k A3 n3 c3 v Q 12 := by
  intro act w f1 f2 h1 h10 h11 h12 hF
  exact step_move (show opO dr11Ops 12 = some (.move (.tmp 12)) by kernel_rfl) (.free (by kernel_rfl)) h12 ⟨rfl, rfl⟩
theorem dr11_s13 (ad : Addr) (N c1 i : Nat) (ad2 : Addr) (L c2 k : Nat) (A3 : Option Addr) (n3 c3 : Nat) (v : Value) (hi : i < N) (hk : k < L) (hc3 : n3 ≤ c3) {Q : Exit → Act → World → Prop} : DrStep ad N c1 i ad2 L c2 k A3 n3 c3 v Q 13 := by
  intro act w f1 f2 h1 h10 h11 h12 hF
  exact step_ixL (show opO dr11Ops 13 = some (.indexAddr 26 (.tmp 73) (.tmp 74)) by kernel_rfl) (.free (by kernel_rfl)) (hF 11 (of_decide_eq_true (by kernel_rfl)) (by decide) (by decide) (by decide) 73 (by kernel_rfl)) (hF 12 (of_decide_eq_true (by kernel_rfl)) (by decide) (by decide) (by decide) 74 (by kernel_rfl)) hk ⟨rfl, rfl⟩
theorem dr11_s14 (ad : Addr) (N c1 i : Nat) (ad2 : Addr) (L c2 k : Nat) (A3 : Option Addr) (n3 c3 : Nat) (v : Value) (hi : i < N) (hk : k < L) (hc3 : n3 ≤ c3) {Q : Exit → Act → World → Prop} : DrStep ad N c1 i ad2 L c2 k A3 n3 c3 v Q 14 := by
  intro act w f1 f2 h1 h10 h11 h12 hF
  exact step_ldB (show opO dr11Ops 14 = some (.load 24 (.tmp 75)) by kernel_rfl) (.free (by kernel_rfl)) (hF 13 (of_decide_eq_true (by kernel_rfl)) (by decide) (by decide) (by decide) 75 (by kernel_rfl)) f2 ⟨rfl, rfl⟩
theorem dr11_s15 (ad : Addr) (N c1 i : Nat) (ad2 : Addr) (L c2 k : Nat) (A3 : Option Addr) (n3 c3 : Nat) (v : Value) (hi : i < N) (hk : k < L) (hc3 : n3 ≤ c3) {Q : Exit → Act → World → Prop} : DrStep ad N c1 i ad2 L c2 k A3 n3 c3 v Q 15 := by
  intro act w f1 f2 h1 h10 h11 h12 hF
  exact step_lenB (show opO dr11Ops 15 = some (.call { callee := .builtin .len, args := #[.tmp 76], argTypes := #[24] }) by kernel_rfl) (.free (by kernel_rfl)) (hF 14 (of_decide_eq_true (by kernel_rfl)) (by decide) (by decide) (by decide) 76 (by kernel_rfl)) ⟨rfl, rfl⟩
theorem dr11_s16 (ad : Addr) (N c1 i : Nat) (ad2 : Addr) (L c2 k : Nat) (A3 : Option Addr) (n3 c3 : Nat) (v : Value) (hi : i < N) (hk : k < L) (hc3 : n3 ≤ c3) {Q : Exit → Act → World → Prop} : DrStep ad N c1 i ad2 L c2 k A3 n3 c3 v Q 16 := by
  intro act w f1 f2 h1 h10 h11 h12 hF
  exact step_minI (show opO dr11Ops 16 = some (.call { callee := .builtin .min, args := #[.tmp 77, .const (.int .i64 60)], argTypes := #[3, 3] }) by kernel_rfl) (.free (by kernel_rfl)) (hF 15 (of_decide_eq_true (by kernel_rfl)) (by decide) (by decide) (by decide) 77 (by kernel_rfl)) rfl (show min (n3 : Int) 60 = ((min n3 60 : Nat) : Int) by omega) ⟨rfl, rfl⟩
theorem dr11_s17 (ad : Addr) (N c1 i : Nat) (ad2 : Addr) (L c2 k : Nat) (A3 : Option Addr) (n3 c3 : Nat) (v : Value) (hi : i < N) (hk : k < L) (hc3 : n3 ≤ c3) {Q : Exit → Act → World → Prop} : DrStep ad N c1 i ad2 L c2 k A3 n3 c3 v Q 17 := by
  intro act w f1 f2 h1 h10 h11 h12 hF
  exact step_cutB (show opO dr11Ops 17 = some (.slice 24 (.tmp 69) none (some (.tmp 78)) none) by kernel_rfl) (.free (by kernel_rfl)) (hF 7 (of_decide_eq_true (by kernel_rfl)) (by decide) (by decide) (by decide) 69 (by kernel_rfl)) (hF 16 (of_decide_eq_true (by kernel_rfl)) (by decide) (by decide) (by decide) 78 (by kernel_rfl)) (Nat.le_trans (Nat.min_le_left _ _) hc3) ⟨rfl, rfl⟩
theorem dr11 {Q : Exit → Act → World → Prop} {a0 : Act} {w0 : World} (ad : Addr) (N c1 i : Nat) (ad2 : Addr) (L c2 k : Nat) (A3 : Option Addr) (n3 c3 : Nat) (v : Value) (hi : i < N) (hk : k < L) (hc3 : n3 ≤ c3) (base n : Nat) (vs : List Value)
    (hs : a0.tmps.size = 189) (x1 : a0.tmps.getD 1 undef = .slice (some ad) N c1) (x10 : a0.tmps.getD 10 undef = .int .i64 i) (x11 : a0.tmps.getD 11 undef = v) (x12 : a0.tmps.getD 12 undef = .int .i64 k)
    (f1 : ∀ w, Below base w0 w → w.cell? (ad.add i) = some (.slice (some ad2) L c2)) (f2 : ∀ w, Below base w0 w → w.cell? (ad2.add k) = some (.slice A3 n3 c3)) (hown : w0.ownsRow base 24 1 v n vs) (hn : n ≤ 1000) (hbase : base ≤ w0.heap.size)
    (hend : ∀ (V : Nat → Value) (v' : Value) (w : World), w.ownsRow base 24 1 v' (n + 1) (vs ++ [.slice A3 (min n3 60) c3]) → Below base w0 w → V 20 = v' → Q .normal ⟨fillT dr11Ops a0.tmps V, a0.defers⟩ w) : (Code.region 11 dr11Ops true).wp Try.prog Q a0 w0 := by
  have hb0 : Below base w0 { w0 with drawn := w0.drawn + 1 } := (Below.refl _ _).drew
  have hown0 : ({ w0 with drawn := w0.drawn + 1 } : World).ownsRow base 24 1 v n vs := hown
  have hb1 : Below base w0 (({ w0 with drawn := w0.drawn + 1 } : World).alloc (.cells #[.slice A3 (min n3 60) c3] 24)) := hb0.alloc hbase _
  refine wp_region_two (by kernel_rfl) (fun jj v' => v' = (dr11L ad N c1 i ad2 L c2 k A3 n3 c3 v).getD jj undef) 18 19 20 80 81 11 (.slice (some ⟨w0.heap.size, 0, none⟩) 1 1) (({ w0 with drawn := w0.drawn + 1 } : World).alloc (.cells #[.slice A3 (min n3 60) c3] 24)) (fun w => Below base w0 w) (fun v' w => w.ownsRow base 24 1 v' (n + 1) (vs ++ [.slice A3 (min n3 60) c3]) ∧ Below base w0 w)
    (by kernel_rfl) (by kernel_rfl) (by kernel_rfl) (of_decide_eq_true (by kernel_rfl)) (of_decide_eq_true (by kernel_rfl)) (by decide) (by decide) (by decide) 0 (of_decide_eq_true (by kernel_rfl)) (by rw [hs]; kernel_rfl) hb0 hb1 (fun _ _ h => h.2) ?_ ?_ ?_ ?_ ?_
  · intro j hj n1 n2 n3' act w hG hk' hz hF
    have size_is : dr11Ops.size = 21 := by kernel_rfl
    rw [size_is] at hj
    have q1 := (hk' 1 (by kernel_rfl)).trans x1
    have q10 := (hk' 10 (by kernel_rfl)).trans x10
    have q11 := fun e => (hz e).trans x11
    have q12 := (hk' 12 (by kernel_rfl)).trans x12
    match j, hj with
    | 0, _ => exact dr11_s0 ad N c1 i ad2 L c2 k A3 n3 c3 v hi hk hc3 act w (f1 w hG) (f2 w hG) q1 q10 q11 q12 hF
    | 1, _ => exact dr11_s1 ad N c1 i ad2 L c2 k A3 n3 c3 v hi hk hc3 act w (f1 w hG) (f2 w hG) q1 q10 q11 q12 hF
    | 2, _ => exact dr11_s2 ad N c1 i ad2 L c2 k A3 n3 c3 v hi hk hc3 act w (f1 w hG) (f2 w hG) q1 q10 q11 q12 hF
    | 3, _ => exact dr11_s3 ad N c1 i ad2 L c2 k A3 n3 c3 v hi hk hc3 act w (f1 w hG) (f2 w hG) q1 q10 q11 q12 hF
    | 4, _ => exact dr11_s4 ad N c1 i ad2 L c2 k A3 n3 c3 v hi hk hc3 act w (f1 w hG) (f2 w hG) q1 q10 q11 q12 hF
    | 5, _ => exact dr11_s5 ad N c1 i ad2 L c2 k A3 n3 c3 v hi hk hc3 act w (f1 w hG) (f2 w hG) q1 q10 q11 q12 hF
    | 6, _ => exact dr11_s6 ad N c1 i ad2 L c2 k A3 n3 c3 v hi hk hc3 act w (f1 w hG) (f2 w hG) q1 q10 q11 q12 hF
    | 7, _ => exact dr11_s7 ad N c1 i ad2 L c2 k A3 n3 c3 v hi hk hc3 act w (f1 w hG) (f2 w hG) q1 q10 q11 q12 hF
    | 8, _ => exact dr11_s8 ad N c1 i ad2 L c2 k A3 n3 c3 v hi hk hc3 act w (f1 w hG) (f2 w hG) q1 q10 q11 q12 hF
    | 9, _ => exact dr11_s9 ad N c1 i ad2 L c2 k A3 n3 c3 v hi hk hc3 act w (f1 w hG) (f2 w hG) q1 q10 q11 q12 hF
    | 10, _ => exact dr11_s10 ad N c1 i ad2 L c2 k A3 n3 c3 v hi hk hc3 act w (f1 w hG) (f2 w hG) q1 q10 q11 q12 hF
    | 11, _ => exact dr11_s11 ad N c1 i ad2 L c2 k A3 n3 c3 v hi hk hc3 act w (f1 w hG) (f2 w hG) q1 q10 q11 q12 hF
    | 12, _ => exact dr11_s12 ad N c1 i ad2 L c2 k A3 n3 c3 v hi hk hc3 act w (f1 w hG) (f2 w hG) q1 q10 q11 q12 hF
    | 13, _ => exact dr11_s13 ad N c1 i ad2 L c2 k A3 n3 c3 v hi hk hc3 act w (f1 w hG) (f2 w hG) q1 q10 q11 q12 hF
    | 14, _ => exact dr11_s14 ad N c1 i ad2 L c2 k A3 n3 c3 v hi hk hc3 act w (f1 w hG) (f2 w hG) q1 q10 q11 q12 hF
    | 15, _ => exact dr11_s15 ad N c1 i ad2 L c2 k A3 n3 c3 v hi hk hc3 act w (f1 w hG) (f2 w hG) q1 q10 q11 q12 hF
    | 16, _ => exact dr11_s16 ad N c1 i ad2 L c2 k A3 n3 c3 v hi hk hc3 act w (f1 w hG) (f2 w hG) q1 q10 q11 q12 hF
    | 17, _ => exact dr11_s17 ad N c1 i ad2 L c2 k A3 n3 c3 v hi hk hc3 act w (f1 w hG) (f2 w hG) q1 q10 q11 q12 hF
    | 18, _ => exact absurd rfl n1
    | 19, _ => exact absurd rfl n2
    | 20, _ => exact absurd rfl n3'
    | j + 21, h => omega
  · intro act hF
    exact step_newL (show opO dr11Ops 18 = some (.buildSlice 26 1 #[(0, .tmp 79)]) by kernel_rfl) (.free (by kernel_rfl)) (hF 17 (of_decide_eq_true (by kernel_rfl)) (by decide) (by decide) (by decide) 79 (by kernel_rfl)) ⟨rfl, rfl⟩
  · intro act hF hvp
    have h11 : act.eval (.tmp 62) = v := hF 0 (of_decide_eq_true (by kernel_rfl)) (by decide) (by decide) (by decide) 62 (by kernel_rfl)
    exact step_appL (show opO dr11Ops 19 = some (.call { callee := .builtin .append, args := #[.tmp 62, .tmp 80], argTypes := #[26, 26] }) by kernel_rfl) (.free (by kernel_rfl)) h11 hown0 hvp hn hbase (fun v' w' h1 h2 => ⟨h1, hb0.trans h2⟩)
  · intro act w
    exact step_assign (show opO dr11Ops 20 = some (.assign (.tmp 81)) by kernel_rfl) (.free (by kernel_rfl)) rfl ⟨rfl, rfl⟩
  · intro V w hP h20 _ hV
    exact hend V (V 19) w hP.1 hP.2 h20
end Go.Proofs.Ytlichbiioejpiaa
