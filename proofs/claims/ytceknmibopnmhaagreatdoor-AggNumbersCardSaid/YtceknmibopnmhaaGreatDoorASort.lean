/-
  slices.SortFunc of right values by Compare: they are put in order. No conditions but sizes.
-/
import Derived.Test.YtceknmibopnmhaaGreatDoorACmp
import Derived.Test.YtceknmibopnmhaaGreatDoorACol
import Derived.Test.YtceknmibopnmhaaGreatDoorVShelf
namespace Go.Proofs.YtceknmibopnmhaaGreatDoor
open Go.ChangeShapes Go.WideShapes Go.ChangeAt Go.RowKit Go.Maps Go.Sort Go.Shelf Go.ChangeMaps Go.Lib
set_option linter.unusedVariables false

theorem grow_two (w : World) (a b : Obj) : (w.alloc a).alloc b = grow w #[a, b] := by
  rw [alloc_eq_grow, alloc_eq_grow, grow_grow]
  rfl
theorem Compare_grow (k n : Int) (s : ByteArray) (k' n' : Int) (s' : ByteArray) (w : World) :
    Calls Tryz.prog 67 #[vv k n s, vv k' n' s'] w fun e w' => e = .returned (.int .i64 (cmpV k n s k' n' s')) ∧ ∃ os, w' = Go.Sort.grow w os := by
  by_cases hk : k = k'
  · subst hk
    by_cases h1 : k = 1
    · subst h1
      go_enter Tryz.func67, Tryz.ntmps67
      go_wp2_with (go_at_call 93; refine (cmpInt_any _ _ _).mono ?_; rintro e w1 ⟨rfl, rfl⟩)
      go_ret
      exact ⟨ret_i (by simp [cmpV]), ⟨_, grow_two _ _ _⟩⟩
    · have e1 : (k == 1) = false := by simpa using h1
      by_cases h2 : k = 2
      · subst h2
        go_enter Tryz.func67, Tryz.ntmps67
        go_wp2_with (go_at_call 94; refine (Tryz.strings_Compare _ _ _).mono ?_; rintro e w1 ⟨rfl, rfl⟩)
        go_ret
        exact ⟨ret_i (by simp [cmpV]), ⟨_, grow_two _ _ _⟩⟩
      · have e2 : (k == 2) = false := by simpa using h2
        by_cases h3 : k = 3
        · subst h3
          go_enter Tryz.func67, Tryz.ntmps67
          go_wp2_with (go_at_call 94; refine (Tryz.strings_Compare _ _ _).mono ?_; rintro e w1 ⟨rfl, rfl⟩)
          go_ret
          exact ⟨ret_i (by simp [cmpV]), ⟨_, grow_two _ _ _⟩⟩
        · have e3 : (k == 3) = false := by simpa using h3
          have HC := Lib.hid (show 0 = cmpV k n s k n' s' by simp [cmpV, h1, h2, h3])
          clear h1 h2 h3
          go_enter Tryz.func67, Tryz.ntmps67
          go_wp2
          go_ret
          exact ⟨ret_i HC.out, ⟨_, grow_two _ _ _⟩⟩
  · have e0 : (k != k') = true := by simpa using hk
    have HC := Lib.hid (show cmp3 k k' = cmpV k n s k' n' s' by simp [cmpV, hk])
    clear hk
    go_enter Tryz.func67, Tryz.ntmps67
    go_wp2_with (go_at_call 92; refine (cmpKind_any _ _ _).mono ?_; rintro e w1 ⟨rfl, rfl⟩)
    go_ret
    exact ⟨ret_i HC.out, ⟨_, grow_two _ _ _⟩⟩

abbrev RT := { t : Trip // Rt t.1 t.2.1 t.2.2 }
instance : Inhabited RT := ⟨⟨(0, 0, ⟨#[]⟩), .inl ⟨rfl, rfl, rfl⟩⟩⟩
def encR (x : RT) : List Value := [.int .u8 x.1.1, .int .i64 x.1.2.1, .string x.1.2.2]
def cfR (x y : RT) : Int := cmpV x.1.1 x.1.2.1 x.1.2.2 y.1.1 y.1.2.1 y.1.2.2
theorem ltR_iff {x y : RT} : ltOf cfR x y = true ↔ cfR x y < 0 := ⟨fun h => of_decide_eq_true h, fun h => decide_eq_true h⟩
theorem ltR_no {x y : RT} : ltOf cfR x y = false ↔ ¬ cfR x y < 0 := ⟨fun h => of_decide_eq_false h, fun h => decide_eq_false h⟩
theorem cfR_anti (x y : RT) : cfR y x = - cfR x y := cmp_anti _ _ _ _ _ _
theorem cfR_trans {x y z : RT} (h1 : cfR x y ≤ 0) (h2 : cfR y z ≤ 0) : cfR x z ≤ 0 ∧ (cfR x y < 0 → cfR x z < 0) := cmp_trans _ _ _ _ _ _ _ _ _ h1 h2
theorem cfR_zero (x y : RT) : cfR x y = 0 ↔ x = y := by
  refine ⟨fun h => ?_, fun h => ?_⟩
  · obtain ⟨e1, e2, e3⟩ := (cmp_zero _ _ _ _ _ _ x.2 y.2).1 h
    exact Subtype.ext (Prod.ext e1 (Prod.ext e2 e3))
  · subst h
    exact (cmp_zero _ _ _ _ _ _ x.2 x.2).2 ⟨rfl, rfl, rfl⟩
theorem cfR_swo : SWO (ltOf cfR) where
  irrefl := fun x => by
    have h := (cfR_zero x x).2 rfl
    exact ltR_no.2 (by omega)
  trans := fun x y z h1 h2 => by
    have h1 := ltR_iff.1 h1
    have h2 := ltR_iff.1 h2
    exact ltR_iff.2 ((cfR_trans (by omega) (by omega)).2 h1)
  ntrans := fun x y z h1 h2 => by
    have h1 := ltR_no.1 h1
    have h2 := ltR_no.1 h2
    have a1 := cfR_anti x y
    have a2 := cfR_anti y z
    have a3 := cfR_anti x z
    have h := (cfR_trans (x := z) (y := y) (z := x) (by omega) (by omega)).1
    exact ltR_no.2 (by omega)
theorem cfR_one (x y : RT) (h1 : ltOf cfR x y = false) (h2 : ltOf cfR y x = false) : x = y := by
  have h1 := ltR_no.1 h1
  have h2 := ltR_no.1 h2
  have a1 := cfR_anti x y
  exact (cfR_zero x y).1 (by omega)
theorem cellsR_at : ∀ (l : List RT) (t : Nat), t < l.length * 3 → (cellsT (l.map Subtype.val))[t]? = some ((encR l.toArray[t / 3]!)[t % 3]!)
  | x :: l, 0, _ => rfl
  | x :: l, 1, _ => rfl
  | x :: l, 2, _ => rfl
  | x :: l, t + 3, h => by
    have ih := cellsR_at l t (by simp at h; omega)
    have e1 : (t + 3) / 3 = t / 3 + 1 := by omega
    have e2 : (t + 3) % 3 = t % 3 := by omega
    rw [e1, e2]
    have e3 : (x :: l).toArray[t / 3 + 1]! = l.toArray[t / 3]! := by simp
    rw [e3]
    exact ih
theorem lift_right : ∀ (ss : List Trip), (∀ t ∈ ss, Rt t.1 t.2.1 t.2.2) → ∃ l : List RT, l.map Subtype.val = ss
  | [], _ => ⟨[], rfl⟩
  | t :: r, h => by
    obtain ⟨l, hl⟩ := lift_right r fun u hu => h u (List.mem_cons_of_mem _ hu)
    exact ⟨⟨t, h t List.mem_cons_self⟩ :: l, by rw [List.map_cons, hl]⟩
theorem flatR (l : List RT) : flatK encR 3 l.toArray = (cellsT (l.map Subtype.val)).toArray := by
  apply Array.ext
  · simp [cellsT_length]
  · intro t h1 h2
    have h3 : t < l.length * 3 := by simpa using h1
    have h4 := get_flatK encR 3 l.toArray t (by simpa using h3)
    rw [getElem!_pos _ t h1] at h4
    rw [h4]
    have h5 := cellsR_at l t h3
    have h6 : (cellsT (l.map Subtype.val))[t]? = some ((cellsT (l.map Subtype.val)).toArray[t]) := by simp
    rw [h6] at h5
    exact (Option.some.inj h5).symm
theorem holdsR {w : World} {g : Nat} {cur : Array Value} {e : TypeId} {l : List RT} (hb : w.heap[g]? = some (.cells cur e (0, 0))) (ht : cur.toList.take (l.length * 3) = cellsT (l.map Subtype.val)) : HoldsK encR 3 w g 0 l.toArray := by
  unfold HoldsK
  rw [flatR]
  intro j hj
  have hj' : j < l.length * 3 := by simpa [cellsT_length] using hj
  refine ⟨?_, by simp [World.frozen?, hb]⟩
  have h1 : (cur.toList.take (l.length * 3))[j]? = (cellsT (l.map Subtype.val))[j]? := by rw [ht]
  rw [List.getElem?_take_of_lt hj'] at h1
  simp only [World.cell?, hb, Nat.zero_add]
  simp only [Option.isSome_none, Bool.false_eq_true, if_false]
  rw [← Array.getElem?_toList, h1]
  simp [cellsT_length, hj']
theorem heap_sortedId {w : World} {g n : Nat} {os : Array Obj} {cur : Array Value} {e : TypeId} {fr : Nat × Nat} (d : Array Value) (hb : w.heap[g]? = some (.cells cur e fr)) :
    (grow (putRow id (Sort.ahead w n) g 0 d) os).heap[g]? = some (.cells (putCells id 0 d cur) e fr) := by
  have hg : g < w.heap.size := (Array.getElem?_eq_some_iff.1 hb).1
  rw [heap_grow_old _ _ (by simpa using hg)]
  simp [putRow, mapBlock, Sort.ahead, Array.getElem?_modify, hb, onCells]
theorem grownBy_sortedId {w : World} {g n : Nat} {os : Array Obj} (d : Array Value) : w.grownBy (grow (putRow id (Sort.ahead w n) g 0 d) os) (some g) := by
  refine ⟨rfl, rfl, rfl, by simp, fun k hk hne => ?_⟩
  rw [heap_grow_old _ _ (by simpa using hk)]
  have : g ≠ k := fun e => hne (by rw [e])
  simp [putRow, mapBlock, Sort.ahead, Array.getElem?_modify, this]
theorem take_putCellsId (cur : Array Value) (ts : List Value) (h : ts.length ≤ cur.size) : (putCells id 0 ts.toArray cur).toList.take ts.length = ts := by
  apply List.ext_getElem?
  intro j
  by_cases hj : j < ts.length
  · rw [List.getElem?_take_of_lt hj, Array.getElem?_toList]
    simp [putCells, hj, show j < cur.size by omega]
  · rw [List.getElem?_take_eq_none (by omega), List.getElem?_eq_none (by omega)]
/-- the order of right values -/
def sortR (l : List RT) : List RT := l.mergeSort fun x y => !ltOf cfR y x
set_option maxHeartbeats 1000000 in
theorem SortFunc_val (l : List RT) (base : Nat) (v : Value) (w : World) (ho : OwnT w base v (l.map Subtype.val)) (hl : l.length ≤ 1000000) :
    Calls Tryz.prog 182 #[v, .func (.func 67) #[] #[]] w fun e w' => e = .returned (.tuple #[]) ∧ OwnT w' base v ((sortR l).map Subtype.val) ∧ (base ≤ w.heap.size → Below base w w') := by
  have eg : ∀ args w, (callFunc 67 args).run Tryz.prog w = .ok (.enter 67 args) w := enters_of Tryz.func67 (by kernel_rfl) rfl
  obtain ⟨hsz, h2⟩ := ho
  rcases h2 with ⟨rfl, h0⟩ | ⟨g, cap, cur, rfl, hg, hh, h3, h4, h5, h6⟩
  · have hl0 : l = [] := by simpa using h0
    subst hl0
    have h := AnyF.slices_SortFunc_none Tryz.sortV none 0 (.func (.func 67) #[] #[]) w
    exact Calls.mono h fun e w' ⟨he, hw⟩ => ⟨he, by rw [hw, show sortR [] = [] by simp [sortR]]; exact World.ownsRow_nil _ _ _ _, fun hb => by rw [hw]; exact Below.refl _ _⟩
  · rw [List.length_map] at h3 h6
    have hH := holdsR (l := l) hh h6
    have hcmp : CmpLays Tryz.prog 67 #[] encR 3 cfR g 0 l.toArray.size w := fun m os dk _ x y =>
      (Compare_grow x.1.1 x.1.2.1 x.1.2.2 y.1.1 y.1.2.1 y.1.2.2 _).mono fun e w' ⟨he, os', hw⟩ => ⟨he, 0, os', hw⟩
    have h := AnyQ.slices_SortFunc_total Tryz.sortV 3 Tryz.isAgg24 Tryz.sizeOf24 encR (fun _ => rfl) (fun x v hv => by simp [encR] at hv; rcases hv with rfl | rfl | rfl <;> rfl) cfR cfR_swo 67 #[] g 0 cap l.toArray w eg hcmp hH ((Array.getElem?_eq_some_iff.1 hh).1) (by simp; omega) cfR_one
    change Calls Tryz.prog 182 _ _ _ at h
    rw [show (l.map Subtype.val).length = l.toArray.size by simp]
    refine h.mono ?_
    rintro e w' ⟨he, n, os, hw⟩
    refine ⟨he, ?_, fun hb => ?_⟩
    · have hlen : (sortR l).length = l.length := List.length_mergeSort ..
      rw [show (l.toArray.toList.mergeSort fun x y => !ltOf cfR y x) = sortR l by rfl] at hw
      unfold sortWorldK putRowK at hw
      rw [flatR] at hw
      have h7 := heap_sortedId (n := n) (os := os) (cellsT ((sortR l).map Subtype.val)).toArray hh
      rw [← hw] at h7
      refine ⟨by simp [hlen, cellsT_length], .inr ⟨g, cap, _, by rw [List.length_map, hlen]; simp, hg, h7, by rw [List.length_map, hlen]; exact h3, h4, by simp [putCells, h5], ?_⟩⟩
      have h8 := take_putCellsId cur (cellsT ((sortR l).map Subtype.val)) (by rw [cellsT_length, List.length_map, hlen, h5]; omega)
      rw [cellsT_length] at h8
      exact h8
    · rw [hw]
      exact (Below.refl base w).grown (grownBy_sortedId _) hb (fun j hj => by cases hj; exact hg)
set_option maxRecDepth 100000 in
set_option maxHeartbeats 1000000 in
/-- slices.SortedFunc(maps.Keys(m), Compare): the keys of a map of right values, in order -/
theorem SortedFunc_any (b Bm : Nat) (E : List (Trip × Nat)) (f : Trip → Value) (w : World) (hE : E.length ≤ 100000) (hr : ∀ t ∈ E.map Prod.fst, Rt t.1 t.2.1 t.2.2) (hBm : Bm < w.heap.size) (hm : w.cell? ⟨Bm, 0, none⟩ = some (.map (some b))) (hmap : MapT w b E f) :
    Calls Tryz.prog 163 #[.func (.func 183) #[] #[.pointer (some ⟨Bm, 0, none⟩)], .func (.func 67) #[] #[]] w fun e w' =>
      ∃ (v : Value) (l : List RT), e = .returned v ∧ (l.map Subtype.val).Perm (E.map Prod.fst) ∧ OwnT w' w.heap.size v ((sortR l).map Subtype.val) ∧ Below w.heap.size w w' := by
  have hseq := keys_stops Fence.wide 4 trivial rfl (by omega) Bm b E f w hBm hm hmap
  have cC := collect_in Fence.wide 6 trivial trivial rfl (by omega) 183 #[.pointer (some ⟨Bm, 0, none⟩)] trivial (enters_of Tryz.func183 (by kernel_rfl) rfl) (fun ss => ss.Perm (E.map Prod.fst)) (fun _ => True) E.length (by unfold maxLen; omega) (by omega) w hseq
  have cC := callsIn_wide.1 cC
  go_enter Tryz.func163, Tryz.ntmps163
  go_wp2_with fail
  refine cC.mono ?_
  rintro e w1 ⟨v, ss, rfl, hS, ho, hb⟩
  obtain ⟨l, rfl⟩ : ∃ l : List RT, l.map Subtype.val = ss := lift_right ss fun t ht => hr t (hS.mem_iff.1 ht)
  have hlen : l.length ≤ 1000000 := by
    have := hS.length_eq
    simp at this
    omega
  go_wp2_with fail
  refine (SortFunc_val l w.heap.size v w1 ho hlen).mono ?_
  rintro e w2 ⟨rfl, ho2, hb2⟩
  go_wp2_with fail
  go_ret
  exact ⟨v, l, rfl, hS, ho2, hb.trans (hb2 hb.size)⟩
end Go.Proofs.YtceknmibopnmhaaGreatDoor
