/-
  Maps whose keys are values: look-ups, inserts. No conditions.
-/
import Derived.Test.YtceknmibopnmhaaGreatDoorAIter
import Derived.Laws.StructEq
namespace Go.Proofs.YtceknmibopnmhaaGreatDoor
open Go.ChangeShapes Go.WideShapes Go.ChangeAt Go.RowKit Go.Maps Go.Sort Go.Shelf Go.ChangeMaps
set_option linter.unusedVariables false

theorem Tryz.under_val : Tryz.prog.underlying 24 = some (.struct (Tryz.prog.fieldsOf 24)) := by kernel_rfl
theorem Tryz.stood_val : Tryz.prog.stoodInHeld 24 = false := by kernel_rfl
theorem bytes_toList {s t : ByteArray} : s.toList = t.toList ↔ s = t := by
  rw [ByteArray.toList_eq, ByteArray.toList_eq]
  refine ⟨fun h => ?_, fun h => by rw [h]⟩
  cases s; cases t
  simpa using h
set_option maxRecDepth 100000 in
theorem run_eq24 (t u : Trip) (w : World) : (Op.equal 24 (vvT t) (vvT u)).run Tryz.prog w = .ok (decide (t = u)) w := by
  obtain ⟨k, n, s⟩ := t
  obtain ⟨k', n', s'⟩ := u
  show (Op.equalIn (9999 + 1) 24 (vv k n s) (vv k' n' s')).run Tryz.prog w = _
  rw [run_equalIn_struct w 9999 24 _ _ Tryz.under_val Tryz.stood_val]
  simp only [go_sem]
  by_cases h1 : k = k'
  · by_cases h2 : n = n'
    · by_cases h3 : s = s'
      · simp [h1, h2, h3, go_sem, Op.eqFields]
      · simp [h1, h2, h3, bytes_toList, go_sem, Op.eqFields]
    · simp [h1, h2, go_sem, Op.eqFields]
  · simp [h1, go_sem, Op.eqFields]
/-- where a value lies among the entries -/
def idxE (t : Trip) : List (Trip × Nat) → Option Nat
  | [] => none
  | p :: E => if t = p.1 then some 0 else (idxE t E).map (· + 1)
theorem run_asking (f : Trip → Value) (t : Trip) (w : World) : ∀ (E : List (Trip × Nat)) (i : Nat), (Instr.findAsking 24 (vvT t) (E.map (ent f)) i).run Tryz.prog w = .ok ((idxE t E).map fun j => (i + j, f t)) w
  | [], i => by simp [Instr.findAsking, idxE]
  | p :: E, i => by
    have h := run_eq24 t p.1 w
    rw [List.map_cons, Instr.findAsking]
    simp only [Sem.run_bind]
    rw [show (ent f p).key = vvT p.1 from rfl, h]
    simp only [Result.andThen_ok, idxE]
    by_cases e : t = p.1
    · simp [e, ent]
    · simp only [e, decide_false, Bool.false_eq_true, if_false]
      rw [run_asking f t w E (i + 1)]
      cases idxE t E with
      | none => rfl
      | some j => simp; omega
theorem run_findT (f : Trip → Value) (t : Trip) (w : World) (E : List (Trip × Nat)) : (Instr.findKey 24 (vvT t) (E.map (ent f))).run Tryz.prog w = .ok ((idxE t E).map fun j => (j, f t)) w := by
  have hu := Tryz.under_val
  unfold Instr.findKey
  simp only [Sem.run_bind, run_underlying hu, Result.andThen_ok]
  cases E with
  | nil => simp [Instr.findNow, idxE]
  | cons p E =>
    have h : Instr.findNow (.struct (Tryz.prog.fieldsOf 24)) (vvT t) ((p :: E).map (ent f)) 0 = none := by
      simp [Instr.findNow, Instr.sameNow, ent]
    rw [h]
    have h2 := run_asking f t w (p :: E) 0
    simp only [Nat.zero_add] at h2
    exact h2
theorem run_checkT (t : Trip) (w : World) (e : Bool) : (Instr.checkKey e 10000 24 (vvT t)).run Tryz.prog w = .ok () w := by
  have hu := Tryz.under_val
  have c0 := fun (k : Int) (w : World) => MapKept.run_checkKey (w := w) Tryz.underlying22 (show MapKept.IsKey (.int .u8) (.int .u8 k) from rfl) e 9998
  have c1 := fun (k : Int) (w : World) => MapKept.run_checkKey (w := w) Tryz.underlying2 (show MapKept.IsKey (.int .i64) (.int .i64 k) from rfl) e 9998
  have c2 := fun (k : ByteArray) (w : World) => MapKept.run_checkKey (w := w) Tryz.underlying9 (show MapKept.IsKey .string (.string k) from trivial) e 9998
  obtain ⟨k, n, s⟩ := t
  show (Instr.checkKey e (9999 + 1) 24 (vv k n s)).run Tryz.prog w = _
  unfold Instr.checkKey
  simp only [Sem.run_bind, run_underlying hu, Result.andThen_ok]
  rw [← Array.forIn_toList]
  have d0 : (Instr.checkKey e 9999 22 (.int .u8 k)).run Tryz.prog w = .ok () w := c0 k w
  have d1 : (Instr.checkKey e 9999 2 (.int .i64 n)).run Tryz.prog w = .ok () w := c1 n w
  have d2 : (Instr.checkKey e 9999 9 (.string s)).run Tryz.prog w = .ok () w := c2 s w
  simp [go_sem, d0, d1, d2]
theorem idxE_none {t : Trip} : ∀ {E : List (Trip × Nat)}, idxE t E = none ↔ t ∉ E.map Prod.fst
  | [] => by simp [idxE]
  | p :: E => by
    have ih := @idxE_none t E
    unfold idxE
    by_cases e : t = p.1
    · simp [e]
    · simp only [e, if_false, Option.map_eq_none_iff, ih, List.map_cons, List.mem_cons, false_or]
theorem idxE_some {t : Trip} : ∀ {E : List (Trip × Nat)} {j : Nat}, idxE t E = some j → ∃ b, E[j]? = some (t, b)
  | p :: E, j, h => by
    unfold idxE at h
    by_cases e : t = p.1
    · rw [if_pos e] at h
      obtain rfl := Option.some.inj h
      exact ⟨p.2, by rw [e]; rfl⟩
    · rw [if_neg e] at h
      obtain ⟨i, hi, rfl⟩ := Option.map_eq_some_iff.1 h
      obtain ⟨b, hb⟩ := idxE_some hi
      exact ⟨b, hb⟩
def hasE (t : Trip) (E : List (Trip × Nat)) : Bool := (idxE t E).isSome
theorem hasE_iff {t : Trip} {E : List (Trip × Nat)} : hasE t E = true ↔ t ∈ E.map Prod.fst := by
  unfold hasE
  cases hi : idxE t E with
  | none => simp [idxE_none.1 hi]
  | some j =>
    obtain ⟨c, hc⟩ := idxE_some hi
    exact ⟨fun _ => List.mem_map.2 ⟨_, List.mem_of_getElem? hc, rfl⟩, fun _ => rfl⟩
theorem hasE_no {t : Trip} {E : List (Trip × Nat)} : hasE t E = false ↔ t ∉ E.map Prod.fst := by
  rw [← hasE_iff]
  cases hasE t E <;> simp
theorem run_lookupT (mt et : TypeId) (z : Value) (hm : Tryz.prog.underlying mt = some (.map 24 et)) (hz : ∀ w, (zeroValue et).run Tryz.prog w = .ok z w) (w : World) (b : Nat) (E : List (Trip × Nat)) (f : Trip → Value) (h : MapT w b E f) (t : Trip) (ok : Bool) (hf : t ∉ E.map Prod.fst → f t = z) :
    (Instr.lookup mt (.map (some b)) (vvT t) ok).run Tryz.prog w = .ok (if ok then .tuple #[f t, .bool (hasE t E)] else f t) w := by
  obtain ⟨ck, hb, hE⟩ := h
  unfold Instr.lookup
  simp only [Sem.run_bind, run_underlying hm, Result.andThen_ok, MapKept.run_getObj_map hb, run_checkT, run_findT, Sem.run_pure]
  unfold hasE
  cases hi : idxE t E with
  | none =>
    have hn := idxE_none.1 hi
    simp only [Option.map_none, Sem.run_bind, hz, Result.andThen_ok, Sem.run_pure, hf hn, Option.isSome_none]
  | some j =>
    simp only [Option.map_some, Option.isSome_some]
    rfl
theorem Ents.push {E : List (Trip × Nat)} {ck : Nat} (h : Ents E ck) {t : Trip} (ht : t ∉ E.map Prod.fst) : Ents (E ++ [(t, ck)]) (ck + 1) where
  born := fun p hp => by
    rcases List.mem_append.1 hp with hp | hp
    · have := h.born p hp; omega
    · rw [List.mem_singleton] at hp; subst hp; exact Nat.lt_succ_self _
  borns := by
    rw [List.map_append]
    refine List.nodup_append.2 ⟨h.borns, by simp, fun a ha c hc e => ?_⟩
    obtain ⟨p, hp, rfl⟩ := List.mem_map.1 ha
    have := h.born p hp
    simp at hc
    omega
  keys := by
    rw [List.map_append]
    refine List.nodup_append.2 ⟨h.keys, by simp, fun a ha c hc e => ?_⟩
    simp at hc
    subst hc e
    exact ht ha
theorem blk_of {w : World} {b : Nat} {o : Obj} (h : w.heap[b]? = some o) : b < w.heap.size := (Array.getElem?_eq_some_iff.1 h).1
/-- a new key -/
theorem run_insT (mt et : TypeId) (hm : Tryz.prog.underlying mt = some (.map 24 et)) (w : World) (b : Nat) (E : List (Trip × Nat)) (f : Trip → Value) (h : MapT w b E f) (t : Trip) (ht : t ∉ E.map Prod.fst) :
    ∃ o ck, (Instr.mapUpdate mt (.map (some b)) (vvT t) (f t)).run Tryz.prog w = .ok () (setBlock w b o) ∧ MapT (setBlock w b o) b (E ++ [(t, ck)]) f := by
  obtain ⟨ck, hb, hE⟩ := h
  refine ⟨.map ((E.map (ent f)).toArray.push { key := vvT t, val := f t, born := ck }) (ck + 1), ck, ?_, ck + 1, ?_, hE.push ht⟩
  · unfold Instr.mapUpdate
    simp only [Sem.run_bind, run_underlying hm, Result.andThen_ok, MapKept.run_getObj_map hb, run_checkT, run_findT, idxE_none.2 ht, Option.map_none, MapKept.run_setObj_map _ hb]
    rfl
  · exact (show (setBlock w b _).heap[b]? = _ from (MapKept.heap_set hb).1).trans (by simp [ent])
theorem modify_same (E : List (Trip × Nat)) (f : Trip → Value) (j : Nat) (g : MapEntry → MapEntry) (h : ∀ p, E[j]? = some p → g (ent f p) = ent f p) : (E.map (ent f)).toArray.modify j g = (E.map (ent f)).toArray := by
  apply Array.ext
  · simp
  · intro i h1 h2
    rw [Array.getElem_modify]
    by_cases e : j = i
    · subst e
      have hi : j < E.length := by simpa using h2
      simp only [if_true, List.getElem_toArray, List.getElem_map]
      exact h _ (List.getElem?_eq_getElem hi)
    · rw [if_neg e]
theorem run_stays (t : Trip) (w : World) : (Instr.keyThatStays (vvT t) (vvT t)).run Tryz.prog w = .ok (vvT t) w := by
  have h : Instr.sameBits 10000 (vvT t) (vvT t) = true := by
    show Instr.sameBits (9999 + 1) (vvT t) (vvT t) = true
    simp [Instr.sameBits, MapKept.bytes_beq]
  simp [Instr.keyThatStays, h]
/-- the entry of a key, made if there is none -/
theorem run_entryT (mt et : TypeId) (z : Value) (hm : Tryz.prog.underlying mt = some (.map 24 et)) (hz : ∀ w, (zeroValue et).run Tryz.prog w = .ok z w) (w : World) (b : Nat) (E : List (Trip × Nat)) (f : Trip → Value) (h : MapT w b E f) (t : Trip) (hf : t ∉ E.map Prod.fst → f t = z) :
    ∃ o c E', (Instr.mapEntry mt (.map (some b)) (vvT t)).run Tryz.prog w = .ok (.tuple #[f t, .int .i64 (c : Nat)]) (setBlock w b o) ∧ MapT (setBlock w b o) b E' f ∧ (t, c) ∈ E' ∧ E'.map Prod.fst = (if hasE t E then E.map Prod.fst else E.map Prod.fst ++ [t]) := by
  obtain ⟨ck, hb, hE⟩ := h
  unfold hasE
  cases hi : idxE t E with
  | none =>
    have ht := idxE_none.1 hi
    refine ⟨.map ((E.map (ent f)).toArray.push { key := vvT t, val := z, born := ck }) (ck + 1), ck, E ++ [(t, ck)], ?_, ⟨ck + 1, ?_, hE.push ht⟩, by simp, by simp⟩
    · unfold Instr.mapEntry
      simp only [Sem.run_bind, run_underlying hm, Result.andThen_ok, MapKept.run_getObj_map hb, run_checkT, run_findT, hi, Option.map_none, hz, MapKept.run_setObj_map _ hb, Sem.run_pure, hf ht]
      rfl
    · exact (show (setBlock w b _).heap[b]? = _ from (MapKept.heap_set hb).1).trans (by simp [ent, hf ht])
  | some j =>
    obtain ⟨c, hc⟩ := idxE_some hi
    have hj := (List.getElem?_eq_some_iff.1 hc).1
    have hk : (((E.map (ent f)).toArray[j]?).map (·.key)).getD (vvT t) = vvT t := by simp [hc, ent]
    have hbn : (((E.map (ent f)).toArray[j]?).map (fun x => (x.born : Int))).getD 0 = (c : Int) := by simp [hc, ent]
    refine ⟨.map (E.map (ent f)).toArray ck, c, E, ?_, ⟨ck, (MapKept.heap_set hb).1, hE⟩, List.mem_of_getElem? hc, by simp⟩
    unfold Instr.mapEntry
    simp only [Sem.run_bind, run_underlying hm, Result.andThen_ok, MapKept.run_getObj_map hb, run_checkT, run_findT, hi, Option.map_some, hk, run_stays, MapKept.run_setObj_map _ hb, Sem.run_pure, hbn]
    rw [modify_same E f j (fun e => { e with key := vvT t }) (fun p hp => by
      rw [hc] at hp
      obtain rfl := Option.some.inj hp
      rfl)]
    rfl
theorem find_born {E : List (Trip × Nat)} (hn : (E.map Prod.snd).Nodup) (f : Trip → Value) {t : Trip} {c : Nat} (hc : (t, c) ∈ E) : ∃ j, (E.map (ent f)).toArray.findIdx? (fun e => (e.born : Int) == (c : Int)) = some j ∧ E[j]? = some (t, c) := by
  cases hf : (E.map (ent f)).toArray.findIdx? (fun e => (e.born : Int) == (c : Int)) with
  | none =>
    rw [Array.findIdx?_eq_none_iff] at hf
    have := hf (ent f (t, c)) (by simp only [List.mem_toArray]; exact List.mem_map_of_mem hc)
    simp [ent] at this
  | some j =>
    refine ⟨j, rfl, ?_⟩
    obtain ⟨h1, h2, _⟩ := Array.findIdx?_eq_some_iff_getElem.1 hf
    have hj : j < E.length := by simpa using h1
    rw [List.getElem?_eq_getElem hj]
    have e : (E[j]).2 = c := by
      have h3 : ((E[j]).2 : Int) = (c : Int) := by simpa [ent] using h2
      omega
    rw [nodup_snd hn (List.getElem_mem hj) hc e]
/-- .. and what it holds -/
theorem run_storeT (mt : TypeId) (w : World) (b : Nat) (E : List (Trip × Nat)) (f : Trip → Value) (h : MapT w b E f) (t : Trip) (c : Nat) (hc : (t, c) ∈ E) (v : Value) :
    ∃ o, (Instr.entryStore mt (.map (some b)) (.int .i64 (c : Nat)) v).run Tryz.prog w = .ok () (setBlock w b o) ∧ MapT (setBlock w b o) b E (fun x => if x = t then v else f x) := by
  obtain ⟨ck, hb, hE⟩ := h
  obtain ⟨j, hj, hg⟩ := find_born hE.borns f hc
  refine ⟨.map ((E.map (ent f)).toArray.modify j fun e => { e with val := v }) ck, ?_, ck, (show (setBlock w b _).heap[b]? = _ from (MapKept.heap_set hb).1).trans ?_, hE⟩
  · unfold Instr.entryStore
    have ha : (asInt (.int .i64 (c : Nat))).run Tryz.prog w = .ok (c : Int) w := by simp [asInt, asIntOf]
    simp only [Sem.run_bind, MapKept.run_getObj_map hb, Result.andThen_ok, ha, hj, MapKept.run_setObj_map _ hb]
    rfl
  · congr 2
    apply Array.ext
    · simp
    · intro i h1 h2
      rw [Array.getElem_modify]
      have hi : i < E.length := by simpa using h2
      simp only [List.getElem_toArray, List.getElem_map]
      by_cases e : j = i
      · subst e
        have e2 : E[j] = (t, c) := by rw [List.getElem?_eq_getElem hi] at hg; exact Option.some.inj hg
        simp [e2, ent]
      · rw [if_neg e]
        have e2 : E[i].1 ≠ t := fun e3 => by
          have h3 : (E.map Prod.fst).Pairwise (· ≠ ·) := hE.keys
          rw [List.pairwise_iff_getElem] at h3
          have hjl := (List.getElem?_eq_some_iff.1 hg).1
          have e4 : E[j] = (t, c) := (List.getElem?_eq_some_iff.1 hg).2
          rcases Nat.lt_trichotomy i j with hij | hij | hij
          · exact h3 i j (by simpa using hi) (by simpa using hjl) hij (by simp [e3, e4])
          · exact e hij.symm
          · exact h3 j i (by simpa using hjl) (by simpa using hi) hij (by simp [e3, e4])
        simp [ent, e2]
end Go.Proofs.YtceknmibopnmhaaGreatDoor
