/-
  Layer 7, sorter: the words: entries (a key and a row, as bytes), a slice of them that reads as a list, one that the call owns; bytes.Compare and bytes.Equal of slices. No conditions.
  Layer 7, sorter: the mathematics of Sort: a list that is halved, and made one of two, is in order, is the same list, and those of one key stay as they are. No conditions.
  Layer 7, sorter: two lists of entries that are in order are made one; a list of entries is put in order. Conditions: no more than 2^20 entries.
  Layer 7, sorter: inOrder tells the list in order. Conditions: no more than 2^20 entries.
  Layer 7, sorter: slices.CompactFunc keeps the first of each run of one key. Conditions: two entries or more, no more than 2^20; the slice is the call's own.
-/
import Derived.Test.YtdhdfeiobjmdaaaRRow
import Derived.Test.YtdhdfeiobjmdaaaRShelf
import Derived.Deep.RegionLaw
import Derived.Deep.AppendLies
import Derived.Lib.BytesEntry
import Derived.Test.YtdhdfeiobjmdaaaRows
import Derived.Deep.RegionHeld3
import Derived.Laws.IdiomCopy
namespace Go.Proofs.Ytdhdfeiobjmdaaa
open Go.ChangeShapes Go.WideShapes Go.ChangeAt Go.RowKit
set_option linter.unusedVariables false

/-- an entry as it lies: two slices, and the bytes that they read -/
structure En where
  kA : Option Addr
  kc : Nat
  kb : List UInt8
  rA : Option Addr
  rc : Nat
  rb : List UInt8
def En.kv (e : En) : Value := .slice e.kA e.kb.length e.kc
def En.rv (e : En) : Value := .slice e.rA e.rb.length e.rc
def En.v (e : En) : Value := .agg #[e.kv, e.rv]
/-- what it reads, it reads -/
def EnOk (w : World) (B : Nat) (e : En) : Prop := Rd w B e.kA e.kb ∧ e.kb.length ≤ e.kc ∧ e.kc ≤ 9223372036854775807 ∧ Rd w B e.rA e.rb ∧ e.rb.length ≤ e.rc ∧ e.rc ≤ 9223372036854775807
theorem EnOk.on {w w' : World} {e : En} (h : EnOk w w.heap.size e) (hb : Below w.heap.size w w') : EnOk w' w'.heap.size e :=
  ⟨h.1.on hb, h.2.1, h.2.2.1, h.2.2.2.1.on hb, h.2.2.2.2⟩
theorem EnOk.below {w w' : World} {B : Nat} {e : En} (h : EnOk w B e) (hb : Below B w w') : EnOk w' B e :=
  ⟨h.1.below hb, h.2.1, h.2.2.1, h.2.2.2.1.below hb, h.2.2.2.2⟩
theorem EnOk.more {w : World} {B B' : Nat} {e : En} (h : EnOk w B e) (hb : B ≤ B') : EnOk w B' e :=
  ⟨h.1.more hb, h.2.1, h.2.2.1, h.2.2.2.1.more hb, h.2.2.2.2⟩
/-- entries, as cells -/
def cellsE : List En → List Value
  | [] => []
  | e :: r => e.kv :: e.rv :: cellsE r
theorem cellsE_length : ∀ l : List En, (cellsE l).length = l.length * 2
  | [] => rfl
  | e :: r => by simp [cellsE, cellsE_length r]; omega
theorem cellsE_append : ∀ a b : List En, cellsE (a ++ b) = cellsE a ++ cellsE b
  | [], b => rfl
  | e :: r, b => by simp [cellsE, cellsE_append r b]
theorem cellsE_one : ∀ (l : List En), ∀ u ∈ cellsE l, u.oneCell' = true
  | [], u, h => by cases h
  | e :: r, u, h => by
    simp only [cellsE, List.mem_cons] at h
    rcases h with rfl | rfl | h
    · rfl
    · rfl
    · exact cellsE_one r u h
theorem cellsE_get : ∀ (l : List En) (j : Nat) (e : En), l[j]? = some e → (cellsE l)[j * 2]? = some e.kv ∧ (cellsE l)[j * 2 + 1]? = some e.rv
  | [], j, e, h => by simp at h
  | x :: r, 0, e, h => by
    obtain rfl : x = e := by simpa using h
    exact ⟨rfl, rfl⟩
  | x :: r, j + 1, e, h => by
    have ih := cellsE_get r j e (by simpa using h)
    have e1 : (j + 1) * 2 = j * 2 + 1 + 1 := by omega
    rw [e1]
    simpa [cellsE] using ih
theorem cellsE_drop : ∀ (l : List En) (k : Nat), (cellsE l).drop (k * 2) = cellsE (l.drop k)
  | [], k => by simp [cellsE]
  | x :: r, 0 => by simp
  | x :: r, k + 1 => by
    have e : (k + 1) * 2 = k * 2 + 1 + 1 := by omega
    rw [e]
    simpa [cellsE] using cellsE_drop r k

/-- at this address lies that entry -/
def EnAt (w : World) (a : Addr) (e : En) : Prop := w.cell? a = some e.kv ∧ w.cell? ⟨a.block, a.off + 1, none⟩ = some e.rv
/-- the pointer A leads to these entries, all of them below block number B -/
def RdE (w : World) (B : Nat) (A : Option Addr) (l : List En) : Prop :=
  0 < l.length → ∃ ad, A = some ad ∧ ad.block < B ∧ ∀ j e, l[j]? = some e → EnAt w (ad.add (j * 2)) e
theorem RdE.below {w w' : World} {B : Nat} {A : Option Addr} {l : List En} (h : RdE w B A l) (hb : Below B w w') : RdE w' B A l := by
  intro hp
  obtain ⟨ad, e, hl, hc⟩ := h hp
  refine ⟨ad, e, hl, fun j x hj => ?_⟩
  obtain ⟨a, b⟩ := hc j x hj
  have hq : (ad.add (j * 2)).block < B := by rw [blockAdd]; exact hl
  exact ⟨(hb.cell hq).trans a, (hb.cell (p := ⟨_, _, none⟩) hq).trans b⟩
theorem RdE.more {w : World} {B B' : Nat} {A : Option Addr} {l : List En} (h : RdE w B A l) (hB : B ≤ B') : RdE w B' A l := by
  intro hp
  obtain ⟨ad, e, hl, hc⟩ := h hp
  exact ⟨ad, e, by omega, hc⟩
theorem RdE.on {w w' : World} {A : Option Addr} {l : List En} (h : RdE w w.heap.size A l) (hb : Below w.heap.size w w') : RdE w' w'.heap.size A l := (h.below hb).more hb.size
theorem RdE.nil {w : World} {B : Nat} {A : Option Addr} : RdE w B A [] := fun h => absurd h (by simp)
theorem RdE.cells {w : World} {B : Nat} {ad : Addr} {l : List En} (h : RdE w B (some ad) l) : ∀ j u, (cellsE l)[j]? = some u → w.cell? (ad.add j) = some u := by
  intro j u hj
  have hjl : j < l.length * 2 := by
    rcases Nat.lt_or_ge j (l.length * 2) with h | h
    · exact h
    · rw [List.getElem?_eq_none (by rw [cellsE_length]; exact h)] at hj; cases hj
  obtain ⟨ad', e, hl, hc⟩ := h (by omega)
  injection e with e
  subst e
  obtain ⟨x, hi⟩ : ∃ t, l[j / 2]? = some t := ⟨l[j / 2]'(by omega), List.getElem?_eq_getElem _⟩
  obtain ⟨g0, g1⟩ := cellsE_get l (j / 2) x hi
  obtain ⟨c0, c1⟩ := hc (j / 2) x hi
  have hr : j = j / 2 * 2 ∨ j = j / 2 * 2 + 1 := by omega
  rcases hr with hr | hr
  · rw [hr, g0] at hj
    obtain rfl := Option.some.inj hj
    rw [hr]; exact c0
  · rw [hr, g1] at hj
    obtain rfl := Option.some.inj hj
    rw [hr, ← addAdd]
    have : ((ad.add (j / 2 * 2)).add 1) = ⟨(ad.add (j / 2 * 2)).block, (ad.add (j / 2 * 2)).off + 1, none⟩ := by simp [Addr.add]
    rw [this]; exact c1
theorem RdE.post {w : World} {B : Nat} {ad : Addr} {l : List En} (h : RdE w B (some ad) l) (k : Nat) : RdE w B (some (ad.add (k * 2))) (l.drop k) := by
  intro hp
  rw [List.length_drop] at hp
  obtain ⟨ad', e, hl, hc⟩ := h (by omega)
  injection e with e
  subst e
  refine ⟨_, rfl, by rw [blockAdd]; exact hl, fun j x hj => ?_⟩
  rw [List.getElem?_drop] at hj
  have := hc (k + j) x hj
  rw [addAdd]
  have e : k * 2 + j * 2 = (k + j) * 2 := by omega
  rw [e]; exact this
theorem RdE.pre {w : World} {B : Nat} {A : Option Addr} {l : List En} (h : RdE w B A l) (k : Nat) : RdE w B A (l.take k) := by
  intro hp
  rw [List.length_take] at hp
  obtain ⟨ad, e, hl, hc⟩ := h (by omega)
  refine ⟨ad, e, hl, fun j x hj => hc j x ?_⟩
  rw [List.getElem?_take] at hj
  split at hj
  · exact hj
  · cases hj
/-- the slice v is the call's own and holds these entries -/
def OwnE (w : World) (base : Nat) (v : Value) (l : List En) : Prop := w.ownsRow base 67 2 v l.length (cellsE l)
theorem OwnE.form {w : World} {base : Nat} {v : Value} {l : List En} (h : OwnE w base v l) : ∃ A c, v = .slice A l.length c ∧ l.length ≤ c ∧ c ≤ maxLen ∧ RdE w w.heap.size A l := by
  obtain ⟨h1, h2⟩ := h
  rcases h2 with ⟨rfl, h0⟩ | ⟨g, cap, cur, rfl, hg, hh, hc, hm, hs, ht⟩
  · exact ⟨none, 0, by rw [h0], by omega, by simp [maxLen], fun hp => by omega⟩
  · have hlt : g < w.heap.size := by
      rcases Nat.lt_or_ge g w.heap.size with hlt | hge
      · exact hlt
      · rw [Array.getElem?_eq_none hge] at hh; cases hh
    refine ⟨_, cap, rfl, hc, hm, fun _ => ⟨_, rfl, hlt, fun j x hj => ?_⟩⟩
    obtain ⟨g0, g1⟩ := cellsE_get l j x hj
    have ha : ((⟨g, 0, none⟩ : Addr).add (j * 2)) = ⟨g, j * 2, none⟩ := by
      unfold Addr.add
      by_cases hj0 : j * 2 = 0 <;> simp [hj0]
    have key : ∀ o v, (cellsE l)[o]? = some v → w.cell? ⟨g, o, none⟩ = some v := by
      intro o v hv
      rw [← ht, List.getElem?_take] at hv
      split at hv
      · simp only [World.cell?, hh]
        simpa using hv
      · cases hv
    rw [ha]
    exact ⟨key _ _ g0, key _ _ g1⟩

/-- string(b) -/
theorem run_strQ {w : World} {B : Nat} {A : Option Addr} {l : List UInt8} (h : Rd w B A l) (c : Nat) :
    (convert 62 9 (.slice A l.length c)).run Try.prog w = .ok (.string ⟨l.toArray⟩) w := by
  rcases Nat.eq_zero_or_pos l.length with h0 | h0
  · have hl : l = [] := List.eq_nil_of_length_eq_zero h0
    subst hl
    show (convert 62 9 (.slice A 0 c)).run Try.prog w = _
    rw [run_convert_bytes_string w 62 9 5 A 0 c Try.underlying62 Try.underlying5 Try.underlying9]
    cases A <;> simp [Conv.bytesToString, loadCells]
    all_goals rfl
  · obtain ⟨ad, rfl, _, hc⟩ := h h0
    exact run_convert_bytes_back w 62 9 5 ad c l Try.underlying62 Try.underlying5 Try.underlying9 fun j hj => hc j _ (List.getElem?_eq_getElem hj)

theorem bytesOf_nums (l : List UInt8) : Lib.bytesOf (l.map fun u => (u.toNat : Int)) = l := by
  unfold Lib.bytesOf
  rw [List.map_map]
  exact (List.map_congr_left fun u _ => by simp).trans (List.map_id l)
theorem strOf_nums (l : List UInt8) : strOfNums (l.map fun u => (u.toNat : Int)) = ⟨l.toArray⟩ := by
  have := bytesOf_nums l
  unfold Lib.bytesOf at this
  unfold strOfNums
  rw [this]
/-- the bytes of a slice, as the machine's own entry takes them -/
theorem run_bytesOf {w : World} {B : Nat} {A : Option Addr} {l : List UInt8} (h : Rd w B A l) (c : Nat) : (Extern.Bytes.bytesOf (.slice A l.length c)).run Try.prog w = .ok ⟨l.toArray⟩ w := by
  have hm := bytesOf_nums l
  cases A with
  | none =>
    have hl : l = [] := by
      rcases l with _ | ⟨u, r⟩
      · rfl
      · obtain ⟨ad, e, _⟩ := h (by simp)
        cases e
    subst hl
    rfl
  | some ad =>
    have hl := Lib.run_loadBytesX (P := Try.prog) w (l.map fun u => (u.toNat : Int)) ad .empty (fun j x hj => by
      rw [List.getElem?_map] at hj
      obtain ⟨u, hu, rfl⟩ := Option.map_eq_some_iff.1 hj
      obtain ⟨ad', e, _, hc⟩ := h (by have := (List.getElem?_eq_some_iff.1 hu).1; omega)
      injection e with e
      subst e
      exact hc j u hu)
    rw [List.length_map, hm] at hl
    show (Extern.Bytes.loadBytes ad l.length .empty).run _ w = _
    rw [hl]
    simp
set_option maxRecDepth 100000 in
set_option maxHeartbeats 1000000 in
theorem bytesCompare_any (A : Option Addr) (c : Nat) (a : List UInt8) (B : Option Addr) (c' : Nat) (b : List UInt8) (w : World) (n m : Nat) (hA : Rd w n A a) (hB : Rd w m B b) :
    Calls Try.prog 38 #[.slice A a.length c, .slice B b.length c'] w fun e w' => e = .returned (.int .i64 (Lib.compareBytes a b)) ∧ w' = w := by
  have hr : (Extern.BytealgCompare.compare #[.slice A a.length c, .slice B b.length c']).run Try.prog w = .ok (.int .i64 (Lib.compareBytes a b)) w := by
    change Sem.run Try.prog (do pure (goInt (Extern.BytealgCompare.cmp (← Extern.Bytes.bytesOf (.slice A a.length c)) (← Extern.Bytes.bytesOf (.slice B b.length c'))))) w = _
    simp only [Sem.run_bind, run_bytesOf hA c, run_bytesOf hB c', Sem.run_pure, Result.andThen]
    rw [Lib.cmp_eq]
    rfl
  have HR := Lib.hid hr
  clear hr
  go_enter Try.func38, Try.ntmps38
  go_wp2
  rw [run_callFunc_extern Try.func65 (by kernel_rfl) (by kernel_rfl) (by kernel_rfl) (e := Extern.BytealgCompare.compare) (by kernel_rfl), HR.out]
  simp only [Result.andThen]
  rw [Oper.upon_value]
  go_wp2
  go_ret
  exact ⟨rfl, rfl⟩
theorem bytesEqual_any (A : Option Addr) (c : Nat) (a : List UInt8) (B : Option Addr) (c' : Nat) (b : List UInt8) (w : World) (n m : Nat) (hA : Rd w n A a) (hB : Rd w m B b) :
    Calls Try.prog 41 #[.slice A a.length c, .slice B b.length c'] w fun e w' => e = .returned (.bool (a == b)) ∧ w' = w := by
  refine (Try.bytes_Equal _ _ (a.map fun u => (u.toNat : Int)) (b.map fun u => (u.toNat : Int)) w (by rw [strOf_nums]; exact run_strQ hA c) (by rw [strOf_nums]; exact run_strQ hB c')).mono ?_
  rintro e w' ⟨rfl, rfl⟩
  rw [bytesOf_nums, bytesOf_nums]
  exact ⟨rfl, rfl⟩
theorem below_two (w : World) (o o' : Obj) : Below w.heap.size w ((w.alloc o).alloc o') := ((Below.refl _ _).alloc (Nat.le_refl _) o).alloc (by simp) o'
theorem cmp_any (x y : En) (w : World) (hx : EnOk w w.heap.size x) (hy : EnOk w w.heap.size y) :
    Calls Try.prog 37 #[x.v, y.v] w fun e w' => e = .returned (.bool (decide (Lib.compareBytes x.kb y.kb < 0))) ∧ Below w.heap.size w w' := by
  have HX := Lib.hid hx.1
  have HY := Lib.hid hy.1
  clear hx hy
  unfold En.v En.kv En.rv
  go_enter Try.func37, Try.ntmps37
  go_wp2_with fail
  refine (bytesCompare_any _ _ _ _ _ _ _ w.heap.size w.heap.size (HX.out.below (below_two _ _ _)) (HY.out.below (below_two _ _ _))).mono ?_
  rintro e w1 ⟨rfl, rfl⟩
  go_wp2_with fail
  go_ret
  exact ⟨rfl, below_two _ _ _⟩
theorem same_any (x y : En) (w : World) (hx : EnOk w w.heap.size x) (hy : EnOk w w.heap.size y) :
    Calls Try.prog 40 #[x.v, y.v] w fun e w' => e = .returned (.bool (x.kb == y.kb)) ∧ Below w.heap.size w w' := by
  have HX := Lib.hid hx.1
  have HY := Lib.hid hy.1
  clear hx hy
  unfold En.v En.kv En.rv
  go_enter Try.func40, Try.ntmps40
  go_wp2_with fail
  refine (bytesEqual_any _ _ _ _ _ _ _ w.heap.size w.heap.size (HX.out.below (below_two _ _ _)) (HY.out.below (below_two _ _ _))).mono ?_
  rintro e w1 ⟨rfl, rfl⟩
  go_wp2_with fail
  go_ret
  exact ⟨rfl, below_two _ _ _⟩
end Go.Proofs.Ytdhdfeiobjmdaaa

namespace Go.Proofs.Ytdhdfeiobjmdaaa
set_option linter.unusedVariables false

/-- two lists made one: of two of which neither comes first, that of the first list is put ahead -/
def mrg {α : Type} (lt : α → α → Bool) : List α → List α → List α
  | [], b => b
  | a, [] => a
  | x :: a, y :: b => if lt y x then y :: mrg lt (x :: a) b else x :: mrg lt a (y :: b)
termination_by a b => a.length + b.length
theorem mrg_nil_left {α : Type} (lt : α → α → Bool) (b : List α) : mrg lt [] b = b := by unfold mrg; rfl
theorem mrg_nil_right {α : Type} (lt : α → α → Bool) (a : List α) : mrg lt a [] = a := by
  cases a <;> (unfold mrg; rfl)
theorem mrg_cons {α : Type} (lt : α → α → Bool) (x y : α) (a b : List α) : mrg lt (x :: a) (y :: b) = if lt y x then y :: mrg lt (x :: a) b else x :: mrg lt a (y :: b) := by
  rw [mrg]
/-- a list in order, as Sort makes it -/
def srt {α : Type} (lt : α → α → Bool) (l : List α) : List α :=
  if h : l.length < 2 then l else mrg lt (srt lt (l.take (l.length / 2))) (srt lt (l.drop (l.length / 2)))
termination_by l.length
decreasing_by
  · rw [List.length_take]; omega
  · rw [List.length_drop]; omega
theorem srt_short {α : Type} (lt : α → α → Bool) (l : List α) (h : l.length < 2) : srt lt l = l := by rw [srt, dif_pos h]
theorem srt_long {α : Type} (lt : α → α → Bool) (l : List α) (h : ¬ l.length < 2) : srt lt l = mrg lt (srt lt (l.take (l.length / 2))) (srt lt (l.drop (l.length / 2))) := by rw [srt, dif_neg h]
theorem mrg_perm {α : Type} (lt : α → α → Bool) : ∀ (n : Nat) (a b : List α), a.length + b.length ≤ n → (mrg lt a b).Perm (a ++ b)
  | n, [], b, _ => by rw [mrg_nil_left]; exact List.Perm.refl _
  | n, x :: a, [], _ => by rw [mrg_nil_right, List.append_nil]
  | 0, x :: a, y :: b, h => by simp at h
  | n + 1, x :: a, y :: b, h => by
    rw [mrg_cons]
    split
    · have ih := mrg_perm lt n (x :: a) b (by simp at h ⊢; omega)
      exact (ih.cons y).trans (List.perm_middle.symm)
    · have ih := mrg_perm lt n a (y :: b) (by simp at h ⊢; omega)
      exact ih.cons x
theorem mrg_length {α : Type} (lt : α → α → Bool) (a b : List α) : (mrg lt a b).length = a.length + b.length := by
  rw [(mrg_perm lt _ a b (Nat.le_refl _)).length_eq, List.length_append]
theorem srt_perm {α : Type} (lt : α → α → Bool) : ∀ (n : Nat) (l : List α), l.length ≤ n → (srt lt l).Perm l
  | n, l, h => by
    by_cases h2 : l.length < 2
    · rw [srt_short lt l h2]
    · rw [srt_long lt l h2]
      match n, h with
      | 0, h => omega
      | n + 1, h =>
        have i1 := srt_perm lt n (l.take (l.length / 2)) (by rw [List.length_take]; omega)
        have i2 := srt_perm lt n (l.drop (l.length / 2)) (by rw [List.length_drop]; omega)
        refine (mrg_perm lt _ _ _ (Nat.le_refl _)).trans ((i1.append i2).trans ?_)
        rw [List.take_append_drop]
theorem srt_length {α : Type} (lt : α → α → Bool) (l : List α) : (srt lt l).length = l.length := (srt_perm lt _ l (Nat.le_refl _)).length_eq
theorem mrg_map {α β : Type} (f : α → β) (lt : β → β → Bool) : ∀ (n : Nat) (a b : List α), a.length + b.length ≤ n → mrg lt (a.map f) (b.map f) = (mrg (fun x y => lt (f x) (f y)) a b).map f
  | n, [], b, _ => by rw [List.map_nil, mrg_nil_left, mrg_nil_left]
  | n, x :: a, [], _ => by rw [List.map_nil, mrg_nil_right, mrg_nil_right]
  | 0, x :: a, y :: b, h => by simp at h
  | n + 1, x :: a, y :: b, h => by
    rw [List.map_cons, List.map_cons, mrg_cons, mrg_cons]
    split
    · rw [List.map_cons, ← mrg_map f lt n (x :: a) b (by simp at h ⊢; omega), List.map_cons]
    · rw [List.map_cons, ← mrg_map f lt n a (y :: b) (by simp at h ⊢; omega), List.map_cons]
theorem srt_map {α β : Type} (f : α → β) (lt : β → β → Bool) : ∀ (n : Nat) (l : List α), l.length ≤ n → srt lt (l.map f) = (srt (fun x y => lt (f x) (f y)) l).map f
  | n, l, h => by
    by_cases h2 : l.length < 2
    · rw [srt_short lt _ (by rw [List.length_map]; exact h2), srt_short _ l h2]
    · rw [srt_long lt _ (by rw [List.length_map]; exact h2), srt_long _ l h2, List.length_map]
      match n, h with
      | 0, h => omega
      | n + 1, h =>
        rw [← List.map_take, ← List.map_drop, srt_map f lt n _ (by rw [List.length_take]; omega), srt_map f lt n _ (by rw [List.length_drop]; omega)]
        exact mrg_map f lt _ _ _ (Nat.le_refl _)
/-- what comes ahead by an order that tells any two apart -/
theorem mrg_in {α : Type} (lt : α → α → Bool) (R : α → α → Prop) (htr : ∀ x y z, R x y → R y z → R x z) : ∀ (n : Nat) (a b : List α), a.length + b.length ≤ n → a.Pairwise R → b.Pairwise R → (∀ x ∈ a, ∀ y ∈ b, lt y x = true → R y x) → (∀ x ∈ a, ∀ y ∈ b, lt y x = false → R x y) → (mrg lt a b).Pairwise R
  | n, [], b, _, _, hb, _, _ => by rw [mrg_nil_left]; exact hb
  | n, x :: a, [], _, ha, _, _, _ => by rw [mrg_nil_right]; exact ha
  | 0, x :: a, y :: b, h, _, _, _, _ => by simp at h
  | n + 1, x :: a, y :: b, h, ha, hb, h1, h2 => by
    rw [mrg_cons]
    have ha' := List.pairwise_cons.1 ha
    have hb' := List.pairwise_cons.1 hb
    split
    · rename_i hlt
      have ih := mrg_in lt R htr n (x :: a) b (by simp at h ⊢; omega) ha hb'.2 (fun u hu v hv => h1 u hu v (List.mem_cons_of_mem _ hv)) (fun u hu v hv => h2 u hu v (List.mem_cons_of_mem _ hv))
      refine List.pairwise_cons.2 ⟨fun z hz => ?_, ih⟩
      have hyx := h1 x List.mem_cons_self y List.mem_cons_self hlt
      rcases List.mem_append.1 ((mrg_perm lt _ _ _ (Nat.le_refl _)).mem_iff.1 hz) with hz | hz
      · rcases List.mem_cons.1 hz with rfl | hz
        · exact hyx
        · exact htr _ _ _ hyx (ha'.1 z hz)
      · exact hb'.1 z hz
    · rename_i hlt
      have hlt' : lt y x = false := by simpa using hlt
      have ih := mrg_in lt R htr n a (y :: b) (by simp at h ⊢; omega) ha'.2 hb (fun u hu v hv => h1 u (List.mem_cons_of_mem _ hu) v hv) (fun u hu v hv => h2 u (List.mem_cons_of_mem _ hu) v hv)
      refine List.pairwise_cons.2 ⟨fun z hz => ?_, ih⟩
      have hxy := h2 x List.mem_cons_self y List.mem_cons_self hlt'
      rcases List.mem_append.1 ((mrg_perm lt _ _ _ (Nat.le_refl _)).mem_iff.1 hz) with hz | hz
      · exact ha'.1 z hz
      · rcases List.mem_cons.1 hz with rfl | hz
        · exact hxy
        · exact htr _ _ _ hxy (hb'.1 z hz)
/-- R: a strict order; in the list each comes ahead of those behind it, where lt does not say otherwise -/
theorem srt_in {α : Type} (lt : α → α → Bool) (R : α → α → Prop) (htr : ∀ x y z, R x y → R y z → R x z) (h1 : ∀ x y, lt y x = true → R y x) : ∀ (n : Nat) (l : List α), l.length ≤ n → (l.Pairwise fun x y => lt y x = false → R x y) → (srt lt l).Pairwise R
  | n, l, h, hp => by
    by_cases h2 : l.length < 2
    · rw [srt_short lt l h2]
      match l, h2 with
      | [], _ => exact List.Pairwise.nil
      | [x], _ => exact List.pairwise_singleton _ _
    · rw [srt_long lt l h2]
      match n, h with
      | 0, h => omega
      | n + 1, h =>
        have e := List.take_append_drop (l.length / 2) l
        rw [← e] at hp
        obtain ⟨p1, p2, p3⟩ := List.pairwise_append.1 hp
        have i1 := srt_in lt R htr h1 n (l.take (l.length / 2)) (by rw [List.length_take]; omega) p1
        have i2 := srt_in lt R htr h1 n (l.drop (l.length / 2)) (by rw [List.length_drop]; omega) p2
        refine mrg_in lt R htr _ _ _ (Nat.le_refl _) i1 i2 (fun x hx y hy hl => h1 x y hl) (fun x hx y hy hl => ?_)
        exact p3 x ((srt_perm lt _ _ (Nat.le_refl _)).mem_iff.1 hx) y ((srt_perm lt _ _ (Nat.le_refl _)).mem_iff.1 hy) hl
end Go.Proofs.Ytdhdfeiobjmdaaa

namespace Go.Proofs.Ytdhdfeiobjmdaaa
open Go.ChangeShapes Go.WideShapes Go.ChangeAt Go.RowKit
set_option linter.unusedVariables false

theorem Try.info_E : (Try.prog.info? 67).map (fun i => (i.zero, i.size, i.bytes)) = some (some (.agg #[.slice none 0 0, .slice none 0 0]), 2, 48) := by kernel_rfl
/-- whose key comes first -/
def ltE (x y : En) : Bool := decide (Lib.compareBytes x.kb y.kb < 0)

set_option maxRecDepth 100000 in
/-- append of entries onto a slice of the call's own -/
theorem wpList_appE {w : World} {ops : Array Oper} {rest : List Oper} {o : Oper} {a : Act} {Q : Exit → Act → World → Prop} (hgd : o.guard = none) (s x : Operand)
    (ho : o.op = .call { callee := .builtin .append, args := #[s, x], argTypes := #[57, 57] })
    (base : Nat) (v : Value) (l : List En) (hs : a.eval s = v) (hown : OwnE w base v l) (A : Option Addr) (c : Nat) (m : List En) (n : Nat) (hn : n = m.length) (hx : a.eval x = .slice A n c) (hr : RdE w w.heap.size A m)
    (hlen : l.length + m.length ≤ 1099511627776) (hbase : base ≤ w.heap.size)
    (h : ∀ v' w', OwnE w' base v' (l ++ m) → Below base w w' → wpList Try.prog ops Q rest (a.put o.dst v') w') : wpList Try.prog ops Q (o :: rest) a w := by
  subst hn
  obtain ⟨i0, hi, hz0, hz1, hz2⟩ := info_parts Try.info_E
  have fin : ∀ v' w', w'.ownsRow base 67 2 v' (l.length + m.length) (cellsE l ++ cellsE m) → w.grownBy w' v.ownBlock → wpList Try.prog ops Q rest (a.put o.dst v') w' := fun v' w' h1 h2 => by
    refine h v' w' ?_ ((Below.refl _ _).grown h2 hbase fun k hk => (World.ownsRow.lt hown k hk).1)
    unfold OwnE
    rw [List.length_append, cellsE_append]
    exact h1
  rcases A with _ | ad
  · have h0 : m = [] := by
      cases m with
      | nil => rfl
      | cons u r =>
        obtain ⟨ad, e, _⟩ := hr (by simp)
        cases e
    subst h0
    have hs2 : w.ownsRow base 67 2 v l.length (cellsE l) := hown
    have hrun : (Builtin.append_ #[57, 57] o.type #[v, .slice none 0 c]).run Try.prog w = .ok v w := by
      rcases hs2.2 with ⟨rfl, _⟩ | ⟨g, cap, cur, rfl, _, _, hnc, _⟩ <;>
        simp [Builtin.append_, run_underlying Try.underlying57, sizeOf, typeInfo, hi, Builtin.lenOf, Builtin.firstCells]
      simp [hnc, storeCells]
    refine wpList_plain hgd fun K hK => ?_
    unfold Oper.wp
    simp only [execOp, ho, resolve, invoke, builtin, Sem.run_bind, Sem.run_pure, Result.andThen_ok, List.map_toArray, List.map_cons, List.map_nil, hs, hx]
    have hx0 : (Value.slice none ([] : List En).length c) = .slice none 0 c := rfl
    rw [hx0, hrun]
    exact hK _ _ (fin v w (by simpa [cellsE] using hs2) (World.grownBy.refl w _))
  · refine wpList_append_own w hgd s x 57 ho base 67 i0 _ 2 48 Try.underlying57 hi hz0 hz1 hz2 rfl (by decide) v l.length (cellsE l) hs hown ad m.length c (cellsE m) hx (cellsE_length m) hr.cells (cellsE_one m) (by simp only [maxLen]; omega) (by omega) hbase ?_
    · intro v' w' h1 h2 _
      exact fin v' w' h1 h2
set_option maxRecDepth 100000 in
/-- append of one entry, laid just ahead, at a step of a region that draws its order -/
theorem step_appE {W : World} {ops : Array Oper} {o : Oper} {a : Act} {K : Act → World → Prop} {Q : Exit → Act → World → Prop} {E : Prop} (hgd : o.guard = none) (s x : Operand)
    (ho : o.op = .call { callee := .builtin .append, args := #[s, x], argTypes := #[57, 57] })
    (base : Nat) (v : Value) (l : List En) (hs : a.eval s = v) (hown : OwnE W base v l) (z1 z2 : Value) (e : En) (e1 : z1 = e.kv) (e2 : z2 = e.rv) (hx : a.eval x = .slice (some ⟨W.heap.size, 0, none⟩) 1 1)
    (hlen : l.length + 1 ≤ 1099511627776) (hbase : base ≤ W.heap.size)
    (h : ∀ v' w', OwnE w' base v' (l ++ [e]) → Below base W w' → K (a.put o.dst v') w') :
    if Region.wanted o (yielded ops a.tmps) = true then Oper.wp Try.prog o a (W.alloc (.cells #[z1, z2] 67)).drew K Q else E := by
  subst e1 e2
  have hw : Region.wanted o (yielded ops a.tmps) = true := by simp [Region.wanted, hgd]
  rw [if_pos hw]
  obtain ⟨i0, hi, hz0, hz1, hz2⟩ := info_parts Try.info_E
  have hown' : OwnE (W.alloc (.cells #[e.kv, e.rv] 67)).drew base v l := World.ownsRow.alloc hown _
  refine wp_append_own (W.alloc (.cells #[e.kv, e.rv] 67)).drew s x 57 ho base 67 i0 _ 2 48 Try.underlying57 hi hz0 hz1 hz2 rfl (by decide) v l.length (cellsE l) hs hown' ⟨W.heap.size, 0, none⟩ 1 1 (cellsE [e]) hx rfl ?_ (cellsE_one _) (by simp only [maxLen]; omega) (by omega) (by simp; omega) ?_
  · intro j u hu
    have hb : (W.alloc (.cells #[e.kv, e.rv] 67)).drew.heap[W.heap.size]? = some (.cells #[e.kv, e.rv] 67 (0, 0)) := by
      show (W.alloc _).heap[W.heap.size]? = _
      rw [heap_alloc_new]
    exact World.news_of_block hb j u hu
  · intro v' w' h1 h2 _
    refine h v' w' ?_ (((Below.refl _ _).alloc hbase _).trans ((Below.refl _ _).drew.grown h2 (by simp; omega) fun k hk => (World.ownsRow.lt hown' k hk).1))
    unfold OwnE
    rw [List.length_append, cellsE_append]
    exact h1

theorem OwnE.below {w w' : World} {base : Nat} {v : Value} {l : List En} (h : OwnE w base v l) (hb : Below w.heap.size w w') : OwnE w' base v l := by
  obtain ⟨h1, h2⟩ := h
  refine ⟨h1, ?_⟩
  rcases h2 with h2 | ⟨g, cap, cur, hv, hg, hh, r⟩
  · exact .inl h2
  · have hlt : g < w.heap.size := by
      rcases Nat.lt_or_ge g w.heap.size with hlt | hge
      · exact hlt
      · rw [Array.getElem?_eq_none hge] at hh; cases hh
    exact .inr ⟨g, cap, cur, hv, hg, (hb.block g hlt).trans hh, r⟩
def lenV : Value → Nat
  | .slice _ n _ => n
  | _ => 0
/-- at the head of the loop -/
def MrgRel (w0 : World) (a b : List En) (v0 v1 v7 : Value) (wr : World) : Prop :=
  ∃ (A : Option Addr) (ca : Nat) (x : List En) (B : Option Addr) (cb : Nat) (y lo : List En), v0 = .slice A x.length ca ∧ v1 = .slice B y.length cb ∧ x.length ≤ ca ∧ y.length ≤ cb ∧ RdE w0 w0.heap.size A x ∧ RdE w0 w0.heap.size B y ∧
    (∀ e ∈ x, EnOk w0 w0.heap.size e) ∧ (∀ e ∈ y, EnOk w0 w0.heap.size e) ∧ OwnE wr w0.heap.size v7 lo ∧ Below w0.heap.size w0 wr ∧ lo ++ mrg ltE x y = mrg ltE a b
theorem RdE.post2 {w : World} {B : Nat} {ad : Addr} {l : List En} (h : RdE w B (some ad) l) (k cap : Nat) (hc : l.length ≤ cap) : RdE w B (if cap = k then some ad else some (ad.add (k * 2))) (l.drop k) := by
  by_cases e : cap = k
  · intro hp
    rw [List.length_drop] at hp
    omega
  · rw [if_neg e]
    exact h.post k
set_option maxRecDepth 100000 in
set_option maxHeartbeats 1000000 in
theorem merged_any (A : Option Addr) (ca : Nat) (a : List En) (B : Option Addr) (cb : Nat) (b : List En) (w : World) (hA : RdE w w.heap.size A a) (hB : RdE w w.heap.size B b) (hca : a.length ≤ ca) (hcb : b.length ≤ cb) (hcm : ca ≤ 9223372036854775807) (hcm' : cb ≤ 9223372036854775807)
    (ha : ∀ e ∈ a, EnOk w w.heap.size e) (hb : ∀ e ∈ b, EnOk w w.heap.size e) (hl : a.length + b.length ≤ 1048576) :
    Calls Try.prog 64 #[.slice A a.length ca, .slice B b.length cb, .func (.func 37) #[] #[]] w fun e w' => ∃ v, e = .returned v ∧ OwnE w' w.heap.size v (mrg ltE a b) ∧ Below w.heap.size w w' := by
  obtain ⟨i0, hi, hz0, hz1, hz2⟩ := info_parts Try.info_E
  have hmk : (Instr.makeSlice 57 (.int .i64 0) (.int .i64 ((a.length : Int) + b.length))).run Try.prog w = .ok (.slice (some ⟨w.heap.size, 0, none⟩) 0 (a.length + b.length)) (w.alloc (.cells (madeCells #[.slice none 0 0, .slice none 0 0] ((a.length + b.length) * 2)) 67)) := by
    have h := run_make (P := Try.prog) w 57 67 i0 (.agg #[.slice none 0 0, .slice none 0 0]) Try.underlying57 hi hz0 .i64 .i64 0 ((a.length : Int) + b.length) (by omega) (by omega) (by rw [hz2]; omega) (by omega)
    rw [h, hz1]
    have e2 : ((a.length : Int) + b.length).toNat = a.length + b.length := by omega
    rw [e2]
    rfl
  have hown : OwnE (w.alloc (.cells (madeCells #[.slice none 0 0, .slice none 0 0] ((a.length + b.length) * 2)) 67)) w.heap.size (.slice (some ⟨w.heap.size, 0, none⟩) 0 (a.length + b.length)) [] := by
    refine ⟨rfl, .inr ⟨w.heap.size, a.length + b.length, (madeCells #[.slice none 0 0, .slice none 0 0] ((a.length + b.length) * 2)), rfl, Nat.le_refl _, ?_, Nat.zero_le _, by simp only [maxLen]; omega, ?_, ?_⟩⟩
    · rw [heap_alloc_new]
    · rw [size_madeCells]
    · simp [cellsE]
  have HO := Lib.hid hown
  clear hown hi hz0 hz1 hz2
  go_enter Try.func64, Try.ntmps64
  go_wp2_with fail
  go_loopw [0, 1, 7] (fun v0 v1 v7 wr => MrgRel w a b v0 v1 v7 wr) (fun v0 v1 _ _ => lenV v0 + lenV v1)
  case atStart => exact ⟨A, ca, a, B, cb, b, [], rfl, rfl, hca, hcb, hA, hB, ha, hb, HO.out, (Below.refl _ _).alloc (Nat.le_refl _) _, rfl⟩
  case round =>
    obtain ⟨A, ca, x, B, cb, y, lo, rfl, rfl, hca, hcb, hA, hB, ha, hb, ho, hbw, he⟩ := hrel
    by_cases hx0 : x = []
    · have hm : mrg ltE x y = x ++ y := by rw [hx0, mrg_nil_left, List.nil_append]
      rw [hm, ← List.append_assoc] at he
      have HM := Lib.hid he
      clear hm
      have hll : lo.length + x.length + y.length = a.length + b.length := by have := congrArg List.length HM.out; rw [mrg_length, List.length_append, List.length_append] at this; exact this
      have HA := Lib.hid (hA.on hbw)
      have HB := Lib.hid hB
      have HW := Lib.hid hbw
      have hsz := hbw.size
      have HO := Lib.hid ho
      clear hA hB he ha hb hbw ho hmk
      have hx1 : x.length = 0 := by rw [hx0]; rfl
      clear hx0
      have hx2 : decide (0 < x.length) = false := decide_eq_false (by omega)
      clear hx1
      go_wp2_with (at_builtin; first
        | (refine wpList_appE rfl (.tmp 46) (.tmp 47) rfl w.heap.size u7 lo rfl HO.out A ca x _ rfl rfl HA.out (by omega) hsz ?_; intro v1 w1 ho1 hb1; have HO1 := Lib.hid ho1; have HW1 := Lib.hid (HW.out.trans hb1); have hsz1 := Nat.le_trans hsz hb1.size; clear ho1 hb1)
        | (refine wpList_appE rfl (.tmp 48) (.tmp 49) rfl w.heap.size _ (lo ++ x) rfl HO1.out B cb y _ rfl rfl ((HB.out.below HW1.out).more hsz1) (by rw [List.length_append]; omega) hsz1 ?_; intro v2 w2 ho2 hb2; have HO2 := Lib.hid ho2; have HW2 := Lib.hid (HW1.out.trans hb2); clear ho2 hb2))
      go_ret
      exact ⟨_, rfl, by have := HO2.out; rw [HM.out] at this; exact this, HW2.out⟩
    by_cases hy0 : y = []
    · have hm : mrg ltE x y = x ++ y := by rw [hy0, mrg_nil_right, List.append_nil]
      rw [hm, ← List.append_assoc] at he
      have HM := Lib.hid he
      clear hm
      have hll : lo.length + x.length + y.length = a.length + b.length := by have := congrArg List.length HM.out; rw [mrg_length, List.length_append, List.length_append] at this; exact this
      have HA := Lib.hid (hA.on hbw)
      have HB := Lib.hid hB
      have HW := Lib.hid hbw
      have hsz := hbw.size
      have HO := Lib.hid ho
      clear hA hB he ha hb hbw ho hmk
      have hx1 : 0 < x.length := List.length_pos_iff.2 hx0
      have hy1 : y.length = 0 := by rw [hy0]; rfl
      clear hx0 hy0
      have hx2 : decide (0 < x.length) = true := decide_eq_true (by omega)
      have hy2 : decide (0 < y.length) = false := decide_eq_false (by omega)
      clear hx1 hy1
      go_wp2_with (at_builtin; first
        | (refine wpList_appE rfl (.tmp 46) (.tmp 47) rfl w.heap.size u7 lo rfl HO.out A ca x _ rfl rfl HA.out (by omega) hsz ?_; intro v1 w1 ho1 hb1; have HO1 := Lib.hid ho1; have HW1 := Lib.hid (HW.out.trans hb1); have hsz1 := Nat.le_trans hsz hb1.size; clear ho1 hb1)
        | (refine wpList_appE rfl (.tmp 48) (.tmp 49) rfl w.heap.size _ (lo ++ x) rfl HO1.out B cb y _ rfl rfl ((HB.out.below HW1.out).more hsz1) (by rw [List.length_append]; omega) hsz1 ?_; intro v2 w2 ho2 hb2; have HO2 := Lib.hid ho2; have HW2 := Lib.hid (HW1.out.trans hb2); clear ho2 hb2))
      go_ret
      exact ⟨_, rfl, by have := HO2.out; rw [HM.out] at this; exact this, HW2.out⟩
    obtain ⟨e, x, rfl⟩ := List.exists_cons_of_ne_nil hx0
    obtain ⟨f, y, rfl⟩ := List.exists_cons_of_ne_nil hy0
    obtain ⟨ad, rfl, hal, hcA⟩ := hA (by simp)
    obtain ⟨bd, rfl, hbl, hcB⟩ := hB (by simp)
    obtain ⟨a0, a1⟩ := hcA 0 e rfl
    obtain ⟨b0, b1⟩ := hcB 0 f rfl
    have z0 : ∀ q : Addr, q.add (0 * 2) = q := fun q => by simp [Addr.add]
    rw [z0] at a0 a1 b0 b1
    have c0 := (hbw.cell hal).trans a0
    have c1 := (hbw.cell (p := ⟨ad.block, ad.off + 1, none⟩) hal).trans a1
    have d0 := (hbw.cell hbl).trans b0
    have d1 := (hbw.cell (p := ⟨bd.block, bd.off + 1, none⟩) hbl).trans b1
    have OE := Lib.hid (show EnOk wr.drew wr.drew.heap.size e from ((ha e List.mem_cons_self).below hbw).more hbw.size)
    have OF := Lib.hid (show EnOk wr.drew wr.drew.heap.size f from ((hb f List.mem_cons_self).below hbw).more hbw.size)
    have HAX := Lib.hid (hA.post2 1 ca hca)
    have HBX := Lib.hid (hB.post2 1 cb hcb)
    have HEA := Lib.hid (fun x hx => ha x (List.mem_cons_of_mem _ hx))
    have HEB := Lib.hid (fun x hx => hb x (List.mem_cons_of_mem _ hx))
    have HHA := Lib.hid ha
    have HHB := Lib.hid hb
    have HA := Lib.hid hA
    have HB := Lib.hid hB
    have HE := Lib.hid he
    have hal2 : ad.block < wr.heap.size := Nat.lt_of_lt_of_le hal hbw.size
    have hbl2 : bd.block < wr.heap.size := Nat.lt_of_lt_of_le hbl hbw.size
    have HC := Lib.hid (And.intro c0 (And.intro c1 (And.intro d0 d1)))
    have hx2 : decide (0 < (e :: x).length) = true := rfl
    have hy2 : decide (0 < (f :: y).length) = true := rfl
    clear hx0 hy0 hcA hcB a0 a1 b0 b1 z0 hA hB he ha hb hmk
    go_wp2_with fail
    go_region_held3 (fun X => X.cell? ad = some e.kv ∧ X.cell? ⟨ad.block, ad.off + 1, none⟩ = some e.rv ∧ X.cell? bd = some f.kv ∧ X.cell? ⟨bd.block, bd.off + 1, none⟩ = some f.rv) (first | exact HC.out | exact HC2.out)
      (first
        | (go_at_call 37; refine (cmp_any f e wr.drew OF.out OE.out).mono ?_; rintro e1 w1 ⟨rfl, hb1⟩; have HB1 := Lib.hid (show Below wr.heap.size wr w1 from ⟨hb1.os, hb1.tape, hb1.output, hb1.size, hb1.block⟩); have HC2 := Lib.hid (And.intro ((HB1.out.cell hal2).trans HC.out.1) (And.intro ((HB1.out.cell (p := ⟨ad.block, ad.off + 1, none⟩) hal2).trans HC.out.2.1) (And.intro ((HB1.out.cell hbl2).trans HC.out.2.2.1) ((HB1.out.cell (p := ⟨bd.block, bd.off + 1, none⟩) hbl2).trans HC.out.2.2.2)))); clear hb1))
    have HO1 := Lib.hid ((ho.below HB1.out))
    have HBW1 := Lib.hid (hbw.trans (HB1.out.mono hbw.size))
    have HS1 := Lib.hid (Nat.le_trans hbw.size HB1.out.size)
    have HLL := Lib.hid (show lo.length + 1 ≤ 1099511627776 by have := congrArg List.length HE.out; rw [mrg_cons] at this; rw [List.length_append, mrg_length] at this; split at this <;> (simp [mrg_length] at this; omega))
    obtain ⟨β, hβ⟩ : ∃ β, ltE f e = β := ⟨_, rfl⟩
    rw [show decide (Lib.compareBytes f.kb e.kb < 0) = β from hβ]
    have hl1 : (1 : Int) ≤ (x.length : Int) + 1 := by omega
    have hl2 : (1 : Int) ≤ (y.length : Int) + 1 := by omega
    clear hbw ho
    cases β with
    | false =>
      by_cases hc1 : ca = 1
      · have HE2 := Lib.hid (show (lo ++ [e]) ++ mrg ltE x (f :: y) = mrg ltE a b from by rw [← HE.out, mrg_cons, if_neg (by rw [hβ]; decide), List.append_assoc]; rfl)
        clear hβ
        go_wp2_with fail
        go_region_law (refine step_appE rfl _ _ rfl w.heap.size _ lo rfl HO1.out _ _ e rfl rfl rfl (by have := HLL.out; omega) HS1.out ?_; intro v1 wx ho1 hb1)
        all_goals go_wp2_with fail
        all_goals go_roundw
        case rel => exact ⟨_, _, _, _, _, _, _, _, _, _, _, _, _, _, _, _, _, _, _, _, _, _, _, _, _, _, _, _, _, _, _, _, _, _, _, ⟨(if ca = 1 then some ad else some (ad.add (1 * 2))), ca - 1, x, some bd, cb, f :: y, lo ++ [e], by rw [hc1]; rfl, rfl, by simp at hca; omega, hcb, HAX.out, HB.out, HEA.out, HHB.out, ho1, HBW1.out.trans hb1, HE2.out⟩, rfl⟩
        case measure =>
          show x.length + (f :: y).length < (e :: x).length + (f :: y).length
          simp
      · have HE2 := Lib.hid (show (lo ++ [e]) ++ mrg ltE x (f :: y) = mrg ltE a b from by rw [← HE.out, mrg_cons, if_neg (by rw [hβ]; decide), List.append_assoc]; rfl)
        clear hβ
        go_wp2_with fail
        go_region_law (refine step_appE rfl _ _ rfl w.heap.size _ lo rfl HO1.out _ _ e rfl rfl rfl (by have := HLL.out; omega) HS1.out ?_; intro v1 wx ho1 hb1)
        all_goals go_wp2_with fail
        all_goals go_roundw
        case rel => exact ⟨_, _, _, _, _, _, _, _, _, _, _, _, _, _, _, _, _, _, _, _, _, _, _, _, _, _, _, _, _, _, _, _, _, _, _, ⟨(if ca = 1 then some ad else some (ad.add (1 * 2))), ca - 1, x, some bd, cb, f :: y, lo ++ [e], by rw [if_neg hc1]; rfl, rfl, by simp at hca; omega, hcb, HAX.out, HB.out, HEA.out, HHB.out, ho1, HBW1.out.trans hb1, HE2.out⟩, rfl⟩
        case measure =>
          show x.length + (f :: y).length < (e :: x).length + (f :: y).length
          simp
    | true =>
      by_cases hc1 : cb = 1
      · have HE2 := Lib.hid (show (lo ++ [f]) ++ mrg ltE (e :: x) y = mrg ltE a b from by rw [← HE.out, mrg_cons, if_pos hβ, List.append_assoc]; rfl)
        clear hβ
        go_wp2_with fail
        go_region_law (refine step_appE rfl _ _ rfl w.heap.size _ lo rfl HO1.out _ _ f rfl rfl rfl (by have := HLL.out; omega) HS1.out ?_; intro v1 wx ho1 hb1)
        all_goals go_wp2_with fail
        all_goals go_roundw
        case rel => exact ⟨_, _, _, _, _, _, _, _, _, _, _, _, _, _, _, _, _, _, _, _, _, _, _, _, _, _, _, _, _, _, _, _, _, _, _, ⟨some ad, ca, e :: x, (if cb = 1 then some bd else some (bd.add (1 * 2))), cb - 1, y, lo ++ [f], rfl, by rw [hc1]; rfl, hca, by simp at hcb; omega, HA.out, HBX.out, HHA.out, HEB.out, ho1, HBW1.out.trans hb1, HE2.out⟩, rfl⟩
        case measure =>
          show (e :: x).length + y.length < (e :: x).length + (f :: y).length
          simp
      · have HE2 := Lib.hid (show (lo ++ [f]) ++ mrg ltE (e :: x) y = mrg ltE a b from by rw [← HE.out, mrg_cons, if_pos hβ, List.append_assoc]; rfl)
        clear hβ
        go_wp2_with fail
        go_region_law (refine step_appE rfl _ _ rfl w.heap.size _ lo rfl HO1.out _ _ f rfl rfl rfl (by have := HLL.out; omega) HS1.out ?_; intro v1 wx ho1 hb1)
        all_goals go_wp2_with fail
        all_goals go_roundw
        case rel => exact ⟨_, _, _, _, _, _, _, _, _, _, _, _, _, _, _, _, _, _, _, _, _, _, _, _, _, _, _, _, _, _, _, _, _, _, _, ⟨some ad, ca, e :: x, (if cb = 1 then some bd else some (bd.add (1 * 2))), cb - 1, y, lo ++ [f], rfl, by rw [if_neg hc1]; rfl, hca, by simp at hcb; omega, HA.out, HBX.out, HHA.out, HEB.out, ho1, HBW1.out.trans hb1, HE2.out⟩, rfl⟩
        case measure =>
          show (e :: x).length + y.length < (e :: x).length + (f :: y).length
          simp
end Go.Proofs.Ytdhdfeiobjmdaaa

namespace Go.Proofs.Ytdhdfeiobjmdaaa
open Go.ChangeShapes Go.WideShapes Go.ChangeAt Go.RowKit
set_option linter.unusedVariables false

theorem OwnE.mono {w : World} {base base' : Nat} {v : Value} {l : List En} (h : OwnE w base v l) (hb : base' ≤ base) : OwnE w base' v l := by
  obtain ⟨h1, h2⟩ := h
  refine ⟨h1, ?_⟩
  rcases h2 with h2 | ⟨g, cap, cur, hv, hg, r⟩
  · exact .inl h2
  · exact .inr ⟨g, cap, cur, hv, Nat.le_trans hb hg, r⟩
def InRet (w : World) (l : List En) (e : Ending) (w' : World) : Prop := ∃ A c, e = .returned (.slice A l.length c) ∧ l.length ≤ c ∧ c ≤ 9223372036854775807 ∧ RdE w' w'.heap.size A l ∧ (2 ≤ l.length → OwnE w' w.heap.size (.slice A l.length c) l) ∧ Below w.heap.size w w'
set_option maxRecDepth 100000 in
theorem inOrder_short (A : Option Addr) (n c : Nat) (l : List En) (w : World) (hn : n = l.length) (hA : RdE w w.heap.size A l) (hc : l.length ≤ c) (hcm : c ≤ 9223372036854775807) (h2 : l.length < 2) :
    Calls Try.prog 36 #[.slice A n c, .func (.func 37) #[] #[]] w (InRet w (srt ltE l)) := by
  have q1 : decide ((n : Int) < 2) = true := decide_eq_true (by omega)
  have q0 : (n : Int) < 2 := by omega
  have HA := Lib.hid hA
  have HN := Lib.hid hn
  clear hn hA
  go_enter Try.func36, Try.ntmps36
  go_wp2_with fail
  go_ret
  exact ⟨A, c, by rw [srt_short ltE l h2, HN.out]; rfl, by rw [srt_short ltE l h2]; exact hc, hcm, by rw [srt_short ltE l h2]; exact HA.out, fun h => by rw [srt_length] at h; omega, Below.refl _ _⟩
set_option maxRecDepth 100000 in
set_option maxHeartbeats 1000000 in
theorem inOrder_any : ∀ (N : Nat) (A : Option Addr) (n c : Nat) (l : List En) (w : World), n = l.length → RdE w w.heap.size A l → l.length ≤ c → c ≤ 9223372036854775807 → (∀ e ∈ l, EnOk w w.heap.size e) → l.length ≤ 1048576 → l.length ≤ N →
    Calls Try.prog 36 #[.slice A n c, .func (.func 37) #[] #[]] w (InRet w (srt ltE l)) := by
  intro N
  induction N with
  | zero => exact fun A n c l w hn hA hc hcm hok hl hN => inOrder_short A n c l w hn hA hc hcm (by omega)
  | succ N ih =>
    intro A n c l w hn hA hc hcm hok hl hN
    by_cases h2 : l.length < 2
    · exact inOrder_short A n c l w hn hA hc hcm h2
    · obtain ⟨ad, rfl, hal, hcs⟩ := hA (by omega)
      obtain ⟨h, hh⟩ : ∃ h, n / 2 = h := ⟨_, rfl⟩
      have q1 : decide ((n : Int) < 2) = false := decide_eq_false (by omega)
      have q0 : (2 : Int) ≤ (n : Int) := by omega
      have q2 : (n : Int) / 2 = (h : Int) := by rw [← hh]; rfl
      have q3 : (0 : Int) ≤ (h : Int) := by omega
      have q4 : (h : Int) ≤ (n : Int) := by omega
      have q5 : (h : Int) ≤ (c : Int) := by omega
      have q6 : ¬ c = h := by omega
      have lt : (l.take h).length = h := by rw [List.length_take]; omega
      have ld : (l.drop h).length = n - h := by rw [List.length_drop, hn]
      have H1 := Lib.hid (show ∀ W, Below w.heap.size w W → Calls Try.prog 36 #[.slice (some ad) h c, .func (.func 37) #[] #[]] W (InRet W (srt ltE (l.take h))) from fun W hb =>
        ih (some ad) h c (l.take h) W lt.symm ((hA.pre h).on hb) (by omega) hcm (fun e he => (hok e (List.mem_of_mem_take he)).on hb) (by omega) (by omega))
      have H2 := Lib.hid (show ∀ W, Below w.heap.size w W → Calls Try.prog 36 #[.slice (some (ad.add (h * 2))) (n - h) (c - h), .func (.func 37) #[] #[]] W (InRet W (srt ltE (l.drop h))) from fun W hb =>
        ih (some (ad.add (h * 2))) (n - h) (c - h) (l.drop h) W ld.symm ((hA.post h).on hb) (by omega) (by omega) (fun e he => (hok e (List.mem_of_mem_drop he)).on hb) (by omega) (by omega))
      have HS := Lib.hid (show srt ltE l = mrg ltE (srt ltE (l.take h)) (srt ltE (l.drop h)) by rw [srt_long ltE l h2, ← hh, hn])
      have HL := Lib.hid (show (srt ltE (l.take h)).length + (srt ltE (l.drop h)).length ≤ 1048576 by rw [srt_length, srt_length]; omega)
      have HOK1 := Lib.hid (show ∀ e ∈ srt ltE (l.take h), EnOk w w.heap.size e from fun e he => hok e (List.mem_of_mem_take ((srt_perm ltE _ _ (Nat.le_refl _)).mem_iff.1 he)))
      have HOK2 := Lib.hid (show ∀ e ∈ srt ltE (l.drop h), EnOk w w.heap.size e from fun e he => hok e (List.mem_of_mem_drop ((srt_perm ltE _ _ (Nat.le_refl _)).mem_iff.1 he)))
      generalize srt ltE (l.take h) = x at *
      generalize srt ltE (l.drop h) = y at *
      have HW := Lib.hid (show Below w.heap.size w w.drew from ⟨rfl, rfl, rfl, Nat.le_refl _, fun _ _ => rfl⟩)
      clear hn hh lt ld hA hcs hok hl hN h2 ih
      go_enter Try.func36, Try.ntmps36
      go_wp2_with fail
      go_region_held3 (fun X => True) (first | trivial)
        (first
          | (go_at_call 36; (with_reducible refine (H1.out _ HW.out).mono ?_); rintro e1 w1 ⟨A1, c1, rfl, hc1, hm1, hr1, _, hb1⟩; have HR1 := Lib.hid hr1; have HB1 := Lib.hid (show Below w.heap.size w w1 from ⟨hb1.os, hb1.tape, hb1.output, hb1.size, hb1.block⟩); clear hr1 hb1)
          | (go_at_call 36; (with_reducible refine (H2.out _ HB1.out).mono ?_); rintro e2 w2 ⟨A2, c2, rfl, hc2, hm2, hr2, _, hb2⟩; have HR2 := Lib.hid hr2; have HB2 := Lib.hid hb2; clear hr2 hb2)
          | (go_at_call 64; refine (merged_any A1 c1 x A2 c2 y _ (HR1.out.on HB2.out) HR2.out hc1 hc2 hm1 hm2 (fun e he => ((HOK1.out e he).on HB1.out).on HB2.out) (fun e he => ((HOK2.out e he).on HB1.out).on HB2.out) HL.out).mono ?_; rintro e3 w3 ⟨v3, rfl, ho3, hb3⟩; obtain ⟨A3, c3, rfl, g1, g2, g3⟩ := ho3.form; have HO3 := Lib.hid ho3; have HB3 := Lib.hid hb3; have HR3 := Lib.hid g3; clear ho3 hb3 g3))
      go_wp2_with fail
      go_ret
      unfold maxLen at g2
      rw [HS.out]
      exact ⟨A3, c3, rfl, g1, by omega, HR3.out, fun _ => OwnE.mono HO3.out (Nat.le_trans HB1.out.size HB2.out.size), (HB1.out.trans (HB2.out.mono HB1.out.size)).trans (HB3.out.mono (Nat.le_trans HB1.out.size HB2.out.size))⟩
end Go.Proofs.Ytdhdfeiobjmdaaa

namespace Go.Proofs.Ytdhdfeiobjmdaaa
open Go.ChangeShapes Go.WideShapes Go.ChangeAt Go.RowKit
set_option linter.unusedVariables false

/-- what is left behind p -/
def cmpA {α : Type} (q : α → α → Bool) : α → List α → List α
  | _, [] => []
  | p, y :: l => if q y p then cmpA q y l else y :: cmpA q y l
/-- the first of each run -/
def cmpct {α : Type} (q : α → α → Bool) : List α → List α
  | [] => []
  | x :: l => x :: cmpA q x l
def sameE (x y : En) : Bool := x.kb == y.kb
theorem cmpA_length {α : Type} (q : α → α → Bool) : ∀ (l : List α) (p : α), (cmpA q p l).length ≤ l.length
  | [], p => by simp [cmpA]
  | y :: l, p => by
    have ih := cmpA_length q l y
    unfold cmpA
    split
    · simp; omega
    · simp; omega
theorem cmpct_length {α : Type} (q : α → α → Bool) (l : List α) : (cmpct q l).length ≤ l.length := by
  cases l with
  | nil => simp [cmpct]
  | cons x l => have := cmpA_length q l x; simp [cmpct]; omega
theorem cmpA_mem {α : Type} (q : α → α → Bool) : ∀ (l : List α) (p x : α), x ∈ cmpA q p l → x ∈ l
  | [], p, x, h => by simp [cmpA] at h
  | y :: l, p, x, h => by
    unfold cmpA at h
    split at h
    · exact List.mem_cons_of_mem _ (cmpA_mem q l y x h)
    · rcases List.mem_cons.1 h with rfl | h
      · exact List.mem_cons_self
      · exact List.mem_cons_of_mem _ (cmpA_mem q l y x h)
theorem cmpct_mem {α : Type} (q : α → α → Bool) (l : List α) (x : α) (h : x ∈ cmpct q l) : x ∈ l := by
  cases l with
  | nil => exact h
  | cons y l =>
    rcases List.mem_cons.1 h with rfl | h
    · exact List.mem_cons_self
    · exact List.mem_cons_of_mem _ (cmpA_mem q l y x h)
theorem cmpA_map {α β : Type} (f : α → β) (q : β → β → Bool) : ∀ (l : List α) (p : α), cmpA q (f p) (l.map f) = (cmpA (fun x y => q (f x) (f y)) p l).map f
  | [], p => rfl
  | y :: l, p => by
    have ih := cmpA_map f q l y
    simp only [List.map_cons, cmpA]
    split
    · exact ih
    · rw [List.map_cons, ih]
theorem cmpct_map {α β : Type} (f : α → β) (q : β → β → Bool) (l : List α) : cmpct q (l.map f) = (cmpct (fun x y => q (f x) (f y)) l).map f := by
  cases l with
  | nil => rfl
  | cons x l => simp only [List.map_cons, cmpct, cmpA_map]
/-- one step of the first loop: nothing is left out -/
theorem cmp_step {α : Type} (q : α → α → Bool) (l c : List α) (k : Nat) (p y : α) (hy : l[k]? = some y) (hq : q y p = false) (h : cmpct q l = c ++ cmpA q p (l.drop k)) : cmpct q l = (c ++ [y]) ++ cmpA q y (l.drop (k + 1)) := by
  obtain ⟨hk, hy'⟩ := List.getElem?_eq_some_iff.1 hy
  rw [h, List.drop_eq_getElem_cons hk, hy', cmpA, if_neg (by rw [hq]; decide), List.append_assoc]
  rfl
theorem cmp_skip {α : Type} (q : α → α → Bool) (l c : List α) (k : Nat) (p y : α) (hy : l[k]? = some y) (hq : q y p = true) (h : cmpct q l = c ++ cmpA q p (l.drop k)) : cmpct q l = c ++ cmpA q y (l.drop (k + 1)) := by
  obtain ⟨hk, hy'⟩ := List.getElem?_eq_some_iff.1 hy
  rw [h, List.drop_eq_getElem_cons hk, hy', cmpA, if_pos hq]
/-- the first loop's head: m + 1 entries are asked, m the last of them -/
def CptRel (w0 : World) (base : Nat) (l : List En) (v5 : Value) (wr : World) : Prop :=
  ∃ m : Nat, v5 = .int .i64 ((m : Int) + 1) ∧ m + 1 ≤ l.length ∧ Below w0.heap.size w0 wr ∧ ∀ p, l[m]? = some p → cmpct sameE l = l.take (m + 1) ++ cmpA sameE p (l.drop (m + 1))
theorem OwnE.at {w : World} {base g n c : Nat} {l : List En} (h : OwnE w base (.slice (some ⟨g, 0, none⟩) n c) l) (hn : n = l.length) (j : Nat) (e : En) (hj : l[j]? = some e) : w.cell? ⟨g, j * 2, none⟩ = some e.kv ∧ w.cell? ⟨g, j * 2 + 1, none⟩ = some e.rv := by
  subst hn
  obtain ⟨g0, g1⟩ := cellsE_get l j e hj
  have hl := (List.getElem?_eq_some_iff.1 hj).1
  exact ⟨(World.ownsRow.cellAt h (j * 2) (by omega)).trans g0, (World.ownsRow.cellAt h (j * 2 + 1) (by omega)).trans g1⟩
/-- the inner loop's head: k entries are kept, m + 1 + r is the last one that was asked -/
def CptRel2 (w0 : World) (base g c m : Nat) (l : List En) (v5 v7 : Value) (wr : World) : Prop :=
  ∃ (k r : Nat) (cur : List En), v5 = .int .i64 (k : Int) ∧ v7 = .int .i64 ((r : Int) + 1) ∧ m + 1 ≤ k ∧ k ≤ m + 1 + r ∧ m + 1 + r + 1 ≤ l.length ∧ cur.length = l.length ∧ cur.drop k = l.drop k ∧ OwnE wr base (.slice (some ⟨g, 0, none⟩) l.length c) cur ∧ Below base w0 wr ∧
    ∀ p, l[m + 1 + r]? = some p → cmpct sameE l = cur.take k ++ cmpA sameE p (l.drop (m + 1 + r + 1))
theorem cellsE_set : ∀ (l : List En) (k : Nat) (e : En), ((cellsE l).set (k * 2) e.kv).set (k * 2 + 1) e.rv = cellsE (l.set k e)
  | [], k, e => by simp [cellsE]
  | x :: r, 0, e => rfl
  | x :: r, k + 1, e => by
    have h := cellsE_set r k e
    have e1 : (k + 1) * 2 = k * 2 + 1 + 1 := by omega
    rw [e1]
    simp only [cellsE, List.set_cons_succ]
    rw [h]
theorem OwnE.set {w : World} {base g n c : Nat} {l : List En} (h : OwnE w base (.slice (some ⟨g, 0, none⟩) n c) l) (hn : n = l.length) (k : Nat) (e : En) :
    OwnE ((w.setCell ⟨g, k * 2, none⟩ e.kv).setCell ⟨g, k * 2 + 1, none⟩ e.rv) base (.slice (some ⟨g, 0, none⟩) n c) (l.set k e) := by
  subst hn
  have h1 := (World.ownsRow.stored h (k * 2) e.kv).1
  have h2 := (World.ownsRow.stored h1 (k * 2 + 1) e.rv).1
  rw [cellsE_set] at h2
  unfold OwnE
  rw [List.length_set]
  exact h2
theorem below_set2 {w w0 : World} {base g k : Nat} {u v : Value} (h : Below base w0 w) (hg : base ≤ g) : Below base w0 ((w.setCell ⟨g, k * 2, none⟩ u).setCell ⟨g, k * 2 + 1, none⟩ v) :=
  (h.setCell (p := ⟨g, k * 2, none⟩) hg u).setCell (p := ⟨g, k * 2 + 1, none⟩) hg v
theorem zero_E (w : World) : (zeroValue 67).run Try.prog w = .ok (.agg #[.slice none 0 0, .slice none 0 0]) w := by
  obtain ⟨i0, hi, hz0, hz1, hz2⟩ := info_parts Try.info_E
  simp [zeroValue, typeInfo, hi, hz0]
theorem zeroCells_E (n : Nat) : (Builtin.zeroCells (Value.agg #[.slice none 0 0, .slice none 0 0]).cells n).toList = List.replicate (n * 2) (.slice none 0 0) := by
  have e : (Value.agg #[.slice none 0 0, .slice none 0 0]).cells = #[.slice none 0 0, .slice none 0 0] := by kernel_rfl
  rw [e]
  simp [Builtin.zeroCells]
  apply List.ext_getElem
  · simp
  · intro i h1 h2
    have : i % 2 = 0 ∨ i % 2 = 1 := by omega
    rcases this with h | h <;> simp [h]
theorem cellsE_take : ∀ (l : List En) (k : Nat), (cellsE l).take (k * 2) = cellsE (l.take k)
  | [], k => by simp [cellsE]
  | x :: r, 0 => by simp [cellsE]
  | x :: r, k + 1 => by
    have e : (k + 1) * 2 = k * 2 + 1 + 1 := by omega
    rw [e]
    simpa [cellsE] using cellsE_take r k
theorem run_store1 {w : World} {a : Addr} {v u : Value} (hv : v.oneCell' = true) (hc : w.cell? a = some u) (hf : w.frozen? a = false) (m : Mode := .plain) : (store a v m).run Try.prog w = .ok () (w.setCell a v) := by
  rw [run_store Try.prog w a v m hv]
  simp [hc, hf]
theorem set_take (cur : List En) (k : Nat) (y : En) (h : k < cur.length) : (cur.set k y).take (k + 1) = cur.take k ++ [y] := by
  rw [List.take_add_one, List.getElem?_set_self h, List.take_set, List.set_eq_of_length_le (by rw [List.length_take]; omega)]
  rfl
theorem set_drop (cur l : List En) (k : Nat) (y : En) (h : cur.drop k = l.drop k) : (cur.set k y).drop (k + 1) = l.drop (k + 1) := by
  rw [List.drop_set, if_pos (by omega)]
  rw [show cur.drop (k + 1) = (cur.drop k).drop 1 by rw [List.drop_drop], show l.drop (k + 1) = (l.drop k).drop 1 by rw [List.drop_drop], h]
/-- clear(s[k:]): the cells from entry k on -/
theorem run_clearE {w : World} {base g n c : Nat} {l : List En} (h : OwnE w base (.slice (some ⟨g, 0, none⟩) n c) l) (hn : n = l.length) (k c' : Nat) (hk : k < n) :
    (Builtin.clear_ #[57] 0 #[.slice (some ⟨g, k * 2, none⟩) (n - k) c']).run Try.prog w = .ok (.tuple #[]) (w.setCells g (k * 2) (List.replicate ((n - k) * 2) (.slice none 0 0))) := by
  subst hn
  have hst := run_storeCells_cells (P := Try.prog) g (k * 2) (List.replicate ((l.length - k) * 2) (.slice none 0 0)) 0 w (fun j hj => by
      rw [List.length_replicate] at hj
      have hl : k * 2 + 0 + j < (cellsE l).length := by rw [cellsE_length]; omega
      rw [World.ownsRow.cellAt h _ (by omega), List.getElem?_eq_getElem hl]
      rfl) (fun j hj => World.ownsRow.frozenAt h _) (by intro v hv; rw [List.eq_of_mem_replicate hv]; rfl)
  rw [Nat.add_zero] at hst
  obtain ⟨q, hq⟩ : ∃ q, l.length - k = q + 1 := ⟨l.length - k - 1, by omega⟩
  rw [hq] at hst ⊢
  simp [Builtin.clear_, run_underlying Try.underlying57, zeroCells_E, hst]
theorem below_cells {w0 : World} {base g : Nat} (hg : base ≤ g) : ∀ (vs : List Value) (o : Nat) (w : World), Below base w0 w → Below base w0 (w.setCells g o vs)
  | [], _, _, h => h
  | v :: r, o, w, h => below_cells hg r (o + 1) _ (h.setCell (p := ⟨g, o, none⟩) hg v)
theorem setCells_row {g : Nat} {t : TypeId} : ∀ (vs : List Value) (o : Nat) (w : World) (cur : Array Value), w.heap[g]? = some (.cells cur t (0, 0)) → ∃ cur', (w.setCells g o vs).heap[g]? = some (.cells cur' t (0, 0)) ∧ cur'.size = cur.size ∧ ∀ k, k ≤ o → cur'.toList.take k = cur.toList.take k
  | [], o, w, cur, h => ⟨cur, h, rfl, fun _ _ => rfl⟩
  | v :: r, o, w, cur, h => by
    obtain ⟨cur', h1, h2, h3⟩ := setCells_row r (o + 1) (w.setCell ⟨g, o, none⟩ v) (cur.setIfInBounds o v) (heap_setCell_same w g o cur t v h)
    refine ⟨cur', h1, h2.trans (by simp), fun k hk => ?_⟩
    rw [h3 k (by omega), Array.toList_setIfInBounds, List.take_set_of_le (by omega)]
theorem clear_keeps {w : World} {base g n c : Nat} {l : List En} (h : OwnE w base (.slice (some ⟨g, 0, none⟩) n c) l) (hn : n = l.length) (k : Nat) (hk : k < n) (vs : List Value) :
    OwnE (w.setCells g (k * 2) vs) base (.slice (some ⟨g, 0, none⟩) k c) (l.take k) := by
  subst hn
  obtain ⟨h1, h2⟩ := h
  rcases h2 with ⟨hv, _⟩ | ⟨g', cap, cur, hv, hg, hh, hc, hm, hs, ht⟩
  · cases hv
  · simp only [Value.slice.injEq, Option.some.injEq, Addr.mk.injEq, and_true, true_and] at hv
    obtain ⟨rfl, rfl⟩ := hv
    obtain ⟨cur', q1, q2, q3⟩ := setCells_row vs (k * 2) w cur hh
    have hl : (l.take k).length = k := by rw [List.length_take]; omega
    refine ⟨by rw [cellsE_length], .inr ⟨g, c, cur', by rw [hl], hg, q1, by rw [hl]; omega, hm, q2.trans hs, ?_⟩⟩
    rw [hl, q3 _ (Nat.le_refl _)]
    have := congrArg (fun z => z.take (k * 2)) ht
    simp only [List.take_take] at this
    rw [show min (k * 2) (l.length * 2) = k * 2 by omega] at this
    rw [this, cellsE_take]
set_option maxRecDepth 100000 in
set_option maxHeartbeats 1000000 in
theorem Compact_any (g c base : Nat) (l : List En) (w : World) (hO : OwnE w base (.slice (some ⟨g, 0, none⟩) l.length c) l) (hb : base ≤ w.heap.size) (hc : c ≤ 9223372036854775807) (hok : ∀ e ∈ l, EnOk w base e) (h2 : 2 ≤ l.length) (hl : l.length ≤ 1048576) :
    Calls Try.prog 39 #[.slice (some ⟨g, 0, none⟩) l.length c, .func (.func 40) #[] #[]] w fun e w' =>
      ∃ v, e = .returned v ∧ OwnE w' base v (cmpct sameE l) ∧ Below base w w' := by
  obtain ⟨n, hn⟩ : ∃ n, l.length = n := ⟨_, rfl⟩
  have hN := Lib.hid hn
  have q0 : (2 : Int) ≤ (n : Int) := by omega
  have HO := Lib.hid hO
  have HOK := Lib.hid hok
  have q1 : decide ((n : Int) < 2) = false := decide_eq_false (by omega)
  have hC0 := Lib.hid (show ∀ p, l[0]? = some p → cmpct sameE l = l.take (0 + 1) ++ cmpA sameE p (l.drop (0 + 1)) by
    intro p hp
    cases l with
    | nil => simp at hp
    | cons x l =>
      obtain rfl : x = p := by simpa using hp
      simp [cmpct])
  have hN1 : 0 + 1 ≤ l.length := by omega
  rw [hn]
  clear hn hO hok h2
  go_enter Try.func39, Try.ntmps39
  go_wp2_with fail
  go_loopw [5] (fun v5 wr => CptRel w base l v5 wr) (fun v5 _ => n - (intOf v5).toNat)
  case atStart => exact ⟨0, rfl, hN1, Below.refl _ _, hC0.out⟩
  case round =>
    obtain ⟨m, rfl, hm, hbw, hcm⟩ := hrel
    by_cases hlt : m + 1 < n
    · obtain ⟨x, hx⟩ : ∃ x, l[m]? = some x := ⟨l[m]'(by omega), List.getElem?_eq_getElem _⟩
      obtain ⟨y, hy⟩ : ∃ y, l[m + 1]? = some y := ⟨l[m + 1]'(by have := hN.out; omega), List.getElem?_eq_getElem _⟩
      have q2 : decide ((m : Int) + 1 < (n : Int)) = true := decide_eq_true (by omega)
      have q3 : IntKind.i64.wrap ((m : Int) + 1 - 1) = (m : Int) := by rw [IntWalk.i64_in _ (by omega)]; omega
      have q33 : IntKind.i64.wrap (m : Int) = (m : Int) := IntWalk.i64_in _ (by omega)
      have q4 : (m : Int) + 1 < (n : Int) := by omega
      have q5 : (m : Int) < (n : Int) := by omega
      have q6 : (0 : Int) ≤ (m : Int) + 1 := by omega
      have HO2 := Lib.hid (HO.out.below hbw)
      obtain ⟨x0, x1⟩ := OwnE.at HO2.out rfl m x hx
      obtain ⟨y0, y1⟩ := OwnE.at HO2.out rfl (m + 1) y hy
      have OX := Lib.hid (show EnOk wr.drew wr.drew.heap.size x from ((((HOK.out x (List.mem_of_getElem? hx)).more hb).below hbw).more hbw.size))
      have OY := Lib.hid (show EnOk wr.drew wr.drew.heap.size y from ((((HOK.out y (List.mem_of_getElem? hy)).more hb).below hbw).more hbw.size))
      have hg : g < wr.heap.size := (World.ownsRow.lt HO2.out g rfl).2
      have HCM := Lib.hid (hcm x hx)
      have HX := Lib.hid hx
      have HY := Lib.hid hy
      have HC := Lib.hid (And.intro x0 (And.intro x1 (And.intro y0 y1)))
      have q7 : ((m : Int) + 1).toNat = m + 1 := by omega
      have q8 : (0 : Int) ≤ (m : Int) := by omega
      clear hcm hx hy x0 x1 y0 y1
      go_wp2_with fail
      go_region_held3 (fun X => X.cell? ⟨g, m * 2, none⟩ = some x.kv ∧ X.cell? ⟨g, m * 2 + 1, none⟩ = some x.rv ∧ X.cell? ⟨g, (m + 1) * 2, none⟩ = some y.kv ∧ X.cell? ⟨g, (m + 1) * 2 + 1, none⟩ = some y.rv) (first | exact HC.out | exact HC2.out)
        (first
          | (go_at_call 40; refine (same_any y x wr.drew OY.out OX.out).mono ?_; rintro e1 w1 ⟨rfl, hb1⟩; have HB1 := Lib.hid (show Below wr.heap.size wr w1 from ⟨hb1.os, hb1.tape, hb1.output, hb1.size, hb1.block⟩); have HC2 := Lib.hid (And.intro ((HB1.out.cell (p := ⟨g, m * 2, none⟩) hg).trans HC.out.1) (And.intro ((HB1.out.cell (p := ⟨g, m * 2 + 1, none⟩) hg).trans HC.out.2.1) (And.intro ((HB1.out.cell (p := ⟨g, (m + 1) * 2, none⟩) hg).trans HC.out.2.2.1) ((HB1.out.cell (p := ⟨g, (m + 1) * 2 + 1, none⟩) hg).trans HC.out.2.2.2)))); clear hb1))
      obtain ⟨β, hβ⟩ : ∃ β, sameE y x = β := ⟨_, rfl⟩
      rw [show (y.kb == x.kb) = β from hβ]
      have HB := Lib.hid hβ
      have HBW := Lib.hid (hbw.trans (HB1.out.mono hbw.size))
      have HO3 := Lib.hid (HO2.out.below HB1.out)
      clear hβ hbw
      cases β with
      | false =>
        go_wp2_with fail
        go_roundw
        case rel =>
          refine ⟨m + 1, by go_num, by have := hN.out; omega, HBW.out, fun p hp => ?_⟩
          obtain rfl : y = p := Option.some.inj (HY.out.symm.trans hp)
          have h := cmp_step sameE l (l.take (m + 1)) (m + 1) x y HY.out HB.out HCM.out
          rw [h, List.take_add_one (i := m + 1), HY.out]
          rfl
        case measure => simp [intOf]; omega
      | true =>
        have hcn : n ≤ c := by
          obtain ⟨A0, c0, e0, h0, _, _⟩ := HO2.out.form
          simp only [Value.slice.injEq] at e0
          have := hN.out
          omega
        have r1 : ¬ c = m + 1 := by omega
        have r2 : (m : Int) + 1 ≤ (n : Int) := by omega
        have r3 : (m : Int) + 1 ≤ (c : Int) := by omega
        go_wp2_with fail
        go_loopw [5, 7] (fun v5 v7 wr => CptRel2 w base g c m l v5 v7 wr) (fun _ v7 _ => n - (intOf v7).toNat)
        case atStart =>
          refine ⟨m + 1, 0, l, by go_num, rfl, Nat.le_refl _, Nat.le_refl _, by have := hN.out; omega, rfl, rfl, HO3.out, HBW.out.mono hb, fun p hp => ?_⟩
          obtain rfl : y = p := Option.some.inj (HY.out.symm.trans hp)
          exact cmp_skip sameE l (l.take (m + 1)) (m + 1) x y HY.out HB.out HCM.out
        case round =>
          obtain ⟨k, r, cur, rfl, rfl, hk1, hk2, hr, hcl, hcd, hoc, hbw2, hcm2⟩ := hrel
          have hnl := hN.out
          have hgb : base ≤ g := (World.ownsRow.lt hoc g rfl).1
          by_cases hlt2 : m + 1 + r + 1 < n
          · obtain ⟨x, hx⟩ : ∃ x, l[m + 1 + r]? = some x := ⟨l[m + 1 + r]'(by omega), List.getElem?_eq_getElem _⟩
            obtain ⟨y, hy⟩ : ∃ y, l[m + 1 + r + 1]? = some y := ⟨l[m + 1 + r + 1]'(by omega), List.getElem?_eq_getElem _⟩
            have hd : ∀ j, k ≤ j → cur[j]? = l[j]? := fun j hj => by
              have := congrArg (fun z => z[j - k]?) hcd
              simp only [List.getElem?_drop] at this
              rwa [show k + (j - k) = j by omega] at this
            obtain ⟨x0, x1⟩ := OwnE.at hoc hcl.symm (m + 1 + r) x ((hd _ (by omega)).trans hx)
            obtain ⟨y0, y1⟩ := OwnE.at hoc hcl.symm (m + 1 + r + 1) y ((hd _ (by omega)).trans hy)
            rw [show (m + 1 + r) * 2 = (m + 1) * 2 + r * 2 by omega] at x0 x1
            rw [show (m + 1 + r + 1) * 2 = (m + 1) * 2 + (r + 1) * 2 by omega] at y0 y1
            have hbr := hbw2.size
            have OX := Lib.hid (show EnOk wr.drew wr.drew.heap.size x from (((HOK.out x (List.mem_of_getElem? hx)).below hbw2).more (Nat.le_trans hb hbr)))
            have OY := Lib.hid (show EnOk wr.drew wr.drew.heap.size y from (((HOK.out y (List.mem_of_getElem? hy)).below hbw2).more (Nat.le_trans hb hbr)))
            have hg3 : g < wr.heap.size := (World.ownsRow.lt hoc g rfl).2
            have HCM := Lib.hid (hcm2 x hx)
            have HX := Lib.hid hx
            have HY := Lib.hid hy
            have HC := Lib.hid (And.intro x0 (And.intro x1 (And.intro y0 y1)))
            have t0 : (r : Int) + 1 < ((n - (m + 1) : Nat) : Int) := by omega
            have t1 : (r : Int) < ((n - (m + 1) : Nat) : Int) := by omega
            have t2 : ((r : Int) + 1).toNat = r + 1 := by omega
            have t3 : (0 : Int) ≤ (r : Int) := by omega
            have t4 : (0 : Int) ≤ (r : Int) + 1 := by omega
            have t5 : IntKind.i64.wrap ((r : Int) + 1 - 1) = (r : Int) := by rw [IntWalk.i64_in _ (by omega)]; omega
            have t6 : IntKind.i64.wrap (r : Int) = (r : Int) := IntWalk.i64_in _ (by omega)
            have t7 : (0 : Int) ≤ (k : Int) := by omega
            have t8 : (k : Int) < (n : Int) := by omega
            have HOC := Lib.hid hoc
            have HBW2 := Lib.hid hbw2
            have HCL := Lib.hid hcl
            have HCD := Lib.hid hcd
            have HNL := Lib.hid hnl
            clear hcm2 hx hy x0 x1 y0 y1 hd hoc hbw2 hcl hcd hnl
            go_wp2_with fail
            go_region_held3 (fun X => X.cell? ⟨g, (m + 1) * 2 + r * 2, none⟩ = some x.kv ∧ X.cell? ⟨g, (m + 1) * 2 + r * 2 + 1, none⟩ = some x.rv ∧ X.cell? ⟨g, (m + 1) * 2 + (r + 1) * 2, none⟩ = some y.kv ∧ X.cell? ⟨g, (m + 1) * 2 + (r + 1) * 2 + 1, none⟩ = some y.rv) (first | exact HC.out | exact HC2.out)
              (first
                | (go_at_call 40; refine (same_any y x wr.drew OY.out OX.out).mono ?_; rintro e1 w2 ⟨rfl, hb1⟩; have HB1 := Lib.hid (show Below wr.heap.size wr w2 from ⟨hb1.os, hb1.tape, hb1.output, hb1.size, hb1.block⟩); have HC2 := Lib.hid (And.intro ((HB1.out.cell (p := ⟨g, (m + 1) * 2 + r * 2, none⟩) hg3).trans HC.out.1) (And.intro ((HB1.out.cell (p := ⟨g, (m + 1) * 2 + r * 2 + 1, none⟩) hg3).trans HC.out.2.1) (And.intro ((HB1.out.cell (p := ⟨g, (m + 1) * 2 + (r + 1) * 2, none⟩) hg3).trans HC.out.2.2.1) ((HB1.out.cell (p := ⟨g, (m + 1) * 2 + (r + 1) * 2 + 1, none⟩) hg3).trans HC.out.2.2.2)))); clear hb1))
            obtain ⟨β, hβ⟩ : ∃ β, sameE y x = β := ⟨_, rfl⟩
            rw [show (y.kb == x.kb) = β from hβ]
            have HB := Lib.hid hβ
            have HO4 := Lib.hid (HOC.out.below HB1.out)
            have HBW4 := Lib.hid (HBW2.out.trans (HB1.out.mono (Nat.le_trans hb hbr)))
            clear hβ
            cases β with
            | true =>
              go_wp2_with fail
              refine ⟨⟨k, r + 1, cur, rfl, by go_num, hk1, by omega, by have := HNL.out; omega, HCL.out, HCD.out, HO4.out, HBW4.out, fun p hp => ?_⟩, by simp [intOf]; omega⟩
              obtain rfl : y = p := Option.some.inj (HY.out.symm.trans hp)
              exact cmp_skip sameE l (cur.take k) (m + 1 + r + 1) x y HY.out HB.out HCM.out
            | false =>
              have f0 := World.ownsRow.frozenAt (show w2.ownsRow base 67 2 _ l.length _ by have := HO4.out; unfold OwnE at this; rw [HCL.out] at this; exact this) (k * 2)
              have f1 := World.ownsRow.frozenAt (show w2.ownsRow base 67 2 _ l.length _ by have := HO4.out; unfold OwnE at this; rw [HCL.out] at this; exact this) (k * 2 + 1)
              obtain ⟨o, ho⟩ : ∃ o, cur[k]? = some o := ⟨cur[k]'(by have := HCL.out; have := HNL.out; omega), List.getElem?_eq_getElem _⟩
              obtain ⟨o0, o1⟩ := OwnE.at HO4.out HCL.out.symm k o ho
              have s0 := run_store1 (w := w2) (a := ⟨g, k * 2, none⟩) (v := y.kv) rfl o0 f0
              have s1 := run_store1 (w := w2.setCell ⟨g, k * 2, none⟩ y.kv) (a := ⟨g, k * 2 + 1, none⟩) (v := y.rv) rfl ((World.cell?_setCell_other _ _ _ _ (by simp)).trans o1) (by rw [World.frozen?_setCell]; exact f1)
              clear ho f0 f1 o0 o1
              go_wp2_with fail
              refine ⟨⟨k + 1, r + 1, cur.set k y, by go_num, by go_num, by omega, by omega, by have := HNL.out; omega, by rw [List.length_set]; exact HCL.out, set_drop cur l k y HCD.out, OwnE.set HO4.out HCL.out.symm k y, below_set2 HBW4.out hgb, fun p hp => ?_⟩, by simp [intOf]; omega⟩
              obtain rfl : y = p := Option.some.inj (HY.out.symm.trans hp)
              rw [set_take cur k y (by have := HCL.out; have := HNL.out; omega)]
              exact cmp_step sameE l (cur.take k) (m + 1 + r + 1) x y HY.out HB.out HCM.out
          · have t0 : ¬ (r : Int) + 1 < ((n - (m + 1) : Nat) : Int) := by omega
            have hkn : k < n := by omega
            have hcl2 := Lib.hid (run_clearE hoc hcl.symm k (c - k) (by omega))
            have HKR := Lib.hid (fun vs => clear_keeps hoc hcl.symm k (by omega) vs)
            have HE := Lib.hid (show cmpct sameE l = cur.take k by
              obtain ⟨p, hp⟩ : ∃ p, l[m + 1 + r]? = some p := ⟨l[m + 1 + r]'(by omega), List.getElem?_eq_getElem _⟩
              have h := hcm2 p hp
              rw [h, List.drop_eq_nil_of_le (by omega)]
              simp [cmpA])
            have hkl : (cur.take k).length = k := by rw [List.length_take]; omega
            have t1 : ¬ c = k := by omega
            have t2 : (k : Int) ≤ (n : Int) := by omega
            have t3 : (k : Int) ≤ (c : Int) := by omega
            rw [hnl] at hcl2
            have hrun := hcl2.out
            have HBE := Lib.hid (below_cells hgb (List.replicate ((n - k) * 2) (.slice none 0 0)) (k * 2) _ hbw2)
            clear hcm2 hcd hoc hcl hnl hbw2 hcl2
            go_wp2_with fail
            go_ret
            rw [HE.out]
            exact ⟨_, rfl, HKR.out _, HBE.out⟩
    · have hnl := hN.out
      have q2 : ¬ (m : Int) + 1 < (n : Int) := by omega
      have HE := Lib.hid (show cmpct sameE l = l by
        obtain ⟨p, hp⟩ : ∃ p, l[m]? = some p := ⟨l[m]'(by omega), List.getElem?_eq_getElem _⟩
        have h := hcm p hp
        rw [h, List.drop_eq_nil_of_le (by omega), List.take_of_length_le (by omega)]
        simp [cmpA])
      have HO5 := Lib.hid (HO.out.below hbw)
      have HBW := Lib.hid (hbw.mono hb)
      clear hcm hbw hnl
      go_wp2_with fail
      go_ret
      rw [HE.out]
      exact ⟨_, rfl, by have := HO5.out; rw [hN.out] at this; exact this, HBW.out⟩
end Go.Proofs.Ytdhdfeiobjmdaaa
