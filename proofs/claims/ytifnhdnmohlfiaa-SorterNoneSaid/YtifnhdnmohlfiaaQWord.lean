/-
  Layer 7, sorter: the words: entries (a key and a row, as bytes), a slice of them that reads as a list, one that the call owns; bytes.Compare and bytes.Equal of slices. No conditions.
-/
import Derived.Test.YtifnhdnmohlfiaaRRow
import Derived.Test.YtifnhdnmohlfiaaRShelf
import Derived.Deep.RegionLaw
import Derived.Deep.AppendLies
import Derived.Lib.BytesEntry
namespace Go.Proofs.Ytifnhdnmohlfiaa
open Go.ChangeShapes Go.WideShapes Go.ChangeAt Go.RowKit
set_option linter.unusedVariables false

/-- an entry as it lies: two slices, and the bytes that they read -/
structure En where
  kA : Option Addr
  kc : Nat
  kb : List UInt8
  rA : Option Addr
  rc : Nat
  rb : List UInt8
def En.kv (e : En) : Value := .slice e.kA e.kb.length e.kc
def En.rv (e : En) : Value := .slice e.rA e.rb.length e.rc
def En.v (e : En) : Value := .agg #[e.kv, e.rv]
/-- what it reads, it reads -/
def EnOk (w : World) (B : Nat) (e : En) : Prop := Rd w B e.kA e.kb ∧ e.kb.length ≤ e.kc ∧ e.kc ≤ 9223372036854775807 ∧ Rd w B e.rA e.rb ∧ e.rb.length ≤ e.rc ∧ e.rc ≤ 9223372036854775807
theorem EnOk.on {w w' : World} {e : En} (h : EnOk w w.heap.size e) (hb : Below w.heap.size w w') : EnOk w' w'.heap.size e :=
  ⟨h.1.on hb, h.2.1, h.2.2.1, h.2.2.2.1.on hb, h.2.2.2.2⟩
theorem EnOk.below {w w' : World} {B : Nat} {e : En} (h : EnOk w B e) (hb : Below B w w') : EnOk w' B e :=
  ⟨h.1.below hb, h.2.1, h.2.2.1, h.2.2.2.1.below hb, h.2.2.2.2⟩
theorem EnOk.more {w : World} {B B' : Nat} {e : En} (h : EnOk w B e) (hb : B ≤ B') : EnOk w B' e :=
  ⟨h.1.more hb, h.2.1, h.2.2.1, h.2.2.2.1.more hb, h.2.2.2.2⟩
/-- entries, as cells -/
def cellsE : List En → List Value
  | [] => []
  | e :: r => e.kv :: e.rv :: cellsE r
theorem cellsE_length : ∀ l : List En, (cellsE l).length = l.length * 2
  | [] => rfl
  | e :: r => by simp [cellsE, cellsE_length r]; omega
theorem cellsE_append : ∀ a b : List En, cellsE (a ++ b) = cellsE a ++ cellsE b
  | [], b => rfl
  | e :: r, b => by simp [cellsE, cellsE_append r b]
theorem cellsE_one : ∀ (l : List En), ∀ u ∈ cellsE l, u.oneCell' = true
  | [], u, h => by cases h
  | e :: r, u, h => by
    simp only [cellsE, List.mem_cons] at h
    rcases h with rfl | rfl | h
    · rfl
    · rfl
    · exact cellsE_one r u h
theorem cellsE_get : ∀ (l : List En) (j : Nat) (e : En), l[j]? = some e → (cellsE l)[j * 2]? = some e.kv ∧ (cellsE l)[j * 2 + 1]? = some e.rv
  | [], j, e, h => by simp at h
  | x :: r, 0, e, h => by
    obtain rfl : x = e := by simpa using h
    exact ⟨rfl, rfl⟩
  | x :: r, j + 1, e, h => by
    have ih := cellsE_get r j e (by simpa using h)
    have e1 : (j + 1) * 2 = j * 2 + 1 + 1 := by omega
    rw [e1]
    simpa [cellsE] using ih
theorem cellsE_drop : ∀ (l : List En) (k : Nat), (cellsE l).drop (k * 2) = cellsE (l.drop k)
  | [], k => by simp [cellsE]
  | x :: r, 0 => by simp
  | x :: r, k + 1 => by
    have e : (k + 1) * 2 = k * 2 + 1 + 1 := by omega
    rw [e]
    simpa [cellsE] using cellsE_drop r k

/-- at this address lies that entry -/
def EnAt (w : World) (a : Addr) (e : En) : Prop := w.cell? a = some e.kv ∧ w.cell? ⟨a.block, a.off + 1, none⟩ = some e.rv
/-- the pointer A leads to these entries, all of them below block number B -/
def RdE (w : World) (B : Nat) (A : Option Addr) (l : List En) : Prop :=
  0 < l.length → ∃ ad, A = some ad ∧ ad.block < B ∧ ∀ j e, l[j]? = some e → EnAt w (ad.add (j * 2)) e
theorem RdE.below {w w' : World} {B : Nat} {A : Option Addr} {l : List En} (h : RdE w B A l) (hb : Below B w w') : RdE w' B A l := by
  intro hp
  obtain ⟨ad, e, hl, hc⟩ := h hp
  refine ⟨ad, e, hl, fun j x hj => ?_⟩
  obtain ⟨a, b⟩ := hc j x hj
  have hq : (ad.add (j * 2)).block < B := by rw [blockAdd]; exact hl
  exact ⟨(hb.cell hq).trans a, (hb.cell (p := ⟨_, _, none⟩) hq).trans b⟩
theorem RdE.more {w : World} {B B' : Nat} {A : Option Addr} {l : List En} (h : RdE w B A l) (hB : B ≤ B') : RdE w B' A l := by
  intro hp
  obtain ⟨ad, e, hl, hc⟩ := h hp
  exact ⟨ad, e, by omega, hc⟩
theorem RdE.on {w w' : World} {A : Option Addr} {l : List En} (h : RdE w w.heap.size A l) (hb : Below w.heap.size w w') : RdE w' w'.heap.size A l := (h.below hb).more hb.size
theorem RdE.nil {w : World} {B : Nat} {A : Option Addr} : RdE w B A [] := fun h => absurd h (by simp)
theorem RdE.cells {w : World} {B : Nat} {ad : Addr} {l : List En} (h : RdE w B (some ad) l) : ∀ j u, (cellsE l)[j]? = some u → w.cell? (ad.add j) = some u := by
  intro j u hj
  have hjl : j < l.length * 2 := by
    rcases Nat.lt_or_ge j (l.length * 2) with h | h
    · exact h
    · rw [List.getElem?_eq_none (by rw [cellsE_length]; exact h)] at hj; cases hj
  obtain ⟨ad', e, hl, hc⟩ := h (by omega)
  injection e with e
  subst e
  obtain ⟨x, hi⟩ : ∃ t, l[j / 2]? = some t := ⟨l[j / 2]'(by omega), List.getElem?_eq_getElem _⟩
  obtain ⟨g0, g1⟩ := cellsE_get l (j / 2) x hi
  obtain ⟨c0, c1⟩ := hc (j / 2) x hi
  have hr : j = j / 2 * 2 ∨ j = j / 2 * 2 + 1 := by omega
  rcases hr with hr | hr
  · rw [hr, g0] at hj
    obtain rfl := Option.some.inj hj
    rw [hr]; exact c0
  · rw [hr, g1] at hj
    obtain rfl := Option.some.inj hj
    rw [hr, ← addAdd]
    have : ((ad.add (j / 2 * 2)).add 1) = ⟨(ad.add (j / 2 * 2)).block, (ad.add (j / 2 * 2)).off + 1, none⟩ := by simp [Addr.add]
    rw [this]; exact c1
theorem RdE.post {w : World} {B : Nat} {ad : Addr} {l : List En} (h : RdE w B (some ad) l) (k : Nat) : RdE w B (some (ad.add (k * 2))) (l.drop k) := by
  intro hp
  rw [List.length_drop] at hp
  obtain ⟨ad', e, hl, hc⟩ := h (by omega)
  injection e with e
  subst e
  refine ⟨_, rfl, by rw [blockAdd]; exact hl, fun j x hj => ?_⟩
  rw [List.getElem?_drop] at hj
  have := hc (k + j) x hj
  rw [addAdd]
  have e : k * 2 + j * 2 = (k + j) * 2 := by omega
  rw [e]; exact this
theorem RdE.pre {w : World} {B : Nat} {A : Option Addr} {l : List En} (h : RdE w B A l) (k : Nat) : RdE w B A (l.take k) := by
  intro hp
  rw [List.length_take] at hp
  obtain ⟨ad, e, hl, hc⟩ := h (by omega)
  refine ⟨ad, e, hl, fun j x hj => hc j x ?_⟩
  rw [List.getElem?_take] at hj
  split at hj
  · exact hj
  · cases hj
/-- the slice v is the call's own and holds these entries -/
def OwnE (w : World) (base : Nat) (v : Value) (l : List En) : Prop := w.ownsRow base 78 2 v l.length (cellsE l)
theorem OwnE.form {w : World} {base : Nat} {v : Value} {l : List En} (h : OwnE w base v l) : ∃ A c, v = .slice A l.length c ∧ l.length ≤ c ∧ c ≤ maxLen ∧ RdE w w.heap.size A l := by
  obtain ⟨h1, h2⟩ := h
  rcases h2 with ⟨rfl, h0⟩ | ⟨g, cap, cur, rfl, hg, hh, hc, hm, hs, ht⟩
  · exact ⟨none, 0, by rw [h0], by omega, by simp [maxLen], fun hp => by omega⟩
  · have hlt : g < w.heap.size := by
      rcases Nat.lt_or_ge g w.heap.size with hlt | hge
      · exact hlt
      · rw [Array.getElem?_eq_none hge] at hh; cases hh
    refine ⟨_, cap, rfl, hc, hm, fun _ => ⟨_, rfl, hlt, fun j x hj => ?_⟩⟩
    obtain ⟨g0, g1⟩ := cellsE_get l j x hj
    have ha : ((⟨g, 0, none⟩ : Addr).add (j * 2)) = ⟨g, j * 2, none⟩ := by
      unfold Addr.add
      by_cases hj0 : j * 2 = 0 <;> simp [hj0]
    have key : ∀ o v, (cellsE l)[o]? = some v → w.cell? ⟨g, o, none⟩ = some v := by
      intro o v hv
      rw [← ht, List.getElem?_take] at hv
      split at hv
      · simp only [World.cell?, hh]
        simpa using hv
      · cases hv
    rw [ha]
    exact ⟨key _ _ g0, key _ _ g1⟩

/-- string(b) -/
theorem run_strQ {w : World} {B : Nat} {A : Option Addr} {l : List UInt8} (h : Rd w B A l) (c : Nat) :
    (convert 73 9 (.slice A l.length c)).run Try.prog w = .ok (.string ⟨l.toArray⟩) w := by
  rcases Nat.eq_zero_or_pos l.length with h0 | h0
  · have hl : l = [] := List.eq_nil_of_length_eq_zero h0
    subst hl
    show (convert 73 9 (.slice A 0 c)).run Try.prog w = _
    rw [run_convert_bytes_string w 73 9 5 A 0 c Try.underlying73 Try.underlying5 Try.underlying9]
    cases A <;> simp [Conv.bytesToString, loadCells]
    all_goals rfl
  · obtain ⟨ad, rfl, _, hc⟩ := h h0
    exact run_convert_bytes_back w 73 9 5 ad c l Try.underlying73 Try.underlying5 Try.underlying9 fun j hj => hc j _ (List.getElem?_eq_getElem hj)

theorem bytesOf_nums (l : List UInt8) : Lib.bytesOf (l.map fun u => (u.toNat : Int)) = l := by
  unfold Lib.bytesOf
  rw [List.map_map]
  exact (List.map_congr_left fun u _ => by simp).trans (List.map_id l)
theorem strOf_nums (l : List UInt8) : strOfNums (l.map fun u => (u.toNat : Int)) = ⟨l.toArray⟩ := by
  have := bytesOf_nums l
  unfold Lib.bytesOf at this
  unfold strOfNums
  rw [this]
/-- the bytes of a slice, as the machine's own entry takes them -/
theorem run_bytesOf {w : World} {B : Nat} {A : Option Addr} {l : List UInt8} (h : Rd w B A l) (c : Nat) : (Extern.Bytes.bytesOf (.slice A l.length c)).run Try.prog w = .ok ⟨l.toArray⟩ w := by
  have hm := bytesOf_nums l
  cases A with
  | none =>
    have hl : l = [] := by
      rcases l with _ | ⟨u, r⟩
      · rfl
      · obtain ⟨ad, e, _⟩ := h (by simp)
        cases e
    subst hl
    rfl
  | some ad =>
    have hl := Lib.run_loadBytesX (P := Try.prog) w (l.map fun u => (u.toNat : Int)) ad .empty (fun j x hj => by
      rw [List.getElem?_map] at hj
      obtain ⟨u, hu, rfl⟩ := Option.map_eq_some_iff.1 hj
      obtain ⟨ad', e, _, hc⟩ := h (by have := (List.getElem?_eq_some_iff.1 hu).1; omega)
      injection e with e
      subst e
      exact hc j u hu)
    rw [List.length_map, hm] at hl
    show (Extern.Bytes.loadBytes ad l.length .empty).run _ w = _
    rw [hl]
    simp
set_option maxRecDepth 100000 in
set_option maxHeartbeats 1000000 in
theorem bytesCompare_any (A : Option Addr) (c : Nat) (a : List UInt8) (B : Option Addr) (c' : Nat) (b : List UInt8) (w : World) (n m : Nat) (hA : Rd w n A a) (hB : Rd w m B b) :
    Calls Try.prog 46 #[.slice A a.length c, .slice B b.length c'] w fun e w' => e = .returned (.int .i64 (Lib.compareBytes a b)) ∧ w' = w := by
  have hr : (Extern.BytealgCompare.compare #[.slice A a.length c, .slice B b.length c']).run Try.prog w = .ok (.int .i64 (Lib.compareBytes a b)) w := by
    change Sem.run Try.prog (do pure (goInt (Extern.BytealgCompare.cmp (← Extern.Bytes.bytesOf (.slice A a.length c)) (← Extern.Bytes.bytesOf (.slice B b.length c'))))) w = _
    simp only [Sem.run_bind, run_bytesOf hA c, run_bytesOf hB c', Sem.run_pure, Result.andThen]
    rw [Lib.cmp_eq]
    rfl
  have HR := Lib.hid hr
  clear hr
  go_enter Try.func46, Try.ntmps46
  go_wp2
  rw [run_callFunc_extern Try.func75 (by kernel_rfl) (by kernel_rfl) (by kernel_rfl) (e := Extern.BytealgCompare.compare) (by kernel_rfl), HR.out]
  simp only [Result.andThen]
  rw [Oper.upon_value]
  go_wp2
  go_ret
  exact ⟨rfl, rfl⟩
theorem bytesEqual_any (A : Option Addr) (c : Nat) (a : List UInt8) (B : Option Addr) (c' : Nat) (b : List UInt8) (w : World) (n m : Nat) (hA : Rd w n A a) (hB : Rd w m B b) :
    Calls Try.prog 49 #[.slice A a.length c, .slice B b.length c'] w fun e w' => e = .returned (.bool (a == b)) ∧ w' = w := by
  refine (Try.bytes_Equal _ _ (a.map fun u => (u.toNat : Int)) (b.map fun u => (u.toNat : Int)) w (by rw [strOf_nums]; exact run_strQ hA c) (by rw [strOf_nums]; exact run_strQ hB c')).mono ?_
  rintro e w' ⟨rfl, rfl⟩
  rw [bytesOf_nums, bytesOf_nums]
  exact ⟨rfl, rfl⟩
theorem below_two (w : World) (o o' : Obj) : Below w.heap.size w ((w.alloc o).alloc o') := ((Below.refl _ _).alloc (Nat.le_refl _) o).alloc (by simp) o'
theorem cmp_any (x y : En) (w : World) (hx : EnOk w w.heap.size x) (hy : EnOk w w.heap.size y) :
    Calls Try.prog 45 #[x.v, y.v] w fun e w' => e = .returned (.bool (decide (Lib.compareBytes x.kb y.kb < 0))) ∧ Below w.heap.size w w' := by
  have HX := Lib.hid hx.1
  have HY := Lib.hid hy.1
  clear hx hy
  unfold En.v En.kv En.rv
  go_enter Try.func45, Try.ntmps45
  go_wp2_with fail
  refine (bytesCompare_any _ _ _ _ _ _ _ w.heap.size w.heap.size (HX.out.below (below_two _ _ _)) (HY.out.below (below_two _ _ _))).mono ?_
  rintro e w1 ⟨rfl, rfl⟩
  go_wp2_with fail
  go_ret
  exact ⟨rfl, below_two _ _ _⟩
theorem same_any (x y : En) (w : World) (hx : EnOk w w.heap.size x) (hy : EnOk w w.heap.size y) :
    Calls Try.prog 48 #[x.v, y.v] w fun e w' => e = .returned (.bool (x.kb == y.kb)) ∧ Below w.heap.size w w' := by
  have HX := Lib.hid hx.1
  have HY := Lib.hid hy.1
  clear hx hy
  unfold En.v En.kv En.rv
  go_enter Try.func48, Try.ntmps48
  go_wp2_with fail
  refine (bytesEqual_any _ _ _ _ _ _ _ w.heap.size w.heap.size (HX.out.below (below_two _ _ _)) (HY.out.below (below_two _ _ _))).mono ?_
  rintro e w1 ⟨rfl, rfl⟩
  go_wp2_with fail
  go_ret
  exact ⟨rfl, below_two _ _ _⟩
end Go.Proofs.Ytifnhdnmohlfiaa
