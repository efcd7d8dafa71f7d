/-
  Layer 13, eval: Sources of an expression that tells of no source. No conditions.
-/
import Derived.Test.YtbelhgdogafedaaGreatDoorEFst
import Derived.Test.YtbelhgdogafedaaGreatDoorEShelf
import Derived.OwnWalkIn
import Derived.TacticsInMore
import Derived.LoopNIn
import Derived.LoopIn
namespace Go.Proofs.YtbelhgdogafedaaGreatDoor
open Go.ChangeShapes Go.WideShapes Go.ChangeAt Go.RowKit Go.Maps Go.Sort Go.Shelf Go.Proofs
set_option linter.unusedVariables false
set_option maxRecDepth 100000

theorem sortsI (m : Nat) : AnyZI.SortsIn Tryz.prog Tryz.sortedI_ren Fence.wide m :=
  ⟨fun blk off cap ss W hH hblk hsz => callsIn_wide.2 (AnyM.slices_Sort_int Tryz.sortI blk off cap ss W hH hblk hsz),
   fun p cap W => callsIn_wide.2 (AnyM.slices_Sort_int_none Tryz.sortI p cap W)⟩
/-- the keys of a map -/
theorem keys_any (b : Nat) (w : World) :
    Calls Tryz.prog 26 #[.map (some b)] w fun e w' => e = .returned (.func (.func 36) #[] #[.pointer (some ⟨w.heap.size, 0, none⟩)]) ∧ w' = w.alloc (.cells #[.map (some b)] 63) :=
  callsIn_wide.1 (AnyZI.keys_in Tryz.keysI Fence.wide 5 trivial rfl (some b) w)
theorem owns_empty (w : World) (b : Nat) (hm : w.heap[b]? = some (.map #[] 0)) : w.ownsMap (H := Unit) Tryz.prog 3 (fun _ => none) b 0 (.map []) := by
  obtain ⟨es, clock, hb, hF, hs, hD⟩ := World.ownsMap_made (H := Unit) w Tryz.prog 3 (fun _ => none)
  have h1 : (w.alloc (.map #[] 0)).heap[w.heap.size]? = some (.map #[] 0) := World.alloc_heap_new w _
  have h2 := Option.some.inj (hb.symm.trans h1)
  obtain ⟨rfl, rfl⟩ : es = #[] ∧ clock = 0 := by injection h2 with a b; exact ⟨a, b⟩
  exact ⟨#[], 0, hm, hF, hs, hD⟩
/-- of a map that is empty, sorted: nil -/
theorem sorted_nil (b : Nat) (w : World) (hm : w.heap[b]? = some (.map #[] 0)) :
    Calls Tryz.prog 25 #[.func (.func 36) #[] #[.pointer (some ⟨w.heap.size, 0, none⟩)]] (w.alloc (.cells #[.map (some b)] 63)) fun e w' => e = .returned (.slice none 0 0) ∧ Below (w.alloc (.cells #[.map (some b)] 63)).heap.size (w.alloc (.cells #[.map (some b)] 63)) w' := by
  have hbl : b < w.heap.size := (Array.getElem?_eq_some_iff.1 hm).1
  have hseq : SeqGives Fence.wide 2 Tryz.prog 36 #[.pointer (some ⟨w.heap.size, 0, none⟩)] encZ (fun ss => ss.Perm (intKeys (H := Unit) (.map []))) (Maps.size (H := Unit) (.map [])) (w.alloc (.cells #[.map (some b)] 63)) :=
    AnyZI.keys_gives (ρ := Tryz.keysI_ren) { Tryz.keysI with } Fence.wide _ trivial rfl (by omega) w.heap.size b 0 (.map []) _ (by simp) (by simp) (owns_empty _ b ((Below.heap_alloc _ _ b hbl).trans hm))
  have cS := AnyZI.sorted_in Tryz.sortedI Fence.wide 5 trivial trivial trivial trivial rfl (by omega) (sortsI _) (enters_of Tryz.func35 (by kernel_rfl) rfl) 36 #[.pointer (some ⟨w.heap.size, 0, none⟩)] trivial (enters_of Tryz.func36 (by kernel_rfl) rfl) _ _ (by simp [Maps.size]) (by simp [Maps.size]) _ hseq
  change CallsIn _ _ Tryz.prog 25 _ _ _ at cS
  refine (callsIn_wide.1 cS).mono ?_
  rintro e w' ⟨v, ss, rfl, hS, hrow, hnil, hb⟩
  have h0 : ss = [] := by
    have : intKeys (H := Unit) (.map []) = [] := by simp [intKeys]
    rw [this] at hS
    exact List.Perm.eq_nil hS
  exact ⟨by rw [hnil.2 h0], hb⟩

mutual
/-- an expression that tells of no source -/
def NoT : Ee → Prop
  | .mk k s t n a kids => k ≠ 13 ∧ kids.length ≤ 100000 ∧ NoTL kids
def NoTL : List Ee → Prop
  | [] => True
  | e :: r => NoT e ∧ NoTL r
end
theorem NoTL.at : ∀ (l : List Ee) (i : Nat) (e : Ee), NoTL l → l[i]? = some e → NoT e
  | [], i, e, _, h => by simp at h
  | u :: r, 0, e, hl, h => by
    obtain rfl := Option.some.inj h
    simp only [NoTL] at hl
    exact hl.1
  | u :: r, i + 1, e, hl, h => by
    simp only [NoTL] at hl
    exact NoTL.at r i e hl.2 (by simpa using h)
/-- the closure that looks, in its box -/
def KL (W : World) (p3 p4 : Nat) : Prop := W.cell? ⟨p4, 0, none⟩ = some (.func (.func 24) #[] #[.pointer (some ⟨p3, 0, none⟩), .pointer (some ⟨p4, 0, none⟩)])
theorem KL.on {W W' : World} {p3 p4 : Nat} (h : KL W p3 p4) (hb : Below W.heap.size W W') : KL W' p3 p4 := (hb.cell (p := ⟨p4, 0, none⟩) (block_lt_of_cell h)).trans h
def LookIs (e : Ee) : Prop := ∀ (W : World) (p3 p4 : Nat) (v : Value), KL W p3 p4 → ExV W e v →
  Calls Tryz.prog 24 #[v, .pointer (some ⟨p3, 0, none⟩), .pointer (some ⟨p4, 0, none⟩)] W fun e w' => e = .returned (.tuple #[]) ∧ Below W.heap.size W w'
theorem enters_look : ∀ (args : Array Value) (W : World), (callFunc 24 args).run Tryz.prog W = .ok (.enter 24 args) W := enters_of Tryz.func24 (by kernel_rfl) rfl
def LookRel (w : World) (kids : List Ee) (i : Value) (wr : World) : Prop := ∃ k : Nat, k ≤ kids.length ∧ i = .int .i64 (k : Int) ∧ Below w.heap.size w wr
set_option maxHeartbeats 2000000 in
theorem look_step (k : Int) (s t : ByteArray) (n a : Int) (kids : List Ee) (hn : NoT (.mk k s t n a kids)) (hk : ∀ e ∈ kids, LookIs e) : LookIs (.mk k s t n a kids) := by
  intro w p3 p4 v hKL hv
  simp only [ExV] at hv
  obtain ⟨A, cap, rfl, hcap, hE⟩ := hv
  simp only [NoT] at hn
  obtain ⟨f1, f2, f3⟩ := hn
  obtain ⟨w1, hw1⟩ : ∃ X, w.alloc (.cells #[.int .u8 k, .string s, .string t, .int .i64 n, .int .i64 a, .slice A kids.length cap] 25) = X := ⟨_, rfl⟩
  have hal : Below w.heap.size w w1 := by rw [← hw1]; exact (Below.refl _ _).alloc (Nat.le_refl _) _
  have hc : ECell w1 w.heap.size 0 k s t n a A kids.length cap := by rw [← hw1]; exact ecell_new _ _ _ _ _ _ _ _ _
  obtain ⟨c0, c1, c2, c3, c4, c5⟩ := hc
  simp only [Nat.zero_add] at c0 c1 c2 c3 c4 c5
  have e0 : (k == 13) = false := by simpa using f1
  have HAL := Lib.hid hal
  have HE := Lib.hid (hE.on hal)
  have HKL := Lib.hid (hKL.on hal)
  have HK := Lib.hid hk
  clear hE hKL hk hal f3
  go_enter Tryz.func24, Tryz.ntmps24
  go_wp2_with fail
  clear c0 c1 c2 c3 c4 c5
  go_loopw [16] (fun i wr => LookRel w1 kids i wr) (fun i _ => kids.length - (intOf i).toNat)
  case atStart => exact ⟨0, Nat.zero_le _, rfl, Below.refl _ _⟩
  case round =>
    obtain ⟨i, hi, rfl, hb⟩ := hrel
    by_cases hlt : i < kids.length
    · obtain ⟨e1, he⟩ : ∃ e1, kids[i]? = some e1 := ⟨_, List.getElem?_eq_getElem hlt⟩
      have HEV := Lib.hid (HK.out e1 (List.mem_of_getElem? he))
      obtain ⟨p, o, rfl, k', s', t', n', a', A', kids', cap', he0, hc, hcp, hkk⟩ := (HE.out.on hb).at kids _ i e1 he
      obtain ⟨y0, y1, y2, y3, y4, y5⟩ := hc
      have HKK := Lib.hid hkk
      have HB := Lib.hid hb
      have HI := Lib.hid hlt
      have q1 : (i : Int) < (kids.length : Int) := by omega
      have q2 : (0 : Int) ≤ (i : Int) := by omega
      clear he hlt hkk hb
      go_upto_region 6 with (fail)
      obtain ⟨w3, hw3⟩ : ∃ X, wr.alloc (.cells #[.int .u8 k', .string s', .string t', .int .i64 n', .int .i64 a', .slice A' kids'.length cap'] 25) = X := ⟨_, rfl⟩
      have hal3 : Below wr.heap.size wr w3 := by rw [← hw3]; exact (Below.refl _ _).alloc (Nat.le_refl _) _
      have hc8 : ECell w3 wr.heap.size 0 k' s' t' n' a' A' kids'.length cap' := by rw [← hw3]; exact ecell_new _ _ _ _ _ _ _ _ _
      rw [hw3]
      have HB3 := Lib.hid (HB.out.trans (hal3.mono HB.out.size))
      have hg := HKL.out.on HB3.out
      have hg1 : w3.cell? ⟨p4, 0, none⟩ = some (.func (.func 24) #[] #[.pointer (some ⟨p3, 0, none⟩), .pointer (some ⟨p4, 0, none⟩)]) := hg
      have HC := Lib.hid (HEV.out w3 p3 p4 (exprV k' s' t' n' a' A' kids'.length cap') hg (by rw [he0]; simp only [ExV]; exact ⟨A', cap', rfl, hcp, HKK.out.on hal3⟩))
      obtain ⟨d0, d1, d2, d3, d4, d5⟩ := hc8
      simp only [Nat.zero_add] at d0 d1 d2 d3 d4 d5
      have hE3 := enters_look
      clear hw3 hal3 hg HKK HEV hcp he0 y0 y1 y2 y3 y4 y5
      go_wp2_with ((with_reducible refine HC.out.mono ?_); rintro e wb ⟨rfl, bb⟩; have HB4 := Lib.hid (HB3.out.trans (bb.mono HB3.out.size)); clear bb)
      exact ⟨⟨i + 1, HI.out, rfl, HB4.out⟩, by
        have := HI.out
        simp [intOf]
        omega⟩
    · have q1 : ¬ (i : Int) < (kids.length : Int) := by omega
      go_wp2_with fail
      exact bodyPost_end (results_none rfl _ _ _) rfl ⟨rfl, HAL.out.trans (hb.mono HAL.out.size)⟩
theorem noT_mem (l : List Ee) (h : NoTL l) : ∀ e ∈ l, NoT e := fun e he => by
  obtain ⟨i, hi, rfl⟩ := List.mem_iff_getElem.1 he
  exact NoTL.at l i _ h (List.getElem?_eq_getElem hi)
theorem look_all : ∀ (m : Nat) (e : Ee), SizeOf.sizeOf e ≤ m → NoT e → LookIs e := by
  intro m
  induction m with
  | zero => intro e he; cases e; simp at he
  | succ m ih =>
    intro e he hf
    obtain ⟨k, s, t, n, a, kids⟩ := e
    have hf' := hf
    simp only [NoT] at hf'
    simp only [Ee.mk.sizeOf_spec] at he
    exact look_step k s t n a kids hf fun e hm => ih e (by have := sizeOf_mem hm; omega) (noT_mem kids hf'.2.2 e hm)
theorem sources_nil (e : Ee) (hn : NoT e) (w : World) (v : Value) (hv : ExV w e v) : Calls Tryz.prog 11 #[v] w fun e w' => e = .returned (.slice none 0 0) ∧ Below w.heap.size w w' := by
  have hL := look_all _ e (Nat.le_refl _) hn
  obtain ⟨k, s, t, n, a, kids⟩ := e
  have hv0 := hv
  simp only [ExV] at hv0
  obtain ⟨A, cap, rfl, hcap, -⟩ := hv0
  have hmm := @run_makeMap Tryz.prog
  have HV := Lib.hid hv
  have HL := Lib.hid hL
  clear hv hL
  go_enter Tryz.func11, Tryz.ntmps11
  go_upto_region 4 with (fail)
  obtain ⟨w4, hw4⟩ : ∃ X, (((w.alloc (.cells #[.int .u8 k, .string s, .string t, .int .i64 n, .int .i64 a, .slice A kids.length cap] 25)).alloc (.map #[] 0)).alloc (.cells #[.map (some (w.heap.size + 1))] 63)).alloc (.cells #[.func (.func 24) #[] #[.pointer (some ⟨w.heap.size + 1 + 1, 0, none⟩), .pointer (some ⟨w.heap.size + 1 + 1 + 1, 0, none⟩)]] 64) = X := ⟨_, rfl⟩
  have hal : Below w.heap.size w w4 := by rw [← hw4]; exact ((((Below.refl _ _).alloc (Nat.le_refl _) _).alloc (by simp) _).alloc (by simp; omega) _).alloc (by simp; omega) _
  have hc : ECell w4 w.heap.size 0 k s t n a A kids.length cap := by
    rw [← hw4]
    refine ⟨?_, ?_, ?_, ?_, ?_, ?_⟩ <;> simp [go_sem]
  have hm : w4.heap[w.heap.size + 1]? = some (.map #[] 0) := by
    have h1 : ((w.alloc (.cells #[.int .u8 k, .string s, .string t, .int .i64 n, .int .i64 a, .slice A kids.length cap] 25)).alloc (.map #[] 0)).heap[(w.alloc (.cells #[.int .u8 k, .string s, .string t, .int .i64 n, .int .i64 a, .slice A kids.length cap] 25)).heap.size]? = some (.map #[] 0) := World.alloc_heap_new _ _
    rw [show (w.alloc (.cells #[.int .u8 k, .string s, .string t, .int .i64 n, .int .i64 a, .slice A kids.length cap] 25)).heap.size = w.heap.size + 1 by simp] at h1
    rw [← hw4]
    exact (Below.heap_alloc _ _ _ (by simp)).trans ((Below.heap_alloc _ _ _ (by simp)).trans h1)
  have h3 : w4.cell? ⟨w.heap.size + 1 + 1, 0, none⟩ = some (.map (some (w.heap.size + 1))) := by rw [← hw4]; simp [go_sem]
  have h4 : KL w4 (w.heap.size + 1 + 1) (w.heap.size + 1 + 1 + 1) := by rw [← hw4]; unfold KL; simp [go_sem]
  have HC := Lib.hid (HL.out w4 (w.heap.size + 1 + 1) (w.heap.size + 1 + 1 + 1) _ h4 (HV.out.on hal))
  have HB := Lib.hid hal
  have h4' : w4.cell? ⟨w.heap.size + 1 + 1 + 1, 0, none⟩ = some (.func (.func 24) #[] #[.pointer (some ⟨w.heap.size + 1 + 1, 0, none⟩), .pointer (some ⟨w.heap.size + 1 + 1 + 1, 0, none⟩)]) := h4
  obtain ⟨c0, c1, c2, c3, c4, c5⟩ := hc
  simp only [Nat.zero_add] at c0 c1 c2 c3 c4 c5
  rw [hw4]
  have hE := enters_look
  have hlt3 : w.heap.size + 1 + 1 < w4.heap.size := block_lt_of_cell h3
  clear hw4 hal h4 HV HL
  go_wp2_with (first
    | ((with_reducible refine HC.out.mono ?_); rintro e wb ⟨rfl, bb⟩; have HBB := Lib.hid bb; have hm5 := (bb.block _ (Array.getElem?_eq_some_iff.1 hm).1).trans hm; have h35 := (bb.cell (p := ⟨w.heap.size + 1 + 1, 0, none⟩) hlt3).trans h3; clear bb)
    | (go_at_call 26; refine (keys_any _ _).mono ?_; rintro e wc ⟨rfl, rfl⟩)
    | (go_at_call 25; refine (sorted_nil _ _ hm5).mono ?_; rintro e wd ⟨rfl, bd⟩; have HBD := Lib.hid bd; clear bd))
  go_ret
  exact ⟨rfl, (HB.out.trans (HBB.out.mono HB.out.size)).trans (((Below.refl _ _).alloc (Nat.le_refl _) _ |>.trans (HBD.out.mono (by simp))).mono (Nat.le_trans HB.out.size HBB.out.size))⟩
theorem src_nil : SrcNil := fun W v hv => sources_nil eOver (by simp [NoT, NoTL]) W v hv
end Go.Proofs.YtbelhgdogafedaaGreatDoor
