/-
  BytesDrawer returns true for all lists, and changes nothing that was there: the walk. No conditions.
-/
import Derived.Test.YtlichbiioejpiaaDrawM
import Derived.Test.YtlichbiioejpiaaDraw11
import Derived.Test.YtlichbiioejpiaaListMath
namespace Go.Proofs.Ytlichbiioejpiaa
open Go.ChangeShapes Go.WideShapes Go.ChangeAt Go.RowKit
set_option linter.unusedVariables false

theorem number_any (p : Nat) (A : Option Addr) (c : Nat) (ns : List Nat) (i : Nat) (w : World) (hi : i < 12) (hbox : w.cell? ⟨p, 0, none⟩ = some (.slice A ns.length c)) (hN : RdN w w.heap.size A ns) :
    Calls Try.prog 13 #[.int .i64 i, .pointer (some ⟨p, 0, none⟩)] w fun e w' => e = .returned (.int .u64 (numb ns i : Nat)) ∧ w = w' := by
  by_cases h : i < ns.length
  · obtain ⟨hu, ad, rfl, hb, hc⟩ := hN i _ (List.getElem?_eq_getElem h)
    have h' : decide ((i : Int) < ns.length) = true := decide_eq_true (by omega)
    have hi1 : (i : Int) < ns.length := by omega
    have HE := Lib.hid (show numb ns i = ns[i] by simp [numb, h])
    clear hN
    go_enter Try.func13, Try.ntmps13
    go_wp2_with fail
    go_ret
    exact ⟨by rw [HE.out]; rfl, rfl⟩
  · have h' : decide ((i : Int) < ns.length) = false := decide_eq_false (by omega)
    have HE := Lib.hid (show ((numb ns i : Nat) : Int) = (i : Int) * 1000 by simp [numb, h])
    clear hN
    go_enter Try.func13, Try.ntmps13
    go_wp2_with fail
    go_ret
    exact ⟨by rw [HE.out]; rfl, rfl⟩

/-- a list as it is kept: eight strings of sixty bytes -/
def cutC (l : List (List UInt8)) : List (List UInt8) := (l.take 8).map (·.take 60)
def cardsOf (L : List (List (List UInt8))) : List (List (List UInt8)) := (L.take 12).map cutC

theorem cutC_snoc_le (l : List (List UInt8)) (k : Nat) (hk : k ≤ 8) (hkl : k ≤ l.length) (hend : ¬ (k < l.length ∧ k < 8)) : (l.take k).map (·.take 60) = cutC l := by
  unfold cutC
  rcases Nat.lt_or_ge k 8 with h | h
  · rw [List.take_of_length_le (show l.length ≤ k by omega), List.take_of_length_le (show l.length ≤ 8 by omega)]
  · rw [show k = 8 by omega]
theorem cardsOf_snoc {L : List (List (List UInt8))} {k : Nat} {ls : List (List UInt8)} (h : L[k]? = some ls) (hk : k < 12) : cardsOf (L.take (k + 1)) = cardsOf (L.take k) ++ [cutC ls] := by
  unfold cardsOf
  rw [List.take_take, List.take_take, show min 12 (k + 1) = k + 1 by omega, show min 12 k = k by omega, take_snoc h, List.map_append]
  rfl
theorem cardsOf_end {L : List (List (List UInt8))} {k : Nat} (hk : k ≤ 12) (hkl : k ≤ L.length) (hend : ¬ (k < L.length ∧ k < 12)) : cardsOf (L.take k) = cardsOf L := by
  unfold cardsOf
  rw [List.take_take]
  rcases Nat.lt_or_ge k 12 with h | h
  · rw [List.take_of_length_le (show L.length ≤ min 12 k by omega), List.take_of_length_le (show L.length ≤ 12 by omega)]
  · rw [show min 12 k = 12 by omega]

theorem region_asD {P : Program} {id : Nat} {ops ops' : Array Oper} {b : Bool} {Q : Exit → Act → World → Prop} {a : Act} {w : World} (h : ops = ops') (g : (Code.region id ops' b).wp P Q a w) : (Code.region id ops b).wp P Q a w := by
  subst h
  exact g

def CardsRel (L : List (List (List UInt8))) (w1 : World) (v i : Value) (wr : World) : Prop :=
  ∃ k : Nat, k ≤ 12 ∧ k ≤ L.length ∧ i = .int .i64 k ∧ OwnC wr w1.heap.size w1.heap.size v (cardsOf (L.take k)) ∧ Below w1.heap.size w1 wr
def InnerRel (ls : List (List UInt8)) (B : Nat) (wo : World) (v i : Value) (wr : World) : Prop :=
  ∃ (k : Nat) (us : List Value), k ≤ 8 ∧ k ≤ ls.length ∧ i = .int .i64 k ∧ wr.ownsRow wo.heap.size 24 1 v k us ∧ Slots wr B us ((ls.take k).map (·.take 60)) ∧ Below wo.heap.size wo wr

theorem Slots.one {w : World} {B : Nat} {A : Option Addr} {m : List UInt8} {c : Nat} (h : Rd w B A m) (hc : m.length ≤ c) (hm : c ≤ maxLen) : Slots w B [.slice A (min m.length 60) c] [m.take 60] := by
  refine ⟨rfl, fun j q hq => ?_⟩
  have hj := getElem_lt hq
  obtain rfl : j = 0 := by simpa using hj
  obtain rfl : m.take 60 = q := by simpa using hq
  exact ⟨A, c, by rw [List.length_take, Nat.min_comm]; rfl, by rw [List.length_take]; omega, hm, h.take 60⟩

/-- the bytes of the first k cards -/
def encC (ns : List Nat) (C : List (List (List UInt8))) : Nat → List UInt8
  | 0 => []
  | k + 1 => encC ns C k ++ (Lib.uvarint (numb ns k) ++ (Lib.uvarint (C.getD k []).length ++ blobsE (C.getD k [])))
theorem cutC_small (l : List (List UInt8)) : (cutC l).length ≤ 8 ∧ ∀ m ∈ cutC l, m.length ≤ 60 := by
  unfold cutC
  refine ⟨by simp; omega, fun m hm => ?_⟩
  obtain ⟨x, _, rfl⟩ := List.mem_map.1 hm
  simp only [List.length_take]
  omega
theorem cards_small (L : List (List (List UInt8))) (k : Nat) : ((cardsOf L).getD k []).length ≤ 8 ∧ ∀ m ∈ (cardsOf L).getD k [], m.length ≤ 60 := by
  rw [List.getD_eq_getElem?_getD]
  cases h : (cardsOf L)[k]? with
  | none => exact ⟨by simp, fun m hm => by simp at hm⟩
  | some c =>
    obtain ⟨l, _, rfl⟩ := List.mem_map.1 (List.mem_of_getElem? h)
    exact cutC_small l
theorem cards_many (L : List (List (List UInt8))) : (cardsOf L).length ≤ 12 := by simp [cardsOf]; omega
theorem numb_small {ns : List Nat} (h : ∀ u ∈ ns, u < 18446744073709551616) {k : Nat} (hk : k < 12) : numb ns k < 18446744073709551616 := by
  unfold numb
  split
  · rename_i h1
    rw [List.getD_eq_getElem?_getD, List.getElem?_eq_getElem h1]
    exact h _ (List.getElem_mem h1)
  · omega
theorem encC_bound {ns : List Nat} (h : ∀ u ∈ ns, u < 18446744073709551616) (L : List (List (List UInt8))) : ∀ k, k ≤ 12 → (encC ns (cardsOf L) k).length ≤ k * 600
  | 0, _ => by simp [encC]
  | k + 1, hk => by
    have ih := encC_bound h L k (by omega)
    obtain ⟨c1, c2⟩ := cards_small L k
    have h1 := blobsE_bound 60 _ c2 (by omega)
    have h2 := Lib.uvarint_length64 (numb_small h (show k < 12 by omega))
    have h3 := Lib.uvarint_length64 (x := ((cardsOf L).getD k []).length) (by omega)
    simp only [encC, List.length_append]
    have : ((cardsOf L).getD k []).length * (60 + 10) ≤ 8 * 70 := by omega
    omega
theorem encC_split (ns : List Nat) (C : List (List (List UInt8))) : ∀ n k, k ≤ n → ∃ r, encC ns C n = encC ns C k ++ r
  | 0, k, h => ⟨[], by rw [show k = 0 by omega]; rfl⟩
  | n + 1, k, h => by
    rcases Nat.lt_or_ge k (n + 1) with hlt | hge
    · obtain ⟨r, hr⟩ := encC_split ns C n k (by omega)
      exact ⟨r ++ (Lib.uvarint (numb ns n) ++ (Lib.uvarint (C.getD n []).length ++ blobsE (C.getD n []))), by rw [encC, hr, List.append_assoc]⟩
    · exact ⟨[], by rw [show k = n + 1 by omega, List.append_nil]⟩

theorem read_card (ns : List Nat) (C : List (List (List UInt8))) (ah bh : List UInt8) (q : Nat) (card : List (List UInt8)) (hq : q < C.length) (hgd : C.getD q [] = card) (h8 : card.length ≤ 8) (h60 : ∀ m ∈ card, m.length ≤ 60) (hn : numb ns q < 18446744073709551616) :
    uintAt (ah ++ encC ns C C.length ++ bh) ((ah ++ encC ns C q).length : Nat) = (numb ns q, (ah ++ encC ns C q).length + (Lib.uvarint (numb ns q)).length, 0) ∧
    blobsAt (ah ++ encC ns C C.length ++ bh) (((ah ++ encC ns C q).length + (Lib.uvarint (numb ns q)).length : Nat) : Int) 8 60 = (card, (ah ++ encC ns C (q + 1)).length, 0) := by
  obtain ⟨r, hr⟩ := encC_split ns C C.length (q + 1) (by omega)
  have e1 : ah ++ encC ns C C.length ++ bh = (ah ++ encC ns C q) ++ (Lib.uvarint (numb ns q) ++ (Lib.uvarint card.length ++ (blobsE card ++ (r ++ bh)))) := by
    rw [hr, encC, hgd]
    simp only [List.append_assoc]
  have e2 : ah ++ encC ns C C.length ++ bh = (ah ++ encC ns C q ++ Lib.uvarint (numb ns q)) ++ (Lib.uvarint card.length ++ (blobsE card ++ (r ++ bh))) := by
    rw [e1]
    simp only [List.append_assoc]
  have e3 : (ah ++ encC ns C (q + 1)).length = (ah ++ encC ns C q ++ Lib.uvarint (numb ns q)).length + (Lib.uvarint card.length).length + (blobsE card).length := by
    rw [encC, hgd]
    simp only [List.length_append]
    omega
  refine ⟨by rw [e1]; exact uintAt_enc _ _ _ _ rfl hn, ?_⟩
  rw [e2, blobsAt_enc _ _ _ _ 8 60 (by simp only [List.length_append]) (by omega) (fun m hm => by have := h60 m hm; omega), above_of_le (by omega) (by omega), fits60 h60, e3]
  rfl

theorem same_yes (A : Option Addr) (c : Nat) (ls : List (List UInt8)) (A' : Option Addr) (c' : Nat) (w : World) (hl : ls.length ≤ 1099511627776) (h : RdL w w.heap.size A ls) (h' : RdL w w.heap.size A' ls) :
    Calls Try.prog 18 #[.slice A ls.length c, .slice A' ls.length c'] w fun e w' => e = .returned (.bool true) ∧ Below w.heap.size w w' :=
  (same_any A c ls A' c' ls w hl hl h h').mono fun e w' ⟨h1, h2⟩ => ⟨by rw [h1]; simp, h2⟩

def ReadRel (ns : List Nat) (C : List (List (List UInt8))) (ah : List UInt8) (wa : World) (at_ i : Value) (wr : World) : Prop :=
  ∃ k : Nat, k ≤ C.length ∧ i = .int .i64 k ∧ at_ = .int .i64 ((ah ++ encC ns C k).length : Nat) ∧ Below wa.heap.size wa wr
def ZeroRel (A : Option Addr) (ls : List (List UInt8)) (wq : World) (i : Value) (wr : World) : Prop :=
  ∃ k : Nat, k ≤ ls.length ∧ i = .int .i64 k ∧ Below wq.heap.size wq wr ∧ ∀ ad, A = some ad → Zable wr wq.heap.size ad ls
def ZerosRel (ad : Addr) (ls : List (List UInt8)) (m : List UInt8) (wq : World) (i : Value) (wr : World) : Prop :=
  ∃ k : Nat, k ≤ m.length ∧ i = .int .i64 k ∧ Below wq.heap.size wq wr ∧ Zable wr wq.heap.size ad ls

theorem Own.room {w : World} {base : Nat} {v : Value} {l : List UInt8} (h : Own w base v l) (hl : 0 < l.length) : ∃ g cap, v = .slice (some ⟨g, 0, none⟩) l.length cap ∧ RoomB w base g cap l := by
  obtain ⟨A, c, hv, h3, h4, hr⟩ := h.form
  obtain ⟨h1, h2⟩ := h
  rcases h2 with ⟨rfl, h0⟩ | ⟨g, cap, cur, rfl, hg, hh, hc, hm, hs, ht⟩
  · omega
  · have e : A = some ⟨g, 0, none⟩ := by injection hv with e _ _; exact e.symm
    subst e
    have hlt : g < w.heap.size := by
      rcases Nat.lt_or_ge g w.heap.size with hlt | hge
      · exact hlt
      · rw [Array.getElem?_eq_none hge] at hh; cases hh
    refine ⟨g, cap, rfl, hr, hg, hlt, hc, hm, fun j hj => ⟨?_, ?_⟩⟩
    · have hjs : j < cur.size := by omega
      simp [World.cell?, hh, hjs]
    · simp [World.frozen?, hh]
theorem room_bytes (w : World) (l : List UInt8) (hl : l.length ≤ maxLen) : RoomB (Lib.bytesWorld w 5 ⟨l.toArray⟩) w.heap.size w.heap.size (grownCap w l.length 0 5) l := by
  have hge := grownCap_ge w l.length 0 5
  have hsz : (Lib.bytesCells w 5 ⟨l.toArray⟩).size = grownCap w l.length 0 5 := by
    simp only [Lib.bytesCells, Array.size_append, Array.size_map, Array.size_replicate]
    show l.toArray.size + (grownCap w l.toArray.size 0 5 - l.toArray.size) = _
    rw [List.size_toArray]
    omega
  refine ⟨Rd.bytes w l, Nat.le_refl _, by rw [Lib.bytesWorld_size]; omega, hge, grownCap_le_maxLen w _ _ _ hl, fun j hj => ⟨?_, ?_⟩⟩
  · simp only [World.cell?, Lib.bytesWorld_at_new]
    have : j < (Lib.bytesCells w 5 ⟨l.toArray⟩).size := by omega
    simp [this]
  · simp only [World.frozen?, Lib.bytesWorld_at_new]
    rw [hsz]
    simp
    omega

/-- behind so many cards of the first loop that writes -/
def WriteRel (ns : List Nat) (C : List (List (List UInt8))) (ah : List UInt8) (wa : World) (v i : Value) (wr : World) : Prop :=
  ∃ k g cap : Nat, k ≤ C.length ∧ i = .int .i64 k ∧ v = .slice (some ⟨g, 0, none⟩) (ah ++ encC ns C k).length cap ∧ RoomB wr wa.heap.size g cap (ah ++ encC ns C k) ∧ Below wa.heap.size wa wr

set_option maxRecDepth 100000 in
set_option maxHeartbeats 4000000 in
theorem draw_walk (An : Option Addr) (cn : Nat) (ns : List Nat) (Al : Option Addr) (cl : Nat) (L : List (List (List UInt8))) (Aa : Option Addr) (ca : Nat) (ah : List UInt8) (Ab : Option Addr) (cb : Nat) (bh : List UInt8) (w : World)
    (hah : ah.length ≤ 60) (hbh : bh.length ≤ 60) (hL : L.length ≤ 9223372036854775807) (hn : RdN w w.heap.size An ns) (hl : RdLL w w.heap.size Al L) (ha : Rd w w.heap.size Aa ah) (hb : Rd w w.heap.size Ab bh) :
    Calls Try.prog 3 #[.slice An ns.length cn, .slice Al L.length cl, .slice Aa ah.length ca, .slice Ab bh.length cb] w fun e w' => e = .returned (.bool true) ∧ Below w.heap.size w w' := by
  have h1 : decide ((60 : Int) < ah.length) = false := decide_eq_false (by omega)
  have h2 : decide ((60 : Int) < bh.length) = false := decide_eq_false (by omega)
  go_enter Try.func3, Try.ntmps3
  go_wp2_with fail
  obtain ⟨w1, hw1⟩ : ∃ w1, w1 = w.alloc (.cells #[.slice An ns.length cn] 22) := ⟨_, rfl⟩
  rw [← hw1]
  obtain ⟨p, hp⟩ : ∃ p, p = w.heap.size := ⟨_, rfl⟩
  have hb1 : Below w.heap.size w w1 := by rw [hw1]; exact (Below.refl _ _).alloc (Nat.le_refl _) _
  have hs1 : w.heap.size < w1.heap.size := by rw [hw1]; simp
  have hbox : w1.cell? ⟨w.heap.size, 0, none⟩ = some (.slice An ns.length cn) := by rw [hw1, World.cell?_alloc_mark]; rfl
  have HW := Lib.hid hb1
  have HN := Lib.hid (hn.below hb1)
  have HBX := Lib.hid hbox
  have hl1 := hl.on hb1
  have ha1 := ha.on hb1
  have hb1' := hb.on hb1
  clear hw1 hb1 hn hl ha hb hbox
  go_loopw [9, 10] (fun v i wr => CardsRel L w1 v i wr) (fun _ i _ => 12 - (intOf i).toNat)
  case atStart => exact ⟨0, by omega, by omega, rfl, OwnC.nil _ _ _, Below.refl _ _⟩
  case round =>
    obtain ⟨k, hk, hkl, rfl, hC, hbw⟩ := hrel
    by_cases hgo : k < L.length ∧ k < 12
    · obtain ⟨hlt, h12⟩ := hgo
      obtain ⟨ad, ls, A2, c2, rfl, hadb, hget, hcell0, hc21, hc22, hrl⟩ := hl1.cell hlt
      have hls : ls.length ≤ 9223372036854775807 := by unfold maxLen at hc22; omega
      have t1 : decide ((k : Int) < L.length) = true := decide_eq_true (by omega)
      have t2 : decide ((k : Int) < 12) = true := decide_eq_true (by omega)
      have hk1 : (k : Int) < L.length := by omega
      have HG := Lib.hid hget
      have HC := Lib.hid hC
      have HL1 := Lib.hid hl1
      clear hget hC hl1
      go_wp2_with fail
      have hso := hbw.size
      obtain ⟨wo, rfl⟩ : ∃ wo : World, wo = wr := ⟨_, rfl⟩
      go_loopw [11, 12] (fun v i wr => InnerRel ls w1.heap.size wo v i wr) (fun _ i _ => 8 - (intOf i).toNat)
      case atStart => exact ⟨0, [], by omega, by omega, rfl, World.ownsRow_nil _ _ _ _, ⟨rfl, fun j m hm => by simp at hm⟩, Below.refl _ _⟩
      case round =>
        obtain ⟨t, us, ht8, htl, rfl, hrow, hsl, hbi⟩ := hrel
        have hsi := hbi.size
        have hall : Below w1.heap.size w1 wr := hbw.trans (hbi.mono hso)
        have hcell1 : wr.cell? (ad.add k) = some (.slice A2 ls.length c2) := (hall.cell (by rw [blockAdd]; exact hadb)).trans hcell0
        by_cases hgo : t < ls.length ∧ t < 8
        · obtain ⟨htlt, ht⟩ := hgo
          obtain ⟨ad2, m, A3, c3, rfl, hadb2, hget2, hcell2, hc31, hc32, hrd⟩ := hrl.cell htlt
          have t3 : decide ((t : Int) < ls.length) = true := decide_eq_true (by omega)
          have t4 : decide ((t : Int) < 8) = true := decide_eq_true (by omega)
          have hsn := take_snoc hget2
          have HS := Lib.hid (hsl.append (Slots.one (w := wr) (hrd.below hall) hc31 hc32))
          have HRW := Lib.hid hrow
          have HC1 := Lib.hid hcell0
          have HC2 := Lib.hid hcell2
          have HSN := Lib.hid hsn
          clear hget2 hcell2 hsn hsl hrow hcell0
          go_upto_region 11 with (fail)
          refine region_asD (ops' := dr11Ops) (by kernel_rfl) ?_
          refine dr11 ad L.length cl k ad2 ls.length c2 t A3 m.length c3 _ hlt htlt hc31 wo.heap.size t us rfl rfl rfl rfl rfl (fun W hW => ((hall.trans (hW.mono hso)).cell (by rw [blockAdd]; exact hadb)).trans HC1.out) (fun W hW => ((hall.trans (hW.mono hso)).cell (by rw [blockAdd]; exact hadb2)).trans HC2.out) HRW.out (by omega) (by omega) ?_
          intro V v' w' ho' hb' hv
          rw [dr11_fill V, hv]
          clear hv
          have HO := Lib.hid ho'
          clear ho'
          go_wp2_with fail
          go_roundw
          case rel => exact ⟨t + 1, _, by omega, by omega, by go_num, HO.out, by rw [HSN.out, List.map_append]; exact HS.out.below (hb'.mono hso), hbi.trans hb'⟩
          case measure => simp [intOf]; omega
        · have hE := cutC_snoc_le ls t ht8 htl hgo
          rw [hE] at hsl
          have hlen : t = (cutC ls).length := by rw [← hE, List.length_map, List.length_take]; omega
          have hrow2 := row_mono hrow hso
          rw [hlen] at hrow2
          obtain ⟨A5, c5, rfl, hq1, hq2, hrd5⟩ := hsl.rd (by omega) hrow2
          have HRW := Lib.hid hrow2
          have HS := Lib.hid hsl
          have HC2 := Lib.hid (HC.out.below hso hbi)
          have HSN := Lib.hid (cardsOf_snoc HG.out h12)
          have HLN := Lib.hid (show (cardsOf (L.take k)).length + 1 ≤ 2199023255552 by simp [cardsOf]; omega)
          have t3 : t < ls.length → decide ((t : Int) < 8) = false := fun h => decide_eq_false (by omega)
          clear hE hlen hsl hrow hrow2 hq1 hrd5
          by_cases h3 : t < ls.length
          all_goals
            have t5 : decide ((t : Int) < ls.length) = decide (t < ls.length) := by simp
            first | (have t4 := t3 h3; clear t3; have t5 : decide ((t : Int) < ls.length) = true := decide_eq_true (by omega)) | (clear t3; have t5 : decide ((t : Int) < ls.length) = false := decide_eq_false (by omega))
            clear hgo
            go_wp2_with (at_builtin; refine wpList_app1C rfl (.tmp 82) (.tmp 84) rfl w1.heap.size w1.heap.size _ (cardsOf (L.take k)) rfl HC2.out _ us (cutC ls) HRW.out HS.out rfl HLN.out (Nat.le_refl _) (by omega) ?_; intro v3 w3 ho3 hb3)
            go_roundw
            case rel => exact ⟨k + 1, by omega, by omega, by go_num, by rw [HSN.out]; exact ho3, hall.trans hb3⟩
            case measure => simp [intOf]; omega
    · rw [cardsOf_end hk hkl hgo] at hC
      have hsa := hbw.size
      obtain ⟨Ac, cc, rfl, hq1, hq2, hrc⟩ := hC.rd hsa
      have t3 : k < L.length → decide ((k : Int) < 12) = false := fun h => decide_eq_false (by omega)
      have hns : ∀ u ∈ ns, u < 18446744073709551616 := fun u hu => by
        obtain ⟨j, hj, rfl⟩ := List.getElem_of_mem hu
        exact (HN.out j _ (List.getElem?_eq_getElem hj)).1
      have HNS := Lib.hid hns
      have hcm := cards_many L
      generalize hCd : cardsOf L = C at *
      have HCD := Lib.hid hCd
      have hra := ha1.below (Below.refl _ _) |>.below (hbw.mono (Nat.le_refl _))
      have hrb := hb1'.below hbw
      have HRA := Lib.hid hra
      have HRB := Lib.hid hrb
      have HRC := Lib.hid hrc
      have HBX2 := Lib.hid ((hbw.cell (p := ⟨w.heap.size, 0, none⟩) hs1).trans HBX.out)
      have HN2 := Lib.hid ((HN.out.below (hbw.mono (by omega))))
      have HWA := Lib.hid (HW.out.trans (hbw.mono (by omega)))
      obtain ⟨wa, rfl⟩ : ∃ wa : World, wa = wr := ⟨_, rfl⟩
      have r1 := run_str hra ca
      have kb := run_bytes
      have HRM := Lib.hid (room_bytes wa ah (by unfold maxLen; omega))
      have HBB := Lib.hid (below_bytes wa 5 ⟨ah.toArray⟩)
      clear hns hCd hra hrb hrc hC hq1 ha1 hb1' hl1
      by_cases h3 : k < L.length
      all_goals
        first | (have t4 := t3 h3; clear t3; have t5 : decide ((k : Int) < L.length) = true := decide_eq_true (by omega)) | (clear t3; have t5 : decide ((k : Int) < L.length) = false := decide_eq_false (by omega))
        clear hgo
        go_wp2_with fail
        go_loopw [14, 92] (fun v i wr => WriteRel ns C ah wa v i wr) (fun _ i _ => C.length - (intOf i).toNat)
        case atStart => exact ⟨0, wa.heap.size, _, by omega, rfl, by rw [show encC ns C 0 = [] from rfl, List.append_nil], by rw [show encC ns C 0 = [] from rfl, List.append_nil]; exact HRM.out, HBB.out⟩
        case round =>
          obtain ⟨q, g, cap, hq, rfl, rfl, hR, hbk⟩ := hrel
          have hsk := hbk.size
          by_cases hlt : q < C.length
          · obtain ⟨ad, card, A4, c4, rfl, hadb, hget, hcell, hc41, hc42, hrl⟩ := (HRC.out.below hbk).cell hlt
            have hci : (q : Int) < C.length := by omega
            have hgd : C.getD q [] = card := by rw [List.getD_eq_getElem?_getD, hget]; rfl
            have hsm := cards_small L q
            rw [HCD.out, hgd] at hsm
            have hbd := encC_bound HNS.out L q (by omega)
            rw [HCD.out] at hbd
            have hbe := blobsE_bound 60 card hsm.2 (by omega)
            have hnb := numb_small HNS.out (show q < 12 by omega)
            have hun := Lib.uvarint_length64 hnb
            have HNUM := Lib.hid (number_any w.heap.size An cn ns q wr (by omega) ((hbk.cell (p := ⟨w.heap.size, 0, none⟩) (by show w.heap.size < wa.heap.size; omega)).trans HBX2.out) (fun j u hu => by
              obtain ⟨z1, z2, z3, z4, z5⟩ := (HN2.out.below (hbk.mono (by omega))) j u hu
              exact ⟨z1, z2, z3, by omega, z5⟩))
            have hxl : (ah ++ encC ns C q).length ≤ 8000 := by rw [List.length_append]; omega
            have HSTEP := Lib.hid (show ah ++ encC ns C (q + 1) = (ah ++ encC ns C q ++ Lib.uvarint (numb ns q)) ++ (Lib.uvarint card.length ++ blobsE card) by rw [encC, hgd]; simp only [List.append_assoc])
            generalize ah ++ encC ns C q = X at *
            have HUI := Lib.hid (Uint_any (some ⟨g, 0, none⟩) cap X (numb ns q) wr (by omega) hnb hR.rd)
            have hyl : (X ++ Lib.uvarint (numb ns q)).length ≤ 9000 := by rw [List.length_append]; omega
            generalize X ++ Lib.uvarint (numb ns q) = Y at *
            have HRL := Lib.hid (hrl.more hsk)
            have HC4 := Lib.hid hsm
            have hc8 := hsm.1
            have hcell' : wr.cell? (ad.add q) = some (.slice A4 card.length c4) := hcell
            generalize numb ns q = nq at *
            have hce : card.length * (60 + 10) ≤ 8 * 70 := by omega
            clear hget hgd hsm hR hrl hcell
            go_wp2_with fail
            refine HNUM.out.mono ?_
            rintro e w' ⟨rfl, rfl⟩
            go_wp2_with fail
            refine HUI.out.mono ?_
            rintro e w7 ⟨v7, rfl, ho7, hb7⟩
            obtain ⟨A7, c7, rfl, hy1, hy2, hr7⟩ := ho7.form
            have HBL := Lib.hid (Blobs_any A7 c7 Y A4 c4 card w7 (by omega) (by omega) (by omega) hr7 (HRL.out.on hb7))
            clear hr7 ho7
            go_wp2_with fail
            refine HBL.out.mono ?_
            rintro e w8 ⟨v8, rfl, ho8, hb8⟩
            have hs7 := hb7.size
            have hs8 := hb8.size
            rw [← HSTEP.out] at ho8
            have hpos : 0 < (ah ++ encC ns C (q + 1)).length := by rw [HSTEP.out, List.length_append, List.length_append]; have := Lib.uvarint_pos card.length; omega
            obtain ⟨g8, cap8, rfl, hR8⟩ := (ho8.mono (show wa.heap.size ≤ w7.heap.size by omega)).room hpos
            have HR8 := Lib.hid hR8
            generalize hZ : (ah ++ encC ns C (q + 1)).length = Z at *
            have HZ := Lib.hid hZ
            clear hZ hR8 ho8 hpos
            go_wp2_with fail
            go_roundw
            case rel => exact ⟨q + 1, g8, cap8, by omega, by go_num, by rw [HZ.out], HR8.out, (hbk.trans (hb7.mono hsk)).trans (hb8.mono (by omega))⟩
            case measure => simp [intOf]; omega
          · obtain rfl : q = C.length := by omega
            have hbd := encC_bound HNS.out L C.length (by omega)
            rw [HCD.out] at hbd
            have HRB2 := Lib.hid (HRB.out.below (hbk.mono hsa))
            have HRM2 := Lib.hid hR
            have hxl : (ah ++ encC ns C C.length).length ≤ 8000 := by rw [List.length_append]; omega
            have HX := Lib.hid (rfl : ah ++ encC ns C C.length = ah ++ encC ns C C.length)
            obtain ⟨X, hX⟩ : ∃ X, X = ah ++ encC ns C C.length := ⟨_, rfl⟩
            rw [← hX] at HRM2 hxl
            have HXE := Lib.hid hX
            rw [← hX]
            clear hX HX hR
            have hah0 : (0 : Int) ≤ ah.length := by omega
            go_wp2_with (at_builtin; refine wpList_appZ rfl (.tmp 107) (.tmp 108) rfl wa.heap.size g cap X rfl HRM2.out Ab cb bh rfl (HRB2.out.more (by omega)) (by omega) ?_; intro A9 c9 w9 T HT hr9 hz1 hz2 hb9; have r9 := run_str hr9 c9)
            have hT : T.length ≤ 8100 := by rw [HT.out, List.length_append]; omega
            have HR9 := Lib.hid hr9
            have hb9a := hbk.trans hb9
            have hs9 := hb9a.size
            clear hr9 r9
            go_loopw [19, 116] (fun at_ i wr => ReadRel ns C ah w9 at_ i wr) (fun _ i _ => C.length - (intOf i).toNat)
            case atStart => exact ⟨0, by omega, rfl, by rw [show encC ns C 0 = [] from rfl, List.append_nil], Below.refl _ _⟩
            case round =>
              obtain ⟨q, hq, rfl, rfl, hbr⟩ := hrel
              have hsr := hbr.size
              by_cases hlt : q < C.length
              · obtain ⟨ad, card, A4, c4, rfl, hadb, hget, hcell, hc41, hc42, hrl⟩ := (HRC.out.below (hb9a.trans (hbr.mono hs9))).cell hlt
                have hci : (q : Int) < C.length := by omega
                have hgd : C.getD q [] = card := by rw [List.getD_eq_getElem?_getD, hget]; rfl
                have hsm := cards_small L q
                rw [HCD.out, hgd] at hsm
                have hnb := numb_small HNS.out (show q < 12 by omega)
                have hbr2 := hb9a.trans (hbr.mono hs9)
                have HNUM := Lib.hid (fun (W : World) (hW : Below wr.heap.size wr W) => number_any w.heap.size An cn ns q W (by omega) (((hbr2.trans (hW.mono (by omega))).cell (p := ⟨w.heap.size, 0, none⟩) (by show w.heap.size < wa.heap.size; omega)).trans HBX2.out) (fun j u hu => by
                  obtain ⟨z1, z2, z3, z4, z5⟩ := (HN2.out.below ((hbr2.trans (hW.mono (by omega))).mono (by omega))) j u hu
                  exact ⟨z1, z2, z3, by have := hW.size; omega, z5⟩))
                obtain ⟨hrd1, hrd2⟩ := read_card ns C ah bh q card hlt hgd hsm.1 hsm.2 hnb
                rw [← HXE.out, ← HT.out] at hrd1 hrd2
                have HGU := Lib.hid (GetUint_any A9 c9 T ((ah ++ encC ns C q).length : Nat) wr (by omega) (HR9.out.on hbr))
                rw [hrd1] at HGU
                have HGB := Lib.hid (GetBlobs_any A9 c9 T (((ah ++ encC ns C q).length + (Lib.uvarint (numb ns q)).length : Nat) : Int) 8 60 wr (by omega) hz1 hz2 (HR9.out.on hbr) (by omega) (by omega) (by omega) (by omega))
                rw [hrd2] at HGB
                have HRL := Lib.hid (hrl.more (show wa.heap.size ≤ wr.heap.size by omega))
                have hcell' : wr.cell? (ad.add q) = some (.slice A4 card.length c4) := hcell
                have hc8 := hsm.1
                have HM60 := Lib.hid hsm.2
                generalize (ah ++ encC ns C q).length + (Lib.uvarint (numb ns q)).length = p2 at *
                generalize (ah ++ encC ns C q).length = p1 at *
                generalize hp3 : (ah ++ encC ns C (q + 1)).length = p3 at *
                have HP3 := Lib.hid hp3
                generalize numb ns q = nq at *
                clear hget hgd hsm hrl hcell hrd1 hrd2 hp3
                go_wp2_with fail
                refine HGU.out.mono ?_
                rintro e w' ⟨rfl, rfl⟩
                go_wp2_with fail
                refine HGB.out.mono ?_
                rintro e w2 ⟨v2, rfl, ho2, hb2⟩
                obtain ⟨A2, c2, rfl, hy1, hy2, hr2, hA2, hZ2⟩ := ho2.zform
                have hnum2 := HNUM.out w2 hb2
                have HNUM2 := Lib.hid hnum2
                have hs2 := hb2.size
                have HSAME := Lib.hid (same_yes A2 c2 card A4 c4 w2 (by omega) hr2 (HRL.out.on hb2))
                have HZ2 := Lib.hid hZ2
                have HA2 := Lib.hid hA2
                clear hnum2 ho2 hr2 hZ2 hA2
                go_wp2_with fail
                refine HNUM2.out.mono ?_
                rintro e w' ⟨rfl, rfl⟩
                go_wp2_with fail
                refine HSAME.out.mono ?_
                rintro e w3 ⟨rfl, hb3⟩
                have hs3 := hb3.size
                have hb23 : Below wr.heap.size wr w3 := hb2.trans (hb3.mono hs2)
                have HZ3 := Lib.hid (fun ad e => (HZ2.out ad e).on hb3)
                obtain ⟨wq, rfl⟩ : ∃ wq : World, wq = wr := ⟨_, rfl⟩
                go_wp2_with fail
                go_loopw [156] (fun i wr => ZeroRel A2 card wq i wr) (fun i _ => card.length - (intOf i).toNat)
                case atStart => exact ⟨0, by omega, rfl, hb23, HZ3.out⟩
                case round =>
                  obtain ⟨t, ht, rfl, hbt, hzt⟩ := hrel
                  by_cases htl : t < card.length
                  · obtain ⟨ad2, rfl⟩ := HA2.out (by omega)
                    have hzt' := hzt ad2 rfl
                    obtain ⟨A5, c5, hcell5, hz5⟩ := hzt' t _ (List.getElem?_eq_getElem htl)
                    have hti : (t : Int) < card.length := by omega
                    obtain ⟨m, hm⟩ : ∃ m, m = card[t] := ⟨_, rfl⟩
                    have hget : card[t]? = some m := by rw [hm]; exact List.getElem?_eq_getElem htl
                    rw [← hm] at hcell5
                    have hm60 : m.length ≤ 60 := HM60.out m (List.mem_of_getElem? hget)
                    have HG := Lib.hid hget
                    have HZT := Lib.hid hzt'
                    clear hm hget hz5 hzt hzt'
                    go_wp2_with fail
                    go_loopw [164] (fun i wr => ZerosRel ad2 card m wq i wr) (fun i _ => m.length - (intOf i).toNat)
                    case atStart => exact ⟨0, by omega, rfl, hbt, HZT.out⟩
                    case round =>
                      obtain ⟨j, hj, rfl, hbj, hzj⟩ := hrel
                      by_cases hjl : j < m.length
                      · obtain ⟨A6, c6, hcell6, hz6⟩ := hzj t _ HG.out
                        obtain ⟨a6, z6, rfl, hz61, hz62, hz63⟩ := hz6 j hjl
                        have hji : (j : Int) < m.length := by omega
                        have HZS := Lib.hid (hzj.set hz62)
                        clear hzj hz6 hcell5
                        go_wp2_with fail
                        go_roundw
                        case rel => exact ⟨j + 1, by omega, by go_num, hbj.setCell hz61 _, HZS.out⟩
                        case measure => simp [intOf]; omega
                      · obtain rfl : j = m.length := by omega
                        have HZJ := Lib.hid hzj
                        clear hzj hcell5
                        go_wp2_with fail
                        go_roundw
                        case rel => exact ⟨t + 1, by omega, by go_num, hbj, fun ad e => by injection e with e; rw [← e]; exact HZJ.out⟩
                        case measure => simp [intOf]; omega
                  · obtain rfl : t = card.length := by omega
                    clear hzt
                    go_wp2_with fail
                    go_roundw
                    case rel => exact ⟨q + 1, by omega, by go_num, by rw [HP3.out], hbr.trans (hbt.mono hsr)⟩
                    case measure => simp [intOf]; omega
              · obtain rfl : q = C.length := by omega
                rw [← HXE.out]
                have rN := run_str (HR9.out.on hbr) c9
                have HWR := Lib.hid (HWA.out.trans ((hb9a.trans (hbr.mono hs9)).mono (by omega)))
                go_wp2_with fail
                refine (awake_any _).mono ?_
                rintro e wz ⟨rfl, hbz⟩
                go_wp2_with fail
                go_ret
                exact ⟨rfl, HWR.out.trans (hbz.mono HWR.out.size)⟩
end Go.Proofs.Ytlichbiioejpiaa
