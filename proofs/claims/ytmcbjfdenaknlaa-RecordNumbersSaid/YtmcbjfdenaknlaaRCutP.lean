/-
  record.cutPart: the value whose part b begins with, and what is behind that part. Conditions: sizes.
-/
import Derived.Test.YtmcbjfdenaknlaaRCutS
namespace Go.Proofs.Ytmcbjfdenaknlaa
open Go.ChangeShapes Go.WideShapes Go.ChangeAt Go.RowKit
set_option linter.unusedVariables false

/-- the value whose part this begins with, and what is behind it -/
def getP (t : UInt8) : List UInt8 → Option (Trip × List UInt8)
  | [] => none
  | c :: l => if (c ^^^ t).toNat = 1 then some ((0, 0, ⟨#[]⟩), l)
      else if (c ^^^ t).toNat = 2 then (if l.length < 8 then none else some ((1, (numN t l 8 : Int) - 9223372036854775808, ⟨#[]⟩), l.drop 8))
      else if (c ^^^ t).toNat = 3 then (getS t l 0).map (fun p => ((2, 0, ⟨p.1.toArray⟩), p.2))
      else if (c ^^^ t).toNat = 4 then (getS t l 0).map (fun p => ((3, 0, ⟨p.1.toArray⟩), p.2))
      else none
def PartPost (w : World) (A : Option Addr) (b : List UInt8) (cap : Nat) (o : Option (Trip × List UInt8)) (e : Ending) (w' : World) : Prop :=
  (match o with
    | none => e = .returned (.tuple #[vv 0 0 ⟨#[]⟩, .slice none 0 0, .bool false])
    | some ((k, n, s), r) => ∃ A' c', e = .returned (.tuple #[vv k n s, .slice A' r.length c', .bool true]) ∧ (r.length ≤ c' ∧ c' ≤ cap) ∧ Tail A b A' r) ∧ Below w.heap.size w w'
theorem cutInt_any (A : Option Addr) (n cap : Nat) (b : List UInt8) (t : UInt8) (w : World) (hn : n = b.length) (hR : Rd w w.heap.size A b) (hc : b.length ≤ cap) (hc2 : cap ≤ 9223372036854775807) :
    Calls Try.prog 50 #[.slice A n cap, b8 t] w fun e w' => PartPost w A b cap (if b.length < 8 then none else some ((1, (numN t b 8 : Int) - 9223372036854775808, ⟨#[]⟩), b.drop 8)) e w' := by
  subst hn
  by_cases h : b.length < 8
  · rw [if_pos h]
    exact (cutInt_short A cap b t w h hc hc2).mono fun e w' ⟨h1, h2⟩ => ⟨h1, h2⟩
  · rw [if_neg h]
    refine (cutInt_go A cap b t w hR (by omega) hc hc2).mono ?_
    rintro e w' ⟨A', c', h1, h2, h3, h4⟩
    have hlen : (b.drop 8).length = b.length - 8 := List.length_drop
    exact ⟨⟨A', c', by rw [hlen]; exact h1, by rw [hlen]; exact h2, h3⟩, h4⟩
theorem cutStr_any (A : Option Addr) (n cap : Nat) (b : List UInt8) (t : UInt8) (kd : Int) (w : World) (hn : n = b.length) (hR : Rd w w.heap.size A b) (hc : b.length ≤ cap) (hc2 : cap ≤ 9223372036854775807) :
    Calls Try.prog 51 #[.slice A n cap, b8 t, .int .u8 kd] w fun e w' => PartPost w A b cap ((getS t b 0).map (fun p => ((kd, 0, ⟨p.1.toArray⟩), p.2))) e w' := by
  subst hn
  refine (cutString_any A cap b t kd w hR hc hc2 _ (Lib.hid rfl)).mono ?_
  rintro e w' ⟨h1, h2⟩
  cases h : getS t b 0 with
  | none => rw [h] at h1; exact ⟨h1, h2⟩
  | some p => rw [h] at h1; exact ⟨h1, h2⟩
set_option maxRecDepth 100000 in
theorem cutPart_none (A : Option Addr) (cap : Nat) (t : UInt8) (w : World) (hcp2 : cap ≤ 9223372036854775807) :
    Calls Try.prog 32 #[.slice A 0 cap, b8 t] w fun e w' => PartPost w A [] cap none e w' := by
  have HB := Lib.hid ((Below.refl w.heap.size w).alloc (Nat.le_refl _) (.cells #[.int .u8 0, .int .i64 0, .string ⟨#[]⟩] 30))
  go_enter Try.func32, Try.ntmps32
  go_wp2_with fail
  exact bodyPost_ret (v := .tuple #[vv 0 0 ⟨#[]⟩, .slice none 0 0, .bool false]) (by simp [results, Try.results32, go_sem]) rfl ⟨rfl, HB.out⟩
set_option maxRecDepth 100000 in
set_option maxHeartbeats 1600000 in
theorem cutPart_some (A : Option Addr) (cap n : Nat) (c : UInt8) (l : List UInt8) (t : UInt8) (w : World) (hn : n = l.length) (hR : Rd w w.heap.size A (c :: l)) (hcp : n + 1 ≤ cap) (hcp2 : cap ≤ 9223372036854775807) (R : Option (Trip × List UInt8)) (hRR : Hid (getP t (c :: l) = R)) (hce : ¬ cap = 1) :
    Calls Try.prog 32 #[.slice A ((n + 1 : Nat) : Nat) cap, b8 t] w fun e w' => PartPost w A (c :: l) cap R e w' := by
  have HN := Lib.hid hn
  have HL0 := Lib.hid (Tail.cut (A := A) (b := c :: l) (k := 1) (c := cap) (by simp; omega) hce)
  have HT0 := Lib.hid (fun (X : World) (h : Below w.heap.size w X) => rd_cut (hR.on h) 1 n cap (by simp; omega))
  have HB := Lib.hid ((Below.refl w.heap.size w).alloc (Nat.le_refl _) (.cells #[.int .u8 0, .int .i64 0, .string ⟨#[]⟩] 30))
  have HX := Lib.hid (fun o => ((Below.refl w.heap.size w).alloc (Nat.le_refl _) o))
  obtain ⟨fd, rfl, hbl, hcells⟩ := hR (by simp)
  have HL := Lib.hid (show Tail (some fd) (c :: l) (some ⟨fd.block, fd.off + 1, none⟩) l from by
    have h2 := HL0.out
    have e : (some fd : Option Addr).map (·.add 1) = some ⟨fd.block, fd.off + 1, none⟩ := by simp [Addr.add]
    rw [e] at h2
    exact h2)
  have HT := Lib.hid (fun (X : World) (h : Below w.heap.size w X) => show Rd X X.heap.size (some ⟨fd.block, fd.off + 1, none⟩) l from by
    have h2 := HT0.out X h
    rw [if_neg hce, List.take_of_length_le (by simp; omega)] at h2
    have e : (some fd : Option Addr).map (·.add 1) = some ⟨fd.block, fd.off + 1, none⟩ := by simp [Addr.add]
    rw [e] at h2
    exact h2)
  clear HT0 hn
  have hcell : w.cell? fd = some (b8 c) := by simpa [Addr.add] using hcells 0 c rfl
  have hc1 : c.toNat < 256 := c.toNat_lt
  have ht1 : t.toNat < 256 := t.toNat_lt
  have hz : bits .xor .u8 (c.toNat : Int) (t.toNat : Int) = ((c ^^^ t).toNat : Int) := by rw [u8_xor_nat _ _ hc1 ht1, UInt8.toNat_xor]
  unfold b8 at *
  clear hcells hR
  by_cases h1 : (c ^^^ t).toNat = 1
  · rw [h1] at hz
    go_enter Try.func32, Try.ntmps32
    go_wp2_with fail
    refine bodyPost_ret (v := .tuple #[vv 0 0 ⟨#[]⟩, .slice (some ⟨fd.block, fd.off + 1, none⟩) n (cap - 1), .bool true]) (by simp [results, Try.results32, go_sem]) rfl ?_
    rw [← hRR.out, getP, if_pos h1]
    exact ⟨⟨(some ⟨fd.block, fd.off + 1, none⟩), (cap - 1), by first | rfl | rw [HN.out], by first | exact ⟨by simp, by omega⟩ | (have := HN.out; exact ⟨by omega, by omega⟩), HL.out⟩, HX.out _⟩
  by_cases h2 : (c ^^^ t).toNat = 2
  · rw [h2] at hz
    go_enter Try.func32, Try.ntmps32
    go_wp2_with fail
    refine (cutInt_any (some ⟨fd.block, fd.off + 1, none⟩) n (cap - 1) l t _ (by first | rfl | exact HN.out) (HT.out _ HB.out) (by first | (have := HN.out; simp; omega) | simp | (have := HN.out; omega)) (by omega)).mono ?_
    have HP := Lib.hid (show getP t (c :: l) = _ from by rw [getP, if_neg h1, if_pos h2])
    rw [hRR.out] at HP
    rintro e w1 hp
    rw [← HP.out] at hp
    clear HP
    rcases R with _ | ⟨⟨k1, n1, s1⟩, r1⟩
    · obtain ⟨rfl, hb⟩ := hp
      obtain ⟨hcl, hfz⟩ := bcell hb
      have hsz := hb.size
      have HS := Lib.hid (fun (x y z : Value) => cut_end w w1 hb x y z)
      clear hb
      go_wp2_with fail
      exact bodyPost_ret (v := .tuple #[vv 0 0 ⟨#[]⟩, .slice none 0 0, .bool false]) (by simp [results, Try.results32, go_sem, hcl]) rfl ⟨rfl, HS.out _ _ _⟩
    · obtain ⟨⟨A1, c1, rfl, hx, ht⟩, hb⟩ := hp
      obtain ⟨hcl, hfz⟩ := bcell hb
      have hsz := hb.size
      have HS := Lib.hid (fun (x y z : Value) => cut_end w w1 hb x y z)
      clear hb
      have HT1 := Lib.hid (HL.out.trans ht)
      have HX1 := Lib.hid hx
      clear ht hx
      go_wp2_with fail
      exact bodyPost_ret (v := .tuple #[vv k1 n1 s1, .slice A1 r1.length c1, .bool true]) (by simp [results, Try.results32, go_sem, hcl]) rfl ⟨⟨A1, c1, rfl, ⟨HX1.out.1, by have := HX1.out.2; omega⟩, HT1.out⟩, HS.out _ _ _⟩
  by_cases h3 : (c ^^^ t).toNat = 3
  · rw [h3] at hz
    go_enter Try.func32, Try.ntmps32
    go_wp2_with fail
    refine (cutStr_any (some ⟨fd.block, fd.off + 1, none⟩) n (cap - 1) l t 2 _ (by first | rfl | exact HN.out) (HT.out _ HB.out) (by first | (have := HN.out; simp; omega) | simp | (have := HN.out; omega)) (by omega)).mono ?_
    have HP := Lib.hid (show getP t (c :: l) = _ from by rw [getP, if_neg h1, if_neg h2, if_pos h3])
    rw [hRR.out] at HP
    rintro e w1 hp
    rw [← HP.out] at hp
    clear HP
    rcases R with _ | ⟨⟨k1, n1, s1⟩, r1⟩
    · obtain ⟨rfl, hb⟩ := hp
      obtain ⟨hcl, hfz⟩ := bcell hb
      have hsz := hb.size
      have HS := Lib.hid (fun (x y z : Value) => cut_end w w1 hb x y z)
      clear hb
      go_wp2_with fail
      exact bodyPost_ret (v := .tuple #[vv 0 0 ⟨#[]⟩, .slice none 0 0, .bool false]) (by simp [results, Try.results32, go_sem, hcl]) rfl ⟨rfl, HS.out _ _ _⟩
    · obtain ⟨⟨A1, c1, rfl, hx, ht⟩, hb⟩ := hp
      obtain ⟨hcl, hfz⟩ := bcell hb
      have hsz := hb.size
      have HS := Lib.hid (fun (x y z : Value) => cut_end w w1 hb x y z)
      clear hb
      have HT1 := Lib.hid (HL.out.trans ht)
      have HX1 := Lib.hid hx
      clear ht hx
      go_wp2_with fail
      exact bodyPost_ret (v := .tuple #[vv k1 n1 s1, .slice A1 r1.length c1, .bool true]) (by simp [results, Try.results32, go_sem, hcl]) rfl ⟨⟨A1, c1, rfl, ⟨HX1.out.1, by have := HX1.out.2; omega⟩, HT1.out⟩, HS.out _ _ _⟩
  by_cases h4 : (c ^^^ t).toNat = 4
  · rw [h4] at hz
    go_enter Try.func32, Try.ntmps32
    go_wp2_with fail
    refine (cutStr_any (some ⟨fd.block, fd.off + 1, none⟩) n (cap - 1) l t 3 _ (by first | rfl | exact HN.out) (HT.out _ HB.out) (by first | (have := HN.out; simp; omega) | simp | (have := HN.out; omega)) (by omega)).mono ?_
    have HP := Lib.hid (show getP t (c :: l) = _ from by rw [getP, if_neg h1, if_neg h2, if_neg h3, if_pos h4])
    rw [hRR.out] at HP
    rintro e w1 hp
    rw [← HP.out] at hp
    clear HP
    rcases R with _ | ⟨⟨k1, n1, s1⟩, r1⟩
    · obtain ⟨rfl, hb⟩ := hp
      obtain ⟨hcl, hfz⟩ := bcell hb
      have hsz := hb.size
      have HS := Lib.hid (fun (x y z : Value) => cut_end w w1 hb x y z)
      clear hb
      go_wp2_with fail
      exact bodyPost_ret (v := .tuple #[vv 0 0 ⟨#[]⟩, .slice none 0 0, .bool false]) (by simp [results, Try.results32, go_sem, hcl]) rfl ⟨rfl, HS.out _ _ _⟩
    · obtain ⟨⟨A1, c1, rfl, hx, ht⟩, hb⟩ := hp
      obtain ⟨hcl, hfz⟩ := bcell hb
      have hsz := hb.size
      have HS := Lib.hid (fun (x y z : Value) => cut_end w w1 hb x y z)
      clear hb
      have HT1 := Lib.hid (HL.out.trans ht)
      have HX1 := Lib.hid hx
      clear ht hx
      go_wp2_with fail
      exact bodyPost_ret (v := .tuple #[vv k1 n1 s1, .slice A1 r1.length c1, .bool true]) (by simp [results, Try.results32, go_sem, hcl]) rfl ⟨⟨A1, c1, rfl, ⟨HX1.out.1, by have := HX1.out.2; omega⟩, HT1.out⟩, HS.out _ _ _⟩
  have HQ := Lib.hid (show getP t (c :: l) = none from by rw [getP, if_neg h1, if_neg h2, if_neg h3, if_neg h4])
  generalize c ^^^ t = q at *
  have g1 : ¬ (q.toNat : Int) = 1 := by omega
  have g2 : ¬ (q.toNat : Int) = 2 := by omega
  have g3 : ¬ (q.toNat : Int) = 3 := by omega
  have g4 : ¬ (q.toNat : Int) = 4 := by omega
  go_enter Try.func32, Try.ntmps32
  go_wp2_with fail
  refine bodyPost_ret (v := .tuple #[vv 0 0 ⟨#[]⟩, .slice none 0 0, .bool false]) (by simp [results, Try.results32, go_sem]) rfl ?_
  rw [← hRR.out, HQ.out]
  exact ⟨rfl, HX.out _⟩
set_option maxRecDepth 100000 in
set_option maxHeartbeats 1600000 in
theorem cutPart_last (A : Option Addr) (cap : Nat) (c : UInt8) (t : UInt8) (w : World) (hR : Rd w w.heap.size A [c]) (hce : cap = 1) (R : Option (Trip × List UInt8)) (hRR : Hid (getP t [c] = R)) :
    Calls Try.prog 32 #[.slice A 1 cap, b8 t] w fun e w' => PartPost w A [c] cap R e w' := by
  subst hce
  have HT := Lib.hid (fun (X : World) (h : Below w.heap.size w X) => (Rd.nil : Rd X X.heap.size A []))
  have HL0 := Lib.hid (Tail.nil : Tail A [c] A [])
  have HB := Lib.hid ((Below.refl w.heap.size w).alloc (Nat.le_refl _) (.cells #[.int .u8 0, .int .i64 0, .string ⟨#[]⟩] 30))
  have HX := Lib.hid (fun o => ((Below.refl w.heap.size w).alloc (Nat.le_refl _) o))
  obtain ⟨fd, rfl, hbl, hcells⟩ := hR (by simp)
  have HL := HL0
  have hcell : w.cell? fd = some (b8 c) := by simpa [Addr.add] using hcells 0 c rfl
  have hc1 : c.toNat < 256 := c.toNat_lt
  have ht1 : t.toNat < 256 := t.toNat_lt
  have hz : bits .xor .u8 (c.toNat : Int) (t.toNat : Int) = ((c ^^^ t).toNat : Int) := by rw [u8_xor_nat _ _ hc1 ht1, UInt8.toNat_xor]
  unfold b8 at *
  clear hcells hR
  by_cases h1 : (c ^^^ t).toNat = 1
  · rw [h1] at hz
    go_enter Try.func32, Try.ntmps32
    go_wp2_with fail
    refine bodyPost_ret (v := .tuple #[vv 0 0 ⟨#[]⟩, .slice (some fd) 0 0, .bool true]) (by simp [results, Try.results32, go_sem]) rfl ?_
    rw [← hRR.out, getP, if_pos h1]
    exact ⟨⟨(some fd), 0, by first | rfl | rw [HN.out], by first | exact ⟨by simp, by omega⟩ | (have := HN.out; exact ⟨by omega, by omega⟩), HL.out⟩, HX.out _⟩
  by_cases h2 : (c ^^^ t).toNat = 2
  · rw [h2] at hz
    go_enter Try.func32, Try.ntmps32
    go_wp2_with fail
    refine (cutInt_any (some fd) 0 0 [] t _ (by first | rfl | exact HN.out) (HT.out _ HB.out) (by first | (have := HN.out; simp; omega) | simp | (have := HN.out; omega)) (by omega)).mono ?_
    have HP := Lib.hid (show getP t (c :: []) = _ from by rw [getP, if_neg h1, if_pos h2])
    rw [hRR.out] at HP
    rintro e w1 hp
    rw [← HP.out] at hp
    clear HP
    rcases R with _ | ⟨⟨k1, n1, s1⟩, r1⟩
    · obtain ⟨rfl, hb⟩ := hp
      obtain ⟨hcl, hfz⟩ := bcell hb
      have hsz := hb.size
      have HS := Lib.hid (fun (x y z : Value) => cut_end w w1 hb x y z)
      clear hb
      go_wp2_with fail
      exact bodyPost_ret (v := .tuple #[vv 0 0 ⟨#[]⟩, .slice none 0 0, .bool false]) (by simp [results, Try.results32, go_sem, hcl]) rfl ⟨rfl, HS.out _ _ _⟩
    · obtain ⟨⟨A1, c1, rfl, hx, ht⟩, hb⟩ := hp
      obtain ⟨hcl, hfz⟩ := bcell hb
      have hsz := hb.size
      have HS := Lib.hid (fun (x y z : Value) => cut_end w w1 hb x y z)
      clear hb
      have HT1 := Lib.hid (HL.out.trans ht)
      have HX1 := Lib.hid hx
      clear ht hx
      go_wp2_with fail
      exact bodyPost_ret (v := .tuple #[vv k1 n1 s1, .slice A1 r1.length c1, .bool true]) (by simp [results, Try.results32, go_sem, hcl]) rfl ⟨⟨A1, c1, rfl, ⟨HX1.out.1, by have := HX1.out.2; omega⟩, HT1.out⟩, HS.out _ _ _⟩
  by_cases h3 : (c ^^^ t).toNat = 3
  · rw [h3] at hz
    go_enter Try.func32, Try.ntmps32
    go_wp2_with fail
    refine (cutStr_any (some fd) 0 0 [] t 2 _ (by first | rfl | exact HN.out) (HT.out _ HB.out) (by first | (have := HN.out; simp; omega) | simp | (have := HN.out; omega)) (by omega)).mono ?_
    have HP := Lib.hid (show getP t (c :: []) = _ from by rw [getP, if_neg h1, if_neg h2, if_pos h3])
    rw [hRR.out] at HP
    rintro e w1 hp
    rw [← HP.out] at hp
    clear HP
    rcases R with _ | ⟨⟨k1, n1, s1⟩, r1⟩
    · obtain ⟨rfl, hb⟩ := hp
      obtain ⟨hcl, hfz⟩ := bcell hb
      have hsz := hb.size
      have HS := Lib.hid (fun (x y z : Value) => cut_end w w1 hb x y z)
      clear hb
      go_wp2_with fail
      exact bodyPost_ret (v := .tuple #[vv 0 0 ⟨#[]⟩, .slice none 0 0, .bool false]) (by simp [results, Try.results32, go_sem, hcl]) rfl ⟨rfl, HS.out _ _ _⟩
    · obtain ⟨⟨A1, c1, rfl, hx, ht⟩, hb⟩ := hp
      obtain ⟨hcl, hfz⟩ := bcell hb
      have hsz := hb.size
      have HS := Lib.hid (fun (x y z : Value) => cut_end w w1 hb x y z)
      clear hb
      have HT1 := Lib.hid (HL.out.trans ht)
      have HX1 := Lib.hid hx
      clear ht hx
      go_wp2_with fail
      exact bodyPost_ret (v := .tuple #[vv k1 n1 s1, .slice A1 r1.length c1, .bool true]) (by simp [results, Try.results32, go_sem, hcl]) rfl ⟨⟨A1, c1, rfl, ⟨HX1.out.1, by have := HX1.out.2; omega⟩, HT1.out⟩, HS.out _ _ _⟩
  by_cases h4 : (c ^^^ t).toNat = 4
  · rw [h4] at hz
    go_enter Try.func32, Try.ntmps32
    go_wp2_with fail
    refine (cutStr_any (some fd) 0 0 [] t 3 _ (by first | rfl | exact HN.out) (HT.out _ HB.out) (by first | (have := HN.out; simp; omega) | simp | (have := HN.out; omega)) (by omega)).mono ?_
    have HP := Lib.hid (show getP t (c :: []) = _ from by rw [getP, if_neg h1, if_neg h2, if_neg h3, if_pos h4])
    rw [hRR.out] at HP
    rintro e w1 hp
    rw [← HP.out] at hp
    clear HP
    rcases R with _ | ⟨⟨k1, n1, s1⟩, r1⟩
    · obtain ⟨rfl, hb⟩ := hp
      obtain ⟨hcl, hfz⟩ := bcell hb
      have hsz := hb.size
      have HS := Lib.hid (fun (x y z : Value) => cut_end w w1 hb x y z)
      clear hb
      go_wp2_with fail
      exact bodyPost_ret (v := .tuple #[vv 0 0 ⟨#[]⟩, .slice none 0 0, .bool false]) (by simp [results, Try.results32, go_sem, hcl]) rfl ⟨rfl, HS.out _ _ _⟩
    · obtain ⟨⟨A1, c1, rfl, hx, ht⟩, hb⟩ := hp
      obtain ⟨hcl, hfz⟩ := bcell hb
      have hsz := hb.size
      have HS := Lib.hid (fun (x y z : Value) => cut_end w w1 hb x y z)
      clear hb
      have HT1 := Lib.hid (HL.out.trans ht)
      have HX1 := Lib.hid hx
      clear ht hx
      go_wp2_with fail
      exact bodyPost_ret (v := .tuple #[vv k1 n1 s1, .slice A1 r1.length c1, .bool true]) (by simp [results, Try.results32, go_sem, hcl]) rfl ⟨⟨A1, c1, rfl, ⟨HX1.out.1, by have := HX1.out.2; omega⟩, HT1.out⟩, HS.out _ _ _⟩
  have HQ := Lib.hid (show getP t (c :: []) = none from by rw [getP, if_neg h1, if_neg h2, if_neg h3, if_neg h4])
  generalize c ^^^ t = q at *
  have g1 : ¬ (q.toNat : Int) = 1 := by omega
  have g2 : ¬ (q.toNat : Int) = 2 := by omega
  have g3 : ¬ (q.toNat : Int) = 3 := by omega
  have g4 : ¬ (q.toNat : Int) = 4 := by omega
  go_enter Try.func32, Try.ntmps32
  go_wp2_with fail
  refine bodyPost_ret (v := .tuple #[vv 0 0 ⟨#[]⟩, .slice none 0 0, .bool false]) (by simp [results, Try.results32, go_sem]) rfl ?_
  rw [← hRR.out, HQ.out]
  exact ⟨rfl, HX.out _⟩
end Go.Proofs.Ytmcbjfdenaknlaa
