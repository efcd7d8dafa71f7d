/-
  The closure of upper and lower: byte by byte, in place (layer 2, value). Conditions: at most 2^40 bytes; the library's variables are as its text lays them; the captured variable holds the function.
-/
import Derived.Test.YteijijoiifbjlaaGreatDoorVCallM
import Derived.Test.YteijijoiifbjlaaGreatDoorVLike
import Derived.Test.YteijijoiifbjlaaGreatDoorVHex
import Derived.Lib.AtoiErrMem
import Derived.Lib.ConvBytes
namespace Go.Proofs.YteijijoiifbjlaaGreatDoor
open Go.ChangeShapes Go.WideShapes Go.ChangeAt Go.RowKit
set_option linter.unusedVariables false

def largeU (c : UInt8) : UInt8 := (largeN c.toNat).toUInt8
def smallU (c : UInt8) : UInt8 := (smallN c.toNat).toUInt8
theorem largeU_n (c : UInt8) : (largeU c).toNat = largeN c.toNat := by
  have h := c.toNat_lt
  have h2 : largeN c.toNat < 256 := by unfold largeN; split <;> omega
  simp only [largeU, Nat.toUInt8, UInt8.toNat_ofNat']
  omega
theorem smallU_n (c : UInt8) : (smallU c).toNat = smallN c.toNat := by
  have h := c.toNat_lt
  have h2 : smallN c.toNat < 256 := by unfold smallN; split <;> omega
  simp only [smallU, Nat.toUInt8, UInt8.toNat_ofNat']
  omega
/-- the bytes of s, each turned by F -/
def turnedS (F : UInt8 → UInt8) (s : ByteArray) : ByteArray := ⟨(s.data.toList.map F).toArray⟩
/-- byte j once k of them are turned -/
def midU (F : UInt8 → UInt8) (s : ByteArray) (k j : Nat) : UInt8 := if j < k then F (s.data.toList.getD j 0) else s.data.toList.getD j 0

def TurnRel (F : UInt8 → UInt8) (s : ByteArray) (B g : Nat) (w0 : World) (i : Value) (wr : World) : Prop :=
  ∃ k : Nat, k ≤ s.size ∧ i = .int .i64 k ∧ Below B w0 wr ∧ g < wr.heap.size ∧ ∀ j, j < s.size → wr.cell? ⟨g, j, none⟩ = some (.int .u8 ((midU F s k j).toNat : Int)) ∧ wr.frozen? ⟨g, j, none⟩ = false

theorem bytesWorld_frozen (w : World) (e : TypeId) (s : ByteArray) (j : Nat) (hj : j < s.size) : (Lib.bytesWorld w e s).frozen? ⟨w.heap.size, j, none⟩ = false := by
  have hs : s.size ≤ (Lib.bytesCells w e s).size := by simp [Lib.bytesCells]
  simp only [World.frozen?, Lib.bytesWorld_at_new]
  simp
  omega

theorem turn_begin (F : UInt8 → UInt8) (s : ByteArray) (B : Nat) (w0 X : World) (h : Below B w0 X) (hB : B ≤ X.heap.size) : TurnRel F s B X.heap.size w0 (.int .i64 0) (Lib.bytesWorld X 5 s) := by
  refine ⟨0, Nat.zero_le _, rfl, h.trans ((Lib.bytesWorld_below _ _ _).mono hB), by rw [Lib.bytesWorld_size]; omega, fun j hj => ⟨?_, bytesWorld_frozen _ _ _ _ hj⟩⟩
  rw [Lib.bytesWorld_cell _ _ _ _ hj]
  simp [midU]

theorem turn_step (F : UInt8 → UInt8) (s : ByteArray) (B g k : Nat) (w0 wr : World) (hk : k < s.size) (hg : B ≤ g) (hb : Below B w0 wr) (hz : g < wr.heap.size)
    (hc : ∀ j, j < s.size → wr.cell? ⟨g, j, none⟩ = some (.int .u8 ((midU F s k j).toNat : Int)) ∧ wr.frozen? ⟨g, j, none⟩ = false) (z : Int) (hv : z = ((F (s.data.toList.getD k 0)).toNat : Int)) (i : Value) (hi : i = .int .i64 ((k + 1 : Nat) : Int)) :
    TurnRel F s B g w0 i (wr.setCell ⟨g, k, none⟩ (.int .u8 z)) := by
  subst hv hi
  refine ⟨k + 1, hk, rfl, hb.setCell (by simpa using hg) _, by simpa using hz, fun j hj => ⟨?_, by rw [World.frozen?_setCell]; exact (hc j hj).2⟩⟩
  by_cases e : k = j
  · subst e
    rw [World.cell?_setCell_same (h := (hc k hk).1)]
    simp [midU]
  · rw [World.cell?_setCell_other (h := by simp), (hc j hj).1]
    have : (j < k + 1) = (j < k) := by simp; omega
    simp only [midU, this]

theorem turn_end (F : UInt8 → UInt8) (s : ByteArray) (g : Nat) (wr : World) (hz : g < wr.heap.size) (hc : ∀ j, j < s.size → wr.cell? ⟨g, j, none⟩ = some (.int .u8 ((midU F s s.size j).toNat : Int)) ∧ wr.frozen? ⟨g, j, none⟩ = false) (c : Nat) :
    (convert 91 9 (.slice (some ⟨g, 0, none⟩) s.size c)).run Tryz.prog wr = .ok (.string (turnedS F s)) wr := by
  have hl : (s.data.toList.map F).length = s.size := by simp
  have hr : Rd wr wr.heap.size (some ⟨g, 0, none⟩) (s.data.toList.map F) := by
    intro _
    refine ⟨_, rfl, hz, fun j u hu => ?_⟩
    have hj : j < s.size := by
      rcases Nat.lt_or_ge j s.size with h | h
      · exact h
      · rw [List.getElem?_eq_none (by omega)] at hu; cases hu
    have ha : ((⟨g, 0, none⟩ : Addr).add j) = ⟨g, j, none⟩ := by
      unfold Addr.add
      by_cases hj0 : j = 0 <;> simp [hj0]
    rw [ha, (hc j hj).1]
    have hj2 : j < s.data.toList.length := by simpa using hj
    rw [List.getElem?_map, List.getElem?_eq_getElem hj2] at hu
    obtain rfl : F s.data.toList[j] = u := by simpa using hu
    simp [midU, hj, List.getD, b8]
  have := run_str hr c
  rw [hl] at this
  exact this

set_option maxRecDepth 100000 in
set_option maxHeartbeats 800000 in
theorem upperCall (b off bt : Nat) (k n : Int) (s : ByteArray) (w : World) (hn : In64 n) (hW : Wd w) (hR : RdV w b off [(k, n, s)]) (ht : w.cell? ⟨bt, 0, none⟩ = some (.func (.func 112) #[] #[]))
    (x : ByteArray) (hx : textV k n s = x) (hs : x.size ≤ 1099511627776) :
    Calls Tryz.prog 131 #[.slice (some ⟨b, off, none⟩) 1 1, .pointer (some ⟨bt, 0, none⟩)] w (RetV (vv 2 0 (turnedS largeU x)) 0 w) := by
  have HX := Lib.hid hx
  have HN := Lib.hid hn
  have HWd := Lib.hid (hW.on (w1_below w))
  obtain ⟨c0, c1, c2⟩ := (hR.on (w1_below w)).one
  have hbt : bt < w.heap.size := block_lt_of_cell ht
  have HT := Lib.hid ht
  have HV := Lib.hid (fun (X : World) => Lib.run_convert_string_bytes (P := Tryz.prog) X 9 91 5 x Tryz.underlying9 Tryz.underlying91 Tryz.underlying5)
  clear hx hn hW hR ht
  go_enter Tryz.func131, Tryz.ntmps131
  go_wp2_with (go_at_call 83; refine (Text_any _ _ _ _ HN.out HWd.out).mono ?_; rintro e wa ⟨rfl, ba⟩; rw [HX.out]; have hcur := Lib.hid ba; have hcv := HV.out wa; have HB := Lib.hid (turn_begin largeU x _ _ wa ba ba.size); have hza := ba.size)
  go_loopw [6, 7, 15] (fun _ _ i wr => TurnRel largeU x (w1 w).heap.size wa.heap.size (w1 w) i wr) (fun _ _ i _ => x.size - (intOf i).toNat)
  case atStart => exact HB.out
  case round =>
    obtain ⟨q, hq, rfl, hb, hz, hc⟩ := hrel
    have hcur2 := Lib.hid hb
    clear hb
    by_cases hlt : q < x.size
    · obtain ⟨hq1, hq2⟩ := hc q hlt
      have hu : (midU largeU x q q).toNat < 256 := (midU largeU x q q).toNat_lt
      have hf : wr.cell? ⟨bt, 0, none⟩ = some (.func (.func 112) #[] #[]) := (((w1_below w).trans (hcur2.out.mono (by simp))).cell hbt).trans HT.out
      have HS := Lib.hid (fun z hv i hi => turn_step largeU x _ wa.heap.size q (w1 w) _ hlt hza hcur2.out hz hc z hv i hi)
      clear hc
      go_wp2_with (go_at_call 112; refine (large_any _ _ hu).mono ?_; rintro e w' ⟨rfl, rfl⟩)
      exact ⟨HS.out _ (by rw [largeU_n]; simp [midU]) _ (by go_num), by simp [intOf]; omega⟩
    · have hk' : q = x.size := by omega
      subst hk'
      have hst := turn_end largeU x wa.heap.size _ hz hc
      clear hc
      go_wp2_with (go_at_call 82; refine (textValue_any _ _).mono ?_; rintro e wb ⟨rfl, bb⟩; have hcur3 := Lib.hid (hcur2.out.trans (bb.mono hcur2.out.size)); obtain ⟨u0, u1, u2, v0, v1, v2⟩ := w1_out w _ hcur3.out; have hz : w.heap.size < wb.heap.size := (by have := hcur3.out.size; simp at this; omega))
      exact bodyPost_ret (v := .tuple #[vv 2 0 (turnedS largeU x), .int .i64 0]) (by simp [results, Tryz.results131, go_sem, u0, u1, u2]) rfl ⟨rfl, w1_end _ _ hcur3.out _ _ _⟩
set_option maxRecDepth 100000 in
set_option maxHeartbeats 800000 in
theorem lowerCall (b off bt : Nat) (k n : Int) (s : ByteArray) (w : World) (hn : In64 n) (hW : Wd w) (hR : RdV w b off [(k, n, s)]) (ht : w.cell? ⟨bt, 0, none⟩ = some (.func (.func 113) #[] #[]))
    (x : ByteArray) (hx : textV k n s = x) (hs : x.size ≤ 1099511627776) :
    Calls Tryz.prog 131 #[.slice (some ⟨b, off, none⟩) 1 1, .pointer (some ⟨bt, 0, none⟩)] w (RetV (vv 2 0 (turnedS smallU x)) 0 w) := by
  have HX := Lib.hid hx
  have HN := Lib.hid hn
  have HWd := Lib.hid (hW.on (w1_below w))
  obtain ⟨c0, c1, c2⟩ := (hR.on (w1_below w)).one
  have hbt : bt < w.heap.size := block_lt_of_cell ht
  have HT := Lib.hid ht
  have HV := Lib.hid (fun (X : World) => Lib.run_convert_string_bytes (P := Tryz.prog) X 9 91 5 x Tryz.underlying9 Tryz.underlying91 Tryz.underlying5)
  clear hx hn hW hR ht
  go_enter Tryz.func131, Tryz.ntmps131
  go_wp2_with (go_at_call 83; refine (Text_any _ _ _ _ HN.out HWd.out).mono ?_; rintro e wa ⟨rfl, ba⟩; rw [HX.out]; have hcur := Lib.hid ba; have hcv := HV.out wa; have HB := Lib.hid (turn_begin smallU x _ _ wa ba ba.size); have hza := ba.size)
  go_loopw [6, 7, 15] (fun _ _ i wr => TurnRel smallU x (w1 w).heap.size wa.heap.size (w1 w) i wr) (fun _ _ i _ => x.size - (intOf i).toNat)
  case atStart => exact HB.out
  case round =>
    obtain ⟨q, hq, rfl, hb, hz, hc⟩ := hrel
    have hcur2 := Lib.hid hb
    clear hb
    by_cases hlt : q < x.size
    · obtain ⟨hq1, hq2⟩ := hc q hlt
      have hu : (midU smallU x q q).toNat < 256 := (midU smallU x q q).toNat_lt
      have hf : wr.cell? ⟨bt, 0, none⟩ = some (.func (.func 113) #[] #[]) := (((w1_below w).trans (hcur2.out.mono (by simp))).cell hbt).trans HT.out
      have HS := Lib.hid (fun z hv i hi => turn_step smallU x _ wa.heap.size q (w1 w) _ hlt hza hcur2.out hz hc z hv i hi)
      clear hc
      go_wp2_with (go_at_call 113; refine (small_any _ _ hu).mono ?_; rintro e w' ⟨rfl, rfl⟩)
      exact ⟨HS.out _ (by rw [smallU_n]; simp [midU]) _ (by go_num), by simp [intOf]; omega⟩
    · have hk' : q = x.size := by omega
      subst hk'
      have hst := turn_end smallU x wa.heap.size _ hz hc
      clear hc
      go_wp2_with (go_at_call 82; refine (textValue_any _ _).mono ?_; rintro e wb ⟨rfl, bb⟩; have hcur3 := Lib.hid (hcur2.out.trans (bb.mono hcur2.out.size)); obtain ⟨u0, u1, u2, v0, v1, v2⟩ := w1_out w _ hcur3.out; have hz : w.heap.size < wb.heap.size := (by have := hcur3.out.size; simp at this; omega))
      exact bodyPost_ret (v := .tuple #[vv 2 0 (turnedS smallU x), .int .i64 0]) (by simp [results, Tryz.results131, go_sem, u0, u1, u2]) rfl ⟨rfl, w1_end _ _ hcur3.out _ _ _⟩
end Go.Proofs.YteijijoiifbjlaaGreatDoor
