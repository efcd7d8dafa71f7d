/-
  Layer 7, sorter: Add refused: by its key, by its row, as it is full. Conditions: as stated.
-/
import Derived.Test.YtdhdfeiobjmdaaaQMeth
namespace Go.Proofs.Ytdhdfeiobjmdaaa
open Go.ChangeShapes Go.WideShapes Go.ChangeAt Go.RowKit
set_option linter.unusedVariables false

/-- Key refuses -/
def KeyNo (E : Int) (w : World) (ds : List Bool) (A : Option Addr) (n c : Nat) : Prop := ∀ X F fc, Below w.heap.size w X → RdF X X.heap.size F ds → Calls Try.prog 26 #[.slice A n c, .slice F ds.length fc] X fun e w' => NoRet E X e w'
/-- Put refuses -/
def PutNo (E : Int) (w : World) (A : Option Addr) (n c : Nat) : Prop := ∀ X, Below w.heap.size w X → Calls Try.prog 27 #[.slice A n c] X fun e w' => NoRet E X e w'
set_option maxRecDepth 100000 in
set_option maxHeartbeats 1000000 in
theorem Add_key {w : World} {lo s : Nat} {va : Value} {ds : List Bool} {dist : Bool} {L : List KR} (h : SorU w lo s va ds dist L) (A : Option Addr) (n c : Nat) (B : Option Addr) (m d : Nat) (E : Int) (hE : (0 != E) = true) (hE2 : (E != 0) = true) (hK : KeyNo E w ds A n c) :
    Calls Try.prog 7 #[.pointer (some ⟨s, 0, none⟩), .slice A n c, .slice B m d] w fun e w' => e = .returned (.int .i64 E) ∧ Below w.heap.size w w' := by
  obtain ⟨o, h, rfl, rfl, hsr, rfl, _, _⟩ := h
  obtain ⟨D, dc, hF, _, c1, _⟩ := h.cells
  have H0 := Lib.hid h
  have HF := Lib.hid hF
  have HSR := Lib.hid hsr
  have HK := Lib.hid hK
  clear h hF hsr hK
  go_enter Try.func7, Try.ntmps7
  go_wp2_with fail
  refine (missing_any H0.out false).mono ?_
  rintro e w0 ⟨rfl, rfl⟩
  rw [HSR.out]
  go_wp2_with fail
  refine (HK.out _ D dc (Below.refl _ _) HF.out.rd).mono ?_
  rintro e w1 ⟨rfl, hb1⟩
  go_wp2_with fail
  go_ret
  exact ⟨rfl, hb1⟩
set_option maxRecDepth 100000 in
set_option maxHeartbeats 1000000 in
theorem Add_put {w : World} {lo s : Nat} {va : Value} {ds : List Bool} {dist : Bool} {L : List KR} (h : SorU w lo s va ds dist L) (A : Option Addr) (ca : Nat) (ks : List Trip) (B : Option Addr) (m d : Nat) (E : Int) (hE : (0 != E) = true) (hE2 : (E != 0) = true)
    (hKR : RdR w w.heap.size A ks) (hk : KeyOk ks) (hd : ds.length = ks.length) (nk : Nat) (hnk : nk = ks.length) (hP : PutNo E w B m d) :
    Calls Try.prog 7 #[.pointer (some ⟨s, 0, none⟩), .slice A nk ca, .slice B m d] w fun e w' => e = .returned (.int .i64 E) ∧ Below w.heap.size w w' := by
  subst hnk
  obtain ⟨o, h, rfl, rfl, hsr, rfl, _, _⟩ := h
  obtain ⟨D, dc, hF, _, c1, _⟩ := h.cells
  have H0 := Lib.hid h
  have HF := Lib.hid hF
  have HSR := Lib.hid hsr
  have HP := Lib.hid hP
  have HDS := Lib.hid hd
  clear h hF hsr hP hd
  go_enter Try.func7, Try.ntmps7
  go_wp2_with fail
  refine (missing_any H0.out false).mono ?_
  rintro e w0 ⟨rfl, rfl⟩
  rw [HSR.out]
  go_wp2_with fail
  refine (Key_ok A ca ks D dc o.ds _ hKR HF.out.rd hk.1 HDS.out hk.2.1 hk.2.2.1 hk.2.2.2).mono ?_
  rintro e w1 ⟨vk, rfl, hok, hb1⟩
  obtain ⟨kA, kc, rfl, hk1, hk2, _⟩ := hok.form
  have HB1 := Lib.hid hb1
  clear hok hb1
  go_wp2_with fail
  refine (HP.out _ HB1.out).mono ?_
  rintro e w2 ⟨rfl, hb2⟩
  go_wp2_with fail
  go_ret
  exact ⟨rfl, HB1.out.trans (hb2.mono HB1.out.size)⟩
set_option maxRecDepth 100000 in
set_option maxHeartbeats 1000000 in
theorem Add_full {w : World} {lo s : Nat} {va : Value} {ds : List Bool} {dist : Bool} {L : List KR} (h : SorU w lo s va ds dist L) (hlo : lo ≤ w.heap.size) (A : Option Addr) (ca : Nat) (ks : List Trip) (B : Option Addr) (cb : Nat) (rs : List Trip) (hKR : RdR w w.heap.size A ks) (hR : RdR w w.heap.size B rs)
    (hk : KeyOk ks) (hr : RowOk rs) (hd : ds.length = ks.length) (hE : L.length = 65536) (nk nr : Nat) (hnk : nk = ks.length) (hnr : nr = rs.length) :
    Calls Try.prog 7 #[.pointer (some ⟨s, 0, none⟩), .slice A nk ca, .slice B nr cb] w fun e w' => e = .returned (.int .i64 5) ∧ Below w.heap.size w w' := by
  subst hnk hnr
  obtain ⟨o, h, rfl, rfl, hsr, rfl, _, _⟩ := h
  rw [List.length_map] at hE
  obtain ⟨D, dc, hF, _, c1, _⟩ := h.cells
  obtain ⟨Ae, ce, hva, hce, _, _⟩ := (show OwnE w lo va o.E from by obtain ⟨_, _, _, _, _, ho, _⟩ := h; exact ho).form
  rw [hE] at hva
  have H0 := Lib.hid h
  have HF := Lib.hid hF
  have HSR := Lib.hid hsr
  have HDS := Lib.hid hd
  have HVA := Lib.hid hva
  clear h hF hsr hd hE hva
  go_enter Try.func7, Try.ntmps7
  go_wp2_with fail
  refine (missing_any H0.out false).mono ?_
  rintro e w0 ⟨rfl, rfl⟩
  rw [HSR.out]
  go_wp2_with fail
  refine (Key_ok A ca ks D dc o.ds _ hKR HF.out.rd hk.1 HDS.out hk.2.1 hk.2.2.1 hk.2.2.2).mono ?_
  rintro e w1 ⟨vk, rfl, hok, hb1⟩
  obtain ⟨kA, kc, rfl, hk1, hk2, _⟩ := hok.form
  have H1 := Lib.hid (H0.out.on hb1)
  have HB1 := Lib.hid hb1
  clear hok hb1
  go_wp2_with fail
  have hR1 : RdR w1 w1.heap.size B rs := hR.on HB1.out
  refine (Put_ok B cb rs _ hR1 hr.1 hr.2.1 hr.2.2.1 hr.2.2.2).mono ?_
  rintro e w2 ⟨vr2, rfl, hor, hb2⟩
  obtain ⟨rA, rc, rfl, hr1, hr2, _⟩ := hor.form
  have H2 := Lib.hid (H1.out.on hb2)
  have HB2 := Lib.hid (HB1.out.trans (hb2.mono HB1.out.size))
  clear hor hb2
  obtain ⟨D2, dc2, _, _, _, _, _, c4, _⟩ := H2.out.cells
  rw [HVA.out] at c4
  go_wp2_with fail
  go_ret
  exact ⟨rfl, HB2.out⟩
end Go.Proofs.Ytdhdfeiobjmdaaa
