/-
  The document's own Key (layer 3, record). Conditions: sizes as stated; a row that is right has a key of at most a megabyte.
-/
import Derived.Test.YtcpmfagnnidodaaRRefR
import Derived.Test.YtcpmfagnnidodaaRBackW
namespace Go.Proofs.Ytcpmfagnnidodaa
open Go.ChangeShapes Go.WideShapes Go.ChangeAt Go.RowKit
set_option linter.unusedVariables false

theorem refPart_any (k n : Int) (s : ByteArray) (d : Bool) (w : World) (hk : k = 0 ∨ k = 1 ∨ k = 2 ∨ k = 3) (hn : In64 n) (hs : s.size ≤ 1000000) :
    Calls Try.prog 79 #[vv k n s, .bool d] w (RetOwn (turnL (turnU d) (partL k n s)) w) := by
  rcases hk with rfl | rfl | rfl | rfl
  · exact refPart0 n s d w
  · exact refPart1 n s d w hn
  · exact refPart2 n s d w hs
  · exact refPart3 n s d w hs

def RKeyRel (w : World) (vs : List Trip) (ds : List Bool) (v i : Value) (wr : World) : Prop :=
  ∃ k : Nat, k ≤ vs.length ∧ i = .int .i64 k ∧ Own wr w.heap.size v (keyL (vs.take k) (ds.take k)) ∧ Below w.heap.size w wr

theorem rt_kind {k n : Int} {s : ByteArray} (h : Rt k n s) : k = 0 ∨ k = 1 ∨ k = 2 ∨ k = 3 := by
  rcases h with h | h | h
  · exact .inl h.1
  · exact .inr (.inl h.1)
  · rcases h.1 with h | h
    · exact .inr (.inr (.inl h))
    · exact .inr (.inr (.inr h))

set_option maxRecDepth 100000 in
set_option maxHeartbeats 1600000 in
theorem refKey_ok (A : Option Addr) (cap : Nat) (vs : List Trip) (F : Option Addr) (fcap : Nat) (ds : List Bool) (w : World) (hR : RdR w w.heap.size A vs) (hF : RdF w w.heap.size F ds) (hl : vs.length ≤ 200) (hd : ds.length = vs.length) (hg : FineR vs) (hlen : (keyL vs ds).length ≤ 1048576) :
    Calls Try.prog 32 #[.slice A vs.length cap, .slice F ds.length fcap] w fun e w' => ∃ v, e = .returned (.tuple #[v, .int .i64 0]) ∧ Own w' w.heap.size v (keyL vs ds) ∧ Below w.heap.size w w' := by
  have HF := Lib.hid hg
  have hE := Lib.hid (show 0 = if 200 < vs.length then 3 else if vs.any pBad then 2 else 0 by rw [if_neg (by omega), hg.bad]; rfl)
  have HSZ := Lib.hid (show ∀ t ∈ vs, t.2.2.size ≤ 65536 from fun t ht => rt_size (HF.out t ht).1)
  have hne : ((ds.length : Int) != vs.length) = false := by rw [hd]; simp
  have HD := Lib.hid hd
  have hd1 : ds.length ≤ vs.length := by omega
  have hd2 : vs.length ≤ ds.length := by omega
  have HLEN := Lib.hid hlen
  clear hg hlen hd
  go_enter Try.func32, Try.ntmps32
  go_wp2_with fail
  refine (refRow_any A cap vs w hR (by omega) (fun t ht => by have := HSZ.out t ht; omega) 0 hE).mono ?_
  rintro e w1 ⟨rfl, hb1⟩
  go_wp2_with fail
  go_loopw [7, 8] (fun v i wr => RKeyRel w vs ds v i wr) (fun _ i _ => vs.length - (intOf i).toNat)
  case atStart => exact ⟨0, by omega, rfl, World.ownsRow_nil _ _ _ _, hb1⟩
  case round =>
    obtain ⟨k, hk, rfl, ho, hbw⟩ := hrel
    have hszw := hbw.size
    by_cases hlt : k < vs.length
    · have hlt2 : k < ds.length := by omega
      have hget : vs[k]? = some vs[k] := List.getElem?_eq_getElem hlt
      have hget2 : ds[k]? = some ds[k] := List.getElem?_eq_getElem hlt2
      obtain ⟨ad, rfl, hal, hcs⟩ := (hR.below hbw) (by omega)
      obtain ⟨ad2, rfl, hal2, hcs2⟩ := (hF.below hbw) (by omega)
      have hkl := keyL_len (vs.take k) (ds.take k) (fun t ht => HSZ.out t (List.mem_of_mem_take ht))
      have hlk : (vs.take k).length ≤ 200 := by rw [List.length_take]; omega
      obtain ⟨hrt, hn64⟩ := HF.out _ (List.mem_of_getElem? hget)
      generalize vs[k] = t at *
      generalize ds[k] = d at *
      obtain ⟨kk, n, s⟩ := t
      have hkeep : ∀ X : World, Below w.heap.size w X → X.cell? (ad.add (k * 3)) = some (.int .u8 kk) ∧ X.cell? ⟨(ad.add (k * 3)).block, (ad.add (k * 3)).off + 1, none⟩ = some (.int .i64 n) ∧ X.cell? ⟨(ad.add (k * 3)).block, (ad.add (k * 3)).off + 2, none⟩ = some (.string s) ∧ X.cell? (ad2.add k) = some (.bool d) := by
        intro X h
        obtain ⟨ad', e, _, hc⟩ := (hR.below h) (by omega)
        injection e with e
        subst e
        obtain ⟨ad'', e, _, hc'⟩ := (hF.below h) (by omega)
        injection e with e
        subst e
        obtain ⟨q0, q1, q2⟩ := hc k kk n s hget
        exact ⟨q0, q1, q2, hc' k d hget2⟩
      have HK := Lib.hid hkeep
      obtain ⟨c0, c1, c2⟩ := hcs k kk n s hget
      have c3 := hcs2 k d hget2
      have HT := Lib.hid (keyL_take hget hget2)
      have hki : (k : Int) < vs.length := by omega
      have hki2 : (k : Int) < ds.length := by omega
      have hss : s.size ≤ 65536 := rt_size hrt
      have HP := Lib.hid (fun W => refPart_any kk n s d W (rt_kind hrt) hn64 (by omega))
      have hpl := partL_len kk n s hss
      have hq : (keyL (vs.take k) (ds.take k)).length ≤ 26216000 := by have := Nat.mul_le_mul_left 131080 hlk; omega
      have HPL := Lib.hid (show (turnL (turnU d) (partL kk n s)).length ≤ 131080 by rw [turnL_length]; exact hpl)
      generalize turnL (turnU d) (partL kk n s) = m at *
      generalize keyL (vs.take k) (ds.take k) = xs at *
      have HO := Lib.hid ho
      have HBW := Lib.hid hbw
      clear hkeep hget hget2 hcs hcs2 hkl hrt hn64 hbw hpl ho
      go_wp2_with fail
      go_region_held3 (fun X => X.cell? (ad.add (k * 3)) = some (.int .u8 kk) ∧ X.cell? ⟨(ad.add (k * 3)).block, (ad.add (k * 3)).off + 1, none⟩ = some (.int .i64 n) ∧ X.cell? ⟨(ad.add (k * 3)).block, (ad.add (k * 3)).off + 2, none⟩ = some (.string s) ∧ X.cell? (ad2.add k) = some (.bool d))
        (first
          | exact HK.out _ HBW.out.drew
          | exact HK.out _ (HBW.out.drew.trans (HB7.out.mono HBW.out.size))
          | exact HK.out _ ((HBW.out.drew.trans (HB7.out.mono HBW.out.size)).grown HG8.out (HBW.out.drew.trans (HB7.out.mono HBW.out.size)).size fun g hg => (HO.out.lt g hg).1))
        (first
          | (go_at_call 79; refine (HP.out _).mono ?_; rintro e w7 ⟨v7, rfl, ho7, hb7⟩; obtain ⟨A7, c7, rfl, _, _, hr7⟩ := ho7.form; have HR7 := Lib.hid hr7; have HB7 := Lib.hid hb7; clear hr7 hb7 ho7)
          | (refine step_appBG rfl (.tmp 25) (.tmp 34) rfl w.heap.size u7 xs rfl ((HO.out.drew).below HB7.out) A7 c7 _ m rfl rfl HR7.out (by have := HPL.out; omega) (by have := HB7.out.size; have h9 : wr.drew.heap.size = wr.heap.size := rfl; omega) ?_; intro v8 w8 ho8 hg8; have HO8 := Lib.hid ho8; have HG8 := Lib.hid hg8; clear ho8 hg8))
      go_wp2_with fail
      go_roundw
      case rel => exact ⟨k + 1, by omega, by go_num, by rw [HT.out]; exact HO8.out, (HBW.out.drew.trans (HB7.out.mono HBW.out.size)).grown HG8.out (HBW.out.drew.trans (HB7.out.mono HBW.out.size)).size fun g hg => (HO.out.lt g hg).1⟩
      case measure => simp [intOf]; omega
    · obtain rfl : k = vs.length := by omega
      rw [show vs.take vs.length = vs from List.take_length, ← HD.out, show ds.take ds.length = ds from List.take_length] at ho
      have hlen := HLEN.out
      generalize hx : keyL vs ds = xs at *
      have HX := Lib.hid hx
      clear hx
      have HO := Lib.hid ho
      obtain ⟨A7, c7, rfl, _, _, _⟩ := ho.form
      clear ho
      go_wp2_with fail
      go_ret2
      exact ⟨_, rfl, by rw [HX.out]; exact HO.out, hbw⟩
end Go.Proofs.Ytcpmfagnnidodaa
