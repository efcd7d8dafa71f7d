/-
  record.Unkey, of any bytes and flags: the row whose key they are, or ErrBytes. Conditions: sizes.
-/
import Derived.Test.YtmcbjfdenaknlaaRCutP
import Derived.Test.YtmcbjfdenaknlaaRShortW
namespace Go.Proofs.Ytmcbjfdenaknlaa
open Go.ChangeShapes Go.WideShapes Go.ChangeAt Go.RowKit
set_option linter.unusedVariables false

theorem cutPart_any (A : Option Addr) (n cap : Nat) (b : List UInt8) (t : UInt8) (w : World) (hn : n = b.length) (hR : Rd w w.heap.size A b) (hc : b.length ≤ cap) (hc2 : cap ≤ 9223372036854775807) (R : Option (Trip × List UInt8)) (hRR : Hid (getP t b = R)) :
    Calls Try.prog 32 #[.slice A n cap, b8 t] w fun e w' => PartPost w A b cap R e w' := by
  subst hn
  cases b with
  | nil =>
    have h := hRR.out
    rw [getP] at h
    subst h
    exact cutPart_none A cap t w hc2
  | cons c l =>
    by_cases hce : cap = 1
    · have hl : l = [] := by
        cases l with
        | nil => rfl
        | cons d l => simp at hc; omega
      subst hl
      exact cutPart_last A cap c t w hR hce R hRR
    · exact cutPart_some A cap l.length c l t w rfl hR (by simpa using hc) hc2 R hRR hce
/-- the row whose key by these flags this is -/
def getK : List Bool → List UInt8 → Option (List Trip)
  | [], b => if b = [] then some [] else none
  | d :: ds, b => (getP (turnU d) b).bind fun p => (getK ds p.2).map (p.1 :: ·)
def addK (vs : List Trip) (o : Option (List Trip)) : Option (List Trip) := o.map (vs ++ ·)
theorem getK_end {ds : List Bool} {b : List UInt8} {vs : List Trip} {i : Nat} (h : ds.length ≤ i) : addK vs (getK (ds.drop i) b) = if b = [] then some vs else none := by
  rw [List.drop_eq_nil_of_le h, getK]
  by_cases hb : b = []
  · simp [hb, addK]
  · simp [hb, addK]
theorem getK_no {ds : List Bool} {b : List UInt8} {vs : List Trip} {i : Nat} {d : Bool} (h : ds[i]? = some d) (hp : getP (turnU d) b = none) : addK vs (getK (ds.drop i) b) = none := by
  rw [List.drop_eq_getElem_cons (List.getElem?_eq_some_iff.1 h).1, (List.getElem?_eq_some_iff.1 h).2, getK, hp]
  rfl
theorem getK_step {ds : List Bool} {b r : List UInt8} {vs : List Trip} {i : Nat} {d : Bool} {t : Trip} (h : ds[i]? = some d) (hp : getP (turnU d) b = some (t, r)) : addK vs (getK (ds.drop i) b) = addK (vs ++ [t]) (getK (ds.drop (i + 1)) r) := by
  rw [List.drop_eq_getElem_cons (List.getElem?_eq_some_iff.1 h).1, (List.getElem?_eq_some_iff.1 h).2, getK, hp]
  show addK vs ((getK (ds.drop (i + 1)) r).map (t :: ·)) = _
  cases getK (ds.drop (i + 1)) r <;> simp [addK]
def UnkPost (w : World) (o : Option (List Trip)) (e : Ending) (w' : World) : Prop :=
  (match o with
    | none => e = .returned (.tuple #[.slice none 0 0, .int .i64 10])
    | some vs => ∃ v, e = .returned (.tuple #[v, .int .i64 0]) ∧ OwnR w' w.heap.size v vs) ∧ Below w.heap.size w w'
theorem run_makeR (n : Nat) (hn : n ≤ 1000000) (w : World) : (Instr.makeSlice 32 (.int .i64 0) (.int .i64 (n : Int))).run Try.prog w = .ok (.slice (some ⟨w.heap.size, 0, none⟩) 0 n) (w.alloc (.cells (madeCells (vv 0 0 ⟨#[]⟩).cells (n * 3)) 30)) := by
  obtain ⟨i0, hi, hz0, hz1, hz2⟩ := info_parts Try.info_V
  have h := run_make (P := Try.prog) w 32 30 i0 (vv 0 0 ⟨#[]⟩) Try.underlying32 hi hz0 .i64 .i64 0 (n : Int) (by omega) (by omega) (by rw [hz2]; omega) (by omega)
  rw [h, hz1]
  have e2 : ((n : Int)).toNat = n := by omega
  rw [e2]
  rfl
theorem ownR_below {w w' : World} {base : Nat} {v : Value} {l : List Trip} (h : OwnR w base v l) (hb : Below w.heap.size w w') : OwnR w' base v l := by
  obtain ⟨h1, h2⟩ := h
  refine ⟨h1, ?_⟩
  rcases h2 with h2 | ⟨g, cap, cur, hv, hg, hh, r⟩
  · exact .inl h2
  · have hlt : g < w.heap.size := by
      rcases Nat.lt_or_ge g w.heap.size with hlt | hge
      · exact hlt
      · rw [Array.getElem?_eq_none hge] at hh; cases hh
    exact .inr ⟨g, cap, cur, hv, hg, (hb.block g hlt).trans hh, r⟩
abbrev cell3 (k n : Int) (s : ByteArray) : Obj := .cells #[.int .u8 k, .int .i64 n, .string s] 30
theorem row_cells (X : World) (k n : Int) (s : ByteArray) : ∀ j u, (cellsL [(k, n, s)])[j]? = some u → ((X.alloc (cell3 k n s)).alloc (cell3 k n s)).cell? ((⟨X.heap.size + 1, 0, none⟩ : Addr).add j) = some u := by
  intro j u h
  rcases j with _ | _ | _ | j
  · simp [cellsL] at h; subst h; simp [Addr.add, go_sem]
  · simp [cellsL] at h; subst h; simp [Addr.add, go_sem]
  · simp [cellsL] at h; subst h; simp [Addr.add, go_sem]
  · simp [cellsL] at h
def UnkRel (w : World) (A : Option Addr) (b : List UInt8) (cap : Nat) (ds : List Bool) (R : Option (List Trip)) (row rest i : Value) (wr : World) : Prop :=
  ∃ (k : Nat) (vs : List Trip) (r : List UInt8) (A1 : Option Addr) (c1 : Nat), i = .int .i64 k ∧ k ≤ ds.length ∧ vs.length = k ∧ rest = .slice A1 r.length c1 ∧ Tail A b A1 r ∧ r.length ≤ c1 ∧ c1 ≤ cap ∧ addK vs (getK (ds.drop k) r) = R ∧ OwnR wr w.heap.size row vs ∧ Below w.heap.size w wr
set_option maxRecDepth 100000 in
set_option maxHeartbeats 1600000 in
theorem Unkey_go (A : Option Addr) (cap : Nat) (b : List UInt8) (F : Option Addr) (fcap : Nat) (ds : List Bool) (w : World) (hR : Rd w w.heap.size A b) (hF : RdF w w.heap.size F ds) (hc : b.length ≤ cap) (hc2 : cap ≤ 9223372036854775807) (hb : b.length ≤ 1048576) (hd : ds.length ≤ 200) (R : Option (List Trip)) (hRR : Hid (getK ds b = R)) :
    Calls Try.prog 9 #[.slice A b.length cap, .slice F ds.length fcap] w fun e w' => UnkPost w R e w' := by
  have HM := run_makeR ds.length (by omega) w
  have HR := Lib.hid hR
  have HF := Lib.hid hF
  have HB := Lib.hid ((Below.refl w.heap.size w).alloc (Nat.le_refl _) (.cells (madeCells (vv 0 0 ⟨#[]⟩).cells (ds.length * 3)) 30))
  have HO0 := Lib.hid (show OwnR (w.alloc (.cells (madeCells (vv 0 0 ⟨#[]⟩).cells (ds.length * 3)) 30)) w.heap.size (.slice (some ⟨w.heap.size, 0, none⟩) 0 ds.length) [] from
    World.ownsRow_made w _ ds.length (Nat.le_refl _) (by simp only [maxLen]; omega) (by rw [size_madeCells]))
  have HRR := hRR
  clear hRR hR hF
  go_enter Try.func9, Try.ntmps9
  go_wp2_with fail
  clear HM
  go_loopw [6, 7, 27] (fun row rest i wr => UnkRel w A b cap ds R row rest i wr) (fun _ _ i _ => ds.length - (intOf i).toNat)
  case atStart => exact ⟨0, [], b, A, cap, rfl, Nat.zero_le _, rfl, rfl, fun _ _ g => g, hc, Nat.le_refl _, by rw [← HRR.out]; simp [addK], HO0.out, HB.out⟩
  case round =>
    obtain ⟨k, vs, r, A1, c1, rfl, hk, hvl, rfl, hta, hrc, hcc, hrel, ho, hbw⟩ := hrel
    obtain ⟨A2, c2, rfl, ho1, ho2, _⟩ := ho.form
    have HX := Lib.hid hbw
    have HO := Lib.hid ho
    have HE := Lib.hid hrel
    have HT := Lib.hid hta
    have HV := Lib.hid hvl
    have hvs : vs.length ≤ 200 := by omega
    by_cases hlt : k < ds.length
    · obtain ⟨fd, rfl, hfd, hfs⟩ := (HF.out.below hbw) (by omega)
      have hgk : ds[k]? = some ds[k] := List.getElem?_eq_getElem hlt
      have f0 := hfs _ _ hgk
      have HG := Lib.hid hgk
      generalize ds[k] = d at *
      obtain ⟨Q, hQ⟩ : ∃ Q, getP (turnU d) r = Q := ⟨_, rfl⟩
      have HQ := Lib.hid hQ
      clear hfs hgk hQ hta hrel ho hbw hvl
      go_wp2_with fail
      refine (turnOf_u _ _).mono ?_
      rintro e w' ⟨rfl, rfl⟩
      go_wp2_with fail
      refine (cutPart_any A1 r.length c1 r (turnU d) _ rfl (HT.out _ _ (HR.out.on HX.out)) hrc (by omega) Q HQ).mono ?_
      rintro e w2 hp
      rcases Q with _ | ⟨⟨k1, n1, s1⟩, r1⟩
      · obtain ⟨rfl, hb2⟩ := hp
        have HN := Lib.hid (getK_no (vs := vs) HG.out HQ.out)
        have HY := Lib.hid (onB HX.out hb2)
        have HZ := Lib.hid (fun o => HY.out.alloc (by have := HY.out.size; omega) o)
        clear hb2
        go_wp2_with fail
        go_ret2
        rw [← HE.out, HN.out]
        exact ⟨rfl, HZ.out _⟩
      · obtain ⟨⟨A3, c3, rfl, hx, ht⟩, hb2⟩ := hp
        have HN := Lib.hid (getK_step (vs := vs) HG.out HQ.out)
        have HY := Lib.hid (onB HX.out hb2)
        have HT3 := Lib.hid (HT.out.trans ht)
        have HX3 := Lib.hid hx
        have HO2 := Lib.hid (show OwnR w2 w.heap.size (.slice A2 vs.length c2) vs from ownR_below HO.out hb2)
        have hsz2 : w.heap.size ≤ w2.heap.size := HY.out.size
        have HO3 := Lib.hid (show OwnR ((w2.alloc (cell3 k1 n1 s1)).alloc (cell3 k1 n1 s1)) w.heap.size (.slice A2 vs.length c2) vs from ownR_below HO2.out (((Below.refl w2.heap.size w2).alloc (Nat.le_refl _) _).alloc (by simp) _))
        have HY3 := Lib.hid (show Below w.heap.size w ((w2.alloc (cell3 k1 n1 s1)).alloc (cell3 k1 n1 s1)) from (HY.out.alloc hsz2 _).alloc (by simp; omega) _)
        clear hb2 hx ht
        go_wp2_with (at_builtin; refine wpList_appR rfl (.tmp 41) (.tmp 43) rfl w.heap.size (.slice A2 vs.length c2) vs rfl HO3.out ⟨w2.heap.size + 1, 0, none⟩ 1 [(k1, n1, s1)] 1 rfl rfl (row_cells w2 k1 n1 s1) (by simp; omega) (by simp; omega) ?_; intro v1 w3 ho3 hb3; have HO4 := Lib.hid ho3; have HY4 := Lib.hid (HY3.out.trans hb3); obtain ⟨A4, c4, rfl, _, _, _⟩ := ho3.form; clear ho3 hb3)
        go_roundw
        case rel => exact ⟨k + 1, vs ++ [(k1, n1, s1)], r1, A3, c3, by go_num, by omega, by simp [HV.out], rfl, HT3.out, HX3.out.1, by have := HX3.out.2; omega, by rw [← HN.out]; exact HE.out, by have h := HO4.out; rw [List.length_append] at h; exact h, HY4.out⟩
        case measure => simp [intOf]; omega
    · obtain rfl : k = ds.length := by omega
      have HN := Lib.hid (getK_end (ds := ds) (b := r) (vs := vs) (Nat.le_refl _))
      clear hta hrel ho hbw hvl
      by_cases h0 : r = []
      · subst h0
        rw [if_pos rfl] at HN
        go_wp2_with fail
        go_ret2
        rw [← HE.out, HN.out]
        exact ⟨⟨_, rfl, HO.out⟩, HX.out⟩
      · have hr0 : r.length ≠ 0 := fun e => h0 (List.eq_nil_of_length_eq_zero e)
        rw [if_neg h0] at HN
        go_wp2_with fail
        go_ret2
        rw [← HE.out, HN.out]
        exact ⟨rfl, HX.out⟩
end Go.Proofs.Ytmcbjfdenaknlaa
