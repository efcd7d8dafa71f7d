/-
  Layer 7, sorter: what its methods do, told by the bytes of keys and rows alone. Conditions: as stated.
-/
import Derived.Test.YtifnhdnmohlfiaaQNext
import Derived.Test.YtifnhdnmohlfiaaQAdd
namespace Go.Proofs.Ytifnhdnmohlfiaa
open Go.ChangeShapes Go.WideShapes Go.ChangeAt Go.RowKit
set_option linter.unusedVariables false

/-- a key's bytes, a row's bytes -/
abbrev KR := List UInt8 × List UInt8
def En.kr (e : En) : KR := (e.kb, e.rb)
def ltK (x y : KR) : Bool := decide (Lib.compareBytes x.1 y.1 < 0)
def sameK (x y : KR) : Bool := x.1 == y.1
/-- what is left behind Sort -/
def left (dist : Bool) (L : List KR) : List KR := if dist then cmpct sameK (srt ltK L) else srt ltK L
theorem left_rows (L : List En) : ((srt ltE L).map En.row).map Rw.b = (left false (L.map En.kr)).map Prod.snd := by
  rw [left, if_neg (by decide), srt_map En.kr ltK L.length L (Nat.le_refl _)]
  show _ = ((srt ltE L).map En.kr).map Prod.snd
  rw [List.map_map, List.map_map]
  rfl
theorem left_rows_d (L : List En) : ((cmpct sameE (srt ltE L)).map En.row).map Rw.b = (left true (L.map En.kr)).map Prod.snd := by
  rw [left, if_pos rfl, srt_map En.kr ltK L.length L (Nat.le_refl _)]
  show _ = (cmpct sameK ((srt ltE L).map En.kr)).map Prod.snd
  rw [cmpct_map En.kr sameK]
  show _ = ((cmpct sameE (srt ltE L)).map En.kr).map Prod.snd
  rw [List.map_map, List.map_map]
  rfl
theorem left_length (d : Bool) (L : List KR) : (left d L).length ≤ L.length := by
  unfold left
  split
  · exact Nat.le_trans (cmpct_length _ _) (by rw [srt_length]; exact Nat.le_refl _)
  · rw [srt_length]; exact Nat.le_refl _

/-- not sorted yet -/
def SorU (w : World) (lo s : Nat) (va : Value) (ds : List Bool) (dist : Bool) (L : List KR) : Prop :=
  ∃ o : So, Sor w lo s va (.slice none 0 0) o ∧ o.ds = ds ∧ o.dist = dist ∧ o.srt = false ∧ o.E.map En.kr = L ∧ o.R = [] ∧ o.at_ = 0
/-- sorted: its place is behind k rows -/
def SorS (w : World) (lo s : Nat) (B : List (List UInt8)) (k : Nat) : Prop :=
  ∃ vr, ∃ o : So, Sor w lo s (.slice none 0 0) vr o ∧ o.srt = true ∧ o.E = [] ∧ o.R.map Rw.b = B ∧ o.at_ = k
def One (s : Nat) (k : Nat) : Prop := k = s
theorem SorU.far {w : World} {lo s : Nat} {va : Value} {ds : List Bool} {dist : Bool} {L : List KR} (h : SorU w lo s va ds dist L) : Far w (Ft s va) := by obtain ⟨o, h, _⟩ := h; exact h.far
theorem SorU.lo {w : World} {lo s : Nat} {va : Value} {ds : List Bool} {dist : Bool} {L : List KR} (h : SorU w lo s va ds dist L) : ∀ k, Ft s va k → lo ≤ k ∧ k < w.heap.size := by obtain ⟨o, h, _⟩ := h; exact h.lo
theorem SorU.but {P : Nat → Prop} {w w' : World} {lo s : Nat} {va : Value} {ds : List Bool} {dist : Bool} {L : List KR} (h : SorU w lo s va ds dist L) (hb : But P w w') (hf : Far w P) (hn : ∀ k, Ft s va k → ¬ P k) : SorU w' lo s va ds dist L := by
  obtain ⟨o, h, r⟩ := h; exact ⟨o, h.but hb hf hn, r⟩
theorem SorU.on {w w' : World} {lo s : Nat} {va : Value} {ds : List Bool} {dist : Bool} {L : List KR} (h : SorU w lo s va ds dist L) (hb : Below w.heap.size w w') : SorU w' lo s va ds dist L := by
  obtain ⟨o, h, r⟩ := h; exact ⟨o, h.on hb, r⟩
theorem SorS.far {w : World} {lo s : Nat} {B : List (List UInt8)} {k : Nat} (h : SorS w lo s B k) : Far w (fun k => k = s) := by
  obtain ⟨vr, o, h, _⟩ := h
  exact fun k hk => h.far k (.inl hk)
theorem SorS.lo {w : World} {lo s : Nat} {B : List (List UInt8)} {k : Nat} (h : SorS w lo s B k) : lo ≤ s ∧ s < w.heap.size := by
  obtain ⟨vr, o, h, _⟩ := h
  exact h.lo s (.inl rfl)
theorem ft_nil {s k : Nat} (h : Ft s (.slice none 0 0) k) : k = s := h.elim id fun e => by cases e
theorem SorS.but {P : Nat → Prop} {w w' : World} {lo s : Nat} {B : List (List UInt8)} {k : Nat} (h : SorS w lo s B k) (hb : But P w w') (hf : Far w P) (hn : ¬ P s) : SorS w' lo s B k := by
  obtain ⟨vr, o, h, r⟩ := h
  exact ⟨vr, o, h.but hb hf (fun k hk => by rw [ft_nil hk]; exact hn), r⟩
theorem SorS.on {w w' : World} {lo s : Nat} {B : List (List UInt8)} {k : Nat} (h : SorS w lo s B k) (hb : Below w.heap.size w w') : SorS w' lo s B k := by
  obtain ⟨vr, o, h, r⟩ := h; exact ⟨vr, o, h.on hb, r⟩

theorem New_u (A : Option Addr) (n c : Nat) (ds : List Bool) (dist : Bool) (w : World) (hn : n = ds.length) (hF : RdF w w.heap.size A ds) (hl : ds.length ≤ 200) (hnil : A = none → ds = [] ∧ c = 0) :
    Calls Try.prog 10 #[.slice A n c, .bool dist] w fun e w' => ∃ s, e = .returned (.tuple #[.pointer (some ⟨s, 0, none⟩), .int .i64 0]) ∧ SorU w' w.heap.size s (.slice none 0 0) ds dist [] ∧ Below w.heap.size w w' := by
  subst hn
  refine (New_ok A c ds dist w hF hl hnil).mono ?_
  rintro e w' ⟨s, rfl, h, hb⟩
  exact ⟨s, rfl, ⟨_, h, rfl, rfl, rfl, rfl, rfl, rfl⟩, hb⟩
theorem Add_u {w : World} {lo s : Nat} {va : Value} {ds : List Bool} {dist : Bool} {L : List KR} (h : SorU w lo s va ds dist L) (hlo : lo ≤ w.heap.size) (A : Option Addr) (ca : Nat) (ks : List Trip) (B : Option Addr) (cb : Nat) (rs : List Trip) (hK : RdR w w.heap.size A ks) (hR : RdR w w.heap.size B rs)
    (hk : KeyOk ks) (hr : RowOk rs) (hd : ds.length = ks.length) (hE : L.length < 65536) (nk nr : Nat) (hnk : nk = ks.length) (hnr : nr = rs.length) :
    Calls Try.prog 12 #[.pointer (some ⟨s, 0, none⟩), .slice A nk ca, .slice B nr cb] w fun e w' => e = .returned (.int .i64 0) ∧
      ∃ va', SorU w' lo s va' ds dist (L ++ [(keyL ks ds, putL rs)]) ∧ (va'.ownBlock = va.ownBlock ∨ ∃ g, va'.ownBlock = some g ∧ w.heap.size ≤ g) ∧ But (Ft s va) w w' := by
  obtain ⟨o, ho, rfl, rfl, h3, rfl, h5, h6⟩ := h
  refine (Add_ok ho h3 hlo A ca ks B cb rs hK hR hk hr hd (by rw [List.length_map] at hE; exact hE) nk nr hnk hnr).mono ?_
  rintro e w' ⟨rfl, va', en, e1, e2, hs, hv, hb⟩
  refine ⟨rfl, va', ⟨_, hs, rfl, rfl, h3, ?_, h5, h6⟩, hv, hb⟩
  show (o.E ++ [en]).map En.kr = _
  rw [List.map_append, List.map_cons, List.map_nil, En.kr, e1, e2]
theorem Sort_u {w : World} {lo s : Nat} {va : Value} {ds : List Bool} {dist : Bool} {L : List KR} (h : SorU w lo s va ds dist L) (hlo : lo ≤ w.heap.size) (hE : L.length ≤ 65536) :
    Calls Try.prog 17 #[.pointer (some ⟨s, 0, none⟩)] w fun e w' => e = .returned (.int .i64 0) ∧ SorS w' lo s ((left dist L).map Prod.snd) 0 ∧ But (fun k => k = s) w w' := by
  obtain ⟨o, ho, rfl, rfl, h3, rfl, h5, h6⟩ := h
  rw [List.length_map] at hE
  cases hd : o.dist with
  | false =>
    refine (Sort_all ho h3 hd hlo hE).mono ?_
    rintro e w' ⟨rfl, vr, hs, hb⟩
    exact ⟨rfl, ⟨vr, _, hs, rfl, rfl, left_rows o.E, h6⟩, hb⟩
  | true =>
    refine (Sort_dist ho h3 hd hlo hE).mono ?_
    rintro e w' ⟨rfl, vr, hs, hb⟩
    exact ⟨rfl, ⟨vr, _, hs, rfl, rfl, left_rows_d o.E, h6⟩, hb⟩
theorem Next_s {w : World} {lo s : Nat} {B : List (List UInt8)} {k : Nat} (h : SorS w lo s B k) (b : List UInt8) (hr : B[k]? = some b) (rs : List Trip) (hg : getN b = some rs) (hl : B.length ≤ 65536) :
    Calls Try.prog 18 #[.pointer (some ⟨s, 0, none⟩)] w fun e w' => ∃ v, e = .returned (.tuple #[v, .bool true]) ∧ OwnR w' w.heap.size v rs ∧ SorS w' lo s B (k + 1) ∧ But (fun k => k = s) w w' := by
  obtain ⟨vr, o, ho, h1, h2, rfl, rfl⟩ := h
  rw [List.getElem?_map] at hr
  obtain ⟨r, hr2, rfl⟩ := Option.map_eq_some_iff.1 hr
  refine (Next_some ho h1 r hr2 rs hg (by rw [List.length_map] at hl; exact hl)).mono ?_
  rintro e w' ⟨v, rfl, hv, hs, hb⟩
  exact ⟨v, rfl, hv, ⟨vr, _, hs, h1, h2, rfl, rfl⟩, hb⟩
theorem Next_s_end {w : World} {lo s : Nat} {B : List (List UInt8)} {k : Nat} (h : SorS w lo s B k) (hr : B.length ≤ k) (hk : k ≤ 1000000) :
    Calls Try.prog 18 #[.pointer (some ⟨s, 0, none⟩)] w fun e w' => e = .returned (.tuple #[.slice none 0 0, .bool false]) ∧ SorS w' lo s B k ∧ Below w.heap.size w w' := by
  have h' := h
  obtain ⟨vr, o, ho, h1, h2, rfl, rfl⟩ := h
  refine (Next_end ho h1 (by rw [List.length_map] at hr; exact hr) hk).mono ?_
  rintro e w' ⟨rfl, hb⟩
  have hb2 := hb.below (base := w.heap.size) (Nat.le_refl _) (fun _ hk => hk.elim)
  exact ⟨rfl, h'.on hb2, hb2⟩
theorem Rewind_s {w : World} {lo s : Nat} {B : List (List UInt8)} {k : Nat} (h : SorS w lo s B k) :
    Calls Try.prog 16 #[.pointer (some ⟨s, 0, none⟩)] w fun e w' => e = .returned (.int .i64 0) ∧ SorS w' lo s B 0 ∧ But (fun k => k = s) w w' := by
  obtain ⟨vr, o, ho, h1, h2, rfl, rfl⟩ := h
  refine (Rewind_ok ho h1).mono ?_
  rintro e w' ⟨rfl, hs, hb⟩
  exact ⟨rfl, ⟨vr, _, hs, h1, h2, rfl, rfl⟩, hb⟩
theorem Len_s {w : World} {lo s : Nat} {B : List (List UInt8)} {k : Nat} (h : SorS w lo s B k) (hl : B.length ≤ 1000000) :
    Calls Try.prog 15 #[.pointer (some ⟨s, 0, none⟩)] w fun e w' => e = .returned (.int .i64 (B.length : Int)) ∧ Below w.heap.size w w' := by
  obtain ⟨vr, o, ho, h1, h2, rfl, rfl⟩ := h
  refine (Len_any ho (by rw [h2]; rw [List.length_map] at hl; simpa using hl)).mono ?_
  rintro e w' ⟨rfl, hb⟩
  exact ⟨by rw [h2, List.length_map]; simp, hb.below (Nat.le_refl _) (fun _ hk => hk.elim)⟩
end Go.Proofs.Ytifnhdnmohlfiaa
