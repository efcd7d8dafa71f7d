/-
  What is put into a row's bytes is got back: the mathematics. No condition but the values' own.
-/
import Derived.Test.YtdhdfeiobjmdaaaRGet
import Derived.Test.YtdhdfeiobjmdaaaRShortM
namespace Go.Proofs.Ytdhdfeiobjmdaaa
open Go.ChangeShapes Go.WideShapes Go.ChangeAt Go.RowKit
set_option linter.unusedVariables false

theorem turn_no (l : List UInt8) : turnL 0 l = l := by
  induction l with
  | nil => rfl
  | cons c l ih =>
    show (c ^^^ 0) :: turnL 0 l = c :: l
    rw [ih, UInt8.xor_zero]
theorem pc (k : Nat) : ((256 ^ k : Nat) : Int) = (256 : Int) ^ k := by rw [Int.natCast_pow]; rfl
theorem pow_split {k : Nat} (h : k ≤ 8) : (18446744073709551616 : Nat) = 256 ^ k * 256 ^ (8 - k) := by
  rw [← Nat.pow_add, show k + (8 - k) = 8 from by omega]
theorem fold_be (m : Nat) (k : Nat) : foldN 0 (beN m k) 0 = m % 256 ^ k := by
  have h := numN_be 0 m [] k 0
  rw [turn_no, List.append_nil, List.take_of_length_le (by rw [beN_length]; omega)] at h
  rw [foldN, h]
  simp
theorem be_inj {a b k : Nat} (h : a % 256 ^ k = b % 256 ^ k) : beN a k = beN b k := by
  have h1 := be_foldN 0 (beN a k) 0
  have h2 := be_foldN 0 (beN b k) 0
  rw [turn_no, beN_length, fold_be] at h1
  rw [turn_no, beN_length, fold_be] at h2
  rw [← h1, ← h2, h]
/-- bytes as a number below 0 or not, the highest one ahead -/
theorem sig_fold : ∀ (l : List UInt8) (j : Nat) (n : Int), j + l.length ≤ 7 → -128 * 256 ^ j ≤ n → n ≤ 128 * 256 ^ j - 1 →
    l.foldl (fun n d => wrap64 (n * 256) + (d.toNat : Int)) n = n * 256 ^ l.length + (foldN 0 l 0 : Nat) ∧ -128 * 256 ^ (j + l.length) ≤ n * 256 ^ l.length + (foldN 0 l 0 : Nat) ∧ n * 256 ^ l.length + (foldN 0 l 0 : Nat) ≤ 128 * 256 ^ (j + l.length) - 1
  | [], j, n, hj, h1, h2 => by simp [foldN]; omega
  | c :: l, j, n, hj, h1, h2 => by
    simp only [List.length_cons] at hj
    have hc := c.toNat_lt
    have hle : (256 : Int) ^ j ≤ 256 ^ 6 := by
      have : (256 : Nat) ^ j ≤ 256 ^ 6 := Nat.pow_le_pow_right (by omega) (by omega)
      have h2 := Int.ofNat_le.2 this
      rw [pc, pc] at h2
      exact h2
    have hp : (256 : Int) ^ (j + 1) = 256 ^ j * 256 := Int.pow_succ _ _
    have hw : wrap64 (n * 256) = n * 256 := by unfold wrap64; omega
    obtain ⟨i1, i2, i3⟩ := sig_fold l (j + 1) (n * 256 + (c.toNat : Int)) (by omega) (by rw [hp]; omega) (by rw [hp]; omega)
    have hf : foldN 0 (c :: l) 0 = c.toNat * 256 ^ l.length + foldN 0 l 0 := by
      have e : foldN 0 (c :: l) 0 = foldN 0 l (0 * 256 + (c ^^^ 0).toNat) := rfl
      rw [e, (foldN_eq 0 l _).1, UInt8.xor_zero]
      simp
    have e2 : (n * 256 + (c.toNat : Int)) * 256 ^ l.length + (foldN 0 l 0 : Nat) = n * 256 ^ (c :: l).length + (foldN 0 (c :: l) 0 : Nat) := by
      rw [hf, List.length_cons, Int.pow_succ, Int.natCast_add, Int.natCast_mul, pc, Int.add_mul, Int.mul_assoc, Int.mul_comm 256]
      omega
    have e3 : j + (c :: l).length = j + 1 + l.length := by simp; omega
    rw [e2] at i1 i2 i3
    rw [e3]
    refine ⟨?_, i2, i3⟩
    rw [List.foldl_cons, hw]
    exact i1
theorem sig_first (c : UInt8) : wrap64 (IntKind.i8.wrap c.toNat) = if c.toNat < 128 then (c.toNat : Int) else (c.toNat : Int) - 256 := by
  have hc := c.toNat_lt
  have e : IntKind.i8.wrap c.toNat = if c.toNat < 128 then (c.toNat : Int) else (c.toNat : Int) - 256 := by
    show (if (decide (((c.toNat : Int) % 256) ≥ 128)) = true then ((c.toNat : Int) % 256) - 256 else (c.toNat : Int) % 256) = _
    by_cases h : c.toNat < 128
    · rw [if_pos h, if_neg (by simp; omega)]; omega
    · rw [if_neg h, if_pos (by simp; omega)]; omega
  rw [e]
  unfold wrap64
  split <;> omega
theorem sig_val (c : UInt8) (l : List UInt8) (h : l.length ≤ 7) : sigN c l = (if c.toNat < 128 then (c.toNat : Int) else (c.toNat : Int) - 256) * 256 ^ l.length + (foldN 0 l 0 : Nat) ∧
    -128 * 256 ^ l.length ≤ sigN c l ∧ sigN c l ≤ 128 * 256 ^ l.length - 1 := by
  have hc := c.toNat_lt
  obtain ⟨h1, h2, h3⟩ := sig_fold l 0 (if c.toNat < 128 then (c.toNat : Int) else (c.toNat : Int) - 256) (by omega) (by split <;> simp <;> omega) (by split <;> simp <;> omega)
  rw [Nat.zero_add] at h2 h3
  have e : sigN c l = (if c.toNat < 128 then (c.toNat : Int) else (c.toNat : Int) - 256) * 256 ^ l.length + (foldN 0 l 0 : Nat) := by
    unfold sigN
    rw [sig_first]
    exact h1
  rw [e]
  exact ⟨rfl, h2, h3⟩
theorem mod_pow {n : Int} {k : Nat} (hk : k ≤ 8) : ((u64N n : Nat) : Int) % ((256 ^ k : Nat) : Int) = n % ((256 ^ k : Nat) : Int) := by
  unfold u64N
  have e : (18446744073709551616 : Int) = ((256 ^ k : Nat) : Int) * ((256 ^ (8 - k) : Nat) : Int) := by
    rw [← Int.natCast_mul, ← pow_split hk]
    rfl
  rw [Int.toNat_of_nonneg (Int.emod_nonneg _ (by omega))]
  exact Int.emod_emod_of_dvd n ⟨_, e⟩
/-- the bytes of a number that bytes tell are these bytes -/
theorem be_sig (c : UInt8) (l : List UInt8) (h : l.length ≤ 7) : beN (u64N (sigN c l)) (l.length + 1) = c :: l := by
  obtain ⟨h1, _, _⟩ := sig_val c l h
  have hb := be_foldN 0 (c :: l) 0
  rw [turn_no] at hb
  refine Eq.trans (be_inj ?_) hb
  have hm := mod_pow (n := sigN c l) (k := l.length + 1) (by omega)
  have hf : foldN 0 (c :: l) 0 = c.toNat * 256 ^ l.length + foldN 0 l 0 := by
    have e : foldN 0 (c :: l) 0 = foldN 0 l (0 * 256 + (c ^^^ 0).toNat) := rfl
    rw [e, (foldN_eq 0 l _).1, UInt8.xor_zero]
    simp
  have hx : sigN c l % ((256 ^ (l.length + 1) : Nat) : Int) = ((foldN 0 (c :: l) 0 : Nat) : Int) % ((256 ^ (l.length + 1) : Nat) : Int) := by
    have hp : ((256 ^ (l.length + 1) : Nat) : Int) = 256 * 256 ^ l.length := by rw [pc, Int.pow_succ, Int.mul_comm]
    rw [h1, hf, Int.natCast_add, Int.natCast_mul, pc l.length]
    split
    · rfl
    · rw [Int.sub_mul, ← hp]
      rw [show (c.toNat : Int) * 256 ^ l.length - ((256 ^ (l.length + 1) : Nat) : Int) + (foldN 0 l 0 : Nat) = ((c.toNat : Int) * 256 ^ l.length + (foldN 0 l 0 : Nat)) - ((256 ^ (l.length + 1) : Nat) : Int) from by omega]
      exact Int.sub_emod_right _ _
  rw [hx, ← Int.natCast_emod, ← Int.natCast_emod] at hm
  exact Int.ofNat.inj hm
theorem lenF_fits : ∀ (f : Nat) (m : Int), -128 * 256 ^ f ≤ m → m ≤ 128 * 256 ^ f - 1 → -128 * 256 ^ (lenF f m - 1) ≤ m ∧ m ≤ 128 * 256 ^ (lenF f m - 1) - 1
  | 0, m, h1, h2 => ⟨h1, h2⟩
  | f + 1, m, h1, h2 => by
    by_cases h : -128 ≤ m ∧ m ≤ 127
    · rw [lenF_in h]; simp; omega
    · obtain ⟨g, hg, e1, e2, e3⟩ := lenF_out h h1 h2
      obtain rfl : f = g := by omega
      obtain ⟨i1, i2⟩ := lenF_fits f (m / 256) e2 e3
      have hr := (lenF_range f (m / 256)).1
      rw [e1, show lenF f (m / 256) + 1 - 1 = (lenF f (m / 256) - 1) + 1 from by omega, Int.pow_succ]
      generalize (256 : Int) ^ (lenF f (m / 256) - 1) = q at *
      omega
theorem lenI_fits {n : Int} (h : In64 n) : 1 ≤ lenI n ∧ lenI n ≤ 8 ∧ -128 * 256 ^ (lenI n - 1) ≤ n ∧ n ≤ 128 * 256 ^ (lenI n - 1) - 1 := by
  obtain ⟨a, b⟩ := h
  have h1 := lenF_range 7 n
  have h2 := lenF_fits 7 n (by omega) (by omega)
  exact ⟨h1.1, h1.2, h2⟩
/-- a number's bytes tell it -/
theorem sig_be {n : Int} (h : In64 n) {c : UInt8} {l : List UInt8} (e : beN (u64N n) (lenI n) = c :: l) : sigN c l = n := by
  obtain ⟨h1, h2, h3, h4⟩ := lenI_fits h
  have hl : l.length + 1 = lenI n := by
    have := congrArg List.length e
    rw [beN_length] at this
    simpa using this.symm
  have hb := be_sig c l (by omega)
  obtain ⟨_, g1, g2⟩ := sig_val c l (by omega)
  rw [hl] at hb
  have hf : foldN 0 (beN (u64N (sigN c l)) (lenI n)) 0 = foldN 0 (beN (u64N n) (lenI n)) 0 := by rw [hb, e]
  rw [fold_be, fold_be] at hf
  have m1 := mod_pow (n := n) h2
  have m2 := mod_pow (n := sigN c l) h2
  have hf2 : ((u64N (sigN c l) : Nat) : Int) % ((256 ^ lenI n : Nat) : Int) = ((u64N n : Nat) : Int) % ((256 ^ lenI n : Nat) : Int) := by rw [← Int.natCast_emod, ← Int.natCast_emod, hf]
  rw [m1, m2] at hf2
  have hp : ((256 ^ lenI n : Nat) : Int) = 256 * 256 ^ l.length := by rw [← hl, pc, Int.pow_succ, Int.mul_comm]
  rw [show lenI n - 1 = l.length from by omega] at h3 h4
  rw [hp] at hf2
  generalize (256 : Int) ^ l.length = q at *
  generalize sigN c l = y at *
  have e1 := Int.emod_add_mul_ediv y (256 * q)
  have e2 := Int.emod_add_mul_ediv n (256 * q)
  have hq : 0 < q := by omega
  generalize y / (256 * q) = u at *
  generalize n / (256 * q) = v at *
  rw [hf2] at e1
  have hd2 : 256 * q * (u - v) = y - n := by rw [Int.mul_sub]; omega
  have hlt : y - n < 256 * q := by omega
  have hgt : -(256 * q) < y - n := by omega
  rw [← hd2] at hlt hgt
  have hu : u - v < 1 := by
    rcases Int.lt_or_le (u - v) 1 with h | h
    · exact h
    · have := Int.mul_le_mul_of_nonneg_left h (show 0 ≤ 256 * q by omega)
      omega
  have hv : -1 < u - v := by
    rcases Int.lt_or_le (-1) (u - v) with h | h
    · exact h
    · have := Int.mul_le_mul_of_nonneg_left h (show 0 ≤ 256 * q by omega)
      omega
  have : u - v = 0 := by omega
  rw [this] at hd2
  omega
theorem sort_body (k n : Int) (s : ByteArray) (hr : Rt k n s) (hn : In64 n) : bodyN (sortN k n s) = (bodyL k n s).length := by
  have hl : s.data.toList.length = s.size := by rcases s with ⟨⟨l⟩⟩; rfl
  rcases hr with ⟨rfl, rfl, h⟩ | ⟨rfl, h⟩ | ⟨hk, rfl, h⟩
  · show bodyN 0 = s.data.toList.length
    rw [hl, h]; rfl
  · obtain ⟨h1, h2, _⟩ := lenI_fits hn
    show bodyN (lenI n) = (beN (u64N n) (lenI n)).length
    rw [beN_length, bodyN, if_pos (by omega)]
  · rcases hk with rfl | rfl
    · show bodyN (11 + 2 * s.size) = s.data.toList.length
      rw [hl, bodyN, if_neg (by omega)]; omega
    · show bodyN (10 + 2 * s.size) = s.data.toList.length
      rw [hl, bodyN, if_neg (by omega)]; omega
theorem none_bytes (s : ByteArray) (h : s.size = 0) : s = ⟨#[]⟩ := by
  rcases s with ⟨⟨l⟩⟩
  cases l with
  | nil => rfl
  | cons c l => simp [ByteArray.size] at h
theorem val_body (k n : Int) (s : ByteArray) (hr : Rt k n s) (hn : In64 n) : valN (sortN k n s) (bodyL k n s) = (k, n, s) := by
  rcases hr with ⟨rfl, rfl, h⟩ | ⟨rfl, h⟩ | ⟨hk, rfl, h⟩
  · rw [none_bytes s h]; rfl
  · obtain ⟨h1, h2, _⟩ := lenI_fits hn
    have e1 : sortN 1 n s = lenI n := rfl
    have e2 : bodyL 1 n s = beN (u64N n) (lenI n) := rfl
    rw [e1, e2]
    unfold valN
    rw [if_neg (by omega), if_pos (by omega)]
    cases hb : beN (u64N n) (lenI n) with
    | nil =>
      have := congrArg List.length hb
      rw [beN_length] at this
      simp at this
      omega
    | cons c l =>
      show ((1 : Int), sigN c l, (⟨#[]⟩ : ByteArray)) = (1, n, s)
      rw [sig_be hn hb, none_bytes s h]
  · rcases hk with rfl | rfl
    · have e1 : sortN 2 0 s = 11 + 2 * s.size := rfl
      rw [e1]
      unfold valN
      rw [if_neg (by omega), if_neg (by omega), if_neg (by omega)]
      rfl
    · have e1 : sortN 3 0 s = 10 + 2 * s.size := rfl
      rw [e1]
      unfold valN
      rw [if_neg (by omega), if_neg (by omega), if_pos (by omega)]
      rfl
theorem getB_body (k n : Int) (s : ByteArray) (r : List UInt8) (hr : Rt k n s) (hn : In64 n) : getB (sortN k n s) (bodyL k n s ++ r) = some ((k, n, s), r) := by
  have hb := sort_body k n s hr hn
  have hV : valN (sortN k n s) ((bodyL k n s ++ r).take (bodyL k n s).length) = (k, n, s) := by
    rw [List.take_left]
    exact val_body k n s hr hn
  rw [getB_eq hb (by simp) hV, if_pos ⟨hr, rfl⟩, List.drop_left]
theorem getB_inv {z : Nat} {b r : List UInt8} {k n : Int} {s : ByteArray} (h : getB z b = some ((k, n, s), r)) : b = bodyL k n s ++ r ∧ Rt k n s ∧ In64 n ∧ sortN k n s = z := by
  have h64 := valN_64 z (b.take (bodyN z))
  obtain ⟨⟨k1, n1, s1⟩, hV⟩ : ∃ q, valN z (b.take (bodyN z)) = q := ⟨_, rfl⟩
  by_cases hs : b.length < bodyN z
  · rw [getB, if_pos hs] at h; cases h
  · rw [getB_eq rfl (by omega) hV] at h
    rw [hV] at h64
    split at h
    · rename_i hh
      obtain ⟨g1, g2⟩ := hh
      injection h with h
      injection h with h1 h2
      injection h1 with h3 h4
      injection h4 with h5 h6
      subst h2 h3 h5 h6
      refine ⟨?_, g1, h64, g2⟩
      have hbody : bodyL k1 n1 s1 = b.take (bodyN z) := by
        have hsb := sort_body k1 n1 s1 g1 h64
        have hlt : (b.take (bodyN z)).length = bodyN z := by rw [List.length_take]; omega
        by_cases z0 : z = 0
        · subst z0
          have e0 : b.take (bodyN 0) = [] := rfl
          rw [e0] at hV ⊢
          have : (k1, n1, s1) = ((0 : Int), (0 : Int), (⟨#[]⟩ : ByteArray)) := hV.symm
          injection this with a1 a2
          injection a2 with a2 a3
          subst a1 a2 a3
          rfl
        · by_cases z1 : z < 10
          · have hbz : bodyN z = z := by rw [bodyN, if_pos z1]
            rw [hbz] at hV hlt ⊢
            unfold valN at hV
            rw [if_neg z0, if_pos z1] at hV
            cases hl : b.take z with
            | nil => rw [hl] at hlt; simp at hlt; omega
            | cons c m =>
              rw [hl] at hV hlt
              have : ((1 : Int), sigN c m, (⟨#[]⟩ : ByteArray)) = (k1, n1, s1) := hV
              injection this with a1 a2
              injection a2 with a2 a3
              subst a1 a2 a3
              obtain ⟨l1, l2, _⟩ := lenI_fits h64
              have e1 : sortN 1 (sigN c m) ⟨#[]⟩ = lenI (sigN c m) := rfl
              rw [e1] at g2
              simp only [List.length_cons] at hlt
              show beN (u64N (sigN c m)) (lenI (sigN c m)) = c :: m
              have l3 : lenI (sigN c m) ≤ 8 := l2
              rw [g2, ← hlt]
              exact be_sig c m (by omega)
          · unfold valN at hV
            rw [if_neg z0, if_neg z1] at hV
            injection hV with a1 a2
            injection a2 with a2 a3
            subst a1 a2 a3
            unfold bodyL
            rw [if_neg (by split <;> omega)]
      rw [hbody, List.take_append_drop]
    · cases h
theorem getHs_sorts : ∀ (vs : List Trip) (r : List UInt8), (∀ v ∈ vs, v.2.2.size ≤ 65536) → getHs vs.length (sortsL vs ++ r) = some (vs.map (fun v => sortN v.1 v.2.1 v.2.2), r)
  | [], r, _ => rfl
  | (k, n, s) :: vs, r, h => by
    have hs := sortN_lt k n s (h _ List.mem_cons_self)
    have e : sortsL ((k, n, s) :: vs) ++ r = Lib.uvarint (sortN k n s) ++ (sortsL vs ++ r) := by simp [sortsL]
    have hd := decU_enc 10 0 0 (sortN k n s) (sortsL vs ++ r) (by omega) (by omega) (by omega) (by omega)
    rw [e, List.length_cons, getHs, hd]
    simp only [Nat.zero_add, Nat.pow_zero, Nat.mul_one, if_true, List.drop_left]
    rw [getHs_sorts vs r fun v hv => h v (List.mem_cons_of_mem _ hv)]
    rfl
theorem getHs_inv : ∀ (k : Nat) (l : List UInt8) (zs : List Nat) (r : List UInt8), getHs k l = some (zs, r) → l = (zs.map Lib.uvarint).flatten ++ r ∧ zs.length = k
  | 0, l, zs, r, h => by
    injection h with h
    injection h with h1 h2
    subst h1 h2
    exact ⟨rfl, rfl⟩
  | k + 1, l, zs, r, h => by
    obtain ⟨⟨n1, k1, e1⟩, hd⟩ : ∃ q, decU 10 0 0 l = q := ⟨_, rfl⟩
    rw [getHs, hd] at h
    split at h
    · rename_i he
      simp only at he
      subst he
      obtain ⟨m, hm1, hm2, ⟨rest, hm3⟩, _⟩ := decU_back 10 0 0 n1 k1 l (by omega) hd
      simp only [Nat.pow_zero, Nat.mul_one, Nat.zero_add] at hm1 hm2
      subst hm1 hm2 hm3
      simp only [List.drop_left] at h
      cases hg : getHs k rest with
      | none => rw [hg] at h; cases h
      | some p =>
        rw [hg] at h
        obtain ⟨ys, q⟩ := p
        injection h with h
        injection h with h1 h2
        subst h1 h2
        obtain ⟨g1, g2⟩ := getHs_inv k rest ys q hg
        refine ⟨?_, by simp [g2]⟩
        simp only [List.map_cons, List.flatten_cons, List.append_assoc]
        rw [← g1]
    · cases h
theorem getBs_bodies : ∀ (vs : List Trip) (r : List UInt8), (∀ v ∈ vs, Rt v.1 v.2.1 v.2.2 ∧ In64 v.2.1) → getBs (vs.map (fun v => sortN v.1 v.2.1 v.2.2)) (bodiesL vs ++ r) = if r = [] then some vs else none
  | [], r, _ => rfl
  | (k, n, s) :: vs, r, h => by
    obtain ⟨hr, hn⟩ := h (k, n, s) List.mem_cons_self
    have e : bodiesL ((k, n, s) :: vs) ++ r = bodyL k n s ++ (bodiesL vs ++ r) := by simp [bodiesL]
    rw [e, List.map_cons, getBs, getB_body k n s _ hr hn]
    show (getBs (vs.map (fun v => sortN v.1 v.2.1 v.2.2)) (bodiesL vs ++ r)).map ((k, n, s) :: ·) = _
    rw [getBs_bodies vs r fun v hv => h v (List.mem_cons_of_mem _ hv)]
    by_cases h : r = []
    · rw [if_pos h, if_pos h]; rfl
    · rw [if_neg h, if_neg h]; rfl
theorem getBs_inv : ∀ (zs : List Nat) (b : List UInt8) (vs : List Trip), getBs zs b = some vs → b = bodiesL vs ∧ (∀ v ∈ vs, Rt v.1 v.2.1 v.2.2 ∧ In64 v.2.1) ∧ vs.map (fun v => sortN v.1 v.2.1 v.2.2) = zs
  | [], b, vs, h => by
    rw [getBs] at h
    split at h
    · rename_i hb
      injection h with h
      subst h hb
      exact ⟨rfl, (fun v hv => absurd hv (by simp)), rfl⟩
    · cases h
  | z :: zs, b, vs, h => by
    rw [getBs] at h
    cases hp : getB z b with
    | none => rw [hp] at h; cases h
    | some p =>
      obtain ⟨⟨k, n, s⟩, r⟩ := p
      rw [hp] at h
      obtain ⟨h1, h2, h3, h4⟩ := getB_inv hp
      replace h : (getBs zs r).map ((k, n, s) :: ·) = some vs := h
      cases hk : getBs zs r with
      | none => rw [hk] at h; cases h
      | some ws =>
        rw [hk] at h
        injection h with h
        subst h
        obtain ⟨g1, g2, g3⟩ := getBs_inv zs r ws hk
        refine ⟨?_, fun v hv => ?_, ?_⟩
        · rw [h1, g1]; simp [bodiesL]
        · rcases List.mem_cons.1 hv with rfl | hv
          · exact ⟨h2, h3⟩
          · exact g2 v hv
        · rw [List.map_cons, g3, h4]
theorem rt_size {k n : Int} {s : ByteArray} (h : Rt k n s) : s.size ≤ 65536 := by
  rcases h with ⟨_, _, h⟩ | ⟨_, h⟩ | ⟨_, _, h⟩ <;> omega
theorem sorts_flat : ∀ vs : List Trip, ((vs.map (fun v => sortN v.1 v.2.1 v.2.2)).map Lib.uvarint).flatten = sortsL vs
  | [] => rfl
  | (k, n, s) :: vs => by
    simp only [List.map_cons, List.flatten_cons]
    rw [sorts_flat vs]
    rfl
/-- A ROW IS GOT BACK -/
theorem getN_put (vs : List Trip) (r : List UInt8) (h : ∀ v ∈ vs, Rt v.1 v.2.1 v.2.2 ∧ In64 v.2.1) (hl : vs.length ≤ 200) (hlen : (putL vs ++ r).length ≤ 1048576) : getN (putL vs ++ r) = if r = [] then some vs else none := by
  rw [getN, if_pos hlen, putL, headL, List.append_assoc, List.append_assoc]
  have hd := decU_enc 10 0 0 vs.length (sortsL vs ++ (bodiesL vs ++ r)) (by omega) (by omega) (by omega) (by omega)
  rw [getH, hd]
  simp only [Nat.zero_add, Nat.pow_zero, Nat.mul_one, List.drop_left]
  rw [if_pos ⟨trivial, hl⟩, getHs_sorts vs _ fun v hv => rt_size (h v hv).1]
  show getBs (vs.map (fun v => sortN v.1 v.2.1 v.2.2)) (bodiesL vs ++ r) = _
  exact getBs_bodies vs r h
/-- what is got is what would be put -/
theorem getN_inv {b : List UInt8} {vs : List Trip} (h : getN b = some vs) : b = putL vs ∧ (∀ v ∈ vs, Rt v.1 v.2.1 v.2.2 ∧ In64 v.2.1) ∧ vs.length ≤ 200 ∧ b.length ≤ 1048576 := by
  rw [getN] at h
  split at h
  · rename_i hb
    cases hg : getH b with
    | none => rw [hg] at h; cases h
    | some p =>
      obtain ⟨zs, r⟩ := p
      rw [hg] at h
      replace h : getBs zs r = some vs := h
      obtain ⟨g1, g2, g3⟩ := getBs_inv zs r vs h
      rw [getH] at hg
      split at hg
      · rename_i hh
        obtain ⟨⟨n1, k1, e1⟩, hd⟩ : ∃ q, decU 10 0 0 b = q := ⟨_, rfl⟩
        rw [hd] at hg hh
        simp only at hg hh
        obtain ⟨rfl, hn⟩ := hh
        obtain ⟨m, hm1, hm2, ⟨rest, hm3⟩, _⟩ := decU_back 10 0 0 n1 k1 b (by omega) hd
        simp only [Nat.pow_zero, Nat.mul_one, Nat.zero_add] at hm1 hm2
        subst hm1 hm2 hm3
        simp only [List.drop_left] at hg
        obtain ⟨q1, q2⟩ := getHs_inv _ _ _ _ hg
        have hlen : vs.length = n1 := by rw [← q2, ← g3, List.length_map]
        refine ⟨?_, g2, by omega, hb⟩
        rw [q1, ← g3, sorts_flat, g1, putL, headL, hlen, List.append_assoc]
      · cases hg
  · cases h
theorem getN_cut {vs : List Trip} (h : ∀ v ∈ vs, Rt v.1 v.2.1 v.2.2 ∧ In64 v.2.1) (hl : vs.length ≤ 200) (hlen : (putL vs).length ≤ 1048576) {k : Nat} (hk : k < (putL vs).length) : getN ((putL vs).take k) = none := by
  cases hg : getN ((putL vs).take k) with
  | none => rfl
  | some ws =>
    obtain ⟨h1, h2, h3, _⟩ := getN_inv hg
    have h4 := getN_put ws ((putL vs).drop k) h2 h3 (by rw [← h1, List.take_append_drop]; exact hlen)
    rw [← h1, List.take_append_drop, if_neg (fun e => by have := congrArg List.length e; rw [List.length_drop] at this; simp at this; omega)] at h4
    have h5 := getN_put vs [] h hl (by rw [List.append_nil]; exact hlen)
    rw [List.append_nil, h4] at h5
    cases h5
theorem getN_more {vs : List Trip} (h : ∀ v ∈ vs, Rt v.1 v.2.1 v.2.2 ∧ In64 v.2.1) (hl : vs.length ≤ 200) {r : List UInt8} (hr : r ≠ []) : getN (putL vs ++ r) = none := by
  by_cases hlen : (putL vs ++ r).length ≤ 1048576
  · rw [getN_put vs r h hl hlen, if_neg hr]
  · rw [getN, if_neg hlen]
theorem bodies_len : ∀ vs : List Trip, (∀ v ∈ vs, Rt v.1 v.2.1 v.2.2 ∧ In64 v.2.1) → (bodiesL vs).length = sumB vs
  | [], _ => rfl
  | (k, n, s) :: vs, h => by
    obtain ⟨hr, hn⟩ := h (k, n, s) List.mem_cons_self
    have ih := bodies_len vs fun v hv => h v (List.mem_cons_of_mem _ hv)
    have e : bodiesL ((k, n, s) :: vs) = bodyL k n s ++ bodiesL vs := rfl
    have e2 : sumB ((k, n, s) :: vs) = bodyN (sortN k n s) + sumB vs := by simp [sumB]
    rw [e, e2, List.length_append, ih, sort_body k n s hr hn]
end Go.Proofs.Ytdhdfeiobjmdaaa
