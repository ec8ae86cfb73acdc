/- Floats that are whole numbers: what the operations of IEEE 754 give of them. Of no program. Which floats are whole numbers that may be parts of a weight; a float's sign turned; its own word. Of no program. -/
import Derived.Laws.ComplexArith
import Derived.Laws.Cover3
import Derived.IntWalk
import Derived.Laws.BitsLemmas
namespace Go.Proofs.YtijdbmapdmhknaaDoor
open Ieee (Datum Format signed double)

/-! ### A sign, a magnitude and a place stand for a whole number. -/
def sg (s : Bool) : Int := if s then -1 else 1

theorem signed_eq (s : Bool) (m u : Nat) : signed s m u = sg s * ((m : Int) * 2 ^ u) := by
  unfold signed sg
  rw [Nat.shiftLeft_eq]
  cases s <;> simp

/-- 's m * 2 ^ p = n'. -/
def ValD (s : Bool) (m : Nat) (p : Int) (n : Int) : Prop := ∀ u v : Nat, (u : Int) - v = p → sg s * ((m : Int) * 2 ^ u) = n * 2 ^ v

theorem two_pos (k : Nat) : (0 : Int) < 2 ^ k := Int.pow_pos (by omega)

theorem valD_of {s : Bool} {m : Nat} {p n : Int} (u v : Nat) (h : (u : Int) - v = p) (e : sg s * ((m : Int) * 2 ^ u) = n * 2 ^ v) : ValD s m p n := by
  intro u' v' h'
  have hk : u + v' = u' + v := by omega
  have e2 : sg s * ((m : Int) * 2 ^ u) * 2 ^ v' = n * 2 ^ v * 2 ^ v' := by rw [e]
  have e3 : (sg s * ((m : Int) * 2 ^ u')) * 2 ^ v = (n * 2 ^ v') * 2 ^ v := by
    have a1 : (sg s * ((m : Int) * 2 ^ u')) * 2 ^ v = sg s * (m : Int) * 2 ^ (u' + v) := by rw [Int.pow_add]; simp only [Int.mul_assoc]
    have a2 : sg s * ((m : Int) * 2 ^ u) * 2 ^ v' = sg s * (m : Int) * 2 ^ (u + v') := by rw [Int.pow_add]; simp only [Int.mul_assoc]
    rw [a1, ← hk, ← a2, e2, Int.mul_assoc, Int.mul_assoc, Int.mul_comm (2 ^ v)]
  exact Int.eq_of_mul_eq_mul_right (Int.ne_of_gt (two_pos v)) e3

theorem sg_abs (s : Bool) (x : Int) : (sg s * x).natAbs = x.natAbs := by
  unfold sg; cases s <;> simp

theorem valD_abs {s : Bool} {m : Nat} {p n : Int} (h : ValD s m p n) (u v : Nat) (e : (u : Int) - v = p) : m * 2 ^ u = n.natAbs * 2 ^ v := by
  have h1 := congrArg Int.natAbs (h u v e)
  rw [sg_abs, Int.natAbs_mul, Int.natAbs_mul, Int.natAbs_natCast, Int.natAbs_pow, Int.natAbs_pow] at h1
  exact h1

/-! ### The nearest word hangs on the number alone. -/
theorem log2_mul_pow (m k : Nat) (h : m ≠ 0) : (m * 2 ^ k).log2 = m.log2 + k := by
  have hp : 0 < 2 ^ k := Nat.two_pow_pos k
  have hm : m * 2 ^ k ≠ 0 := Nat.mul_ne_zero h (by omega)
  rw [Nat.log2_eq_iff hm]
  have h1 := (Nat.log2_eq_iff h).1 rfl
  rw [Nat.pow_add, show m.log2 + k + 1 = m.log2 + 1 + k by omega, Nat.pow_add]
  exact ⟨Nat.mul_le_mul_right _ h1.1, (Nat.mul_lt_mul_right hp).2 h1.2⟩

theorem cut_exact (neg : Bool) (n d : Nat) (hd : d ≤ n.log2 + 2) (h : n % 2 ^ d = 0) : Ieee.Toward.even.cut neg n d = n / 2 ^ d := by
  unfold Ieee.Toward.cut
  have e : min d (n.log2 + 2) = d := Nat.min_eq_left hd
  have hp : 0 < 2 ^ d := Nat.two_pow_pos d
  simp only [e, Nat.shiftLeft_eq, Nat.one_mul, h]
  simp

theorem cut_even_shift (neg : Bool) (n d k : Nat) (h : n ≠ 0) : Ieee.Toward.even.cut neg (n * 2 ^ k) (d + k) = Ieee.Toward.even.cut neg n d := by
  unfold Ieee.Toward.cut
  have hp : 0 < 2 ^ k := Nat.two_pow_pos k
  have e : min (d + k) ((n * 2 ^ k).log2 + 2) = min d (n.log2 + 2) + k := by rw [log2_mul_pow n k h]; omega
  simp only [e, Nat.shiftLeft_eq, Nat.one_mul]
  obtain ⟨g, hg⟩ : ∃ g, g = 2 ^ min d (n.log2 + 2) := ⟨_, rfl⟩
  rw [Nat.pow_add, ← hg]
  rw [Nat.mul_div_mul_right _ _ hp, Nat.mul_mod_mul_right]
  have e1 : decide (g * 2 ^ k < 2 * (n % g * 2 ^ k)) = decide (g < 2 * (n % g)) := by
    rw [← Nat.mul_assoc]
    exact decide_eq_decide.2 (Nat.mul_lt_mul_right hp)
  have e2 : (g * 2 ^ k == 2 * (n % g * 2 ^ k)) = (g == 2 * (n % g)) := by
    rw [← Nat.mul_assoc]
    rw [Bool.eq_iff_iff, beq_iff_eq, beq_iff_eq]
    exact ⟨fun h => Nat.eq_of_mul_eq_mul_right hp h, fun h => congrArg (· * 2 ^ k) h⟩
  rw [e1, e2]

theorem nearest_shift (s : Bool) (m k : Nat) (p : Int) : double.nearest s (m * 2 ^ k) (p - k) = double.nearest s m p := by
  have hp : 0 < 2 ^ k := Nat.two_pow_pos k
  by_cases h : m = 0
  · subst h; simp [Format.nearest]
  have hm : m * 2 ^ k ≠ 0 := Nat.mul_ne_zero h (by omega)
  unfold Format.nearest
  rw [if_neg h, if_neg hm]
  simp only [log2_mul_pow m k h]
  have elast : max (p - k + ((m.log2 + k : Nat) : Int) - double.fractionBits) double.leastPlace = max (p + (m.log2 : Int) - double.fractionBits) double.leastPlace := by
    congr 1
    omega
  rw [elast]
  obtain ⟨last, hl⟩ : ∃ last, last = max (p + (m.log2 : Int) - double.fractionBits) double.leastPlace := ⟨_, rfl⟩
  rw [← hl]
  have ek : Ieee.Toward.even.cut s ((m * 2 ^ k) <<< (p - k - last).toNat) (last - (p - k)).toNat = Ieee.Toward.even.cut s (m <<< (p - last).toNat) (last - p).toNat := by
    by_cases c : last ≤ p
    · have e0 : (last - p).toNat = 0 := by omega
      rw [e0]
      by_cases c2 : last ≤ p - k
      · have e1 : (last - (p - k)).toNat = 0 := by omega
        rw [e1, Nat.shiftLeft_eq, Nat.shiftLeft_eq, Nat.mul_assoc, ← Nat.pow_add]
        have e2 : k + (p - k - last).toNat = (p - last).toNat := by omega
        rw [e2]
      · have e1 : (p - k - last).toNat = 0 := by omega
        obtain ⟨d, hd⟩ : ∃ d, d = (last - (p - k)).toNat := ⟨_, rfl⟩
        obtain ⟨q, hq⟩ : ∃ q, q = (p - last).toNat := ⟨_, rfl⟩
        have hk : k = q + d := by omega
        rw [e1, ← hd, ← hq, Nat.shiftLeft_eq, Nat.shiftLeft_eq, Nat.pow_zero, Nat.mul_one]
        have e3 : m * 2 ^ k = (m * 2 ^ q) * 2 ^ d := by rw [hk, Nat.pow_add, Nat.mul_assoc]
        rw [cut_exact s _ 0 (by omega) (by rw [Nat.pow_zero, Nat.mod_one]), Nat.pow_zero, Nat.div_one]
        rw [cut_exact s _ d (by rw [log2_mul_pow m k h]; omega) (by rw [e3, Nat.mul_mod_left]), e3, Nat.mul_div_cancel _ (Nat.two_pow_pos d)]
    · have e1 : (p - k - last).toNat = 0 := by omega
      have e0 : (p - last).toNat = 0 := by omega
      have e2 : (last - (p - k)).toNat = (last - p).toNat + k := by omega
      rw [e0, e1, e2, Nat.shiftLeft_eq, Nat.shiftLeft_eq, Nat.pow_zero, Nat.mul_one, Nat.mul_one, cut_even_shift s m _ k h]
  rw [ek]

/-- The float nearest a whole number, whose sign is s. -/
theorem nearest_val {s : Bool} {m : Nat} {p n : Int} (h : ValD s m p n) : double.nearest s m p = double.nearest s n.natAbs 0 := by
  by_cases c : 0 ≤ p
  · have e := valD_abs h p.toNat 0 (by omega)
    rw [Nat.pow_zero, Nat.mul_one] at e
    rw [← e, ← nearest_shift s m p.toNat p, show p - (p.toNat : Int) = 0 by omega]
  · have e := valD_abs h 0 (-p).toNat (by omega)
    rw [Nat.pow_zero, Nat.mul_one] at e
    rw [e]
    have := nearest_shift s n.natAbs (-p).toNat 0
    rw [show (0 : Int) - ((-p).toNat : Int) = p by omega] at this
    exact this

/-! ### What is read of the nearest word. -/
theorem read_word (s : Bool) (rung : Nat) (h : rung < 2 ^ 63) : double.read (double.word s rung) =
    if rung < 2 ^ 52 then .number s rung (-1074)
    else if rung < 2047 * 2 ^ 52 then .number s (2 ^ 52 + rung % 2 ^ 52) (-1074 + (rung / 2 ^ 52 - 1 : Nat))
    else if rung = 2047 * 2 ^ 52 then .infinity s else .nan s (rung - 2047 * 2 ^ 52) := by
  have e1 : double.signWeight = 2 ^ 63 := rfl
  have e2 : double.binade = 2 ^ 52 := rfl
  have e3 : double.infRung = 2047 * 2 ^ 52 := rfl
  have e4 : double.leastPlace = -1074 := rfl
  have hw : double.word s rung % 2 ^ 63 = rung ∧ (double.word s rung / 2 ^ 63 % 2 == 1) = s := by
    unfold Format.word
    rw [e1]
    cases s
    · simp only [Bool.false_eq_true, if_false]
      rw [Nat.mod_eq_of_lt h, Nat.div_eq_of_lt h]
      exact ⟨rfl, rfl⟩
    · simp only [if_true]
      rw [Nat.add_mod_left, Nat.mod_eq_of_lt h, Nat.add_div_left _ (Nat.two_pow_pos 63), Nat.div_eq_of_lt h]
      exact ⟨rfl, rfl⟩
  unfold Format.read
  rw [e1, e2, e3, e4]
  simp only [hw.1, hw.2]

theorem word_bounds (q M : Nat) (h1 : 1022 ≤ q) (h2 : q ≤ 1074) (hlo : 2 ^ 52 ≤ M) (hhi : M < 2 ^ 53) :
    q * 2 ^ 52 + M < 2 ^ 63 ∧ ¬ (q * 2 ^ 52 + M < 2 ^ 52) ∧ q * 2 ^ 52 + M < 2047 * 2 ^ 52 ∧ (q * 2 ^ 52 + M) / 2 ^ 52 = q + 1 ∧ (q * 2 ^ 52 + M) % 2 ^ 52 = M - 2 ^ 52 := by
  have e1 : (2 : Nat) ^ 53 = 2 * 2 ^ 52 := rfl
  have e2 : (2 : Nat) ^ 63 = 2048 * 2 ^ 52 := rfl
  rw [e1] at hhi
  rw [e2]
  have hB : 0 < 2 ^ 52 := Nat.two_pow_pos 52
  generalize (2 : Nat) ^ 52 = B at *
  obtain ⟨r, rfl⟩ : ∃ r, M = B + r := ⟨M - B, by omega⟩
  have hr : r < B := by omega
  have e3 : q * B + (B + r) = r + B * (q + 1) := by rw [Nat.mul_add, Nat.mul_comm q]; omega
  have a1 : B * (q + 1) ≤ B * 1075 := Nat.mul_le_mul_left _ (by omega)
  have a2 : B * 1023 ≤ B * (q + 1) := Nat.mul_le_mul_left _ (by omega)
  rw [e3, Nat.add_mul_div_left _ _ hB, Nat.add_mul_mod_self_left, Nat.div_eq_of_lt hr, Nat.mod_eq_of_lt hr]
  generalize B * (q + 1) = X at *
  refine ⟨by omega, by omega, by omega, by omega, by omega⟩

theorem read_nearest (s : Bool) (n : Nat) (hn : n ≤ 2 ^ 53) : ∃ m p, double.read (double.nearest s n 0) = .number s m p ∧ ∀ u v : Nat, (u : Int) - v = p → m * 2 ^ u = n * 2 ^ v := by
  by_cases h0 : n = 0
  · subst h0
    refine ⟨0, -1074, ?_, fun u v _ => by simp⟩
    have e : double.nearest s 0 0 = double.word s 0 := rfl
    rw [e, read_word s 0 (Nat.two_pow_pos 63), if_pos (Nat.two_pow_pos 52)]
  have hl := (Nat.log2_eq_iff h0).1 rfl
  have hl53 : n.log2 ≤ 53 := by
    by_cases c : n.log2 ≤ 53
    · exact c
    · have : 2 ^ 54 ≤ 2 ^ n.log2 := Nat.pow_le_pow_right (by omega) (by omega)
      omega
  unfold Format.nearest
  rw [if_neg h0]
  have e2 : double.binade = 2 ^ 52 := rfl
  have e3 : double.infRung = 2047 * 2 ^ 52 := rfl
  have e4 : double.leastPlace = -1074 := rfl
  have e5 : (double.fractionBits : Int) = 52 := rfl
  simp only [e2, e3, e4, e5]
  have elast : max ((0 : Int) + (n.log2 : Int) - 52) (-1074) = (n.log2 : Int) - 52 := by omega
  rw [elast]
  by_cases h53 : n.log2 = 53
  · have hn' : n = 2 ^ 53 := by rw [h53] at hl; omega
    subst hn'
    refine ⟨2 ^ 52, 1, ?_, fun u v huv => ?_⟩
    · rw [h53]
      have ek : Ieee.Toward.even.cut s ((2 ^ 53) <<< (0 - (((53 : Nat) : Int) - 52)).toNat) ((((53 : Nat) : Int) - 52) - 0).toNat = 2 ^ 52 := by
        cases s <;> decide +kernel
      rw [ek]
      have er : min (((((53 : Nat) : Int) - 52) - (-1074)).toNat * 2 ^ 52 + 2 ^ 52) (2047 * 2 ^ 52) = 1076 * 2 ^ 52 := by decide +kernel
      rw [er, read_word s _ (by decide), if_neg (by decide), if_pos (by decide)]
      rfl
    · have : u = v + 1 := by omega
      subst this
      rw [show (2 : Nat) ^ (v + 1) = 2 * 2 ^ v by rw [Nat.pow_succ, Nat.mul_comm], ← Nat.mul_assoc]
  · have hle : n.log2 ≤ 52 := by omega
    obtain ⟨k, hk⟩ : ∃ k, k = 52 - n.log2 := ⟨_, rfl⟩
    have eA : (0 - ((n.log2 : Int) - 52)).toNat = k := by omega
    have eB : ((n.log2 : Int) - 52 - 0).toNat = 0 := by omega
    rw [eA, eB, Nat.shiftLeft_eq, cut_exact s _ 0 (by omega) (by rw [Nat.pow_zero, Nat.mod_one]), Nat.pow_zero, Nat.div_one]
    have hlo : 2 ^ 52 ≤ n * 2 ^ k := by
      have : 2 ^ n.log2 * 2 ^ k ≤ n * 2 ^ k := Nat.mul_le_mul_right _ hl.1
      rw [← Nat.pow_add, show n.log2 + k = 52 by omega] at this
      exact this
    have hhi : n * 2 ^ k < 2 ^ 53 := by
      have : n * 2 ^ k < 2 ^ (n.log2 + 1) * 2 ^ k := (Nat.mul_lt_mul_right (Nat.two_pow_pos k)).2 hl.2
      rw [← Nat.pow_add, show n.log2 + 1 + k = 53 by omega] at this
      exact this
    have eC : ((n.log2 : Int) - 52 - (-1074)).toNat = 1022 + n.log2 := by omega
    rw [eC]
    obtain ⟨q, hq⟩ : ∃ q, q = 1022 + n.log2 := ⟨_, rfl⟩
    have hq1 : 1022 ≤ q := by omega
    have hq2 : q ≤ 1074 := by omega
    obtain ⟨M, hM⟩ : ∃ M, M = n * 2 ^ k := ⟨_, rfl⟩
    rw [← hM] at hlo hhi
    have hc1 := word_bounds q M hq1 hq2 hlo hhi
    have hmin : min (q * 2 ^ 52 + M) (2047 * 2 ^ 52) = q * 2 ^ 52 + M := Nat.min_eq_left (Nat.le_of_lt hc1.2.2.1)
    rw [← hM, ← hq, hmin, read_word s _ hc1.1, if_neg hc1.2.1, if_pos hc1.2.2.1, hc1.2.2.2.1, hc1.2.2.2.2]
    refine ⟨2 ^ 52 + (M - 2 ^ 52), -1074 + ((q + 1 - 1 : Nat) : Int), rfl, fun u v huv => ?_⟩
    have hM2 : 2 ^ 52 + (M - 2 ^ 52) = M := Nat.add_sub_cancel' hlo
    rw [hM2, hM, Nat.mul_assoc, ← Nat.pow_add]
    have huv2 : k + u = v := by
      clear hlo hhi hM2 hc1 hmin e2 e3 hn hl hM
      omega
    rw [huv2]

/-! ### The words that stand for a whole number. -/
/-- The word x stands for the number n. -/
def Val (x : Nat) (n : Int) : Prop := ∃ s m p, double.read x = .number s m p ∧ ValD s m p n

/-- The sign of a word. -/
def neg? (x : Nat) : Bool := (double.read x).neg

/-- The word of a whole number (of 0: without a sign). -/
def flt (n : Int) : Nat := double.nearest (decide (n < 0)) n.natAbs 0

theorem floatOfInt_flt (n : Int) : floatOfInt .f64 n = flt n := rfl

theorem val_nearest (s : Bool) (n : Int) (h : n.natAbs ≤ 2 ^ 53) (hs : n = sg s * n.natAbs) : Val (double.nearest s n.natAbs 0) n ∧ neg? (double.nearest s n.natAbs 0) = s := by
  obtain ⟨m, p, hr, hv⟩ := read_nearest s n.natAbs h
  refine ⟨⟨s, m, p, hr, fun u v e => ?_⟩, by unfold neg?; rw [hr]; rfl⟩
  have h1 := hv u v e
  have h2 : ((m * 2 ^ u : Nat) : Int) = ((n.natAbs * 2 ^ v : Nat) : Int) := by rw [h1]
  push_cast at h2
  conv => rhs; rw [hs]
  rw [h2, Int.mul_assoc]

theorem val_flt (n : Int) (h : n.natAbs ≤ 2 ^ 53) : Val (flt n) n ∧ neg? (flt n) = decide (n < 0) := by
  refine val_nearest _ n h ?_
  unfold sg
  by_cases c : n < 0
  · simp [c]; omega
  · simp [c]; omega

theorem val_inj {x : Nat} {a b : Int} (ha : Val x a) (hb : Val x b) : a = b := by
  obtain ⟨s, m, p, hr, hv⟩ := ha
  obtain ⟨t, k, q, hr', hv'⟩ := hb
  rw [hr] at hr'
  cases hr'
  have h1 := hv p.toNat (-p).toNat (by omega)
  rw [hv' p.toNat (-p).toNat (by omega)] at h1
  exact Int.eq_of_mul_eq_mul_right (Int.ne_of_gt (two_pos _)) h1.symm

/-- A whole number's sign, where it is none's. -/
theorem sg_of_val {s : Bool} {m : Nat} {p n : Int} (h : ValD s m p n) (h0 : n ≠ 0) : s = decide (n < 0) := by
  have h1 := h p.toNat (-p).toNat (by omega)
  have a := two_pos p.toNat
  have b := two_pos (-p).toNat
  have hm : (0 : Int) ≤ (m : Int) * 2 ^ p.toNat := Int.mul_nonneg (by omega) (by omega)
  cases s
  · have hn : (0 : Int) ≤ n * 2 ^ (-p).toNat := by rw [← h1]; simpa [sg] using hm
    have : 0 ≤ n := by
      by_cases c : 0 ≤ n
      · exact c
      · have := Int.mul_neg_of_neg_of_pos (show n < 0 by omega) b; omega
    simp; omega
  · have hn : n * 2 ^ (-p).toNat ≤ 0 := by rw [← h1]; simp [sg]; exact hm
    have : n ≤ 0 := by
      by_cases c : n ≤ 0
      · exact c
      · have := Int.mul_pos (show 0 < n by omega) b; omega
    simp; omega

theorem sg_val {s : Bool} {m : Nat} {p n : Int} (h : ValD s m p n) : n = sg s * n.natAbs := by
  by_cases h0 : n = 0
  · subst h0; simp
  · have := sg_of_val h h0
    subst this
    unfold sg
    by_cases c : n < 0
    · simp [c]; omega
    · simp [c]; omega

/-- What is written of a number. -/
theorem write_val {s : Bool} {m : Nat} {p n : Int} (h : ValD s m p n) : double.write (.number s m p) = double.nearest s n.natAbs 0 := nearest_val h

theorem write_flt {s : Bool} {m : Nat} {p n : Int} (h : ValD s m p n) (h0 : n ≠ 0 ∨ s = false) : double.write (.number s m p) = flt n := by
  rw [write_val h]
  unfold flt
  congr 1
  by_cases c : n = 0
  · subst c
    rcases h0 with h0 | h0
    · exact absurd rfl h0
    · subst h0; rfl
  · exact sg_of_val h c

theorem write_small {s : Bool} {m : Nat} {p n : Int} (h : ValD s m p n) (hn : n.natAbs ≤ 2 ^ 53) : Val (double.write (.number s m p)) n ∧ neg? (double.write (.number s m p)) = s := by
  rw [write_val h]
  exact val_nearest s n hn (sg_val h)

/-! ### The operations. -/
theorem mul_pow_split (a b : Int) (i j : Nat) : a * (b * 2 ^ (i + j)) = a * (b * 2 ^ i) * 2 ^ j := by
  rw [Int.pow_add]; simp only [Int.mul_assoc]

theorem sum_val {s t : Bool} {m n : Nat} {i j a b : Int} (ha : ValD s m i a) (hb : ValD t n j b) :
    ∃ r k p, Datum.sum (.number s m i) (.number t n j) = some (.number r k p) ∧ ValD r k p (a + b) ∧ (a + b = 0 → r = (s && t)) := by
  refine ⟨_, _, _, rfl, ?_, ?_⟩
  · obtain ⟨base, hbase⟩ : ∃ base, base = min i j := ⟨_, rfl⟩
    rw [← hbase]
    obtain ⟨T, hT⟩ : ∃ T, T = signed s m (i - base).toNat + signed t n (j - base).toNat := ⟨_, rfl⟩
    rw [← hT]
    refine valD_of base.toNat (-base).toNat (by omega) ?_
    have e1 : signed s m (i - base).toNat * 2 ^ base.toNat = a * 2 ^ (-base).toNat := by
      rw [signed_eq, ← mul_pow_split]
      exact ha _ _ (by omega)
    have e2 : signed t n (j - base).toNat * 2 ^ base.toNat = b * 2 ^ (-base).toNat := by
      rw [signed_eq, ← mul_pow_split]
      exact hb _ _ (by omega)
    have e3 : T * 2 ^ base.toNat = (a + b) * 2 ^ (-base).toNat := by rw [hT, Int.add_mul, e1, e2, ← Int.add_mul]
    rw [← e3, ← Int.mul_assoc]
    congr 1
    by_cases c : T = 0
    · simp [c]
    · rw [if_neg c]
      unfold sg
      by_cases d : T < 0
      · simp [d]; omega
      · simp [d]; omega
  · intro h0
    obtain ⟨base, hbase⟩ : ∃ base, base = min i j := ⟨_, rfl⟩
    rw [← hbase]
    have e1 : signed s m (i - base).toNat * 2 ^ base.toNat = a * 2 ^ (-base).toNat := by
      rw [signed_eq, ← mul_pow_split]
      exact ha _ _ (by omega)
    have e2 : signed t n (j - base).toNat * 2 ^ base.toNat = b * 2 ^ (-base).toNat := by
      rw [signed_eq, ← mul_pow_split]
      exact hb _ _ (by omega)
    have e3 : (signed s m (i - base).toNat + signed t n (j - base).toNat) * 2 ^ base.toNat = 0 := by rw [Int.add_mul, e1, e2, ← Int.add_mul, h0, Int.zero_mul]
    rw [if_pos]
    rcases Int.mul_eq_zero.1 e3 with h | h
    · exact h
    · exact absurd h (Int.ne_of_gt (two_pos _))

/-- A zero's word has the sign that the other's has not. -/
theorem add_val {x y : Nat} {a b : Int} (ha : Val x a) (hb : Val y b) :
    ∃ r, double.add x y = some r ∧ ((a + b ≠ 0 ∨ neg? x = false ∨ neg? y = false) → r = flt (a + b)) ∧ ((a + b).natAbs ≤ 2 ^ 53 → Val r (a + b)) := by
  obtain ⟨s, m, i, hr, hv⟩ := ha
  obtain ⟨t, n, j, hr', hv'⟩ := hb
  obtain ⟨r, k, p, hs, hvs, h0⟩ := sum_val hv hv'
  refine ⟨_, by unfold Format.add; rw [hr, hr', hs]; rfl, fun hc => write_flt hvs ?_, fun hn => (write_small hvs hn).1⟩
  by_cases c : a + b = 0
  · right
    rw [h0 c]
    unfold neg? at hc
    rw [hr, hr'] at hc
    rcases hc with hc | hc | hc
    · exact absurd c hc
    · have : s = false := hc
      simp [this]
    · have : t = false := hc
      simp [this]
  · exact Or.inl c

theorem valD_opposite {t : Bool} {n : Nat} {j b : Int} (h : ValD t n j b) : ValD (!t) n j (-b) := by
  intro u v e
  have := h u v e
  rw [Int.neg_mul, ← this]
  unfold sg
  cases t <;> simp

theorem sub_val {x y : Nat} {a b : Int} (ha : Val x a) (hb : Val y b) (hn : (a - b).natAbs ≤ 2 ^ 53) :
    ∃ r, double.sub x y = some r ∧ Val r (a - b) := by
  obtain ⟨s, m, i, hr, hv⟩ := ha
  obtain ⟨t, n, j, hr', hv'⟩ := hb
  obtain ⟨r, k, p, hs, hvs, h0⟩ := sum_val hv (valD_opposite hv')
  refine ⟨_, by unfold Format.sub; rw [hr, hr']; show (Datum.sum (.number s m i) (.number (!t) n j)).map _ = _; rw [hs]; rfl, (write_small (n := a - b) hvs hn).1⟩

theorem mul_val {x y : Nat} {a b : Int} (ha : Val x a) (hb : Val y b) (hn : (a * b).natAbs ≤ 2 ^ 53) :
    ∃ r, double.mul x y = some r ∧ Val r (a * b) := by
  obtain ⟨s, m, i, hr, hv⟩ := ha
  obtain ⟨t, n, j, hr', hv'⟩ := hb
  have hvs : ValD (s ^^ t) (m * n) (i + j) (a * b) := by
    refine valD_of (i.toNat + j.toNat) ((-i).toNat + (-j).toNat) (by omega) ?_
    have e1 := hv i.toNat (-i).toNat (by omega)
    have e2 := hv' j.toNat (-j).toNat (by omega)
    have e3 : sg (s ^^ t) = sg s * sg t := by cases s <;> cases t <;> rfl
    have e4 : sg (s ^^ t) * (((m * n : Nat) : Int) * 2 ^ (i.toNat + j.toNat)) = (sg s * ((m : Int) * 2 ^ i.toNat)) * (sg t * ((n : Int) * 2 ^ j.toNat)) := by
      rw [e3, Int.pow_add]
      push_cast
      ac_rfl
    rw [e4, e1, e2, Int.pow_add]
    ac_rfl
  refine ⟨_, by unfold Format.mul; rw [hr, hr']; rfl, (write_small hvs hn).1⟩

theorem order_val {x y : Nat} {a b : Int} (ha : Val x a) (hb : Val y b) : double.order x y = some (compare a b) := by
  obtain ⟨s, m, i, hr, hv⟩ := ha
  obtain ⟨t, n, j, hr', hv'⟩ := hb
  unfold Format.order
  rw [hr, hr']
  show some (compare (signed s m (i - min i j).toNat) (signed t n (j - min i j).toNat)) = _
  obtain ⟨base, hbase⟩ : ∃ base, base = min i j := ⟨_, rfl⟩
  rw [← hbase]
  have e1 : signed s m (i - base).toNat * 2 ^ base.toNat = a * 2 ^ (-base).toNat := by
    rw [signed_eq, ← mul_pow_split]
    exact hv _ _ (by omega)
  have e2 : signed t n (j - base).toNat * 2 ^ base.toNat = b * 2 ^ (-base).toNat := by
    rw [signed_eq, ← mul_pow_split]
    exact hv' _ _ (by omega)
  have p1 := two_pos base.toNat
  have p2 := two_pos (-base).toNat
  obtain ⟨X, hX⟩ : ∃ X, X = signed s m (i - base).toNat := ⟨_, rfl⟩
  obtain ⟨Y, hY⟩ : ∃ Y, Y = signed t n (j - base).toNat := ⟨_, rfl⟩
  rw [← hX] at e1 ⊢
  rw [← hY] at e2 ⊢
  have hlt : X < Y ↔ a < b := by
    rw [← Int.mul_lt_mul_right p1, e1, e2, Int.mul_lt_mul_right p2]
  have heq : X = Y ↔ a = b := by
    constructor
    · intro h; rw [h, e2] at e1; exact (Int.eq_of_mul_eq_mul_right (Int.ne_of_gt p2) e1).symm
    · intro h; rw [h, ← e2] at e1; exact Int.eq_of_mul_eq_mul_right (Int.ne_of_gt p1) e1
  congr 1
  simp only [compare, compareOfLessAndEq, hlt, heq]

end Go.Proofs.YtijdbmapdmhknaaDoor
namespace Go.Proofs.YtijdbmapdmhknaaDoor
open Ieee (Datum Format signed double)

/-! ### Two numbers, one of which is whole, in order. -/
theorem compare_int (X Y a b : Int) (hlt : X < Y ↔ a < b) (heq : X = Y ↔ a = b) : compare X Y = compare a b := by
  simp only [compare, compareOfLessAndEq, hlt, heq]

theorem order_num {x y : Nat} {s : Bool} {m : Nat} {p b : Int} (hx : double.read x = .number s m p) (hb : Val y b) (u v : Nat) (huv : (u : Int) - v = p) :
    double.order x y = some (compare (sg s * ((m : Int) * 2 ^ u)) (b * 2 ^ v)) ∧ double.order y x = some (compare (b * 2 ^ v) (sg s * ((m : Int) * 2 ^ u))) := by
  obtain ⟨t, n, j, hr', hv'⟩ := hb
  have key : ∀ base : Int, base ≤ p → base ≤ j → ∃ C D : Int, 0 < C ∧ 0 < D ∧ signed s m (p - base).toNat * C = sg s * ((m : Int) * 2 ^ u) * D ∧ signed t n (j - base).toNat * C = b * 2 ^ v * D := by
    intro base h1 h2
    refine ⟨2 ^ (base.toNat + v), 2 ^ (-base).toNat, two_pos _, two_pos _, ?_, ?_⟩
    · rw [signed_eq, ← mul_pow_split, ← mul_pow_split]
      have : (p - base).toNat + (base.toNat + v) = u + (-base).toNat := by omega
      rw [this]
    · rw [signed_eq, ← mul_pow_split]
      have := hv' ((j - base).toNat + (base.toNat + v)) ((-base).toNat + v) (by omega)
      rw [this, Int.pow_add, Int.mul_assoc, Int.mul_comm (2 ^ v)]
  have cmp : ∀ (X Y A B C D : Int), 0 < C → 0 < D → X * C = A * D → Y * C = B * D → compare X Y = compare A B := by
    intro X Y A B C D hC hD e1 e2
    refine compare_int _ _ _ _ ?_ ?_
    · rw [← Int.mul_lt_mul_right hC, e1, e2, Int.mul_lt_mul_right hD]
    · constructor
      · intro h; rw [h, e2] at e1; exact (Int.eq_of_mul_eq_mul_right (Int.ne_of_gt hD) e1).symm
      · intro h; rw [h, ← e2] at e1; exact Int.eq_of_mul_eq_mul_right (Int.ne_of_gt hC) e1
  unfold Format.order
  rw [hx, hr']
  constructor
  · obtain ⟨C, D, hC, hD, e1, e2⟩ := key (min p j) (by omega) (by omega)
    exact congrArg some (cmp _ _ _ _ C D hC hD e1 e2)
  · obtain ⟨C, D, hC, hD, e1, e2⟩ := key (min j p) (by omega) (by omega)
    exact congrArg some (cmp _ _ _ _ C D hC hD e2 e1)

/-! ### A number cut to a whole one. -/
/-- The float that math.Trunc gives of a number. -/
def trn (x : Nat) : Nat := double.write ((double.read x).integral .zero)

theorem cut_zero (neg : Bool) (n d : Nat) : Ieee.Toward.zero.cut neg n d = n / 2 ^ d := by
  unfold Ieee.Toward.cut
  simp only [Nat.shiftLeft_eq, Nat.one_mul, Bool.toNat_false, Nat.add_zero]
  by_cases c : d ≤ n.log2 + 2
  · rw [Nat.min_eq_left c]
  · rw [Nat.min_eq_right (by omega)]
    have h1 : n < 2 ^ (n.log2 + 1) := Nat.lt_log2_self
    have h2 : 2 ^ (n.log2 + 1) ≤ 2 ^ (n.log2 + 2) := Nat.pow_le_pow_right (by omega) (by omega)
    have h3 : 2 ^ (n.log2 + 1) ≤ 2 ^ d := Nat.pow_le_pow_right (by omega) (by omega)
    rw [Nat.div_eq_of_lt (by omega), Nat.div_eq_of_lt (by omega)]

/-- The whole part's size. -/
def wholeM (m : Nat) (p : Int) : Nat := m * 2 ^ p.toNat / 2 ^ (-p).toNat

theorem integral_num (s : Bool) (m : Nat) (p : Int) : (Datum.number s m p).integral .zero = .number s (wholeM m p) 0 := by
  show Datum.number s (Ieee.Toward.zero.cut s (m <<< p.toNat) (-p).toNat) 0 = _
  rw [cut_zero, Nat.shiftLeft_eq]
  rfl

theorem valD_zero (s : Bool) (m : Nat) : ValD s m 0 (sg s * m) := by
  refine valD_of 0 0 (by omega) ?_
  simp

theorem wholeM_val {s : Bool} {m : Nat} {p n : Int} (h : ValD s m p n) : sg s * (wholeM m p : Int) = n := by
  have e := valD_abs h p.toNat (-p).toNat (by omega)
  unfold wholeM
  rw [e, Nat.mul_div_cancel _ (Nat.two_pow_pos _), ← sg_val h]

theorem sg_natAbs (s : Bool) (m : Nat) : (sg s * (m : Int)).natAbs = m := by rw [sg_abs, Int.natAbs_natCast]

/-! ### The parts of weights. -/
/-- The word of a part of a weight: of the number n. -/
def Num (x : Nat) (n : Int) : Prop := x < 2 ^ 64 ∧ Val x n ∧ n.natAbs ≤ 2 ^ 53

theorem Num.bound {x : Nat} {n : Int} (h : Num x n) : -9007199254740992 ≤ n ∧ n ≤ 9007199254740992 := by
  have := h.2.2
  omega

theorem nearest_lt64 (s : Bool) (m : Nat) (p : Int) : double.nearest s m p < 2 ^ 64 := double.nearest_lt s m p

theorem num_flt (n : Int) (h : n.natAbs ≤ 2 ^ 53) : Num (flt n) n := ⟨nearest_lt64 _ _ _, (val_flt n h).1, h⟩

theorem flt_lo : flt (-9007199254740992) = 14069245235905429504 := by decide +kernel
theorem flt_hi : flt 9007199254740992 = 4845873199050653696 := by decide +kernel
theorem flt_zero : flt 0 = 0 := rfl
theorem flt_one : flt 1 = 4607182418800017408 := by decide +kernel

theorem num_lo : Num 14069245235905429504 (-9007199254740992) := flt_lo ▸ num_flt _ (by decide)
theorem num_hi : Num 4845873199050653696 9007199254740992 := flt_hi ▸ num_flt _ (by decide)
theorem num_zero : Num 0 0 := num_flt 0 (by decide)
theorem num_one : Num 4607182418800017408 1 := flt_one ▸ num_flt 1 (by decide)

/-- A number of a part: cut, it is itself; it lies between the bounds. -/
theorem num_tests {x : Nat} {n : Int} (h : Num x n) :
    FloatKind.f64.format.order x (trn x) = some .eq ∧
    (FloatKind.f64.format.order 14069245235905429504 x = some .lt ∨ FloatKind.f64.format.order 14069245235905429504 x = some .eq) ∧
    (FloatKind.f64.format.order x 4845873199050653696 = some .lt ∨ FloatKind.f64.format.order x 4845873199050653696 = some .eq) ∧
    (FloatKind.f64.format.order x 14069245235905429504 = some .gt ∨ FloatKind.f64.format.order x 14069245235905429504 = some .eq) := by
  have hb := h.bound
  obtain ⟨_, hv, hn⟩ := h
  have ht : Val (trn x) n := by
    obtain ⟨s, m, p, hr, hd⟩ := hv
    unfold trn
    rw [hr, integral_num]
    have hw := wholeM_val hd
    have := valD_zero s (wholeM m p)
    rw [hw] at this
    exact (write_small this hn).1
  refine ⟨?_, ?_, ?_, ?_⟩
  · show double.order x (trn x) = _
    rw [order_val hv ht]
    simp [compare, compareOfLessAndEq]
  · show double.order _ x = _ ∨ double.order _ x = _
    rw [order_val num_lo.2.1 hv]
    simp only [compare, compareOfLessAndEq]
    by_cases c : (-9007199254740992 : Int) < n
    · simp [c]
    · right; rw [if_neg c, if_pos (by omega)]
  · show double.order x _ = _ ∨ double.order x _ = _
    rw [order_val hv num_hi.2.1]
    simp only [compare, compareOfLessAndEq]
    by_cases c : n < 9007199254740992
    · simp [c]
    · right; rw [if_neg c, if_pos (by omega)]
  · show double.order x _ = _ ∨ double.order x _ = _
    rw [order_val hv num_lo.2.1]
    simp only [compare, compareOfLessAndEq]
    by_cases c : n = (-9007199254740992 : Int)
    · right; rw [if_neg (by omega), if_pos c]
    · left; rw [if_neg (by omega), if_neg c]

/-- A word that lies between the bounds is a number, the size of whose whole part is no greater. -/
theorem between {x : Nat}
    (h1 : FloatKind.f64.format.order 14069245235905429504 x = some .lt ∨ FloatKind.f64.format.order 14069245235905429504 x = some .eq ∨ FloatKind.f64.format.order x 14069245235905429504 = some .gt ∨ FloatKind.f64.format.order x 14069245235905429504 = some .eq)
    (h2 : FloatKind.f64.format.order x 4845873199050653696 = some .lt ∨ FloatKind.f64.format.order x 4845873199050653696 = some .eq) :
    ∃ s m p, double.read x = .number s m p ∧ wholeM m p ≤ 2 ^ 53 := by
  have h1' : double.order 14069245235905429504 x = some .lt ∨ double.order 14069245235905429504 x = some .eq ∨ double.order x 14069245235905429504 = some .gt ∨ double.order x 14069245235905429504 = some .eq := h1
  have h2' : double.order x 4845873199050653696 = some .lt ∨ double.order x 4845873199050653696 = some .eq := h2
  cases hr : double.read x with
  | nan s f =>
    exfalso
    unfold Format.order at h2'
    rw [hr] at h2'
    rcases h2' with h | h <;> simp [Datum.order] at h
  | infinity s =>
    exfalso
    obtain ⟨_, ⟨s1, m1, p1, hr1, _⟩, _⟩ := num_hi
    obtain ⟨_, ⟨s2, m2, p2, hr2, _⟩, _⟩ := num_lo
    unfold Format.order at h2' h1'
    rw [hr, hr1] at h2'
    rw [hr, hr2] at h1'
    cases s <;> simp [Datum.order] at h1' h2'
  | number s m p =>
    refine ⟨s, m, p, rfl, ?_⟩
    have o1 := (order_num hr num_lo.2.1 p.toNat (-p).toNat (by omega))
    have o2 := (order_num hr num_hi.2.1 p.toNat (-p).toNat (by omega)).1
    rw [o1.1, o1.2] at h1'
    rw [o2] at h2'
    have hD := two_pos (-p).toNat
    obtain ⟨A, hA⟩ : ∃ A, A = sg s * ((m : Int) * 2 ^ p.toNat) := ⟨_, rfl⟩
    have hAm : m * 2 ^ p.toNat = A.natAbs := by
      rw [hA, sg_abs, Int.natAbs_mul, Int.natAbs_natCast, Int.natAbs_pow]
      rfl
    rw [← hA] at h1' h2'
    have e1 : (-9007199254740992) * 2 ^ (-p).toNat ≤ A := by
      simp only [compare, compareOfLessAndEq, Option.some.injEq] at h1'
      by_cases c : (-9007199254740992) * 2 ^ (-p).toNat ≤ A
      · exact c
      · exfalso
        have c1 : A < (-9007199254740992) * 2 ^ (-p).toNat := by omega
        rw [if_neg (by omega : ¬ (-9007199254740992) * 2 ^ (-p).toNat < A), if_neg (by omega : ¬ (-9007199254740992) * 2 ^ (-p).toNat = A), if_pos c1] at h1'
        simp at h1'
    have e2 : A ≤ 9007199254740992 * 2 ^ (-p).toNat := by
      simp only [compare, compareOfLessAndEq, Option.some.injEq] at h2'
      by_cases c : A ≤ 9007199254740992 * 2 ^ (-p).toNat
      · exact c
      · exfalso
        rw [if_neg (by omega : ¬ A < 9007199254740992 * 2 ^ (-p).toNat), if_neg (by omega : ¬ A = 9007199254740992 * 2 ^ (-p).toNat)] at h2'
        simp at h2'
    unfold wholeM
    rw [hAm]
    have e3 : A.natAbs ≤ 9007199254740992 * 2 ^ (-p).toNat := by
      have : ((2 : Int) ^ (-p).toNat) = ((2 ^ (-p).toNat : Nat) : Int) := by push_cast; rfl
      rw [this] at e1 e2
      generalize 2 ^ (-p).toNat = D at *
      omega
    have := Nat.div_le_div_right (c := 2 ^ (-p).toNat) e3
    rw [Nat.mul_div_cancel _ (Nat.two_pow_pos _)] at this
    exact this

/-- A number whose whole part is it is whole. -/
theorem val_of_eq {x y : Nat} {s : Bool} {m : Nat} {p : Int} (hr : double.read x = .number s m p) (hy : Val y (sg s * (wholeM m p : Int)))
    (h : double.order x y = some .eq ∨ double.order y x = some .eq) : Val x (sg s * (wholeM m p : Int)) := by
  have o := order_num hr hy p.toNat (-p).toNat (by omega)
  refine ⟨s, m, p, hr, valD_of p.toNat (-p).toNat (by omega) ?_⟩
  rw [o.1, o.2] at h
  obtain ⟨A, hA⟩ : ∃ A, A = sg s * ((m : Int) * 2 ^ p.toNat) := ⟨_, rfl⟩
  obtain ⟨B, hB⟩ : ∃ B, B = sg s * (wholeM m p : Int) * 2 ^ (-p).toNat := ⟨_, rfl⟩
  rw [← hA, ← hB] at h ⊢
  simp only [compare, compareOfLessAndEq, Option.some.injEq] at h
  by_cases c : A = B
  · exact c
  · exfalso
    by_cases l : A < B
    · rw [if_pos l, if_neg (by omega : ¬ B < A), if_neg (by omega : ¬ B = A)] at h; simp at h
    · rw [if_neg l, if_neg c, if_pos (by omega : B < A)] at h; simp at h

/-- What stands the tests is a part. -/
theorem part_of_tests {x : Nat} (hx : x < 2 ^ 64) (h0 : FloatKind.f64.format.order x (trn x) = some .eq)
    (h1 : FloatKind.f64.format.order 14069245235905429504 x = some .lt ∨ FloatKind.f64.format.order 14069245235905429504 x = some .eq)
    (h2 : FloatKind.f64.format.order x 4845873199050653696 = some .lt ∨ FloatKind.f64.format.order x 4845873199050653696 = some .eq) : ∃ n, Num x n := by
  obtain ⟨s, m, p, hr, hw⟩ := between (by rcases h1 with h | h <;> simp [h]) h2
  have ht : Val (trn x) (sg s * (wholeM m p : Int)) := by
    unfold trn
    rw [hr, integral_num]
    exact (write_small (valD_zero s _) (by rw [sg_natAbs]; exact hw)).1
  exact ⟨_, hx, val_of_eq hr ht (Or.inl h0), by rw [sg_natAbs]; exact hw⟩

/-- Of what lies between the bounds, int(x) is its whole part; and it is a part if that, as a float, is it. -/
theorem whole_of_tests {x : Nat} (hx : x < 2 ^ 64)
    (h1 : FloatKind.f64.format.order x 14069245235905429504 = some .gt ∨ FloatKind.f64.format.order x 14069245235905429504 = some .eq)
    (h2 : FloatKind.f64.format.order x 4845873199050653696 = some .lt ∨ FloatKind.f64.format.order x 4845873199050653696 = some .eq) :
    ∃ R : Int, R.natAbs ≤ 2 ^ 53 ∧ floatToIntVal .f64 x .i64 = some R ∧ (FloatKind.f64.format.order (flt R) x = some .eq → Num x R) ∧ (∀ n, Num x n → n = R) := by
  obtain ⟨s, m, p, hr, hw⟩ := between (by rcases h1 with h | h <;> simp [h]) h2
  refine ⟨sg s * (wholeM m p : Int), by rw [sg_natAbs]; exact hw, ?_, fun h => ⟨hx, val_of_eq hr (val_flt _ (by rw [sg_natAbs]; exact hw)).1 (Or.inr h), by rw [sg_natAbs]; exact hw⟩, fun n hn => ?_⟩
  · unfold floatToIntVal
    have e : (FloatKind.f64.decode x).toInt .zero = some (sg s * (wholeM m p : Int)) := by
      show (double.read x).toInt .zero = _
      rw [hr]
      unfold Datum.toInt
      rw [integral_num]
      show some (signed s (wholeM m p) 0) = _
      rw [signed_eq]
      simp
    have hb := sg_natAbs s (wholeM m p)
    rw [e]
    generalize sg s * (wholeM m p : Int) = R at *
    have hlo : IntKind.i64.min = -9223372036854775808 := by decide
    have hhi : IntKind.i64.max = 9223372036854775807 := by decide
    simp only [hlo, hhi]
    rw [if_pos (by omega)]
  · obtain ⟨_, ⟨s', m', p', hr', hd⟩, _⟩ := hn
    rw [hr] at hr'
    cases hr'
    exact (wholeM_val hd).symm

/-! ### A word of a number is the number's own. -/
theorem log2_of (m k : Nat) (h1 : 2 ^ k ≤ m) (h2 : m < 2 ^ (k + 1)) : m.log2 = k := by
  have h0 : m ≠ 0 := by have := Nat.two_pow_pos k; omega
  exact (Nat.log2_eq_iff h0).2 ⟨h1, h2⟩

theorem word_of (x : Nat) (hx : x < 2 ^ 64) : double.word (x / double.signWeight % 2 == 1) (x % double.signWeight) = x := by
  have e1 : double.signWeight = 2 ^ 63 := rfl
  unfold Format.word
  rw [e1]
  have e2 : (2 : Nat) ^ 64 = 2 ^ 63 * 2 := rfl
  rw [e2] at hx
  have hB := Nat.two_pow_pos 63
  generalize (2 : Nat) ^ 63 = B at *
  have hq : x / B < 2 := Nat.div_lt_of_lt_mul hx
  have hd := Nat.div_add_mod x B
  generalize x / B = q at *
  generalize x % B = r at *
  by_cases c : q = 0
  · subst c
    simp at hd ⊢
    exact hd
  · have c1 : q = 1 := by omega
    subst c1
    simp at hd ⊢
    exact hd

theorem write_read (x : Nat) (hx : x < 2 ^ 64) {s : Bool} {m : Nat} {p : Int} (hr : double.read x = .number s m p) : double.nearest s m p = x := by
  have hw := word_of x hx
  unfold Format.read at hr
  have e1 : double.signWeight = 2 ^ 63 := rfl
  have e2 : double.binade = 2 ^ 52 := rfl
  have e3 : double.infRung = 2047 * 2 ^ 52 := rfl
  have e4 : double.leastPlace = -1074 := rfl
  have e5 : (double.fractionBits : Int) = 52 := rfl
  simp only at hr
  obtain ⟨rung, hrg⟩ : ∃ rung, rung = x % double.signWeight := ⟨_, rfl⟩
  obtain ⟨sn, hsn⟩ : ∃ sn, sn = (x / double.signWeight % 2 == 1) := ⟨_, rfl⟩
  rw [← hrg, ← hsn] at hr hw
  split at hr
  · rename_i hlt
    cases hr
    rw [e2] at hlt
    unfold Format.nearest
    by_cases h0 : m = 0
    · rw [if_pos h0]; rw [h0] at hw; exact hw
    · rw [if_neg h0]
      simp only [e2, e3, e4, e5]
      have hl : m.log2 < 52 := (Nat.log2_lt h0).2 hlt
      have elast : max ((-1074 : Int) + (m.log2 : Int) - 52) (-1074) = -1074 := by omega
      rw [elast]
      have ez : ((-1074 : Int) - -1074).toNat = 0 := by decide
      rw [ez, Nat.shiftLeft_zero, cut_exact s _ 0 (by omega) (by rw [Nat.pow_zero, Nat.mod_one]), Nat.pow_zero, Nat.div_one, Nat.zero_mul, Nat.zero_add, Nat.min_eq_left]
      · exact hw
      · refine Nat.le_trans (Nat.le_of_lt hlt) ?_
        decide
  · split at hr
    · rename_i hge hlt
      cases hr
      rw [e2] at hge
      rw [e3] at hlt
      have hB := Nat.two_pow_pos 52
      have hq1 : 1 ≤ rung / 2 ^ 52 := by
        rw [Nat.le_div_iff_mul_le hB]; omega
      have hmod : rung % 2 ^ 52 < 2 ^ 52 := Nat.mod_lt _ hB
      have hdm := Nat.div_add_mod rung (2 ^ 52)
      have hl : (2 ^ 52 + rung % 2 ^ 52).log2 = 52 := log2_of _ 52 (by omega) (by rw [show (2 : Nat) ^ (52 + 1) = 2 ^ 52 + 2 ^ 52 from rfl]; omega)
      unfold Format.nearest
      rw [e2]
      have h0 : ¬ (2 ^ 52 + rung % 2 ^ 52 = 0) := by omega
      rw [if_neg h0]
      simp only [e3, e4, e5, hl]
      have elast : max ((-1074 : Int) + ((rung / 2 ^ 52 - 1 : Nat) : Int) + ((52 : Nat) : Int) - 52) (-1074) = -1074 + ((rung / 2 ^ 52 - 1 : Nat) : Int) := by omega
      rw [elast]
      have ez : ((-1074 : Int) + ((rung / 2 ^ 52 - 1 : Nat) : Int) - (-1074 + ((rung / 2 ^ 52 - 1 : Nat) : Int))).toNat = 0 := by omega
      have ey : ((-1074 : Int) + ((rung / 2 ^ 52 - 1 : Nat) : Int) - (-1074)).toNat = rung / 2 ^ 52 - 1 := by omega
      rw [ez, ey, Nat.shiftLeft_zero, cut_exact s _ 0 (by omega) (by rw [Nat.pow_zero, Nat.mod_one]), Nat.pow_zero, Nat.div_one]
      have ek : (rung / 2 ^ 52 - 1) * 2 ^ 52 + (2 ^ 52 + rung % 2 ^ 52) = rung := by
        generalize rung / 2 ^ 52 = q at *
        generalize rung % 2 ^ 52 = r at *
        obtain ⟨k, rfl⟩ : ∃ k, q = k + 1 := ⟨q - 1, by omega⟩
        rw [Nat.add_sub_cancel, ← hdm, Nat.mul_add, Nat.mul_comm k, Nat.mul_one, Nat.add_assoc]
      rw [ek, Nat.min_eq_left (Nat.le_of_lt hlt)]
      exact hw
    · split at hr <;> cases hr

/-- The word of a number that is not 0 is the number's own. -/
theorem Num.own {x : Nat} {n : Int} (h : Num x n) (h0 : n ≠ 0) : x = flt n := by
  obtain ⟨hx, ⟨s, m, p, hr, hd⟩, _⟩ := h
  rw [← write_read x hx hr]
  exact write_flt hd (Or.inl h0)

/-! ### The sign turned. -/
theorem negFloat_read (x : Nat) : double.read (Op.negFloat .f64 x) = (double.read x).opposite := by
  have hm : (x ^^^ 2 ^ 63) % 2 ^ 63 = x % 2 ^ 63 := by
    apply Nat.eq_of_testBit_eq
    intro i
    rw [Nat.testBit_mod_two_pow, Nat.testBit_mod_two_pow, Nat.testBit_xor, Nat.testBit_two_pow]
    by_cases c : i < 63
    · have : ¬ (63 = i) := by omega
      simp [c, this]
    · simp [c]
  have hd : ((x ^^^ 2 ^ 63) / 2 ^ 63 % 2 == 1) = !(x / 2 ^ 63 % 2 == 1) := by
    have a1 : ((x ^^^ 2 ^ 63) / 2 ^ 63 % 2 == 1) = (x ^^^ 2 ^ 63).testBit 63 := by
      rw [Nat.testBit_eq_decide_div_mod_eq]
      rfl
    have a2 : (x / 2 ^ 63 % 2 == 1) = x.testBit 63 := by
      rw [Nat.testBit_eq_decide_div_mod_eq]
      rfl
    rw [a1, a2, Nat.testBit_xor, Nat.testBit_two_pow]
    simp
  show double.read (x ^^^ 2 ^ 63) = _
  have e1 : double.signWeight = 2 ^ 63 := rfl
  unfold Format.read
  rw [e1]
  simp only [hm, hd]
  split
  · rfl
  · split
    · rfl
    · split <;> rfl

theorem Num.neg {x : Nat} {n : Int} (h : Num x n) : Num (Op.negFloat .f64 x) (-n) := by
  obtain ⟨hx, ⟨s, m, p, hr, hd⟩, hn⟩ := h
  refine ⟨Nat.xor_lt_two_pow hx (by decide), ⟨!s, m, p, ?_, valD_opposite hd⟩, by omega⟩
  rw [negFloat_read, hr]
  rfl

end Go.Proofs.YtijdbmapdmhknaaDoor
