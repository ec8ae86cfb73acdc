/- Which floats are whole numbers that may be parts of a weight; a float's sign turned; its own word. Of no program. -/
import Derived.Test.YtmobkjdncfdokaaDoorFlt
import Derived.Laws.BitsLemmas
namespace Go.Proofs.YtmobkjdncfdokaaDoor
open Ieee (Datum Format signed double)

/-! ### Two numbers, one of which is whole, in order. -/
theorem compare_int (X Y a b : Int) (hlt : X < Y ↔ a < b) (heq : X = Y ↔ a = b) : compare X Y = compare a b := by
  simp only [compare, compareOfLessAndEq, hlt, heq]

theorem order_num {x y : Nat} {s : Bool} {m : Nat} {p b : Int} (hx : double.read x = .number s m p) (hb : Val y b) (u v : Nat) (huv : (u : Int) - v = p) :
    double.order x y = some (compare (sg s * ((m : Int) * 2 ^ u)) (b * 2 ^ v)) ∧ double.order y x = some (compare (b * 2 ^ v) (sg s * ((m : Int) * 2 ^ u))) := by
  obtain ⟨t, n, j, hr', hv'⟩ := hb
  have key : ∀ base : Int, base ≤ p → base ≤ j → ∃ C D : Int, 0 < C ∧ 0 < D ∧ signed s m (p - base).toNat * C = sg s * ((m : Int) * 2 ^ u) * D ∧ signed t n (j - base).toNat * C = b * 2 ^ v * D := by
    intro base h1 h2
    refine ⟨2 ^ (base.toNat + v), 2 ^ (-base).toNat, two_pos _, two_pos _, ?_, ?_⟩
    · rw [signed_eq, ← mul_pow_split, ← mul_pow_split]
      have : (p - base).toNat + (base.toNat + v) = u + (-base).toNat := by omega
      rw [this]
    · rw [signed_eq, ← mul_pow_split]
      have := hv' ((j - base).toNat + (base.toNat + v)) ((-base).toNat + v) (by omega)
      rw [this, Int.pow_add, Int.mul_assoc, Int.mul_comm (2 ^ v)]
  have cmp : ∀ (X Y A B C D : Int), 0 < C → 0 < D → X * C = A * D → Y * C = B * D → compare X Y = compare A B := by
    intro X Y A B C D hC hD e1 e2
    refine compare_int _ _ _ _ ?_ ?_
    · rw [← Int.mul_lt_mul_right hC, e1, e2, Int.mul_lt_mul_right hD]
    · constructor
      · intro h; rw [h, e2] at e1; exact (Int.eq_of_mul_eq_mul_right (Int.ne_of_gt hD) e1).symm
      · intro h; rw [h, ← e2] at e1; exact Int.eq_of_mul_eq_mul_right (Int.ne_of_gt hC) e1
  unfold Format.order
  rw [hx, hr']
  constructor
  · obtain ⟨C, D, hC, hD, e1, e2⟩ := key (min p j) (by omega) (by omega)
    exact congrArg some (cmp _ _ _ _ C D hC hD e1 e2)
  · obtain ⟨C, D, hC, hD, e1, e2⟩ := key (min j p) (by omega) (by omega)
    exact congrArg some (cmp _ _ _ _ C D hC hD e2 e1)

/-! ### A number cut to a whole one. -/
/-- The float that math.Trunc gives of a number. -/
def trn (x : Nat) : Nat := double.write ((double.read x).integral .zero)

theorem cut_zero (neg : Bool) (n d : Nat) : Ieee.Toward.zero.cut neg n d = n / 2 ^ d := by
  unfold Ieee.Toward.cut
  simp only [Nat.shiftLeft_eq, Nat.one_mul, Bool.toNat_false, Nat.add_zero]
  by_cases c : d ≤ n.log2 + 2
  · rw [Nat.min_eq_left c]
  · rw [Nat.min_eq_right (by omega)]
    have h1 : n < 2 ^ (n.log2 + 1) := Nat.lt_log2_self
    have h2 : 2 ^ (n.log2 + 1) ≤ 2 ^ (n.log2 + 2) := Nat.pow_le_pow_right (by omega) (by omega)
    have h3 : 2 ^ (n.log2 + 1) ≤ 2 ^ d := Nat.pow_le_pow_right (by omega) (by omega)
    rw [Nat.div_eq_of_lt (by omega), Nat.div_eq_of_lt (by omega)]

/-- The whole part's size. -/
def wholeM (m : Nat) (p : Int) : Nat := m * 2 ^ p.toNat / 2 ^ (-p).toNat

theorem integral_num (s : Bool) (m : Nat) (p : Int) : (Datum.number s m p).integral .zero = .number s (wholeM m p) 0 := by
  show Datum.number s (Ieee.Toward.zero.cut s (m <<< p.toNat) (-p).toNat) 0 = _
  rw [cut_zero, Nat.shiftLeft_eq]
  rfl

theorem valD_zero (s : Bool) (m : Nat) : ValD s m 0 (sg s * m) := by
  refine valD_of 0 0 (by omega) ?_
  simp

theorem wholeM_val {s : Bool} {m : Nat} {p n : Int} (h : ValD s m p n) : sg s * (wholeM m p : Int) = n := by
  have e := valD_abs h p.toNat (-p).toNat (by omega)
  unfold wholeM
  rw [e, Nat.mul_div_cancel _ (Nat.two_pow_pos _), ← sg_val h]

theorem sg_natAbs (s : Bool) (m : Nat) : (sg s * (m : Int)).natAbs = m := by rw [sg_abs, Int.natAbs_natCast]

/-! ### The parts of weights. -/
/-- The word of a part of a weight: of the number n. -/
def Num (x : Nat) (n : Int) : Prop := x < 2 ^ 64 ∧ Val x n ∧ n.natAbs ≤ 2 ^ 53

theorem Num.bound {x : Nat} {n : Int} (h : Num x n) : -9007199254740992 ≤ n ∧ n ≤ 9007199254740992 := by
  have := h.2.2
  omega

theorem nearest_lt64 (s : Bool) (m : Nat) (p : Int) : double.nearest s m p < 2 ^ 64 := double.nearest_lt s m p

theorem num_flt (n : Int) (h : n.natAbs ≤ 2 ^ 53) : Num (flt n) n := ⟨nearest_lt64 _ _ _, (val_flt n h).1, h⟩

theorem flt_lo : flt (-9007199254740992) = 14069245235905429504 := by decide +kernel
theorem flt_hi : flt 9007199254740992 = 4845873199050653696 := by decide +kernel
theorem flt_zero : flt 0 = 0 := rfl
theorem flt_one : flt 1 = 4607182418800017408 := by decide +kernel

theorem num_lo : Num 14069245235905429504 (-9007199254740992) := flt_lo ▸ num_flt _ (by decide)
theorem num_hi : Num 4845873199050653696 9007199254740992 := flt_hi ▸ num_flt _ (by decide)
theorem num_zero : Num 0 0 := num_flt 0 (by decide)
theorem num_one : Num 4607182418800017408 1 := flt_one ▸ num_flt 1 (by decide)

/-- A number of a part: cut, it is itself; it lies between the bounds. -/
theorem num_tests {x : Nat} {n : Int} (h : Num x n) :
    FloatKind.f64.format.order x (trn x) = some .eq ∧
    (FloatKind.f64.format.order 14069245235905429504 x = some .lt ∨ FloatKind.f64.format.order 14069245235905429504 x = some .eq) ∧
    (FloatKind.f64.format.order x 4845873199050653696 = some .lt ∨ FloatKind.f64.format.order x 4845873199050653696 = some .eq) ∧
    (FloatKind.f64.format.order x 14069245235905429504 = some .gt ∨ FloatKind.f64.format.order x 14069245235905429504 = some .eq) := by
  have hb := h.bound
  obtain ⟨_, hv, hn⟩ := h
  have ht : Val (trn x) n := by
    obtain ⟨s, m, p, hr, hd⟩ := hv
    unfold trn
    rw [hr, integral_num]
    have hw := wholeM_val hd
    have := valD_zero s (wholeM m p)
    rw [hw] at this
    exact (write_small this hn).1
  refine ⟨?_, ?_, ?_, ?_⟩
  · show double.order x (trn x) = _
    rw [order_val hv ht]
    simp [compare, compareOfLessAndEq]
  · show double.order _ x = _ ∨ double.order _ x = _
    rw [order_val num_lo.2.1 hv]
    simp only [compare, compareOfLessAndEq]
    by_cases c : (-9007199254740992 : Int) < n
    · simp [c]
    · right; rw [if_neg c, if_pos (by omega)]
  · show double.order x _ = _ ∨ double.order x _ = _
    rw [order_val hv num_hi.2.1]
    simp only [compare, compareOfLessAndEq]
    by_cases c : n < 9007199254740992
    · simp [c]
    · right; rw [if_neg c, if_pos (by omega)]
  · show double.order x _ = _ ∨ double.order x _ = _
    rw [order_val hv num_lo.2.1]
    simp only [compare, compareOfLessAndEq]
    by_cases c : n = (-9007199254740992 : Int)
    · right; rw [if_neg (by omega), if_pos c]
    · left; rw [if_neg (by omega), if_neg c]

/-- A word that lies between the bounds is a number, the size of whose whole part is no greater. -/
theorem between {x : Nat}
    (h1 : FloatKind.f64.format.order 14069245235905429504 x = some .lt ∨ FloatKind.f64.format.order 14069245235905429504 x = some .eq ∨ FloatKind.f64.format.order x 14069245235905429504 = some .gt ∨ FloatKind.f64.format.order x 14069245235905429504 = some .eq)
    (h2 : FloatKind.f64.format.order x 4845873199050653696 = some .lt ∨ FloatKind.f64.format.order x 4845873199050653696 = some .eq) :
    ∃ s m p, double.read x = .number s m p ∧ wholeM m p ≤ 2 ^ 53 := by
  have h1' : double.order 14069245235905429504 x = some .lt ∨ double.order 14069245235905429504 x = some .eq ∨ double.order x 14069245235905429504 = some .gt ∨ double.order x 14069245235905429504 = some .eq := h1
  have h2' : double.order x 4845873199050653696 = some .lt ∨ double.order x 4845873199050653696 = some .eq := h2
  cases hr : double.read x with
  | nan s f =>
    exfalso
    unfold Format.order at h2'
    rw [hr] at h2'
    rcases h2' with h | h <;> simp [Datum.order] at h
  | infinity s =>
    exfalso
    obtain ⟨_, ⟨s1, m1, p1, hr1, _⟩, _⟩ := num_hi
    obtain ⟨_, ⟨s2, m2, p2, hr2, _⟩, _⟩ := num_lo
    unfold Format.order at h2' h1'
    rw [hr, hr1] at h2'
    rw [hr, hr2] at h1'
    cases s <;> simp [Datum.order] at h1' h2'
  | number s m p =>
    refine ⟨s, m, p, rfl, ?_⟩
    have o1 := (order_num hr num_lo.2.1 p.toNat (-p).toNat (by omega))
    have o2 := (order_num hr num_hi.2.1 p.toNat (-p).toNat (by omega)).1
    rw [o1.1, o1.2] at h1'
    rw [o2] at h2'
    have hD := two_pos (-p).toNat
    obtain ⟨A, hA⟩ : ∃ A, A = sg s * ((m : Int) * 2 ^ p.toNat) := ⟨_, rfl⟩
    have hAm : m * 2 ^ p.toNat = A.natAbs := by
      rw [hA, sg_abs, Int.natAbs_mul, Int.natAbs_natCast, Int.natAbs_pow]
      rfl
    rw [← hA] at h1' h2'
    have e1 : (-9007199254740992) * 2 ^ (-p).toNat ≤ A := by
      simp only [compare, compareOfLessAndEq, Option.some.injEq] at h1'
      by_cases c : (-9007199254740992) * 2 ^ (-p).toNat ≤ A
      · exact c
      · exfalso
        have c1 : A < (-9007199254740992) * 2 ^ (-p).toNat := by omega
        rw [if_neg (by omega : ¬ (-9007199254740992) * 2 ^ (-p).toNat < A), if_neg (by omega : ¬ (-9007199254740992) * 2 ^ (-p).toNat = A), if_pos c1] at h1'
        simp at h1'
    have e2 : A ≤ 9007199254740992 * 2 ^ (-p).toNat := by
      simp only [compare, compareOfLessAndEq, Option.some.injEq] at h2'
      by_cases c : A ≤ 9007199254740992 * 2 ^ (-p).toNat
      · exact c
      · exfalso
        rw [if_neg (by omega : ¬ A < 9007199254740992 * 2 ^ (-p).toNat), if_neg (by omega : ¬ A = 9007199254740992 * 2 ^ (-p).toNat)] at h2'
        simp at h2'
    unfold wholeM
    rw [hAm]
    have e3 : A.natAbs ≤ 9007199254740992 * 2 ^ (-p).toNat := by
      have : ((2 : Int) ^ (-p).toNat) = ((2 ^ (-p).toNat : Nat) : Int) := by push_cast; rfl
      rw [this] at e1 e2
      generalize 2 ^ (-p).toNat = D at *
      omega
    have := Nat.div_le_div_right (c := 2 ^ (-p).toNat) e3
    rw [Nat.mul_div_cancel _ (Nat.two_pow_pos _)] at this
    exact this

/-- A number whose whole part is it is whole. -/
theorem val_of_eq {x y : Nat} {s : Bool} {m : Nat} {p : Int} (hr : double.read x = .number s m p) (hy : Val y (sg s * (wholeM m p : Int)))
    (h : double.order x y = some .eq ∨ double.order y x = some .eq) : Val x (sg s * (wholeM m p : Int)) := by
  have o := order_num hr hy p.toNat (-p).toNat (by omega)
  refine ⟨s, m, p, hr, valD_of p.toNat (-p).toNat (by omega) ?_⟩
  rw [o.1, o.2] at h
  obtain ⟨A, hA⟩ : ∃ A, A = sg s * ((m : Int) * 2 ^ p.toNat) := ⟨_, rfl⟩
  obtain ⟨B, hB⟩ : ∃ B, B = sg s * (wholeM m p : Int) * 2 ^ (-p).toNat := ⟨_, rfl⟩
  rw [← hA, ← hB] at h ⊢
  simp only [compare, compareOfLessAndEq, Option.some.injEq] at h
  by_cases c : A = B
  · exact c
  · exfalso
    by_cases l : A < B
    · rw [if_pos l, if_neg (by omega : ¬ B < A), if_neg (by omega : ¬ B = A)] at h; simp at h
    · rw [if_neg l, if_neg c, if_pos (by omega : B < A)] at h; simp at h

/-- What stands the tests is a part. -/
theorem part_of_tests {x : Nat} (hx : x < 2 ^ 64) (h0 : FloatKind.f64.format.order x (trn x) = some .eq)
    (h1 : FloatKind.f64.format.order 14069245235905429504 x = some .lt ∨ FloatKind.f64.format.order 14069245235905429504 x = some .eq)
    (h2 : FloatKind.f64.format.order x 4845873199050653696 = some .lt ∨ FloatKind.f64.format.order x 4845873199050653696 = some .eq) : ∃ n, Num x n := by
  obtain ⟨s, m, p, hr, hw⟩ := between (by rcases h1 with h | h <;> simp [h]) h2
  have ht : Val (trn x) (sg s * (wholeM m p : Int)) := by
    unfold trn
    rw [hr, integral_num]
    exact (write_small (valD_zero s _) (by rw [sg_natAbs]; exact hw)).1
  exact ⟨_, hx, val_of_eq hr ht (Or.inl h0), by rw [sg_natAbs]; exact hw⟩

/-- Of what lies between the bounds, int(x) is its whole part; and it is a part if that, as a float, is it. -/
theorem whole_of_tests {x : Nat} (hx : x < 2 ^ 64)
    (h1 : FloatKind.f64.format.order x 14069245235905429504 = some .gt ∨ FloatKind.f64.format.order x 14069245235905429504 = some .eq)
    (h2 : FloatKind.f64.format.order x 4845873199050653696 = some .lt ∨ FloatKind.f64.format.order x 4845873199050653696 = some .eq) :
    ∃ R : Int, R.natAbs ≤ 2 ^ 53 ∧ floatToIntVal .f64 x .i64 = some R ∧ (FloatKind.f64.format.order (flt R) x = some .eq → Num x R) ∧ (∀ n, Num x n → n = R) := by
  obtain ⟨s, m, p, hr, hw⟩ := between (by rcases h1 with h | h <;> simp [h]) h2
  refine ⟨sg s * (wholeM m p : Int), by rw [sg_natAbs]; exact hw, ?_, fun h => ⟨hx, val_of_eq hr (val_flt _ (by rw [sg_natAbs]; exact hw)).1 (Or.inr h), by rw [sg_natAbs]; exact hw⟩, fun n hn => ?_⟩
  · unfold floatToIntVal
    have e : (FloatKind.f64.decode x).toInt .zero = some (sg s * (wholeM m p : Int)) := by
      show (double.read x).toInt .zero = _
      rw [hr]
      unfold Datum.toInt
      rw [integral_num]
      show some (signed s (wholeM m p) 0) = _
      rw [signed_eq]
      simp
    have hb := sg_natAbs s (wholeM m p)
    rw [e]
    generalize sg s * (wholeM m p : Int) = R at *
    have hlo : IntKind.i64.min = -9223372036854775808 := by decide
    have hhi : IntKind.i64.max = 9223372036854775807 := by decide
    simp only [hlo, hhi]
    rw [if_pos (by omega)]
  · obtain ⟨_, ⟨s', m', p', hr', hd⟩, _⟩ := hn
    rw [hr] at hr'
    cases hr'
    exact (wholeM_val hd).symm

/-! ### A word of a number is the number's own. -/
theorem log2_of (m k : Nat) (h1 : 2 ^ k ≤ m) (h2 : m < 2 ^ (k + 1)) : m.log2 = k := by
  have h0 : m ≠ 0 := by have := Nat.two_pow_pos k; omega
  exact (Nat.log2_eq_iff h0).2 ⟨h1, h2⟩

theorem word_of (x : Nat) (hx : x < 2 ^ 64) : double.word (x / double.signWeight % 2 == 1) (x % double.signWeight) = x := by
  have e1 : double.signWeight = 2 ^ 63 := rfl
  unfold Format.word
  rw [e1]
  have e2 : (2 : Nat) ^ 64 = 2 ^ 63 * 2 := rfl
  rw [e2] at hx
  have hB := Nat.two_pow_pos 63
  generalize (2 : Nat) ^ 63 = B at *
  have hq : x / B < 2 := Nat.div_lt_of_lt_mul hx
  have hd := Nat.div_add_mod x B
  generalize x / B = q at *
  generalize x % B = r at *
  by_cases c : q = 0
  · subst c
    simp at hd ⊢
    exact hd
  · have c1 : q = 1 := by omega
    subst c1
    simp at hd ⊢
    exact hd

theorem write_read (x : Nat) (hx : x < 2 ^ 64) {s : Bool} {m : Nat} {p : Int} (hr : double.read x = .number s m p) : double.nearest s m p = x := by
  have hw := word_of x hx
  unfold Format.read at hr
  have e1 : double.signWeight = 2 ^ 63 := rfl
  have e2 : double.binade = 2 ^ 52 := rfl
  have e3 : double.infRung = 2047 * 2 ^ 52 := rfl
  have e4 : double.leastPlace = -1074 := rfl
  have e5 : (double.fractionBits : Int) = 52 := rfl
  simp only at hr
  obtain ⟨rung, hrg⟩ : ∃ rung, rung = x % double.signWeight := ⟨_, rfl⟩
  obtain ⟨sn, hsn⟩ : ∃ sn, sn = (x / double.signWeight % 2 == 1) := ⟨_, rfl⟩
  rw [← hrg, ← hsn] at hr hw
  split at hr
  · rename_i hlt
    cases hr
    rw [e2] at hlt
    unfold Format.nearest
    by_cases h0 : m = 0
    · rw [if_pos h0]; rw [h0] at hw; exact hw
    · rw [if_neg h0]
      simp only [e2, e3, e4, e5]
      have hl : m.log2 < 52 := (Nat.log2_lt h0).2 hlt
      have elast : max ((-1074 : Int) + (m.log2 : Int) - 52) (-1074) = -1074 := by omega
      rw [elast]
      have ez : ((-1074 : Int) - -1074).toNat = 0 := by decide
      rw [ez, Nat.shiftLeft_zero, cut_exact s _ 0 (by omega) (by rw [Nat.pow_zero, Nat.mod_one]), Nat.pow_zero, Nat.div_one, Nat.zero_mul, Nat.zero_add, Nat.min_eq_left]
      · exact hw
      · refine Nat.le_trans (Nat.le_of_lt hlt) ?_
        decide
  · split at hr
    · rename_i hge hlt
      cases hr
      rw [e2] at hge
      rw [e3] at hlt
      have hB := Nat.two_pow_pos 52
      have hq1 : 1 ≤ rung / 2 ^ 52 := by
        rw [Nat.le_div_iff_mul_le hB]; omega
      have hmod : rung % 2 ^ 52 < 2 ^ 52 := Nat.mod_lt _ hB
      have hdm := Nat.div_add_mod rung (2 ^ 52)
      have hl : (2 ^ 52 + rung % 2 ^ 52).log2 = 52 := log2_of _ 52 (by omega) (by rw [show (2 : Nat) ^ (52 + 1) = 2 ^ 52 + 2 ^ 52 from rfl]; omega)
      unfold Format.nearest
      rw [e2]
      have h0 : ¬ (2 ^ 52 + rung % 2 ^ 52 = 0) := by omega
      rw [if_neg h0]
      simp only [e3, e4, e5, hl]
      have elast : max ((-1074 : Int) + ((rung / 2 ^ 52 - 1 : Nat) : Int) + ((52 : Nat) : Int) - 52) (-1074) = -1074 + ((rung / 2 ^ 52 - 1 : Nat) : Int) := by omega
      rw [elast]
      have ez : ((-1074 : Int) + ((rung / 2 ^ 52 - 1 : Nat) : Int) - (-1074 + ((rung / 2 ^ 52 - 1 : Nat) : Int))).toNat = 0 := by omega
      have ey : ((-1074 : Int) + ((rung / 2 ^ 52 - 1 : Nat) : Int) - (-1074)).toNat = rung / 2 ^ 52 - 1 := by omega
      rw [ez, ey, Nat.shiftLeft_zero, cut_exact s _ 0 (by omega) (by rw [Nat.pow_zero, Nat.mod_one]), Nat.pow_zero, Nat.div_one]
      have ek : (rung / 2 ^ 52 - 1) * 2 ^ 52 + (2 ^ 52 + rung % 2 ^ 52) = rung := by
        generalize rung / 2 ^ 52 = q at *
        generalize rung % 2 ^ 52 = r at *
        obtain ⟨k, rfl⟩ : ∃ k, q = k + 1 := ⟨q - 1, by omega⟩
        rw [Nat.add_sub_cancel, ← hdm, Nat.mul_add, Nat.mul_comm k, Nat.mul_one, Nat.add_assoc]
      rw [ek, Nat.min_eq_left (Nat.le_of_lt hlt)]
      exact hw
    · split at hr <;> cases hr

/-- The word of a number that is not 0 is the number's own. -/
theorem Num.own {x : Nat} {n : Int} (h : Num x n) (h0 : n ≠ 0) : x = flt n := by
  obtain ⟨hx, ⟨s, m, p, hr, hd⟩, _⟩ := h
  rw [← write_read x hx hr]
  exact write_flt hd (Or.inl h0)

/-! ### The sign turned. -/
theorem negFloat_read (x : Nat) : double.read (Op.negFloat .f64 x) = (double.read x).opposite := by
  have hm : (x ^^^ 2 ^ 63) % 2 ^ 63 = x % 2 ^ 63 := by
    apply Nat.eq_of_testBit_eq
    intro i
    rw [Nat.testBit_mod_two_pow, Nat.testBit_mod_two_pow, Nat.testBit_xor, Nat.testBit_two_pow]
    by_cases c : i < 63
    · have : ¬ (63 = i) := by omega
      simp [c, this]
    · simp [c]
  have hd : ((x ^^^ 2 ^ 63) / 2 ^ 63 % 2 == 1) = !(x / 2 ^ 63 % 2 == 1) := by
    have a1 : ((x ^^^ 2 ^ 63) / 2 ^ 63 % 2 == 1) = (x ^^^ 2 ^ 63).testBit 63 := by
      rw [Nat.testBit_eq_decide_div_mod_eq]
      rfl
    have a2 : (x / 2 ^ 63 % 2 == 1) = x.testBit 63 := by
      rw [Nat.testBit_eq_decide_div_mod_eq]
      rfl
    rw [a1, a2, Nat.testBit_xor, Nat.testBit_two_pow]
    simp
  show double.read (x ^^^ 2 ^ 63) = _
  have e1 : double.signWeight = 2 ^ 63 := rfl
  unfold Format.read
  rw [e1]
  simp only [hm, hd]
  split
  · rfl
  · split
    · rfl
    · split <;> rfl

theorem Num.neg {x : Nat} {n : Int} (h : Num x n) : Num (Op.negFloat .f64 x) (-n) := by
  obtain ⟨hx, ⟨s, m, p, hr, hd⟩, hn⟩ := h
  refine ⟨Nat.xor_lt_two_pow hx (by decide), ⟨!s, m, p, ?_, valD_opposite hd⟩, by omega⟩
  rw [negFloat_read, hr]
  rfl

end Go.Proofs.YtmobkjdncfdokaaDoor
