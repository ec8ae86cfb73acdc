/- Floats of sums; the walks of the statements' own plain and awake. -/
import Derived.Test.YtmobkjdncfdokaaDoorNumW
namespace Go.Proofs.YtmobkjdncfdokaaDoor
open Go.RowKit
open Ieee (Datum Format signed double)

/-! ### Floats of sums: they are read as numbers, and are not 0. -/
theorem read_nearest2 (s : Bool) (n : Nat) (h0 : n ≠ 0) (hn : n ≤ 2 ^ 54) : ∃ m p, double.read (double.nearest s n 0) = .number s m p ∧ 0 < m := by
  by_cases c : n ≤ 2 ^ 53
  · obtain ⟨m, p, hr, hv⟩ := read_nearest s n c
    refine ⟨m, p, hr, ?_⟩
    have h1 := hv p.toNat (-p).toNat (by omega)
    have h2 : 0 < n * 2 ^ (-p).toNat := Nat.mul_pos (by omega) (Nat.two_pow_pos _)
    by_cases hm : m = 0
    · rw [hm, Nat.zero_mul] at h1; omega
    · omega
  have hl := (Nat.log2_eq_iff h0).1 rfl
  have hl1 : 53 ≤ n.log2 := by
    by_cases d : 53 ≤ n.log2
    · exact d
    · have : 2 ^ (n.log2 + 1) ≤ 2 ^ 53 := Nat.pow_le_pow_right (by omega) (by omega)
      omega
  have hl2 : n.log2 ≤ 54 := by
    by_cases d : n.log2 ≤ 54
    · exact d
    · have : 2 ^ 55 ≤ 2 ^ n.log2 := Nat.pow_le_pow_right (by omega) (by omega)
      omega
  obtain ⟨j, hj⟩ : ∃ j, n.log2 = 52 + j := ⟨n.log2 - 52, by omega⟩
  have hj1 : 1 ≤ j := by omega
  have hj2 : j ≤ 2 := by omega
  unfold Format.nearest
  rw [if_neg h0]
  have e2 : double.binade = 2 ^ 52 := rfl
  have e3 : double.infRung = 2047 * 2 ^ 52 := rfl
  have e4 : double.leastPlace = -1074 := rfl
  have e5 : (double.fractionBits : Int) = 52 := rfl
  simp only [e2, e3, e4, e5, hj]
  have elast : max ((0 : Int) + ((52 + j : Nat) : Int) - 52) (-1074) = (j : Int) := by omega
  rw [elast]
  have eA : (0 - (j : Int)).toNat = 0 := by omega
  have eB : ((j : Int) - 0).toNat = j := by omega
  have eC : ((j : Int) - (-1074)).toNat = 1074 + j := by omega
  rw [eA, eB, eC, Nat.shiftLeft_zero]
  obtain ⟨k, hk⟩ : ∃ k, k = Ieee.Toward.even.cut s n j := ⟨_, rfl⟩
  have hk1 : n / 2 ^ j ≤ k ∧ k ≤ n / 2 ^ j + 1 := by
    rw [hk]
    unfold Ieee.Toward.cut
    have e : min j (n.log2 + 2) = j := by omega
    simp only [e, Nat.shiftLeft_eq, Nat.one_mul]
    generalize (decide (2 ^ j < 2 * (n % 2 ^ j)) || 2 ^ j == 2 * (n % 2 ^ j) && n / 2 ^ j % 2 == 1) = b
    cases b <;> simp
  rw [← hk]
  clear hk
  rw [hj] at hl
  have hlo : 2 ^ 52 ≤ n / 2 ^ j := by
    rw [Nat.le_div_iff_mul_le (Nat.two_pow_pos j), ← Nat.pow_add]
    exact hl.1
  have hhi : n / 2 ^ j < 2 ^ 53 := by
    rw [Nat.div_lt_iff_lt_mul (Nat.two_pow_pos j), ← Nat.pow_add, show 53 + j = 52 + j + 1 by omega]
    exact hl.2
  obtain ⟨q, hq⟩ : ∃ q, q = n / 2 ^ j := ⟨_, rfl⟩
  rw [← hq] at hk1 hlo hhi
  have hk2 : 2 ^ 52 ≤ k ∧ k ≤ 2 ^ 53 := ⟨Nat.le_trans hlo hk1.1, Nat.le_trans hk1.2 hhi⟩
  clear hl hq hlo hhi hk1 c hn h0 elast eA eB eC e2 e3 e4 e5
  have b1 : (1074 + j) * 2 ^ 52 + k < 2 ^ 63 ∧ ¬ ((1074 + j) * 2 ^ 52 + k < 2 ^ 52) ∧ (1074 + j) * 2 ^ 52 + k < 2047 * 2 ^ 52 := by
    have a1 : (2 : Nat) ^ 53 = 2 * 2 ^ 52 := rfl
    have a2 : (2 : Nat) ^ 63 = 2048 * 2 ^ 52 := rfl
    rw [a1] at hk2
    rw [a2]
    have hB : 0 < 2 ^ 52 := Nat.two_pow_pos 52
    generalize (2 : Nat) ^ 52 = B at *
    have h1 : (1074 + j) * B ≤ 1076 * B := Nat.mul_le_mul_right _ (by omega)
    have h2 : 1075 * B ≤ (1074 + j) * B := Nat.mul_le_mul_right _ (by omega)
    generalize (1074 + j) * B = X at *
    refine ⟨by omega, by omega, by omega⟩
  obtain ⟨R, hR⟩ : ∃ R, R = (1074 + j) * 2 ^ 52 + k := ⟨_, rfl⟩
  rw [← hR] at b1 ⊢
  rw [Nat.min_eq_left (Nat.le_of_lt b1.2.2), read_word s R b1.1, if_neg b1.2.1, if_pos b1.2.2]
  exact ⟨_, _, rfl, Nat.add_pos_left (Nat.two_pow_pos 52) _⟩

theorem flt_read (n : Int) (h : n.natAbs ≤ 2 ^ 54) : ∃ s m p, double.read (flt n) = .number s m p ∧ (n ≠ 0 → 0 < m) := by
  by_cases c : n = 0
  · subst c
    obtain ⟨m, p, hr, _⟩ := read_nearest false 0 (by decide)
    exact ⟨_, m, p, hr, fun h => absurd rfl h⟩
  · obtain ⟨m, p, hr, hm⟩ := read_nearest2 (decide (n < 0)) n.natAbs (by omega) h
    exact ⟨_, m, p, hr, fun _ => hm⟩

/-- A float of a sum is equal to itself. -/
theorem order_self (n : Int) (h : n.natAbs ≤ 2 ^ 54) : FloatKind.f64.format.order (flt n) (flt n) = some .eq := by
  obtain ⟨s, m, p, hr, _⟩ := flt_read n h
  show double.order _ _ = _
  unfold Format.order
  rw [hr]
  simp [Datum.order, compare, compareOfLessAndEq]

/-- A float of a sum that is not 0 is not equal to 0. -/
theorem order_not_zero (n : Int) (h : n.natAbs ≤ 2 ^ 54) (h0 : n ≠ 0) : FloatKind.f64.format.order (flt n) 0 = some .lt ∨ FloatKind.f64.format.order (flt n) 0 = some .gt := by
  obtain ⟨s, m, p, hr, hm⟩ := flt_read n h
  have o := (order_num hr num_zero.2.1 p.toNat (-p).toNat (by omega)).1
  have hm' := hm h0
  have hA : sg s * ((m : Int) * 2 ^ p.toNat) ≠ 0 := by
    intro hz
    have := congrArg Int.natAbs hz
    rw [sg_abs, Int.natAbs_mul, Int.natAbs_natCast, Int.natAbs_pow] at this
    have h2 : 0 < m * (2 : Int).natAbs ^ p.toNat := Nat.mul_pos hm' (Nat.two_pow_pos _)
    rw [this] at h2
    simp at h2
  show double.order _ _ = _ ∨ double.order _ _ = _
  rw [o, Int.zero_mul]
  have := compare_zero _ hA
  rcases this with h | h
  · left; rw [h]
  · right; rw [h]

/-! ### The statements' own functions. -/
theorem bits_run (x : Nat) (w : World) : (callFunc 35 #[.float .f64 x]).run Tryd.prog w = .ok (.value (.int .u64 x)) w := by
  rw [run_callFunc_extern Tryd.func35 (e := Extern.MathFloatBits.float64bits) (by kernel_rfl) (by kernel_rfl) (by kernel_rfl) (by kernel_rfl)]
  rfl

theorem signbit_zero (w : World) :
    Calls Tryd.prog 20 #[.float .f64 0] w fun e w' => e = .returned (.bool false) ∧ w = w' := by
  have hb := bits_run 0
  go_enter Tryd.func20, Tryd.ntmps20
  go_wp2_with (simp only [hb])
  go_ret
  exact ⟨rfl, rfl⟩

theorem order_zero_zero : FloatKind.f64.format.order 0 0 = some .eq := order_self 0 (by decide)

/-- A float of a sum, as a test sees it: it is 0 itself, or is not equal to 0. -/
theorem flt_cases (n : Int) (h : n.natAbs ≤ 2 ^ 54) : flt n = 0 ∨ FloatKind.f64.format.order (flt n) 0 = some .lt ∨ FloatKind.f64.format.order (flt n) 0 = some .gt := by
  by_cases c : n = 0
  · left; rw [c]; rfl
  · right; exact order_not_zero n h c

theorem isPlain_any (a b : Int) (ha : a.natAbs ≤ 2 ^ 54) (hb : b.natAbs ≤ 2 ^ 54) (w : World) :
    Calls Tryd.prog 9 #[.complex .f64 (flt a) (flt b)] w fun e w' => e = .returned (.bool true) ∧ w = w' := by
  have h0 := order_zero_zero
  have S := signbit_zero
  have ca := flt_cases a ha
  have cb := flt_cases b hb
  generalize flt a = x at *
  generalize flt b = y at *
  rcases ca with rfl | ca | ca <;> rcases cb with rfl | cb | cb
  all_goals
    go_enter Tryd.func9, Tryd.ntmps9
    go_wp2_with ((with_reducible refine (S _).mono ?_); rintro e w' ⟨rfl, rfl⟩)
    go_ret
    exact ⟨rfl, rfl⟩

theorem flt_m2 : flt (-2) = 13835058055282163712 := by decide +kernel
theorem flt_2 : flt 2 = 4611686018427387904 := by decide +kernel

theorem awake_any (w : World) :
    Calls Tryd.prog 10 #[] w fun e w' => e = .returned (.bool true) ∧ Below w.heap.size w w' := by
  have O := of_any ⟨#[1, 2, 3]⟩ (by decide) w
  have e1 : wOf (ByteArray.mk #[1, 2, 3]).data.toList = .complex .f64 13835058055282163712 4611686018427387904 := by
    show Value.complex .f64 (flt (-2)) (flt 2) = _
    rw [flt_m2, flt_2]
  rw [e1] at O
  have n2 : Num 4611686018427387904 2 := flt_2 ▸ num_flt 2 (by decide)
  have J := join_yes (a := (1, 0)) (b := (2, 0)) ⟨num_one, num_zero⟩ ⟨n2, num_zero⟩ 1
  have e2 : joinZ (1, 0) 1 (2, 0) = (1, 2) := by decide
  rw [e2] at J
  simp only [flt_one, flt_2] at J
  have o1 : FloatKind.f64.format.order 13835058055282163712 13835058055282163712 = some .eq := flt_m2 ▸ order_self (-2) (by decide)
  have o2 : FloatKind.f64.format.order 4611686018427387904 4611686018427387904 = some .eq := flt_2 ▸ order_self 2 (by decide)
  have o3 : FloatKind.f64.format.order 4607182418800017408 4607182418800017408 = some .eq := flt_one ▸ order_self 1 (by decide)
  clear e1 e2 n2
  go_enter Tryd.func10, Tryd.ntmps10
  go_wp2_with fail
  refine O.mono ?_
  rintro e w1 ⟨rfl, hb⟩
  go_wp2_with fail
  refine (J _).mono ?_
  rintro e w' ⟨rfl, rfl⟩
  go_wp2
  go_ret
  exact ⟨rfl, hb⟩

end Go.Proofs.YtmobkjdncfdokaaDoor
