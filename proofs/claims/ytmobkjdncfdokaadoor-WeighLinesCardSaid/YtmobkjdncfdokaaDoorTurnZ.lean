/- The walks of weigh's Turn, Join, Make, Parts. -/
import Derived.Test.YtmobkjdncfdokaaDoorValid
namespace Go.Proofs.YtmobkjdncfdokaaDoor
open Go.RowKit
open Ieee (Datum Format signed double)

theorem and3 (n : Int) : bits .and .i64 n 3 = n % 4 := by
  have h3 : (BitVec.ofInt 64 3).toNat = 2 ^ 2 - 1 := by decide
  have key : (BitVec.ofInt 64 n &&& BitVec.ofInt 64 3).toNat = (n % ((2 ^ 64 : Nat) : Int)).toNat % 2 ^ 2 := by
    rw [BitVec.toNat_and, BitVec.toNat_ofInt, h3, Nat.and_two_pow_sub_one_eq_mod]
  show IntKind.i64.wrap ((BitVec.ofInt 64 n &&& BitVec.ofInt 64 3).toNat : Nat) = n % 4
  rw [key, IntKind.wrap_i64]
  omega

/-- So many turns. -/
def turns (n : Int) : Nat := (n % 4).toNat

theorem turns_lt (n : Int) : turns n ≤ 3 := by unfold turns; omega
theorem turns_nat (n : Nat) (z : Int × Int) : rot (turns (n : Int)) z = rot n z := by
  have : turns (n : Int) = n % 4 := by unfold turns; omega
  rw [this, rot_mod]

/-- A complex number whose parts are numbers of a weight. -/
def NumZ (x y : Nat) (z : Int × Int) : Prop := Num x z.1 ∧ Num y z.2

theorem NumZ.turned {x y : Nat} {z : Int × Int} (h : NumZ x y z) : NumZ (Op.negFloat .f64 y) x (-z.2, z.1) := ⟨h.2.neg, h.1⟩

theorem NumZ.next {x y k : Nat} {z : Int × Int} (h : NumZ x y (rot k z)) : NumZ (Op.negFloat .f64 y) x (rot (k + 1) z) := by
  rw [rot_succ]; exact h.turned

set_option maxHeartbeats 1000000 in
theorem turn_yes {x y : Nat} {z : Int × Int} (h : NumZ x y z) (n : Int) (w : World) :
    Calls Tryd.prog 39 #[.complex .f64 x y, .int .i64 n] w fun e w' => e = .returned (.complex .f64 (flt (rot (turns n) z).1) (flt (rot (turns n) z).2)) ∧ w = w' := by
  have V := fun w => valid_yes h.1 h.2 w
  have HZ := Lib.hid h
  have ha := and3 n
  obtain ⟨m, hm⟩ : ∃ m, m = turns n := ⟨_, rfl⟩
  have hm3 : m ≤ 3 := by rw [hm]; exact turns_lt n
  have hmi : n % 4 = (m : Int) := by rw [hm]; unfold turns; omega
  rw [hmi] at ha
  rw [← hm]
  clear hm hmi h
  go_enter Tryd.func39, Tryd.ntmps39
  go_wp2_with fail
  refine (V _).mono ?_
  rintro e w' ⟨rfl, rfl⟩
  go_wp2
  go_loopw [0, 10] (fun v i wr => ∃ (k X Y : Nat), k ≤ m ∧ i = .int .i64 k ∧ v = .complex .f64 X Y ∧ NumZ X Y (rot k z) ∧ wr = w) (fun _ i _ => m - (intOf i).toNat)
  case atStart => exact ⟨0, x, y, Nat.zero_le _, rfl, rfl, HZ.out, rfl⟩
  case round =>
    obtain ⟨k, X, Y, hk, rfl, rfl, hZ, rfl⟩ := hrel
    have HK := Lib.hid hZ
    clear HZ
    by_cases hlt : k < m
    · clear hZ
      have hlt' : (k : Int) < m := by omega
      go_wp2_with fail
      refine (timesI_any _ _ _).mono ?_
      rintro e w' ⟨rfl, rfl⟩
      go_wp2
      go_roundw
      case rel => exact ⟨k + 1, _, _, by omega, by go_num, rfl, HK.out.next, trivial⟩
      case measure => simp [intOf]; omega
    · obtain rfl : k = m := by omega
      have P := plain_any hZ.1 hZ.2
      clear hZ hlt
      go_wp2_with fail
      refine (P _).mono ?_
      rintro e w' ⟨rfl, rfl⟩
      go_wp2
      go_ret
      exact ⟨rfl, rfl⟩

/-- Both parts are those of a weight. -/
def IsZ (x y : Nat) : Prop := (∃ a, Num x a) ∧ ∃ b, Num y b

theorem turn_no {x y : Nat} (hx : x < 2 ^ 64) (hy : y < 2 ^ 64) (h : ¬ IsZ x y) (n : Int) (w : World) :
    Calls Tryd.prog 39 #[.complex .f64 x y, .int .i64 n] w fun e w' => e = .returned (.complex .f64 0 0) ∧ Below w.heap.size w w' := by
  have V := valid_no hx hy h w
  clear h hx hy
  go_enter Tryd.func39, Tryd.ntmps39
  go_wp2_with fail
  refine V.mono ?_
  rintro e w' ⟨rfl, hb⟩
  go_wp2
  go_ret
  exact ⟨rfl, hb⟩

/-- What is added: a weight's part, and the float of one. -/
theorem add_flt {x : Nat} {a b : Int} (hx : Num x a) (hb : b.natAbs ≤ 2 ^ 53) : floatBits .add .f64 x (flt b) = some (flt (a + b)) := by
  obtain ⟨r, h1, h2, _⟩ := add_val hx.2.1 (num_flt b hb).2.1
  have hs := (val_flt b hb).2
  show double.add x (flt b) = _
  rw [h1, h2 ?_]
  by_cases c : a + b = 0
  · right
    by_cases hb0 : b < 0
    · left
      have ha : a ≠ 0 := by omega
      obtain ⟨_, ⟨s, m, p, hr, hd⟩, _⟩ := hx
      unfold neg?
      rw [hr]
      show s = false
      rw [sg_of_val hd ha]
      simp; omega
    · right
      rw [hs]; simpa using hb0
  · exact Or.inl c

theorem flt_add {y : Nat} {a b : Int} (ha : a.natAbs ≤ 2 ^ 53) (hy : Num y b) : floatBits .add .f64 (flt a) y = some (flt (a + b)) := by
  obtain ⟨r, h1, h2, _⟩ := add_val (num_flt a ha).2.1 hy.2.1
  have hs := (val_flt a ha).2
  show double.add (flt a) y = _
  rw [h1, h2 ?_]
  by_cases c : a + b = 0
  · right
    by_cases ha0 : a < 0
    · right
      have hb : b ≠ 0 := by omega
      obtain ⟨_, ⟨s, m, p, hr, hd⟩, _⟩ := hy
      unfold neg?
      rw [hr]
      show s = false
      rw [sg_of_val hd hb]
      simp; omega
    · left
      rw [hs]; simpa using ha0
  · exact Or.inl c

theorem rot_num {z : Int × Int} (k : Nat) (h : z.1.natAbs ≤ 2 ^ 53 ∧ z.2.natAbs ≤ 2 ^ 53) : (rot k z).1.natAbs ≤ 2 ^ 53 ∧ (rot k z).2.natAbs ≤ 2 ^ 53 := by
  have := rot_abs 9007199254740992 k z ⟨by omega, by omega⟩
  omega

/-- The sum of a weight and another one turned. -/
def joinZ (a : Int × Int) (n : Int) (b : Int × Int) : Int × Int := (a.1 + (rot (turns n) b).1, a.2 + (rot (turns n) b).2)

theorem join_yes {x y u v : Nat} {a b : Int × Int} (ha : NumZ x y a) (hb : NumZ u v b) (n : Int) (w : World) :
    Calls Tryd.prog 22 #[.complex .f64 x y, .int .i64 n, .complex .f64 u v] w fun e w' => e = .returned (.complex .f64 (flt (joinZ a n b).1) (flt (joinZ a n b).2)) ∧ w = w' := by
  have V1 := fun w => valid_yes ha.1 ha.2 w
  have V2 := fun w => valid_yes hb.1 hb.2 w
  have T := turn_yes hb n
  have hr := rot_num (turns n) ⟨hb.1.2.2, hb.2.2.2⟩
  have hs : cSumBits .add .f64 x y (flt (rot (turns n) b).1) (flt (rot (turns n) b).2) = some (flt (joinZ a n b).1, flt (joinZ a n b).2) := by
    unfold cSumBits
    rw [add_flt ha.1 hr.1, add_flt ha.2 hr.2]
    rfl
  have hop := fun t w => run_complex_sum (P := Tryd.prog) w .add (Or.inl rfl) t .f64 _ _ _ _ _ _ hs
  clear hs hr ha hb
  go_enter Tryd.func22, Tryd.ntmps22
  go_wp2_with fail
  refine (V1 _).mono ?_
  rintro e w' ⟨rfl, rfl⟩
  go_wp2_with fail
  refine (V2 _).mono ?_
  rintro e w' ⟨rfl, rfl⟩
  go_wp2_with fail
  refine (T _).mono ?_
  rintro e w' ⟨rfl, rfl⟩
  go_wp2
  go_ret
  exact ⟨rfl, rfl⟩

theorem join_no {x y u v : Nat} (hx : x < 2 ^ 64) (hy : y < 2 ^ 64) (hu : u < 2 ^ 64) (hv : v < 2 ^ 64) (h : ¬ (IsZ x y ∧ IsZ u v)) (n : Int) (w : World) :
    Calls Tryd.prog 22 #[.complex .f64 x y, .int .i64 n, .complex .f64 u v] w fun e w' => e = .returned (.complex .f64 0 0) ∧ Below w.heap.size w w' := by
  by_cases c : IsZ x y
  · have c2 : ¬ IsZ u v := fun h2 => h ⟨c, h2⟩
    obtain ⟨⟨a, ha⟩, b, hb⟩ := c
    have V1 := fun w => valid_yes ha hb w
    have V2 := fun w => valid_no hu hv c2 w
    clear ha hb c2 h hx hy hu hv
    go_enter Tryd.func22, Tryd.ntmps22
    go_wp2_with fail
    refine (V1 _).mono ?_
    rintro e w' ⟨rfl, rfl⟩
    go_wp2_with fail
    refine (V2 _).mono ?_
    rintro e w' ⟨rfl, hb⟩
    go_wp2
    go_ret
    exact ⟨rfl, hb⟩
  · have V1 := fun w => valid_no hx hy c w
    clear c h hx hy hu hv
    go_enter Tryd.func22, Tryd.ntmps22
    go_wp2_with fail
    refine (V1 _).mono ?_
    rintro e w' ⟨rfl, hb⟩
    go_wp2
    go_ret
    exact ⟨rfl, hb⟩

end Go.Proofs.YtmobkjdncfdokaaDoor
