/- The walks of weigh's parts: which floats may be, a sign turned, turned by i, turned, joined. The walks of weigh: which numbers are weights, turned, joined, made, their parts. The walks of weigh's Turn, Join, Make, Parts. The walks of a Scale: New, Write, Sum, Len; of Of. The walks of Make and Parts of package weigh. -/
import Derived.Test.YtijdbmapdmhknaaDoorRows
import Derived.Test.YtijdbmapdmhknaaDoorGE
import Derived.Test.YtijdbmapdmhknaaDoorGA
import Derived.WalkKit
import Derived.WalkSpells
import Derived.WalkLawsBesides
import Derived.Deep.OwnRows
import Derived.Lib.Hide
import Derived.Outline
import Derived.Laws.BitsLemmas
import Derived.RegionTactic
import Derived.BigRegion
import Derived.Scope
import Derived.WalkMore
import Derived.ScopeJumps
import Derived.Deep.WholeRow
import Derived.OwnWalk
namespace Go.Proofs.YtijdbmapdmhknaaDoor
open Go.RowKit
open Ieee (Datum Format signed double)

theorem run_arch (args : Array Value) (w : World) : (callFunc 81 args).run Tryd.prog w = ((Extern.MathFloor.toIntegral "math.archTrunc" .zero args).run Tryd.prog w).andThen fun v w' => .ok (.value v) w' :=
  run_callFunc_extern Tryd.func81 (by kernel_rfl) (by kernel_rfl) (by kernel_rfl) (by kernel_rfl) args w

theorem toI_num {x : Nat} {s : Bool} {m : Nat} {p : Int} (h : FloatKind.f64.decode x = .number s m p) : Extern.MathFloor.toIntegral "math.archTrunc" .zero #[.float .f64 x] = pure (.float .f64 (trn x)) := by
  have e : trn x = FloatKind.f64.encode ((Datum.number s m p).integral .zero) := by rw [← h]; rfl
  rw [e]
  conv => lhs; whnf
  rw [h]

theorem toI_inf {x : Nat} {s : Bool} (h : FloatKind.f64.decode x = .infinity s) : Extern.MathFloor.toIntegral "math.archTrunc" .zero #[.float .f64 x] = pure (.float .f64 (trn x)) := by
  have e : trn x = FloatKind.f64.encode ((Datum.infinity s).integral .zero) := by rw [← h]; rfl
  rw [e]
  conv => lhs; whnf
  rw [h]

theorem toI_nan {x : Nat} {s : Bool} {f : Nat} (h : FloatKind.f64.decode x = .nan s f) (w : World) : ∃ r w', (Extern.MathFloor.toIntegral "math.archTrunc" .zero #[.float .f64 x]).run Tryd.prog w = .ok (.float .f64 r) w' ∧ Below w.heap.size w w' := by
  conv => enter [1, r, 1, w', 1, 1, 2]; whnf
  rw [h]
  by_cases q : FloatKind.f64.format.quiet f = f
  · simp only [q, if_true]
    exact ⟨_, _, rfl, Below.refl _ _⟩
  · simp only [q, if_false]
    exact ⟨_, w.drew, by simp [Question.forced]; rfl, (Below.refl _ _).drew⟩

theorem arch_any (x : Nat) (w : World) : ∃ r w', (callFunc 81 #[.float .f64 x]).run Tryd.prog w = .ok (.value (.float .f64 r)) w' ∧ Below w.heap.size w w' ∧ ((∀ s f, double.read x ≠ .nan s f) → r = trn x ∧ w = w') := by
  rw [run_arch]
  cases hr : double.read x with
  | nan s f =>
    obtain ⟨r, w', h1, h2⟩ := toI_nan hr w
    exact ⟨r, w', by rw [h1]; rfl, h2, fun h => absurd rfl (h s f)⟩
  | infinity s => exact ⟨trn x, w, by rw [toI_inf hr]; rfl, Below.refl _ _, fun _ => ⟨rfl, rfl⟩⟩
  | number s m p => exact ⟨trn x, w, by rw [toI_num hr]; rfl, Below.refl _ _, fun _ => ⟨rfl, rfl⟩⟩

theorem trunc_any (x : Nat) (w : World) : Calls Tryd.prog 80 #[.float .f64 x] w fun e w' => ∃ r, e = .returned (.float .f64 r) ∧ Below w.heap.size w w' ∧ ((∀ s f, double.read x ≠ .nan s f) → r = trn x ∧ w = w') := by
  obtain ⟨r, w', h1, h2, h3⟩ := arch_any x w
  go_enter Tryd.func80, Tryd.ntmps80
  go_wp2_with (simp only [h1])
  go_ret
  exact ⟨r, rfl, h2, h3⟩

end Go.Proofs.YtijdbmapdmhknaaDoor
namespace Go.Proofs.YtijdbmapdmhknaaDoor
open Go.RowKit
open Ieee (Datum Format signed double)

theorem num_not_nan {x : Nat} {n : Int} (h : Num x n) : ∀ s f, double.read x ≠ .nan s f := by
  obtain ⟨_, ⟨s, m, p, hr, _⟩, _⟩ := h
  intro s f hq
  rw [hr] at hq
  cases hq

theorem validPart_yes {x : Nat} {n : Int} (h : Num x n) (w : World) :
    Calls Tryd.prog 78 #[.float .f64 x] w fun e w' => e = .returned (.bool true) ∧ w = w' := by
  obtain ⟨h0, h1, h2, _⟩ := num_tests h
  have TR := trunc_any x w
  have hnn := num_not_nan h
  have HN := Lib.hid hnn
  clear hnn h
  rcases h1 with h1 | h1 <;> rcases h2 with h2 | h2
  all_goals
    go_enter Tryd.func78, Tryd.ntmps78
    go_wp2_with fail
    refine TR.mono ?_
    rintro e w' ⟨r, rfl, _, hq⟩
    obtain ⟨rfl, rfl⟩ := hq HN.out
    go_wp2
    go_ret
    exact ⟨rfl, rfl⟩

theorem order_nan_left {x r : Nat} {s : Bool} {f : Nat} (h : double.read x = .nan s f) : FloatKind.f64.format.order x r = none := by
  show double.order x r = none
  unfold Format.order
  rw [h]
  cases double.read r <;> rfl

theorem validPart_no {x : Nat} (hx : x < 2 ^ 64) (h : ¬ ∃ n, Num x n) (w : World) :
    Calls Tryd.prog 78 #[.float .f64 x] w fun e w' => e = .returned (.bool false) ∧ Below w.heap.size w w' := by
  have TR := trunc_any x w
  have cases3 : ∀ r : Nat, ((∀ s f, double.read x ≠ .nan s f) → r = trn x) →
      FloatKind.f64.format.order x r ≠ some .eq ∨ (FloatKind.f64.format.order 14069245235905429504 x ≠ some .lt ∧ FloatKind.f64.format.order 14069245235905429504 x ≠ some .eq) ∨
      (FloatKind.f64.format.order x 4845873199050653696 ≠ some .lt ∧ FloatKind.f64.format.order x 4845873199050653696 ≠ some .eq) := by
    intro r hr
    by_cases hq : ∀ s f, double.read x ≠ .nan s f
    · rw [hr hq]
      by_cases c0 : FloatKind.f64.format.order x (trn x) = some .eq
      · right
        by_cases c1 : FloatKind.f64.format.order 14069245235905429504 x = some .lt ∨ FloatKind.f64.format.order 14069245235905429504 x = some .eq
        · right
          by_cases c2 : FloatKind.f64.format.order x 4845873199050653696 = some .lt ∨ FloatKind.f64.format.order x 4845873199050653696 = some .eq
          · exact absurd (part_of_tests hx c0 c1 c2) h
          · exact ⟨fun e => c2 (Or.inl e), fun e => c2 (Or.inr e)⟩
        · left
          exact ⟨fun e => c1 (Or.inl e), fun e => c1 (Or.inr e)⟩
      · left; exact c0
    · left
      cases hrd : double.read x with
      | nan s f => rw [order_nan_left hrd]; simp
      | infinity s => exact absurd (fun s f e => by rw [hrd] at e; cases e) hq
      | number s m p => exact absurd (fun s f e => by rw [hrd] at e; cases e) hq
  have HC := Lib.hid cases3
  clear cases3 h
  go_enter Tryd.func78, Tryd.ntmps78
  go_wp2_with fail
  refine TR.mono ?_
  rintro e w' ⟨r, rfl, hb, hq⟩
  have hc := HC.out r (fun h => (hq h).1)
  clear hq
  obtain ⟨o0, h0⟩ : ∃ o, FloatKind.f64.format.order x r = o := ⟨_, rfl⟩
  obtain ⟨o1, h1⟩ : ∃ o, FloatKind.f64.format.order 14069245235905429504 x = o := ⟨_, rfl⟩
  obtain ⟨o2, h2⟩ : ∃ o, FloatKind.f64.format.order x 4845873199050653696 = o := ⟨_, rfl⟩
  rw [h0, h1, h2] at hc
  have HH := Lib.hid hc
  clear hc
  have fin : ∀ o : Option Ordering, o = none ∨ o = some .lt ∨ o = some .eq ∨ o = some .gt := by
    intro o; rcases o with _ | o
    · simp
    · cases o <;> simp
  rcases fin o0 with rfl | rfl | rfl | rfl
  case inr.inr.inl =>
    rcases fin o1 with rfl | rfl | rfl | rfl
    case inr.inl =>
      rcases fin o2 with rfl | rfl | rfl | rfl
      case inr.inl => exfalso; have := HH.out; simp at this
      case inr.inr.inl => exfalso; have := HH.out; simp at this
      all_goals (go_wp2; go_ret; exact ⟨rfl, hb⟩)
    case inr.inr.inl =>
      rcases fin o2 with rfl | rfl | rfl | rfl
      case inr.inl => exfalso; have := HH.out; simp at this
      case inr.inr.inl => exfalso; have := HH.out; simp at this
      all_goals (go_wp2; go_ret; exact ⟨rfl, hb⟩)
    all_goals (go_wp2; go_ret; exact ⟨rfl, hb⟩)
  all_goals (go_wp2; go_ret; exact ⟨rfl, hb⟩)

theorem valid_yes {x y : Nat} {a b : Int} (hx : Num x a) (hy : Num y b) (w : World) :
    Calls Tryd.prog 64 #[.complex .f64 x y] w fun e w' => e = .returned (.bool true) ∧ w = w' := by
  have V1 := validPart_yes hx
  have V2 := validPart_yes hy
  clear hx hy
  go_enter Tryd.func64, Tryd.ntmps64
  go_wp2_with fail
  refine (V1 _).mono ?_
  rintro e w' ⟨rfl, rfl⟩
  go_wp2_with fail
  refine (V2 _).mono ?_
  rintro e w' ⟨rfl, rfl⟩
  go_wp2
  go_ret
  exact ⟨rfl, rfl⟩

theorem valid_no {x y : Nat} (hx : x < 2 ^ 64) (hy : y < 2 ^ 64) (h : ¬ ((∃ a, Num x a) ∧ ∃ b, Num y b)) (w : World) :
    Calls Tryd.prog 64 #[.complex .f64 x y] w fun e w' => e = .returned (.bool false) ∧ Below w.heap.size w w' := by
  by_cases c : ∃ a, Num x a
  · have c2 : ¬ ∃ b, Num y b := fun h2 => h ⟨c, h2⟩
    obtain ⟨a, ha⟩ := c
    have V1 := validPart_yes ha
    have V2 := validPart_no hy c2
    clear ha c2 h hx hy
    go_enter Tryd.func64, Tryd.ntmps64
    go_wp2_with fail
    refine (V1 _).mono ?_
    rintro e w' ⟨rfl, rfl⟩
    go_wp2_with fail
    refine (V2 _).mono ?_
    rintro e w' ⟨rfl, hb⟩
    go_wp2
    go_ret
    exact ⟨rfl, hb⟩
  · have V1 := validPart_no hx c
    clear c h hx hy
    go_enter Tryd.func64, Tryd.ntmps64
    go_wp2_with fail
    refine (V1 _).mono ?_
    rintro e w' ⟨rfl, hb⟩
    go_wp2
    go_ret
    exact ⟨rfl, hb⟩

theorem unary_negf (b : Nat) : Op.unary .neg (.float .f64 b) = pure (.float .f64 (Op.negFloat .f64 b)) := rfl

theorem timesI_any (x y : Nat) (w : World) :
    Calls Tryd.prog 68 #[.complex .f64 x y] w fun e w' => e = .returned (.complex .f64 (Op.negFloat .f64 y) x) ∧ w = w' := by
  have hop := unary_negf
  go_enter Tryd.func68, Tryd.ntmps68
  go_wp2_with (simp only [hop, Sem.run_pure])
  go_ret
  exact ⟨rfl, rfl⟩

theorem order_zero {x : Nat} {n : Int} (h : Num x n) : FloatKind.f64.format.order x 0 = some (compare n 0) := order_val h.2.1 num_zero.2.1

theorem compare_zero (n : Int) (h : n ≠ 0) : compare n 0 = .lt ∨ compare n 0 = .gt := by
  simp only [compare, compareOfLessAndEq]
  by_cases c : n < 0
  · left; rw [if_pos c]
  · right; rw [if_neg c, if_neg h]

theorem plainPart_any {x : Nat} {n : Int} (h : Num x n) (w : World) :
    Calls Tryd.prog 79 #[.float .f64 x] w fun e w' => e = .returned (.float .f64 (flt n)) ∧ w = w' := by
  have ho := order_zero h
  by_cases c : n = 0
  · subst c
    have ho' : FloatKind.f64.format.order x 0 = some .eq := ho
    clear ho h
    go_enter Tryd.func79, Tryd.ntmps79
    go_wp2
    go_ret
    exact ⟨rfl, rfl⟩
  · have hown := Lib.hid (h.own c)
    have hc := compare_zero n c
    clear h
    rcases hc with hc | hc
    all_goals
      rw [hc] at ho
      clear hc c
      go_enter Tryd.func79, Tryd.ntmps79
      go_wp2
      go_ret
      exact ⟨by rw [← hown.out]; rfl, rfl⟩

theorem plain_any {x y : Nat} {a b : Int} (hx : Num x a) (hy : Num y b) (w : World) :
    Calls Tryd.prog 69 #[.complex .f64 x y] w fun e w' => e = .returned (.complex .f64 (flt a) (flt b)) ∧ w = w' := by
  have V1 := plainPart_any hx
  have V2 := plainPart_any hy
  clear hx hy
  go_enter Tryd.func69, Tryd.ntmps69
  go_wp2_with fail
  refine (V1 _).mono ?_
  rintro e w' ⟨rfl, rfl⟩
  go_wp2_with fail
  refine (V2 _).mono ?_
  rintro e w' ⟨rfl, rfl⟩
  go_wp2
  go_ret
  exact ⟨rfl, rfl⟩

end Go.Proofs.YtijdbmapdmhknaaDoor
namespace Go.Proofs.YtijdbmapdmhknaaDoor
open Go.RowKit
open Ieee (Datum Format signed double)

theorem and3 (n : Int) : bits .and .i64 n 3 = n % 4 := by
  have h3 : (BitVec.ofInt 64 3).toNat = 2 ^ 2 - 1 := by decide
  have key : (BitVec.ofInt 64 n &&& BitVec.ofInt 64 3).toNat = (n % ((2 ^ 64 : Nat) : Int)).toNat % 2 ^ 2 := by
    rw [BitVec.toNat_and, BitVec.toNat_ofInt, h3, Nat.and_two_pow_sub_one_eq_mod]
  show IntKind.i64.wrap ((BitVec.ofInt 64 n &&& BitVec.ofInt 64 3).toNat : Nat) = n % 4
  rw [key, IntKind.wrap_i64]
  omega

/-- So many turns. -/
def turns (n : Int) : Nat := (n % 4).toNat

theorem turns_lt (n : Int) : turns n ≤ 3 := by unfold turns; omega
theorem turns_nat (n : Nat) (z : Int × Int) : rot (turns (n : Int)) z = rot n z := by
  have : turns (n : Int) = n % 4 := by unfold turns; omega
  rw [this, rot_mod]

/-- A complex number whose parts are numbers of a weight. -/
def NumZ (x y : Nat) (z : Int × Int) : Prop := Num x z.1 ∧ Num y z.2

theorem NumZ.turned {x y : Nat} {z : Int × Int} (h : NumZ x y z) : NumZ (Op.negFloat .f64 y) x (-z.2, z.1) := ⟨h.2.neg, h.1⟩

theorem NumZ.next {x y k : Nat} {z : Int × Int} (h : NumZ x y (rot k z)) : NumZ (Op.negFloat .f64 y) x (rot (k + 1) z) := by
  rw [rot_succ]; exact h.turned

set_option maxHeartbeats 1000000 in
theorem turn_yes {x y : Nat} {z : Int × Int} (h : NumZ x y z) (n : Int) (w : World) :
    Calls Tryd.prog 50 #[.complex .f64 x y, .int .i64 n] w fun e w' => e = .returned (.complex .f64 (flt (rot (turns n) z).1) (flt (rot (turns n) z).2)) ∧ w = w' := by
  have V := fun w => valid_yes h.1 h.2 w
  have HZ := Lib.hid h
  have ha := and3 n
  obtain ⟨m, hm⟩ : ∃ m, m = turns n := ⟨_, rfl⟩
  have hm3 : m ≤ 3 := by rw [hm]; exact turns_lt n
  have hmi : n % 4 = (m : Int) := by rw [hm]; unfold turns; omega
  rw [hmi] at ha
  rw [← hm]
  clear hm hmi h
  go_enter Tryd.func50, Tryd.ntmps50
  go_wp2_with fail
  refine (V _).mono ?_
  rintro e w' ⟨rfl, rfl⟩
  go_wp2
  go_loopw [0, 10] (fun v i wr => ∃ (k X Y : Nat), k ≤ m ∧ i = .int .i64 k ∧ v = .complex .f64 X Y ∧ NumZ X Y (rot k z) ∧ wr = w) (fun _ i _ => m - (intOf i).toNat)
  case atStart => exact ⟨0, x, y, Nat.zero_le _, rfl, rfl, HZ.out, rfl⟩
  case round =>
    obtain ⟨k, X, Y, hk, rfl, rfl, hZ, rfl⟩ := hrel
    have HK := Lib.hid hZ
    clear HZ
    by_cases hlt : k < m
    · clear hZ
      have hlt' : (k : Int) < m := by omega
      go_wp2_with fail
      refine (timesI_any _ _ _).mono ?_
      rintro e w' ⟨rfl, rfl⟩
      go_wp2
      go_roundw
      case rel => exact ⟨k + 1, _, _, by omega, by go_num, rfl, HK.out.next, trivial⟩
      case measure => simp [intOf]; omega
    · obtain rfl : k = m := by omega
      have P := plain_any hZ.1 hZ.2
      clear hZ hlt
      go_wp2_with fail
      refine (P _).mono ?_
      rintro e w' ⟨rfl, rfl⟩
      go_wp2
      go_ret
      exact ⟨rfl, rfl⟩

/-- Both parts are those of a weight. -/
def IsZ (x y : Nat) : Prop := (∃ a, Num x a) ∧ ∃ b, Num y b

theorem turn_no {x y : Nat} (hx : x < 2 ^ 64) (hy : y < 2 ^ 64) (h : ¬ IsZ x y) (n : Int) (w : World) :
    Calls Tryd.prog 50 #[.complex .f64 x y, .int .i64 n] w fun e w' => e = .returned (.complex .f64 0 0) ∧ Below w.heap.size w w' := by
  have V := valid_no hx hy h w
  clear h hx hy
  go_enter Tryd.func50, Tryd.ntmps50
  go_wp2_with fail
  refine V.mono ?_
  rintro e w' ⟨rfl, hb⟩
  go_wp2
  go_ret
  exact ⟨rfl, hb⟩

/-- What is added: a weight's part, and the float of one. -/
theorem add_flt {x : Nat} {a b : Int} (hx : Num x a) (hb : b.natAbs ≤ 2 ^ 53) : floatBits .add .f64 x (flt b) = some (flt (a + b)) := by
  obtain ⟨r, h1, h2, _⟩ := add_val hx.2.1 (num_flt b hb).2.1
  have hs := (val_flt b hb).2
  show double.add x (flt b) = _
  rw [h1, h2 ?_]
  by_cases c : a + b = 0
  · right
    by_cases hb0 : b < 0
    · left
      have ha : a ≠ 0 := by omega
      obtain ⟨_, ⟨s, m, p, hr, hd⟩, _⟩ := hx
      unfold neg?
      rw [hr]
      show s = false
      rw [sg_of_val hd ha]
      simp; omega
    · right
      rw [hs]; simpa using hb0
  · exact Or.inl c

theorem flt_add {y : Nat} {a b : Int} (ha : a.natAbs ≤ 2 ^ 53) (hy : Num y b) : floatBits .add .f64 (flt a) y = some (flt (a + b)) := by
  obtain ⟨r, h1, h2, _⟩ := add_val (num_flt a ha).2.1 hy.2.1
  have hs := (val_flt a ha).2
  show double.add (flt a) y = _
  rw [h1, h2 ?_]
  by_cases c : a + b = 0
  · right
    by_cases ha0 : a < 0
    · right
      have hb : b ≠ 0 := by omega
      obtain ⟨_, ⟨s, m, p, hr, hd⟩, _⟩ := hy
      unfold neg?
      rw [hr]
      show s = false
      rw [sg_of_val hd hb]
      simp; omega
    · left
      rw [hs]; simpa using ha0
  · exact Or.inl c

theorem rot_num {z : Int × Int} (k : Nat) (h : z.1.natAbs ≤ 2 ^ 53 ∧ z.2.natAbs ≤ 2 ^ 53) : (rot k z).1.natAbs ≤ 2 ^ 53 ∧ (rot k z).2.natAbs ≤ 2 ^ 53 := by
  have := rot_abs 9007199254740992 k z ⟨by omega, by omega⟩
  omega

/-- The sum of a weight and another one turned. -/
def joinZ (a : Int × Int) (n : Int) (b : Int × Int) : Int × Int := (a.1 + (rot (turns n) b).1, a.2 + (rot (turns n) b).2)

end Go.Proofs.YtijdbmapdmhknaaDoor
namespace Go.Proofs.YtijdbmapdmhknaaDoor
open Go.RowKit
open Ieee (Datum Format signed double)

/-- A Scale that holds the text l. -/
def scaleA (l : List UInt8) : Array Value := #[.complex .f64 (flt (wRe 0 l)) (flt (wIm 0 l)), .int .i64 l.length]

def IsScale (g : Nat) (l : List UInt8) (w : World) : Prop := w.heap[g]? = some (.cells (scaleA l) 115 (0, 0))

/-- One byte times a power of i. -/
theorem mul_byte (b : UInt8) {x y k : Nat} (h : NumZ x y (pr k, pi k)) :
    ∃ re im, cMulBits (flt b.toNat) 0 x y = some (re, im) ∧ Num re ((b.toNat : Int) * pr k) ∧ Num im ((b.toNat : Int) * pi k) := by
  obtain ⟨hx, hy⟩ := h
  have hb : ((b.toNat : Int)).natAbs ≤ 2 ^ 53 := by have := b.toNat_lt; omega
  have hB := num_flt (b.toNat : Int) hb
  have a1 := mul_abs b (pr k) (pr_abs k)
  have a2 := mul_abs b (pi k) (pi_abs k)
  have lt64 : ∀ {x y r : Nat}, double.mul x y = some r → r < 2 ^ 64 := fun h => double.mul_lt h
  have hx : Num x (pr k) := hx
  have hy : Num y (pi k) := hy
  obtain ⟨ac, e1, v1⟩ := mul_val hB.2.1 hx.2.1 (by omega)
  obtain ⟨bd, e2, v2⟩ := mul_val num_zero.2.1 hy.2.1 (by simp)
  obtain ⟨ad, e3, v3⟩ := mul_val hB.2.1 hy.2.1 (by omega)
  obtain ⟨bc, e4, v4⟩ := mul_val num_zero.2.1 hx.2.1 (by simp)
  rw [Int.zero_mul] at v2 v4
  obtain ⟨re, e5, v5⟩ := sub_val v1 v2 (by omega)
  obtain ⟨im, e6, _, v6⟩ := add_val v3 v4
  have v6' := v6 (by omega)
  rw [Int.sub_zero] at v5
  rw [Int.add_zero] at v6'
  refine ⟨re, im, ?_, ⟨double.sub_lt e5, v5, by omega⟩, ⟨double.add_lt e6, v6', by omega⟩⟩
  have f1 : floatBits .mul .f64 (flt b.toNat) x = some ac := e1
  have f2 : floatBits .mul .f64 0 y = some bd := e2
  have f3 : floatBits .mul .f64 (flt b.toNat) y = some ad := e3
  have f4 : floatBits .mul .f64 0 x = some bc := e4
  have f5 : floatBits .sub .f64 ac bd = some re := e5
  have f6 : floatBits .add .f64 ad bc = some im := e6
  unfold cMulBits
  rw [f1, f2]
  simp only [Option.bind_some]
  rw [f5, f3, f4]
  simp only [Option.bind_some]
  rw [f6]
  rfl

/-- A scope through which the run comes back to one label, a measure falling. -/
theorem wp_scope_loop {P : Program} {a : Act} {w : World} {Q : Exit → Act → World → Prop} {c rest : Code} (l : Nat) (J : Act → World → Prop) (μ : Act → World → Nat) (hf : findLabel c l = some (Code.skip.seq rest))
    (enter : ∀ Q', (∀ a w, J a w → rest.wp P Q' a w) → c.wp P Q' a w)
    (pass : ∀ a w, J a w → rest.wp P (Exit.jump l (fun a' w' => J a' w' ∧ μ a' w' < μ a w) Q) a w) : (Code.scope c).wp P Q a w := by
  refine wp_scope_jumps l J μ hf (enter _ fun a w h => wp_mono (pass a w h) ?_) (fun a w h => wp_seq (wp_skip (pass a w h)))
  intro e a w hq
  cases e with
  | goto l' => exact ⟨hq.1, hq.2.1⟩
  | _ => exact hq

/-- The frame at the label: so many bytes are done. -/
def WriteAt (B g : Nat) (l : List UInt8) (s : ByteArray) (w0 : World) (a : Act) (w : World) : Prop :=
  ∃ (i X Y : Nat) (u6 u7 u8 u9 u10 u11 u12 u13 u14 u15 u16 u17 u18 u19 u20 u21 u22 u23 u24 u25 u26 u27 u28 u29 u30 u31 u32 u33 u34 : Value), a = { tmps := (.pointer (some ⟨g, 0, none⟩) :: .string s :: undef :: undef :: .complex .f64 X Y :: .int .i64 i :: u6 :: u7 :: u8 :: u9 :: u10 :: u11 :: u12 :: u13 :: u14 :: u15 :: u16 :: u17 :: u18 :: u19 :: u20 :: u21 :: u22 :: u23 :: u24 :: u25 :: u26 :: u27 :: u28 :: u29 :: u30 :: u31 :: u32 :: u33 :: u34 :: undef :: undef :: undef :: undef :: undef :: undef :: undef :: undef :: undef :: []).toArray, defers := [] } ∧ i ≤ s.size ∧ NumZ X Y (pr (l.length + i), pi (l.length + i)) ∧
    w.heap[g]? = some (.cells #[.complex .f64 (flt (wRe 0 (l ++ s.data.toList.take i))) (flt (wIm 0 (l ++ s.data.toList.take i))), .int .i64 l.length] 115 (0, 0)) ∧ Below B w0 w

theorem numZ_one (n : Nat) : NumZ (flt (rot (turns (n : Int)) (1, 0)).1) (flt (rot (turns (n : Int)) (1, 0)).2) (pr n, pi n) := by
  rw [turns_nat, rot_one]
  have a1 := pr_abs n
  have a2 := pi_abs n
  exact ⟨num_flt _ (by omega), num_flt _ (by omega)⟩

set_option maxHeartbeats 2000000 in
theorem write_any (B g : Nat) (l : List UInt8) (s : ByteArray) (hl : l.length + s.size ≤ 1000000000000) (w : World) (hH : IsScale g l w) (hB : B ≤ g) :
    Calls Tryd.prog 66 #[.pointer (some ⟨g, 0, none⟩), .string s] w fun e w' => e = .returned (.tuple #[]) ∧ IsScale g (l ++ s.data.toList) w' ∧ Below B w w' := by
  go_enter Tryd.func66, Tryd.ntmps66
  go_wp2
  refine wp_scope_loop 0 (WriteAt B g l s w) (fun a' _ => s.size - (intOf (a'.tmps.getD 5 undef)).toNat) rfl ?_ ?_
  · intro Q' hq
    have T := fun w => turn_yes (z := (1, 0)) ⟨num_one, num_zero⟩ (l.length : Int) w
    have hz := numZ_one l.length
    have HZ := Lib.hid hz
    have HQ := Lib.hid hq
    clear hq hz
    have c1 : w.cell? ⟨g, 1, none⟩ = some (.int .i64 l.length) := (cell_of_row w g 1 _ _ _ hH).trans rfl
    go_wp2_with fail
    refine (T _).mono ?_
    rintro e w' ⟨rfl, rfl⟩
    go_wp2
    go_step3
    rename_i K hK
    refine hK _ _ (HQ.out _ _ ⟨0, _, _, _, _, _, _, _, _, _, _, _, _, _, _, _, _, _, _, _, _, _, _, _, _, _, _, _, _, _, _, _, rfl, Nat.zero_le _, HZ.out, ?_, Below.refl _ _⟩)
    simpa [IsScale, scaleA] using hH
  · rintro a' w' ⟨i, X, Y, u6, u7, u8, u9, u10, u11, u12, u13, u14, u15, u16, u17, u18, u19, u20, u21, u22, u23, u24, u25, u26, u27, u28, u29, u30, u31, u32, u33, u34, rfl, hi, hZ, hg, hb⟩
    have hD := data_len s
    by_cases hlt : i < s.size
    · have hti := List.take_succ_eq_append_getElem (l := s.data.toList) (i := i) (by omega)
      obtain ⟨c, hc⟩ : ∃ c : UInt8, c = s.data.toList[i]'(by omega) := ⟨_, rfl⟩
      rw [← hc] at hti
      have hcs : s[i].toNat = c.toNat := by rw [hc]; rfl
      obtain ⟨re, im, hmul, hre, him⟩ := mul_byte c hZ
      have bA := wRe_abs 0 (l ++ s.data.toList.take i)
      have bB := wIm_abs 0 (l ++ s.data.toList.take i)
      have hlen : (l ++ s.data.toList.take i).length = l.length + i := by rw [List.length_append, List.length_take, hD, Nat.min_eq_left hi]
      have eA : wRe 0 (l ++ s.data.toList.take i) + (c.toNat : Int) * pr (l.length + i) = wRe 0 (l ++ s.data.toList.take (i + 1)) := by
        rw [hti, ← List.append_assoc, wRe_append 0 (l ++ s.data.toList.take i) [c], hlen, Nat.zero_add]; simp [wRe]
      have eB : wIm 0 (l ++ s.data.toList.take i) + (c.toNat : Int) * pi (l.length + i) = wIm 0 (l ++ s.data.toList.take (i + 1)) := by
        rw [hti, ← List.append_assoc, wIm_append 0 (l ++ s.data.toList.take i) [c], hlen, Nat.zero_add]; simp [wIm]
      rw [hlen] at bA bB
      have hA := flt_add (a := wRe 0 (l ++ s.data.toList.take i)) (by omega) hre
      have hB' := flt_add (a := wIm 0 (l ++ s.data.toList.take i)) (by omega) him
      rw [eA] at hA
      rw [eB] at hB'
      obtain ⟨A, hAe⟩ : ∃ A, A = flt (wRe 0 (l ++ s.data.toList.take i)) := ⟨_, rfl⟩
      obtain ⟨C, hCe⟩ : ∃ C, C = flt (wIm 0 (l ++ s.data.toList.take i)) := ⟨_, rfl⟩
      obtain ⟨A', hA'e⟩ : ∃ A, A = flt (wRe 0 (l ++ s.data.toList.take (i + 1))) := ⟨_, rfl⟩
      obtain ⟨C', hC'e⟩ : ∃ C, C = flt (wIm 0 (l ++ s.data.toList.take (i + 1))) := ⟨_, rfl⟩
      rw [← hAe] at hg hA
      rw [← hCe] at hg hB'
      rw [← hA'e] at hA
      rw [← hC'e] at hB'
      have HA' := Lib.hid hA'e
      have HC' := Lib.hid hC'e
      have hsum : cSumBits .add .f64 A C re im = some (A', C') := by unfold cSumBits; rw [hA, hB']; rfl
      have opA := fun t w => run_complex_sum (P := Tryd.prog) w .add (Or.inl rfl) t .f64 _ _ _ _ _ _ hsum
      have opM := fun t w => run_complex_mul (P := Tryd.prog) w t _ _ _ _ _ _ hmul
      rw [show flt (c.toNat : Int) = floatOfInt .f64 (s[i].toNat : Int) by rw [hcs]; rfl] at opM
      have hNX : NumZ (Op.negFloat .f64 Y) X (pr (l.length + (i + 1)), pi (l.length + (i + 1))) := by
        have := hZ.turned
        rw [← Nat.add_assoc, pr_next, pi_next]
        exact this
      have HN := Lib.hid hNX
      have c0 : w'.cell? ⟨g, 0, none⟩ = some (.complex .f64 A C) := (cell_of_row w' g 0 _ _ _ hg).trans rfl
      have f0 : w'.frozen? ⟨g, 0, none⟩ = false := frozen_of_row _ _ _ _ _ hg
      have hg2 : (w'.setCell ⟨g, 0, none⟩ (.complex .f64 A' C')).heap[g]? = some (.cells #[.complex .f64 A' C', .int .i64 l.length] 115 (0, 0)) := by
        have := heap_setCell_same w' g 0 _ _ (.complex .f64 A' C') hg
        simpa using this
      have hb2 : Below B w (w'.setCell ⟨g, 0, none⟩ (.complex .f64 A' C')).drew := (hb.setCell hB _).drew
      have HG := Lib.hid hg2
      have HB := Lib.hid hb2
      have hst := run_store Tryd.prog w'.drew ⟨g, 0, none⟩ (.complex .f64 A' C') .plain rfl
      rw [show w'.drew.cell? ⟨g, 0, none⟩ = _ from c0, show w'.drew.frozen? ⟨g, 0, none⟩ = _ from f0] at hst
      simp only [Bool.false_eq_true, if_false] at hst
      have hii : (i : Int) < s.size := by omega
      clear hsum hmul hA hB' hAe hCe hA'e hC'e eA eB bA bB hre him hZ hNX hti hc hcs hg2 hb2 hg hH hlen hD
      go_wp2
      go_region
      go_wp2_with fail
      refine (timesI_any _ _ _).mono ?_
      rintro e w2 ⟨rfl, rfl⟩
      go_wp2
      go_step3
      refine ⟨rfl, ⟨i + 1, _, _, _, _, _, _, _, _, _, _, _, _, _, _, _, _, _, _, _, _, _, _, _, _, _, _, _, _, _, _, _, rfl, by omega, HN.out, ?_, HB.out⟩, ?_⟩
      · rw [← HA'.out, ← HC'.out]; exact HG.out
      · simp [intOf]; omega
    · obtain rfl : i = s.size := by omega
      have hT : s.data.toList.take s.size = s.data.toList := List.take_of_length_le (by omega)
      rw [hT] at hg
      have c1 : w'.cell? ⟨g, 1, none⟩ = some (.int .i64 l.length) := (cell_of_row w' g 1 _ _ _ hg).trans rfl
      have f1 : w'.frozen? ⟨g, 1, none⟩ = false := frozen_of_row _ _ _ _ _ hg
      have hg2 : (w'.setCell ⟨g, 1, none⟩ (.int .i64 (l.length + s.size : Int))).heap[g]? = some (.cells (scaleA (l ++ s.data.toList)) 115 (0, 0)) := by
        have := heap_setCell_same w' g 1 _ _ (.int .i64 (l.length + s.size : Int)) hg
        simp only [scaleA, List.length_append, hD]
        simpa using this
      have hb2 : Below B w (w'.setCell ⟨g, 1, none⟩ (.int .i64 (l.length + s.size : Int))) := hb.setCell hB _
      clear hg hT hH hD
      go_wp2
      simp only [Exit.jump]
      go_end0
      exact ⟨rfl, hg2, hb2⟩

theorem new_any (w : World) :
    Calls Tryd.prog 65 #[] w fun e w' => ∃ g, e = .returned (.pointer (some ⟨g, 0, none⟩)) ∧ w.heap.size ≤ g ∧ IsScale g [] w' ∧ Below w.heap.size w w' := by
  go_enter Tryd.func65, Tryd.ntmps65
  go_wp2
  go_ret
  refine ⟨w.heap.size, rfl, Nat.le_refl _, ?_, ?_⟩
  · have e : scaleA [] = #[.complex .f64 0 0, .int .i64 0] := rfl
    rw [IsScale, e]
    exact heap_alloc_last w _
  · exact (Below.refl _ _).alloc (Nat.le_refl _) _

theorem zsum_any (g : Nat) (l : List UInt8) (w : World) (hH : IsScale g l w) :
    Calls Tryd.prog 67 #[.pointer (some ⟨g, 0, none⟩)] w fun e w' => e = .returned (.complex .f64 (flt (wRe 0 l)) (flt (wIm 0 l))) ∧ w = w' := by
  have c0 : w.cell? ⟨g, 0, none⟩ = some (.complex .f64 (flt (wRe 0 l)) (flt (wIm 0 l))) := (cell_of_row w g 0 _ _ _ hH).trans rfl
  clear hH
  go_enter Tryd.func67, Tryd.ntmps67
  go_wp2
  go_ret
  exact ⟨rfl, rfl⟩

theorem write_no (s : ByteArray) (w : World) :
    Calls Tryd.prog 66 #[.pointer none, .string s] w fun e w' => e = .returned (.tuple #[]) ∧ w = w' := by
  go_enter Tryd.func66, Tryd.ntmps66
  go_wp2
  go_step3
  go_wp2
  rw [Exit.noGoto_ret]
  refine bodyPost_ret (results_none rfl _ _ _) rfl ?_
  exact ⟨rfl, rfl⟩

theorem sum_no (w : World) :
    Calls Tryd.prog 67 #[.pointer none] w fun e w' => e = .returned (.complex .f64 0 0) ∧ w = w' := by
  go_enter Tryd.func67, Tryd.ntmps67
  go_wp2
  go_ret
  exact ⟨rfl, rfl⟩

/-- The weight of a text, as a complex number. -/
def wOf (l : List UInt8) : Value := .complex .f64 (flt (wRe 0 l)) (flt (wIm 0 l))

theorem of_any (s : ByteArray) (hs : s.size ≤ 1000000000000) (w : World) :
    Calls Tryd.prog 47 #[.string s] w fun e w' => e = .returned (wOf s.data.toList) ∧ Below w.heap.size w w' := by
  go_enter Tryd.func47, Tryd.ntmps47
  go_wp2_with fail
  refine (new_any _).mono ?_
  rintro e w1 ⟨g, rfl, hg, hH, hb⟩
  have W := write_any w.heap.size g [] s (by simpa using hs) w1 hH hg
  rw [List.nil_append] at W
  clear hH
  go_wp2_with fail
  refine W.mono ?_
  rintro e w2 ⟨rfl, hH2, hb2⟩
  have hb3 := hb.trans hb2
  clear W hb hb2
  go_wp2_with fail
  refine (zsum_any g s.data.toList w2 hH2).mono ?_
  rintro e w' ⟨rfl, rfl⟩
  go_wp2
  go_ret
  exact ⟨rfl, hb3⟩

end Go.Proofs.YtijdbmapdmhknaaDoor
namespace Go.Proofs.YtijdbmapdmhknaaDoor
open Go.RowKit
open Ieee (Datum Format signed double)

theorem within_yes (a : Int) (h : a.natAbs ≤ 2 ^ 53) (w : World) :
    Calls Tryd.prog 56 #[.int .i64 a] w fun e w' => e = .returned (.bool true) ∧ w = w' := by
  have c1 : -9007199254740992 ≤ a := by omega
  have c2 : a ≤ 9007199254740992 := by omega
  clear h
  go_enter Tryd.func56, Tryd.ntmps56
  go_wp2
  go_ret
  exact ⟨rfl, rfl⟩

theorem within_no (a : Int) (h : ¬ a.natAbs ≤ 2 ^ 53) (w : World) :
    Calls Tryd.prog 56 #[.int .i64 a] w fun e w' => e = .returned (.bool false) ∧ w = w' := by
  by_cases c1 : -9007199254740992 ≤ a
  · have c2 : ¬ a ≤ 9007199254740992 := by omega
    clear h
    go_enter Tryd.func56, Tryd.ntmps56
    go_wp2
    go_ret
    exact ⟨rfl, rfl⟩
  · clear h
    go_enter Tryd.func56, Tryd.ntmps56
    go_wp2
    go_ret
    exact ⟨rfl, rfl⟩

theorem make_yes (a b : Int) (ha : a.natAbs ≤ 2 ^ 53) (hb : b.natAbs ≤ 2 ^ 53) (w : World) :
    Calls Tryd.prog 36 #[.int .i64 a, .int .i64 b] w fun e w' => e = .returned (.tuple #[.complex .f64 (flt a) (flt b), .int .i64 0]) ∧ w = w' := by
  have W1 := within_yes a ha
  have W2 := within_yes b hb
  clear ha hb
  go_enter Tryd.func36, Tryd.ntmps36
  go_wp2_with fail
  refine (W1 _).mono ?_
  rintro e w' ⟨rfl, rfl⟩
  go_wp2_with fail
  refine (W2 _).mono ?_
  rintro e w' ⟨rfl, rfl⟩
  go_wp2
  go_ret2
  exact ⟨rfl, rfl⟩

theorem make_no (a b : Int) (h : ¬ (a.natAbs ≤ 2 ^ 53 ∧ b.natAbs ≤ 2 ^ 53)) (w : World) :
    Calls Tryd.prog 36 #[.int .i64 a, .int .i64 b] w fun e w' => e = .returned (.tuple #[.complex .f64 0 0, .int .i64 5]) ∧ w = w' := by
  by_cases ca : a.natAbs ≤ 2 ^ 53
  · have W1 := within_yes a ca
    have W2 := within_no b (by omega)
    clear ca h
    go_enter Tryd.func36, Tryd.ntmps36
    go_wp2_with fail
    refine (W1 _).mono ?_
    rintro e w' ⟨rfl, rfl⟩
    go_wp2_with fail
    refine (W2 _).mono ?_
    rintro e w' ⟨rfl, rfl⟩
    go_wp2
    go_ret2
    exact ⟨rfl, rfl⟩
  · have W1 := within_no a ca
    clear ca h
    go_enter Tryd.func36, Tryd.ntmps36
    go_wp2_with fail
    refine (W1 _).mono ?_
    rintro e w' ⟨rfl, rfl⟩
    go_wp2
    go_ret2
    exact ⟨rfl, rfl⟩

theorem num_int {x : Nat} {n : Int} (h : Num x n) : floatToIntVal .f64 x .i64 = some n := by
  obtain ⟨_, _, h2, h1⟩ := num_tests h
  obtain ⟨R, hR, hc, _, hu⟩ := whole_of_tests h.1 h1 h2
  obtain rfl := hu n h
  exact hc

theorem conv_intZ {x : Nat} {n : Int} (h : floatToIntVal .f64 x .i64 = some n) (w : World) : (convert 39 3 (.float .f64 x)).run Tryd.prog w = .ok (.int .i64 n) w :=
  run_convert_float_int w 39 3 .f64 .i64 x n (by rw [Tryd.underlying39]; rfl) Tryd.underlying3 h

theorem partsOf_yes {x y : Nat} {a b : Int} (hx : Num x a) (hy : Num y b) (w : World) :
    Calls Tryd.prog 46 #[.complex .f64 x y] w fun e w' => e = .returned (.tuple #[.int .i64 a, .int .i64 b, .int .i64 0]) ∧ w = w' := by
  have V := valid_yes hx hy
  have h1 := conv_intZ (num_int hx)
  have h2 := conv_intZ (num_int hy)
  clear hx hy
  go_enter Tryd.func46, Tryd.ntmps46
  go_wp2_with fail
  refine (V _).mono ?_
  rintro e w' ⟨rfl, rfl⟩
  go_wp2
  go_ret3
  exact ⟨rfl, rfl⟩

theorem partsOf_no {x y : Nat} (hx : x < 2 ^ 64) (hy : y < 2 ^ 64) (h : ¬ IsZ x y) (w : World) :
    Calls Tryd.prog 46 #[.complex .f64 x y] w fun e w' => e = .returned (.tuple #[.int .i64 0, .int .i64 0, .int .i64 1]) ∧ Below w.heap.size w w' := by
  have V := valid_no hx hy h
  clear hx hy h
  go_enter Tryd.func46, Tryd.ntmps46
  go_wp2_with fail
  refine (V _).mono ?_
  rintro e w' ⟨rfl, hb⟩
  go_wp2
  go_ret3
  exact ⟨rfl, hb⟩

end Go.Proofs.YtijdbmapdmhknaaDoor
