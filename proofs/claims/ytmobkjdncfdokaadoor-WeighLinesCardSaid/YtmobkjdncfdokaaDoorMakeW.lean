/- The walks of Make and Parts. -/
import Derived.Test.YtmobkjdncfdokaaDoorPartsW
import Derived.OwnWalk
namespace Go.Proofs.YtmobkjdncfdokaaDoor
open Go.RowKit
open Ieee (Datum Format signed double)

theorem within_yes (a : Int) (h : a.natAbs ≤ 2 ^ 53) (w : World) :
    Calls Tryd.prog 34 #[.int .i64 a] w fun e w' => e = .returned (.bool true) ∧ w = w' := by
  have c1 : -9007199254740992 ≤ a := by omega
  have c2 : a ≤ 9007199254740992 := by omega
  clear h
  go_enter Tryd.func34, Tryd.ntmps34
  go_wp2
  go_ret
  exact ⟨rfl, rfl⟩

theorem within_no (a : Int) (h : ¬ a.natAbs ≤ 2 ^ 53) (w : World) :
    Calls Tryd.prog 34 #[.int .i64 a] w fun e w' => e = .returned (.bool false) ∧ w = w' := by
  by_cases c1 : -9007199254740992 ≤ a
  · have c2 : ¬ a ≤ 9007199254740992 := by omega
    clear h
    go_enter Tryd.func34, Tryd.ntmps34
    go_wp2
    go_ret
    exact ⟨rfl, rfl⟩
  · clear h
    go_enter Tryd.func34, Tryd.ntmps34
    go_wp2
    go_ret
    exact ⟨rfl, rfl⟩

theorem make_yes (a b : Int) (ha : a.natAbs ≤ 2 ^ 53) (hb : b.natAbs ≤ 2 ^ 53) (w : World) :
    Calls Tryd.prog 18 #[.int .i64 a, .int .i64 b] w fun e w' => e = .returned (.tuple #[.complex .f64 (flt a) (flt b), .int .i64 0]) ∧ w = w' := by
  have W1 := within_yes a ha
  have W2 := within_yes b hb
  clear ha hb
  go_enter Tryd.func18, Tryd.ntmps18
  go_wp2_with fail
  refine (W1 _).mono ?_
  rintro e w' ⟨rfl, rfl⟩
  go_wp2_with fail
  refine (W2 _).mono ?_
  rintro e w' ⟨rfl, rfl⟩
  go_wp2
  go_ret2
  exact ⟨rfl, rfl⟩

theorem make_no (a b : Int) (h : ¬ (a.natAbs ≤ 2 ^ 53 ∧ b.natAbs ≤ 2 ^ 53)) (w : World) :
    Calls Tryd.prog 18 #[.int .i64 a, .int .i64 b] w fun e w' => e = .returned (.tuple #[.complex .f64 0 0, .int .i64 5]) ∧ w = w' := by
  by_cases ca : a.natAbs ≤ 2 ^ 53
  · have W1 := within_yes a ca
    have W2 := within_no b (by omega)
    clear ca h
    go_enter Tryd.func18, Tryd.ntmps18
    go_wp2_with fail
    refine (W1 _).mono ?_
    rintro e w' ⟨rfl, rfl⟩
    go_wp2_with fail
    refine (W2 _).mono ?_
    rintro e w' ⟨rfl, rfl⟩
    go_wp2
    go_ret2
    exact ⟨rfl, rfl⟩
  · have W1 := within_no a ca
    clear ca h
    go_enter Tryd.func18, Tryd.ntmps18
    go_wp2_with fail
    refine (W1 _).mono ?_
    rintro e w' ⟨rfl, rfl⟩
    go_wp2
    go_ret2
    exact ⟨rfl, rfl⟩

theorem num_int {x : Nat} {n : Int} (h : Num x n) : floatToIntVal .f64 x .i64 = some n := by
  obtain ⟨_, _, h2, h1⟩ := num_tests h
  obtain ⟨R, hR, hc, _, hu⟩ := whole_of_tests h.1 h1 h2
  obtain rfl := hu n h
  exact hc

theorem partsOf_yes {x y : Nat} {a b : Int} (hx : Num x a) (hy : Num y b) (w : World) :
    Calls Tryd.prog 13 #[.complex .f64 x y] w fun e w' => e = .returned (.tuple #[.int .i64 a, .int .i64 b, .int .i64 0]) ∧ w = w' := by
  have V := valid_yes hx hy
  have h1 := conv_int (num_int hx)
  have h2 := conv_int (num_int hy)
  clear hx hy
  go_enter Tryd.func13, Tryd.ntmps13
  go_wp2_with fail
  refine (V _).mono ?_
  rintro e w' ⟨rfl, rfl⟩
  go_wp2
  go_ret3
  exact ⟨rfl, rfl⟩

theorem partsOf_no {x y : Nat} (hx : x < 2 ^ 64) (hy : y < 2 ^ 64) (h : ¬ IsZ x y) (w : World) :
    Calls Tryd.prog 13 #[.complex .f64 x y] w fun e w' => e = .returned (.tuple #[.int .i64 0, .int .i64 0, .int .i64 1]) ∧ Below w.heap.size w w' := by
  have V := valid_no hx hy h
  clear hx hy h
  go_enter Tryd.func13, Tryd.ntmps13
  go_wp2_with fail
  refine (V _).mono ?_
  rintro e w' ⟨rfl, hb⟩
  go_wp2
  go_ret3
  exact ⟨rfl, hb⟩

end Go.Proofs.YtmobkjdncfdokaaDoor
