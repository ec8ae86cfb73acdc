/- The walk of the document's Whole. -/
import Derived.Test.YtmobkjdncfdokaaDoorAwakeW
import Derived.Laws.ResultCell
namespace Go.Proofs.YtmobkjdncfdokaaDoor
open Go.RowKit
open Ieee (Datum Format signed double)

theorem conv_int {x : Nat} {n : Int} (h : floatToIntVal .f64 x .i64 = some n) (w : World) : (convert 22 3 (.float .f64 x)).run Tryd.prog w = .ok (.int .i64 n) w :=
  run_convert_float_int w 22 3 .f64 .i64 x n (by rw [Tryd.underlying22]; rfl) Tryd.underlying3 h

theorem whole_yes {x : Nat} {n : Int} (h : Num x n) (w : World) :
    Calls Tryd.prog 12 #[.float .f64 x] w fun e w' => e = .returned (.tuple #[.int .i64 n, .bool true]) ∧ w = w' := by
  obtain ⟨_, _, h2, h1⟩ := num_tests h
  obtain ⟨R, hR, hc, _, hu⟩ := whole_of_tests h.1 h1 h2
  obtain rfl := hu n h
  have ho : FloatKind.f64.format.order (floatOfInt .f64 n) x = some .eq := by
    show double.order (flt n) x = _
    rw [order_val (num_flt n hR).2.1 h.2.1]
    simp [compare, compareOfLessAndEq]
  have hop := conv_int hc
  clear h hR hc hu
  rcases h1 with h1 | h1 <;> rcases h2 with h2 | h2
  all_goals
    go_enter Tryd.func12, Tryd.ntmps12
    go_wp2_with (simp only [hop])
    go_ret2
    exact ⟨rfl, rfl⟩

theorem whole_no {x : Nat} (hx : x < 2 ^ 64) (h : ¬ ∃ n, Num x n) (w : World) :
    Calls Tryd.prog 12 #[.float .f64 x] w fun e w' => e = .returned (.tuple #[.int .i64 0, .bool false]) ∧ w = w' := by
  have fin : ∀ o : Option Ordering, o = none ∨ o = some .lt ∨ o = some .eq ∨ o = some .gt := by
    intro o; rcases o with _ | o
    · simp
    · cases o <;> simp
  have third : ∀ o : Option Ordering, o ≠ some .eq → o = none ∨ o = some .lt ∨ o = some .gt := by
    intro o ho; rcases fin o with r | r | r | r
    · exact Or.inl r
    · exact Or.inr (Or.inl r)
    · exact absurd r ho
    · exact Or.inr (Or.inr r)
  have both : (FloatKind.f64.format.order x 14069245235905429504 = some .gt ∨ FloatKind.f64.format.order x 14069245235905429504 = some .eq) →
      (FloatKind.f64.format.order x 4845873199050653696 = some .lt ∨ FloatKind.f64.format.order x 4845873199050653696 = some .eq) →
      ∃ R : Int, (∀ w, (convert 22 3 (.float .f64 x)).run Tryd.prog w = .ok (.int .i64 R) w) ∧ (FloatKind.f64.format.order (floatOfInt .f64 R) x = none ∨ FloatKind.f64.format.order (floatOfInt .f64 R) x = some .lt ∨ FloatKind.f64.format.order (floatOfInt .f64 R) x = some .gt) := by
    intro h1 h2
    obtain ⟨R, hR, hc, hq, hu⟩ := whole_of_tests hx h1 h2
    exact ⟨R, conv_int hc, third _ (fun e => h ⟨R, hq e⟩)⟩
  have HB := Lib.hid both
  obtain ⟨o1, E1⟩ : ∃ o, FloatKind.f64.format.order x 14069245235905429504 = o := ⟨_, rfl⟩
  obtain ⟨o2, E2⟩ : ∃ o, FloatKind.f64.format.order x 4845873199050653696 = o := ⟨_, rfl⟩
  clear both third h hx
  have case1 : ∀ o1 : Option Ordering, FloatKind.f64.format.order x 14069245235905429504 = o1 → (o1 = none ∨ o1 = some .lt) → Calls Tryd.prog 12 #[.float .f64 x] w fun e w' => e = .returned (.tuple #[.int .i64 0, .bool false]) ∧ w = w' := by
    intro o1 h1 ho
    clear HB E1 E2 fin
    rcases ho with rfl | rfl
    all_goals
      go_enter Tryd.func12, Tryd.ntmps12
      go_wp2
      go_ret2
      exact ⟨rfl, rfl⟩
  have case2 : (FloatKind.f64.format.order x 14069245235905429504 = some .gt ∨ FloatKind.f64.format.order x 14069245235905429504 = some .eq) → (FloatKind.f64.format.order x 4845873199050653696 = none ∨ FloatKind.f64.format.order x 4845873199050653696 = some .gt) → Calls Tryd.prog 12 #[.float .f64 x] w fun e w' => e = .returned (.tuple #[.int .i64 0, .bool false]) ∧ w = w' := by
    intro g1 g2
    clear HB E1 E2 case1 fin
    rcases g1 with g1 | g1 <;> rcases g2 with g2 | g2
    all_goals
      go_enter Tryd.func12, Tryd.ntmps12
      go_wp2
      go_ret2
      exact ⟨rfl, rfl⟩
  have case3 : (FloatKind.f64.format.order x 14069245235905429504 = some .gt ∨ FloatKind.f64.format.order x 14069245235905429504 = some .eq) → (FloatKind.f64.format.order x 4845873199050653696 = some .lt ∨ FloatKind.f64.format.order x 4845873199050653696 = some .eq) → Calls Tryd.prog 12 #[.float .f64 x] w fun e w' => e = .returned (.tuple #[.int .i64 0, .bool false]) ∧ w = w' := by
    intro g1 g2
    obtain ⟨R, hop, g3⟩ := HB.out g1 g2
    clear HB E1 E2 case1 case2 fin
    rcases g1 with g1 | g1 <;> rcases g2 with g2 | g2 <;> rcases g3 with g3 | g3 | g3
    all_goals
      go_enter Tryd.func12, Tryd.ntmps12
      go_wp2_with (simp only [hop])
      go_ret2
      exact ⟨rfl, rfl⟩
  rcases fin o1 with r | r | r | r
  · exact case1 o1 E1 (Or.inl r)
  · exact case1 o1 E1 (Or.inr r)
  all_goals
    have g1 : FloatKind.f64.format.order x 14069245235905429504 = some .gt ∨ FloatKind.f64.format.order x 14069245235905429504 = some .eq := by rw [E1, r]; simp
    rcases fin o2 with q | q | q | q
    · exact case2 g1 (Or.inl (by rw [E2, q]))
    · exact case3 g1 (Or.inl (by rw [E2, q]))
    · exact case3 g1 (Or.inr (by rw [E2, q]))
    · exact case2 g1 (Or.inr (by rw [E2, q]))

end Go.Proofs.YtmobkjdncfdokaaDoor
