/- The walks of weigh: which numbers are weights, turned, joined, made, their parts. -/
import Derived.Test.YtmobkjdncfdokaaDoorPart
import Derived.Laws.BitsLemmas
namespace Go.Proofs.YtmobkjdncfdokaaDoor
open Go.RowKit
open Ieee (Datum Format signed double)

theorem num_not_nan {x : Nat} {n : Int} (h : Num x n) : ∀ s f, double.read x ≠ .nan s f := by
  obtain ⟨_, ⟨s, m, p, hr, _⟩, _⟩ := h
  intro s f hq
  rw [hr] at hq
  cases hq

theorem validPart_yes {x : Nat} {n : Int} (h : Num x n) (w : World) :
    Calls Tryd.prog 40 #[.float .f64 x] w fun e w' => e = .returned (.bool true) ∧ w = w' := by
  obtain ⟨h0, h1, h2, _⟩ := num_tests h
  have TR := trunc_any x w
  have hnn := num_not_nan h
  have HN := Lib.hid hnn
  clear hnn h
  rcases h1 with h1 | h1 <;> rcases h2 with h2 | h2
  all_goals
    go_enter Tryd.func40, Tryd.ntmps40
    go_wp2_with fail
    refine TR.mono ?_
    rintro e w' ⟨r, rfl, _, hq⟩
    obtain ⟨rfl, rfl⟩ := hq HN.out
    go_wp2
    go_ret
    exact ⟨rfl, rfl⟩

theorem order_nan_left {x r : Nat} {s : Bool} {f : Nat} (h : double.read x = .nan s f) : FloatKind.f64.format.order x r = none := by
  show double.order x r = none
  unfold Format.order
  rw [h]
  cases double.read r <;> rfl

theorem validPart_no {x : Nat} (hx : x < 2 ^ 64) (h : ¬ ∃ n, Num x n) (w : World) :
    Calls Tryd.prog 40 #[.float .f64 x] w fun e w' => e = .returned (.bool false) ∧ Below w.heap.size w w' := by
  have TR := trunc_any x w
  have cases3 : ∀ r : Nat, ((∀ s f, double.read x ≠ .nan s f) → r = trn x) →
      FloatKind.f64.format.order x r ≠ some .eq ∨ (FloatKind.f64.format.order 14069245235905429504 x ≠ some .lt ∧ FloatKind.f64.format.order 14069245235905429504 x ≠ some .eq) ∨
      (FloatKind.f64.format.order x 4845873199050653696 ≠ some .lt ∧ FloatKind.f64.format.order x 4845873199050653696 ≠ some .eq) := by
    intro r hr
    by_cases hq : ∀ s f, double.read x ≠ .nan s f
    · rw [hr hq]
      by_cases c0 : FloatKind.f64.format.order x (trn x) = some .eq
      · right
        by_cases c1 : FloatKind.f64.format.order 14069245235905429504 x = some .lt ∨ FloatKind.f64.format.order 14069245235905429504 x = some .eq
        · right
          by_cases c2 : FloatKind.f64.format.order x 4845873199050653696 = some .lt ∨ FloatKind.f64.format.order x 4845873199050653696 = some .eq
          · exact absurd (part_of_tests hx c0 c1 c2) h
          · exact ⟨fun e => c2 (Or.inl e), fun e => c2 (Or.inr e)⟩
        · left
          exact ⟨fun e => c1 (Or.inl e), fun e => c1 (Or.inr e)⟩
      · left; exact c0
    · left
      cases hrd : double.read x with
      | nan s f => rw [order_nan_left hrd]; simp
      | infinity s => exact absurd (fun s f e => by rw [hrd] at e; cases e) hq
      | number s m p => exact absurd (fun s f e => by rw [hrd] at e; cases e) hq
  have HC := Lib.hid cases3
  clear cases3 h
  go_enter Tryd.func40, Tryd.ntmps40
  go_wp2_with fail
  refine TR.mono ?_
  rintro e w' ⟨r, rfl, hb, hq⟩
  have hc := HC.out r (fun h => (hq h).1)
  clear hq
  obtain ⟨o0, h0⟩ : ∃ o, FloatKind.f64.format.order x r = o := ⟨_, rfl⟩
  obtain ⟨o1, h1⟩ : ∃ o, FloatKind.f64.format.order 14069245235905429504 x = o := ⟨_, rfl⟩
  obtain ⟨o2, h2⟩ : ∃ o, FloatKind.f64.format.order x 4845873199050653696 = o := ⟨_, rfl⟩
  rw [h0, h1, h2] at hc
  have HH := Lib.hid hc
  clear hc
  have fin : ∀ o : Option Ordering, o = none ∨ o = some .lt ∨ o = some .eq ∨ o = some .gt := by
    intro o; rcases o with _ | o
    · simp
    · cases o <;> simp
  rcases fin o0 with rfl | rfl | rfl | rfl
  case inr.inr.inl =>
    rcases fin o1 with rfl | rfl | rfl | rfl
    case inr.inl =>
      rcases fin o2 with rfl | rfl | rfl | rfl
      case inr.inl => exfalso; have := HH.out; simp at this
      case inr.inr.inl => exfalso; have := HH.out; simp at this
      all_goals (go_wp2; go_ret; exact ⟨rfl, hb⟩)
    case inr.inr.inl =>
      rcases fin o2 with rfl | rfl | rfl | rfl
      case inr.inl => exfalso; have := HH.out; simp at this
      case inr.inr.inl => exfalso; have := HH.out; simp at this
      all_goals (go_wp2; go_ret; exact ⟨rfl, hb⟩)
    all_goals (go_wp2; go_ret; exact ⟨rfl, hb⟩)
  all_goals (go_wp2; go_ret; exact ⟨rfl, hb⟩)

theorem valid_yes {x y : Nat} {a b : Int} (hx : Num x a) (hy : Num y b) (w : World) :
    Calls Tryd.prog 24 #[.complex .f64 x y] w fun e w' => e = .returned (.bool true) ∧ w = w' := by
  have V1 := validPart_yes hx
  have V2 := validPart_yes hy
  clear hx hy
  go_enter Tryd.func24, Tryd.ntmps24
  go_wp2_with fail
  refine (V1 _).mono ?_
  rintro e w' ⟨rfl, rfl⟩
  go_wp2_with fail
  refine (V2 _).mono ?_
  rintro e w' ⟨rfl, rfl⟩
  go_wp2
  go_ret
  exact ⟨rfl, rfl⟩

theorem valid_no {x y : Nat} (hx : x < 2 ^ 64) (hy : y < 2 ^ 64) (h : ¬ ((∃ a, Num x a) ∧ ∃ b, Num y b)) (w : World) :
    Calls Tryd.prog 24 #[.complex .f64 x y] w fun e w' => e = .returned (.bool false) ∧ Below w.heap.size w w' := by
  by_cases c : ∃ a, Num x a
  · have c2 : ¬ ∃ b, Num y b := fun h2 => h ⟨c, h2⟩
    obtain ⟨a, ha⟩ := c
    have V1 := validPart_yes ha
    have V2 := validPart_no hy c2
    clear ha c2 h hx hy
    go_enter Tryd.func24, Tryd.ntmps24
    go_wp2_with fail
    refine (V1 _).mono ?_
    rintro e w' ⟨rfl, rfl⟩
    go_wp2_with fail
    refine (V2 _).mono ?_
    rintro e w' ⟨rfl, hb⟩
    go_wp2
    go_ret
    exact ⟨rfl, hb⟩
  · have V1 := validPart_no hx c
    clear c h hx hy
    go_enter Tryd.func24, Tryd.ntmps24
    go_wp2_with fail
    refine (V1 _).mono ?_
    rintro e w' ⟨rfl, hb⟩
    go_wp2
    go_ret
    exact ⟨rfl, hb⟩

theorem unary_negf (b : Nat) : Op.unary .neg (.float .f64 b) = pure (.float .f64 (Op.negFloat .f64 b)) := rfl

theorem timesI_any (x y : Nat) (w : World) :
    Calls Tryd.prog 54 #[.complex .f64 x y] w fun e w' => e = .returned (.complex .f64 (Op.negFloat .f64 y) x) ∧ w = w' := by
  have hop := unary_negf
  go_enter Tryd.func54, Tryd.ntmps54
  go_wp2_with (simp only [hop, Sem.run_pure])
  go_ret
  exact ⟨rfl, rfl⟩

theorem order_zero {x : Nat} {n : Int} (h : Num x n) : FloatKind.f64.format.order x 0 = some (compare n 0) := order_val h.2.1 num_zero.2.1

theorem compare_zero (n : Int) (h : n ≠ 0) : compare n 0 = .lt ∨ compare n 0 = .gt := by
  simp only [compare, compareOfLessAndEq]
  by_cases c : n < 0
  · left; rw [if_pos c]
  · right; rw [if_neg c, if_neg h]

theorem plainPart_any {x : Nat} {n : Int} (h : Num x n) (w : World) :
    Calls Tryd.prog 66 #[.float .f64 x] w fun e w' => e = .returned (.float .f64 (flt n)) ∧ w = w' := by
  have ho := order_zero h
  by_cases c : n = 0
  · subst c
    have ho' : FloatKind.f64.format.order x 0 = some .eq := ho
    clear ho h
    go_enter Tryd.func66, Tryd.ntmps66
    go_wp2
    go_ret
    exact ⟨rfl, rfl⟩
  · have hown := Lib.hid (h.own c)
    have hc := compare_zero n c
    clear h
    rcases hc with hc | hc
    all_goals
      rw [hc] at ho
      clear hc c
      go_enter Tryd.func66, Tryd.ntmps66
      go_wp2
      go_ret
      exact ⟨by rw [← hown.out]; rfl, rfl⟩

theorem plain_any {x y : Nat} {a b : Int} (hx : Num x a) (hy : Num y b) (w : World) :
    Calls Tryd.prog 55 #[.complex .f64 x y] w fun e w' => e = .returned (.complex .f64 (flt a) (flt b)) ∧ w = w' := by
  have V1 := plainPart_any hx
  have V2 := plainPart_any hy
  clear hx hy
  go_enter Tryd.func55, Tryd.ntmps55
  go_wp2_with fail
  refine (V1 _).mono ?_
  rintro e w' ⟨rfl, rfl⟩
  go_wp2_with fail
  refine (V2 _).mono ?_
  rintro e w' ⟨rfl, rfl⟩
  go_wp2
  go_ret
  exact ⟨rfl, rfl⟩

end Go.Proofs.YtmobkjdncfdokaaDoor
