/- The walks of the document's Join, May; of Make, Parts. -/
import Derived.Test.YtmobkjdncfdokaaRefW4
import Derived.OwnWalk
namespace Go.Proofs.Ytmobkjdncfdokaa
open Go.RowKit
open Ieee (Datum Format signed double)

/-- Both numbers may be parts. -/
def mayB (a b : Int) : Bool := decide (a.natAbs ≤ 2 ^ 53 ∧ b.natAbs ≤ 2 ^ 53)

theorem may_any (a b : Int) (w : World) :
    Calls Try.prog 21 #[wW a b] w fun e w' => e = .returned (.bool (mayB a b)) ∧ Below w.heap.size w w' := by
  have yes : a.natAbs ≤ 2 ^ 53 ∧ b.natAbs ≤ 2 ^ 53 → mayB a b = true := fun h => by unfold mayB; exact decide_eq_true h
  have no : ¬ (a.natAbs ≤ 2 ^ 53 ∧ b.natAbs ≤ 2 ^ 53) → mayB a b = false := fun h => by unfold mayB; exact decide_eq_false h
  unfold wW
  by_cases c1 : -9007199254740992 ≤ a
  · by_cases c2 : a ≤ 9007199254740992
    · by_cases c3 : -9007199254740992 ≤ b
      · by_cases c4 : b ≤ 9007199254740992
        · rw [yes (by omega)]
          clear yes no
          go_enter Try.func21, Try.ntmps21
          go_wp2
          go_ret
          exact ⟨rfl, (Below.refl _ _).alloc (Nat.le_refl _) _⟩
        · rw [no (by omega)]
          clear yes no
          go_enter Try.func21, Try.ntmps21
          go_wp2
          go_ret
          exact ⟨rfl, (Below.refl _ _).alloc (Nat.le_refl _) _⟩
      · rw [no (by omega)]
        clear yes no
        go_enter Try.func21, Try.ntmps21
        go_wp2
        go_ret
        exact ⟨rfl, (Below.refl _ _).alloc (Nat.le_refl _) _⟩
    · rw [no (by omega)]
      clear yes no
      go_enter Try.func21, Try.ntmps21
      go_wp2
      go_ret
      exact ⟨rfl, (Below.refl _ _).alloc (Nat.le_refl _) _⟩
  · rw [no (by omega)]
    clear yes no
    go_enter Try.func21, Try.ntmps21
    go_wp2
    go_ret
    exact ⟨rfl, (Below.refl _ _).alloc (Nat.le_refl _) _⟩

theorem within_yes (a : Int) (h : a.natAbs ≤ 2 ^ 53) (w : World) :
    Calls Try.prog 31 #[.int .i64 a] w fun e w' => e = .returned (.bool true) ∧ w = w' := by
  have c1 : -9007199254740992 ≤ a := by omega
  have c2 : a ≤ 9007199254740992 := by omega
  clear h
  go_enter Try.func31, Try.ntmps31
  go_wp2
  go_ret
  exact ⟨rfl, rfl⟩

theorem within_no (a : Int) (h : ¬ a.natAbs ≤ 2 ^ 53) (w : World) :
    Calls Try.prog 31 #[.int .i64 a] w fun e w' => e = .returned (.bool false) ∧ w = w' := by
  by_cases c1 : -9007199254740992 ≤ a
  · have c2 : ¬ a ≤ 9007199254740992 := by omega
    clear h
    go_enter Try.func31, Try.ntmps31
    go_wp2
    go_ret
    exact ⟨rfl, rfl⟩
  · clear h
    go_enter Try.func31, Try.ntmps31
    go_wp2
    go_ret
    exact ⟨rfl, rfl⟩

theorem make_yes (a b : Int) (ha : a.natAbs ≤ 2 ^ 53) (hb : b.natAbs ≤ 2 ^ 53) (w : World) :
    Calls Try.prog 20 #[.int .i64 a, .int .i64 b] w fun e w' => e = .returned (.tuple #[.complex .f64 (flt a) (flt b), .int .i64 0]) ∧ w = w' := by
  have W1 := within_yes a ha
  have W2 := within_yes b hb
  clear ha hb
  go_enter Try.func20, Try.ntmps20
  go_wp2_with fail
  refine (W1 _).mono ?_
  rintro e w' ⟨rfl, rfl⟩
  go_wp2_with fail
  refine (W2 _).mono ?_
  rintro e w' ⟨rfl, rfl⟩
  go_wp2
  go_ret2
  exact ⟨rfl, rfl⟩

theorem make_no (a b : Int) (h : ¬ (a.natAbs ≤ 2 ^ 53 ∧ b.natAbs ≤ 2 ^ 53)) (w : World) :
    Calls Try.prog 20 #[.int .i64 a, .int .i64 b] w fun e w' => e = .returned (.tuple #[.complex .f64 0 0, .int .i64 5]) ∧ w = w' := by
  by_cases ca : a.natAbs ≤ 2 ^ 53
  · have W1 := within_yes a ca
    have W2 := within_no b (by omega)
    clear ca h
    go_enter Try.func20, Try.ntmps20
    go_wp2_with fail
    refine (W1 _).mono ?_
    rintro e w' ⟨rfl, rfl⟩
    go_wp2_with fail
    refine (W2 _).mono ?_
    rintro e w' ⟨rfl, rfl⟩
    go_wp2
    go_ret2
    exact ⟨rfl, rfl⟩
  · have W1 := within_no a ca
    clear ca h
    go_enter Try.func20, Try.ntmps20
    go_wp2_with fail
    refine (W1 _).mono ?_
    rintro e w' ⟨rfl, rfl⟩
    go_wp2
    go_ret2
    exact ⟨rfl, rfl⟩

theorem num_int {x : Nat} {n : Int} (h : Num x n) : floatToIntVal .f64 x .i64 = some n := by
  obtain ⟨_, _, h2, h1⟩ := num_tests h
  obtain ⟨R, hR, hc, _, hu⟩ := whole_of_tests h.1 h1 h2
  obtain rfl := hu n h
  exact hc

theorem partsOf_yes {x y : Nat} {a b : Int} (hx : Num x a) (hy : Num y b) (w : World) :
    Calls Try.prog 19 #[.complex .f64 x y] w fun e w' => e = .returned (.tuple #[.int .i64 a, .int .i64 b, .int .i64 0]) ∧ w = w' := by
  have V := valid_yes hx hy
  have h1 := conv_int (num_int hx)
  have h2 := conv_int (num_int hy)
  clear hx hy
  go_enter Try.func19, Try.ntmps19
  go_wp2_with fail
  refine (V _).mono ?_
  rintro e w' ⟨rfl, rfl⟩
  go_wp2
  go_ret3
  exact ⟨rfl, rfl⟩

theorem partsOf_no {x y : Nat} (hx : x < 2 ^ 64) (hy : y < 2 ^ 64) (h : ¬ IsZ x y) (w : World) :
    Calls Try.prog 19 #[.complex .f64 x y] w fun e w' => e = .returned (.tuple #[.int .i64 0, .int .i64 0, .int .i64 1]) ∧ Below w.heap.size w w' := by
  have V := valid_no hx hy h
  clear hx hy h
  go_enter Try.func19, Try.ntmps19
  go_wp2_with fail
  refine (V _).mono ?_
  rintro e w' ⟨rfl, hb⟩
  go_wp2
  go_ret3
  exact ⟨rfl, hb⟩

set_option maxHeartbeats 1000000 in
theorem rjoin_any (a b : Int × Int) (ha : a.1.natAbs ≤ 2 ^ 53 ∧ a.2.natAbs ≤ 2 ^ 53) (hb : b.1.natAbs ≤ 2 ^ 53 ∧ b.2.natAbs ≤ 2 ^ 53) (n : Int) (w : World) :
    Calls Try.prog 18 #[wW a.1 a.2, .int .i64 n, wW b.1 b.2] w fun e w' => e = .returned (wW (joinZ a n b).1 (joinZ a n b).2) ∧ Below w.heap.size w w' := by
  have T := rturn_any b.1 b.2 hb.1 hb.2 n
  have hr := rot_num (turns n) hb
  unfold joinZ
  obtain ⟨t, ht⟩ : ∃ t, t = rot (turns n) b := ⟨_, rfl⟩
  have e : (b.1, b.2) = b := rfl
  rw [e, ← ht] at T
  rw [← ht] at hr ⊢
  unfold wW at T ⊢
  obtain ⟨a1, a2⟩ := a
  obtain ⟨b1, b2⟩ := b
  obtain ⟨t1, t2⟩ := t
  simp only at T hr ha hb ⊢
  clear e ht
  go_enter Try.func18, Try.ntmps18
  go_wp2_with fail
  refine (T _).mono ?_
  obtain ⟨W3, hW3⟩ : ∃ W3, W3 = (((w.alloc (.cells #[.int .i64 a1, .int .i64 a2] 28)).alloc (.cells #[.int .i64 b1, .int .i64 b2] 28)).alloc (.cells #[.int .i64 0, .int .i64 0] 28)) := ⟨_, rfl⟩
  have s3 : W3.heap.size = w.heap.size + 3 := by rw [hW3]; simp
  have g0 : W3.heap[w.heap.size]? = some (.cells #[.int .i64 a1, .int .i64 a2] 28 (0, 0)) := by
    rw [hW3]
    exact (Below.heap_alloc _ _ _ (by simp; omega)).trans (heap_alloc2_old w _ _)
  have g2 : W3.heap[w.heap.size + 1 + 1]? = some (.cells #[.int .i64 0, .int .i64 0] 28 (0, 0)) := by
    rw [hW3]
    have := heap_alloc2_new (w.alloc (.cells #[.int .i64 a1, .int .i64 a2] 28)) (.cells #[.int .i64 b1, .int .i64 b2] 28) (.cells #[.int .i64 0, .int .i64 0] 28)
    simpa using this
  have K3 : Below w.heap.size w W3 := by
    rw [hW3]
    exact (((Below.refl _ _).alloc (Nat.le_refl _) _).alloc (by simp) _).alloc (by simp; omega) _
  rw [← hW3]
  clear hW3 T
  rintro e w5 ⟨rfl, hb5⟩
  have K5 := Below.then' K3 hb5 K3.size
  have g0' := (hb5.block _ (by omega)).trans g0
  have g2' := (hb5.block _ (by omega)).trans g2
  have s5 := hb5.size
  clear g0 g2 K3 hb5
  obtain ⟨Z, hZ⟩ : ∃ Z, Z = w5.alloc (.cells #[.int .i64 t1, .int .i64 t2] 28) := ⟨_, rfl⟩
  have z0 : Z.heap[w.heap.size]? = some (.cells #[.int .i64 a1, .int .i64 a2] 28 (0, 0)) := by
    rw [hZ]; exact (Below.heap_alloc _ _ _ (by omega)).trans g0'
  have z2 : Z.heap[w.heap.size + 1 + 1]? = some (.cells #[.int .i64 0, .int .i64 0] 28 (0, 0)) := by
    rw [hZ]; exact (Below.heap_alloc _ _ _ (by omega)).trans g2'
  have z5 : Z.heap[w5.heap.size]? = some (.cells #[.int .i64 t1, .int .i64 t2] 28 (0, 0)) := by
    rw [hZ]; exact heap_alloc_last w5 _
  have KZ : Below w.heap.size w Z := by rw [hZ]; exact K5.alloc K5.size _
  have c0 : Z.cell? ⟨w.heap.size, 0, none⟩ = some (.int .i64 a1) := (cell_of_row _ _ 0 _ _ _ z0).trans rfl
  have c1 : Z.cell? ⟨w.heap.size, 1, none⟩ = some (.int .i64 a2) := (cell_of_row _ _ 1 _ _ _ z0).trans rfl
  have c2 : Z.cell? ⟨w5.heap.size, 0, none⟩ = some (.int .i64 t1) := (cell_of_row _ _ 0 _ _ _ z5).trans rfl
  have c3 : Z.cell? ⟨w5.heap.size, 1, none⟩ = some (.int .i64 t2) := (cell_of_row _ _ 1 _ _ _ z5).trans rfl
  have c4 : Z.cell? ⟨w.heap.size + 1 + 1, 0, none⟩ = some (.int .i64 0) := (cell_of_row _ _ 0 _ _ _ z2).trans rfl
  have c5 : Z.cell? ⟨w.heap.size + 1 + 1, 1, none⟩ = some (.int .i64 0) := (cell_of_row _ _ 1 _ _ _ z2).trans rfl
  have f4 := frozen_of_row Z (w.heap.size + 1 + 1) 0 _ _ z2
  have f5 := frozen_of_row Z (w.heap.size + 1 + 1) 1 _ _ z2
  have y1 := heap_setCell_same Z (w.heap.size + 1 + 1) 0 _ _ (.int .i64 (a1 + t1)) z2
  have y2 := heap_setCell_same _ (w.heap.size + 1 + 1) 1 _ _ (.int .i64 (a2 + t2)) y1
  have y3 : ((Z.setCell ⟨w.heap.size + 1 + 1, 0, none⟩ (.int .i64 (a1 + t1))).setCell ⟨w.heap.size + 1 + 1, 1, none⟩ (.int .i64 (a2 + t2))).heap[w.heap.size + 1 + 1]? = some (.cells #[.int .i64 (a1 + t1), .int .i64 (a2 + t2)] 28 (0, 0)) := by simpa using y2
  have q1 : Below w.heap.size w (Z.setCell ⟨w.heap.size + 1 + 1, 0, none⟩ (.int .i64 (a1 + t1))) := KZ.setCell (by show w.heap.size ≤ w.heap.size + 1 + 1; omega) _
  have q2 : Below w.heap.size w ((Z.setCell ⟨w.heap.size + 1 + 1, 0, none⟩ (.int .i64 (a1 + t1))).setCell ⟨w.heap.size + 1 + 1, 1, none⟩ (.int .i64 (a2 + t2))) := q1.setCell (by show w.heap.size ≤ w.heap.size + 1 + 1; omega) _
  have HY := Lib.hid y3
  have HB := Lib.hid q2
  have bb : -9007199254740992 ≤ a1 ∧ a1 ≤ 9007199254740992 := by omega
  have bb2 : -9007199254740992 ≤ a2 ∧ a2 ≤ 9007199254740992 := by omega
  have bb3 : -9007199254740992 ≤ t1 ∧ t1 ≤ 9007199254740992 := by omega
  have bb4 : -9007199254740992 ≤ t2 ∧ t2 ≤ 9007199254740992 := by omega
  clear y1 y2 y3 q1 q2 z0 z2 z5 KZ g0' g2' K5 s5 s3 hr ha hb
  subst hZ
  go_wp2
  refine bodyPost_ret (results_cell_row Try.results18 _ _ (w.heap.size + 1 + 1) 28 #[.int .i64 (a1 + t1), .int .i64 (a2 + t2)] (0, 0) _ rfl HY.out Try.underlying28 rfl infoW) rfl ⟨rfl, HB.out⟩

end Go.Proofs.Ytmobkjdncfdokaa
