/- The walk of WeighParts. -/
import Derived.Test.YtmobkjdncfdokaaTurnsZ
namespace Go.Proofs.Ytmobkjdncfdokaa
open Go.RowKit

set_option maxHeartbeats 4000000 in
theorem parts_yy (px py : Nat) (z : Int × Int) (hz : NumZ px py z) (re im : Int) (hm : re.natAbs ≤ 2 ^ 53 ∧ im.natAbs ≤ 2 ^ 53) (w : World) :
    Calls Try.prog 5 #[zZ px py, .int .i64 re, .int .i64 im] w (LawPost w) := by
  unfold zZ
  have PA := fun w => still_below (partsOf_yes hz.1 hz.2 w)
  have PW := parts_yes hz.1 hz.2
  obtain ⟨a, b⟩ := z
  simp only at PA PW
  clear hz
  have MY := may_any re im
  have em : mayB re im = true := by unfold mayB; exact decide_eq_true hm
  have MK := make_yes re im hm.1 hm.2
  have P2 := partsOf_yes (num_flt re hm.1) (num_flt im hm.2)
  have PL := isPlain_any re im (by omega) (by omega)
  rw [em] at MY
  clear em hm
  generalize flt re = X at *
  generalize flt im = Y at *
  unfold wW at *
  go_enter Try.func5, Try.ntmps5
  go_wp2_with fail
  obtain ⟨W2, hW2⟩ : ∃ W2, W2 = w.alloc (.cells #[.float .f64 px, .float .f64 py] 36) := ⟨_, rfl⟩
  have K2 : Below w.heap.size w W2 := by
    rw [hW2]
    exact (Below.refl _ _).alloc (Nat.le_refl _) _
  rw [← hW2]
  clear hW2
  refine (PA _).mono ?_
  rintro e w3 ⟨rfl, hb3⟩
  have K3 := Below.then' K2 hb3 K2.size
  clear K2 hb3 PA
  go_wp2_with fail
  refine (PW _).mono ?_
  rintro e w5 ⟨rfl, hb5⟩
  have K5 := Below.then' K3 hb5 K3.size
  clear K3 hb5 PW
  obtain ⟨X9, hX9⟩ : ∃ X9, X9 = w5.alloc (.cells #[.int .i64 a, .int .i64 b] 28) := ⟨_, rfl⟩
  have KX : Below w.heap.size w X9 := by rw [hX9]; exact K5.alloc K5.size _
  have R9 : X9.heap[w5.heap.size]? = some (.cells #[.int .i64 a, .int .i64 b] 28 (0, 0)) := by rw [hX9]; exact heap_alloc_last w5 _
  have HX9 := Lib.hid hX9
  clear hX9 K5
  go_wp2_with fail
  rw [← HX9.out]
  refine (MK _).mono ?_
  rintro e w' ⟨rfl, rfl⟩
  have c0 : X9.cell? ⟨w5.heap.size, 0, none⟩ = some (.int .i64 a) := (cell_of_row _ _ 0 _ _ _ R9).trans rfl
  have c1 : X9.cell? ⟨w5.heap.size, 1, none⟩ = some (.int .i64 b) := (cell_of_row _ _ 1 _ _ _ R9).trans rfl
  clear MK R9
  go_wp2_with fail
  refine (awake_any _).mono ?_
  rintro e w6 ⟨rfl, hb6⟩
  have K6 := Below.then' KX hb6 KX.size
  clear KX hb6 c0 c1
  go_wp2_with fail
  obtain ⟨Y9, hY9⟩ : ∃ Y9, Y9 = w6.alloc (.cells #[.int .i64 re, .int .i64 im] 28) := ⟨_, rfl⟩
  have KY : Below w.heap.size w Y9 := by rw [hY9]; exact K6.alloc K6.size _
  rw [← hY9]
  clear hY9 K6
  refine (MY _).mono ?_
  rintro e w7 ⟨rfl, hb7⟩
  have K7 := Below.then' KY hb7 KY.size
  clear KY hb7 MY
  go_wp2_with fail
  refine (P2 _).mono ?_
  rintro e w' ⟨rfl, rfl⟩
  go_wp2_with fail
  refine (PL _).mono ?_
  rintro e w' ⟨rfl, rfl⟩
  go_wp2
  go_ret
  exact ⟨rfl, K7⟩

set_option maxHeartbeats 4000000 in
theorem parts_yn (px py : Nat) (z : Int × Int) (hz : NumZ px py z) (re im : Int) (hm : ¬ (re.natAbs ≤ 2 ^ 53 ∧ im.natAbs ≤ 2 ^ 53)) (w : World) :
    Calls Try.prog 5 #[zZ px py, .int .i64 re, .int .i64 im] w (LawPost w) := by
  unfold zZ
  have PA := fun w => still_below (partsOf_yes hz.1 hz.2 w)
  have PW := parts_yes hz.1 hz.2
  obtain ⟨a, b⟩ := z
  simp only at PA PW
  clear hz
  have MY := may_any re im
  have em : mayB re im = false := by unfold mayB; exact decide_eq_false hm
  have MK := make_no re im hm
  have oz := order_zero_zero
  rw [em] at MY
  clear em hm
  unfold wW at *
  go_enter Try.func5, Try.ntmps5
  go_wp2_with fail
  obtain ⟨W2, hW2⟩ : ∃ W2, W2 = w.alloc (.cells #[.float .f64 px, .float .f64 py] 36) := ⟨_, rfl⟩
  have K2 : Below w.heap.size w W2 := by
    rw [hW2]
    exact (Below.refl _ _).alloc (Nat.le_refl _) _
  rw [← hW2]
  clear hW2
  refine (PA _).mono ?_
  rintro e w3 ⟨rfl, hb3⟩
  have K3 := Below.then' K2 hb3 K2.size
  clear K2 hb3 PA
  go_wp2_with fail
  refine (PW _).mono ?_
  rintro e w5 ⟨rfl, hb5⟩
  have K5 := Below.then' K3 hb5 K3.size
  clear K3 hb5 PW
  obtain ⟨X9, hX9⟩ : ∃ X9, X9 = w5.alloc (.cells #[.int .i64 a, .int .i64 b] 28) := ⟨_, rfl⟩
  have KX : Below w.heap.size w X9 := by rw [hX9]; exact K5.alloc K5.size _
  have R9 : X9.heap[w5.heap.size]? = some (.cells #[.int .i64 a, .int .i64 b] 28 (0, 0)) := by rw [hX9]; exact heap_alloc_last w5 _
  have HX9 := Lib.hid hX9
  clear hX9 K5
  go_wp2_with fail
  rw [← HX9.out]
  refine (MK _).mono ?_
  rintro e w' ⟨rfl, rfl⟩
  have c0 : X9.cell? ⟨w5.heap.size, 0, none⟩ = some (.int .i64 a) := (cell_of_row _ _ 0 _ _ _ R9).trans rfl
  have c1 : X9.cell? ⟨w5.heap.size, 1, none⟩ = some (.int .i64 b) := (cell_of_row _ _ 1 _ _ _ R9).trans rfl
  clear MK R9
  go_wp2_with fail
  refine (awake_any _).mono ?_
  rintro e w6 ⟨rfl, hb6⟩
  have K6 := Below.then' KX hb6 KX.size
  clear KX hb6 c0 c1
  go_wp2_with fail
  obtain ⟨Y9, hY9⟩ : ∃ Y9, Y9 = w6.alloc (.cells #[.int .i64 re, .int .i64 im] 28) := ⟨_, rfl⟩
  have KY : Below w.heap.size w Y9 := by rw [hY9]; exact K6.alloc K6.size _
  rw [← hY9]
  clear hY9 K6
  refine (MY _).mono ?_
  rintro e w7 ⟨rfl, hb7⟩
  have K7 := Below.then' KY hb7 KY.size
  clear KY hb7 MY
  go_wp2
  go_ret
  exact ⟨rfl, K7⟩

set_option maxHeartbeats 4000000 in
theorem parts_ny (px py : Nat) (h1 : px < 2 ^ 64) (h2 : py < 2 ^ 64) (hz : ¬ IsZ px py) (re im : Int) (hm : re.natAbs ≤ 2 ^ 53 ∧ im.natAbs ≤ 2 ^ 53) (w : World) :
    Calls Try.prog 5 #[zZ px py, .int .i64 re, .int .i64 im] w (LawPost w) := by
  unfold zZ
  have PA := partsOf_no h1 h2 hz
  have PW := parts_no h1 h2 hz
  clear hz h1 h2
  have MY := may_any re im
  have em : mayB re im = true := by unfold mayB; exact decide_eq_true hm
  have MK := make_yes re im hm.1 hm.2
  have P2 := partsOf_yes (num_flt re hm.1) (num_flt im hm.2)
  have PL := isPlain_any re im (by omega) (by omega)
  rw [em] at MY
  clear em hm
  generalize flt re = X at *
  generalize flt im = Y at *
  unfold wW at *
  go_enter Try.func5, Try.ntmps5
  go_wp2_with fail
  obtain ⟨W2, hW2⟩ : ∃ W2, W2 = w.alloc (.cells #[.float .f64 px, .float .f64 py] 36) := ⟨_, rfl⟩
  have K2 : Below w.heap.size w W2 := by
    rw [hW2]
    exact (Below.refl _ _).alloc (Nat.le_refl _) _
  rw [← hW2]
  clear hW2
  refine (PA _).mono ?_
  rintro e w3 ⟨rfl, hb3⟩
  have K3 := Below.then' K2 hb3 K2.size
  clear K2 hb3 PA
  go_wp2_with fail
  refine (PW _).mono ?_
  rintro e w5 ⟨rfl, hb5⟩
  have K5 := Below.then' K3 hb5 K3.size
  clear K3 hb5 PW
  obtain ⟨X9, hX9⟩ : ∃ X9, X9 = w5.alloc (.cells #[.int .i64 0, .int .i64 0] 28) := ⟨_, rfl⟩
  have KX : Below w.heap.size w X9 := by rw [hX9]; exact K5.alloc K5.size _
  have R9 : X9.heap[w5.heap.size]? = some (.cells #[.int .i64 0, .int .i64 0] 28 (0, 0)) := by rw [hX9]; exact heap_alloc_last w5 _
  have HX9 := Lib.hid hX9
  clear hX9 K5
  go_wp2_with fail
  rw [← HX9.out]
  refine (MK _).mono ?_
  rintro e w' ⟨rfl, rfl⟩
  have c0 : X9.cell? ⟨w5.heap.size, 0, none⟩ = some (.int .i64 0) := (cell_of_row _ _ 0 _ _ _ R9).trans rfl
  have c1 : X9.cell? ⟨w5.heap.size, 1, none⟩ = some (.int .i64 0) := (cell_of_row _ _ 1 _ _ _ R9).trans rfl
  clear MK R9
  go_wp2_with fail
  refine (awake_any _).mono ?_
  rintro e w6 ⟨rfl, hb6⟩
  have K6 := Below.then' KX hb6 KX.size
  clear KX hb6 c0 c1
  go_wp2_with fail
  obtain ⟨Y9, hY9⟩ : ∃ Y9, Y9 = w6.alloc (.cells #[.int .i64 re, .int .i64 im] 28) := ⟨_, rfl⟩
  have KY : Below w.heap.size w Y9 := by rw [hY9]; exact K6.alloc K6.size _
  rw [← hY9]
  clear hY9 K6
  refine (MY _).mono ?_
  rintro e w7 ⟨rfl, hb7⟩
  have K7 := Below.then' KY hb7 KY.size
  clear KY hb7 MY
  go_wp2_with fail
  refine (P2 _).mono ?_
  rintro e w' ⟨rfl, rfl⟩
  go_wp2_with fail
  refine (PL _).mono ?_
  rintro e w' ⟨rfl, rfl⟩
  go_wp2
  go_ret
  exact ⟨rfl, K7⟩

set_option maxHeartbeats 4000000 in
theorem parts_nn (px py : Nat) (h1 : px < 2 ^ 64) (h2 : py < 2 ^ 64) (hz : ¬ IsZ px py) (re im : Int) (hm : ¬ (re.natAbs ≤ 2 ^ 53 ∧ im.natAbs ≤ 2 ^ 53)) (w : World) :
    Calls Try.prog 5 #[zZ px py, .int .i64 re, .int .i64 im] w (LawPost w) := by
  unfold zZ
  have PA := partsOf_no h1 h2 hz
  have PW := parts_no h1 h2 hz
  clear hz h1 h2
  have MY := may_any re im
  have em : mayB re im = false := by unfold mayB; exact decide_eq_false hm
  have MK := make_no re im hm
  have oz := order_zero_zero
  rw [em] at MY
  clear em hm
  unfold wW at *
  go_enter Try.func5, Try.ntmps5
  go_wp2_with fail
  obtain ⟨W2, hW2⟩ : ∃ W2, W2 = w.alloc (.cells #[.float .f64 px, .float .f64 py] 36) := ⟨_, rfl⟩
  have K2 : Below w.heap.size w W2 := by
    rw [hW2]
    exact (Below.refl _ _).alloc (Nat.le_refl _) _
  rw [← hW2]
  clear hW2
  refine (PA _).mono ?_
  rintro e w3 ⟨rfl, hb3⟩
  have K3 := Below.then' K2 hb3 K2.size
  clear K2 hb3 PA
  go_wp2_with fail
  refine (PW _).mono ?_
  rintro e w5 ⟨rfl, hb5⟩
  have K5 := Below.then' K3 hb5 K3.size
  clear K3 hb5 PW
  obtain ⟨X9, hX9⟩ : ∃ X9, X9 = w5.alloc (.cells #[.int .i64 0, .int .i64 0] 28) := ⟨_, rfl⟩
  have KX : Below w.heap.size w X9 := by rw [hX9]; exact K5.alloc K5.size _
  have R9 : X9.heap[w5.heap.size]? = some (.cells #[.int .i64 0, .int .i64 0] 28 (0, 0)) := by rw [hX9]; exact heap_alloc_last w5 _
  have HX9 := Lib.hid hX9
  clear hX9 K5
  go_wp2_with fail
  rw [← HX9.out]
  refine (MK _).mono ?_
  rintro e w' ⟨rfl, rfl⟩
  have c0 : X9.cell? ⟨w5.heap.size, 0, none⟩ = some (.int .i64 0) := (cell_of_row _ _ 0 _ _ _ R9).trans rfl
  have c1 : X9.cell? ⟨w5.heap.size, 1, none⟩ = some (.int .i64 0) := (cell_of_row _ _ 1 _ _ _ R9).trans rfl
  clear MK R9
  go_wp2_with fail
  refine (awake_any _).mono ?_
  rintro e w6 ⟨rfl, hb6⟩
  have K6 := Below.then' KX hb6 KX.size
  clear KX hb6 c0 c1
  go_wp2_with fail
  obtain ⟨Y9, hY9⟩ : ∃ Y9, Y9 = w6.alloc (.cells #[.int .i64 re, .int .i64 im] 28) := ⟨_, rfl⟩
  have KY : Below w.heap.size w Y9 := by rw [hY9]; exact K6.alloc K6.size _
  rw [← hY9]
  clear hY9 K6
  refine (MY _).mono ?_
  rintro e w7 ⟨rfl, hb7⟩
  have K7 := Below.then' KY hb7 KY.size
  clear KY hb7 MY
  go_wp2
  go_ret
  exact ⟨rfl, K7⟩

theorem walk_weighParts (px py : Nat) (h1 : px < 2 ^ 64) (h2 : py < 2 ^ 64) (re : Int) (_wr : (Lit.int .i64 re).wf = true) (im : Int) (_wi : (Lit.int .i64 im).wf = true) (w : World) :
    Calls Try.prog 5 #[zZ px py, .int .i64 re, .int .i64 im] w (LawPost w) := by
  rcases parts_cases (x := px) (y := py) with ⟨z, hz⟩ | hz
  · by_cases hm : re.natAbs ≤ 2 ^ 53 ∧ im.natAbs ≤ 2 ^ 53
    · exact parts_yy px py z hz re im hm w
    · exact parts_yn px py z hz re im hm w
  · by_cases hm : re.natAbs ≤ 2 ^ 53 ∧ im.natAbs ≤ 2 ^ 53
    · exact parts_ny px py h1 h2 hz re im hm w
    · exact parts_nn px py h1 h2 hz re im hm w

end Go.Proofs.Ytmobkjdncfdokaa
