/- The walk of WeighTurns. -/
import Derived.Test.YtmobkjdncfdokaaRefW5
import Derived.Test.YtmobkjdncfdokaaTexts
import Derived.Test.YtmobkjdncfdokaaZArg
namespace Go.Proofs.Ytmobkjdncfdokaa
open Go.RowKit

theorem row_later {w w' : World} {g : Nat} {o : Obj} (h : w.heap[g]? = some o) (hb : Below w.heap.size w w') : w'.heap[g]? = some o :=
  (hb.block _ (Array.getElem?_eq_some_iff.1 h).1).trans h

/-- A complex number as the statement's struct. -/
def zZ (x y : Nat) : Value := .agg #[.float .f64 x, .float .f64 y]

theorem flt0 : flt 0 = 0 := rfl

theorem parts_cases {x y : Nat} : (∃ z : Int × Int, NumZ x y z) ∨ ¬ IsZ x y := by
  by_cases c : IsZ x y
  · obtain ⟨⟨a, ha⟩, b, hb⟩ := c
    exact Or.inl ⟨(a, b), ha, hb⟩
  · exact Or.inr c

theorem still_below {P : Program} {f : FuncId} {args : Array Value} {w : World} {v : Ending} (h : Calls P f args w fun e w' => e = v ∧ w = w') : Calls P f args w fun e w' => e = v ∧ Below w.heap.size w w' :=
  h.mono fun _ _ h => ⟨h.1, h.2 ▸ Below.refl _ _⟩

set_option maxHeartbeats 8000000 in
theorem turns_yes (px py qx qy : Nat) (a b : Int × Int) (hp : NumZ px py a) (hq : NumZ qx qy b) (n : Int) (w : World) :
    Calls Try.prog 4 #[zZ px py, zZ qx qy, .int .i64 n] w (LawPost w) := by
  unfold zZ
  have PP := parts_yes hp.1 hp.2
  have PQ := parts_yes hq.1 hq.2
  have TT := fun w => still_below (turn_yes hp n w)
  have JJ := fun w => still_below (join_yes hp hq n w)
  have ra := rot_num (turns n) ⟨hp.1.2.2, hp.2.2.2⟩
  have rb := rot_num (turns n) ⟨hq.1.2.2, hq.2.2.2⟩
  have RT := rturn_any a.1 a.2 hp.1.2.2 hp.2.2.2 n
  have RJ := rjoin_any a b ⟨hp.1.2.2, hp.2.2.2⟩ ⟨hq.1.2.2, hq.2.2.2⟩ n
  have ba : (a.1, a.2) = a := rfl
  rw [ba] at RT
  obtain ⟨t, ht⟩ : ∃ t, t = rot (turns n) a := ⟨_, rfl⟩
  have hj1 : (joinZ a n b).1.natAbs ≤ 2 ^ 54 ∧ (joinZ a n b).2.natAbs ≤ 2 ^ 54 := by
    have h1 := hp.1.2.2
    have h2 := hp.2.2.2
    unfold joinZ
    simp only
    omega
  obtain ⟨j, hj⟩ : ∃ j, j = joinZ a n b := ⟨_, rfl⟩
  rw [← ht] at TT RT ra
  rw [← hj] at JJ RJ hj1
  have PL1 := isPlain_any t.1 t.2 (by omega) (by omega)
  have PL2 := isPlain_any j.1 j.2 hj1.1 hj1.2
  have o1 := order_self t.1 (by omega)
  have o2 := order_self t.2 (by omega)
  have o3 := order_self j.1 hj1.1
  have o4 := order_self j.2 hj1.2
  have N1 := num_any t.1 t.2
  have N2 := num_any j.1 j.2
  obtain ⟨a1, a2⟩ := a
  obtain ⟨b1, b2⟩ := b
  obtain ⟨t1, t2⟩ := t
  obtain ⟨j1, j2⟩ := j
  simp only at *
  generalize flt t1 = T1 at *
  generalize flt t2 = T2 at *
  generalize flt j1 = J1 at *
  generalize flt j2 = J2 at *
  clear hj ht ba rb ra hj1 hp hq
  unfold wW at *
  go_enter Try.func4, Try.ntmps4
  go_wp2
  go_region
  obtain ⟨W2, hW2⟩ : ∃ W2, W2 = ((w.alloc (.cells #[.float .f64 px, .float .f64 py] 36)).alloc (.cells #[.float .f64 qx, .float .f64 qy] 36)).drew := ⟨_, rfl⟩
  have K2 : Below w.heap.size w W2 := by
    rw [hW2]
    exact (((Below.refl _ _).alloc (Nat.le_refl _) _).alloc (by simp) _).drew
  rw [← hW2]
  clear hW2
  go_wp2_with fail
  refine (PP _).mono ?_
  rintro e w5 ⟨rfl, hb5⟩
  have K5 := Below.then' K2 hb5 K2.size
  clear K2 hb5 PP
  obtain ⟨X9, hX9⟩ : ∃ X9, X9 = w5.alloc (.cells #[.int .i64 a1, .int .i64 a2] 28) := ⟨_, rfl⟩
  have KX : Below w.heap.size w X9 := by rw [hX9]; exact K5.alloc K5.size _
  have R9 : X9.heap[w5.heap.size]? = some (.cells #[.int .i64 a1, .int .i64 a2] 28 (0, 0)) := by rw [hX9]; exact heap_alloc_last w5 _
  have HX9 := Lib.hid hX9
  clear hX9 K5
  go_wp2_with fail
  rw [← HX9.out]
  refine (PQ _).mono ?_
  rintro e w6 ⟨rfl, hb6⟩
  have K6 := Below.then' KX hb6 KX.size
  have R6 := row_later R9 hb6
  clear KX hb6 PQ R9
  obtain ⟨Y9, hY9⟩ : ∃ Y9, Y9 = w6.alloc (.cells #[.int .i64 b1, .int .i64 b2] 28) := ⟨_, rfl⟩
  have KY : Below w.heap.size w Y9 := by rw [hY9]; exact K6.alloc K6.size _
  have S9 : Y9.heap[w6.heap.size]? = some (.cells #[.int .i64 b1, .int .i64 b2] 28 (0, 0)) := by rw [hY9]; exact heap_alloc_last w6 _
  have R7 : Y9.heap[w5.heap.size]? = some (.cells #[.int .i64 a1, .int .i64 a2] 28 (0, 0)) := by rw [hY9]; exact (Below.heap_alloc _ _ _ (Array.getElem?_eq_some_iff.1 R6).1).trans R6
  have HY9 := Lib.hid hY9
  clear hY9 K6 R6
  go_wp2_with fail
  rw [← HY9.out]
  refine (TT _).mono ?_
  rintro e w7 ⟨rfl, hb7⟩
  have K7 := Below.then' KY hb7 KY.size
  have R8 := row_later R7 hb7
  have S8 := row_later S9 hb7
  clear KY hb7 TT R7 S9
  go_wp2_with fail
  refine (JJ _).mono ?_
  rintro e w8 ⟨rfl, hb8⟩
  have K8 := Below.then' K7 hb8 K7.size
  have R9 := row_later R8 hb8
  have S9 := row_later S8 hb8
  clear K7 hb8 JJ R8 S8
  go_wp2_with fail
  refine (PL1 _).mono ?_
  rintro e w' ⟨rfl, rfl⟩
  go_wp2_with fail
  refine (PL2 _).mono ?_
  rintro e w' ⟨rfl, rfl⟩
  go_wp2_with fail
  refine (awake_any _).mono ?_
  rintro e w9 ⟨rfl, hb9⟩
  have K9 := Below.then' K8 hb9 K8.size
  have R10 := row_later R9 hb9
  have S10 := row_later S9 hb9
  clear K8 hb9 PL1 PL2 R9 S9
  have c0 : w9.cell? ⟨w5.heap.size, 0, none⟩ = some (.int .i64 a1) := (cell_of_row _ _ 0 _ _ _ R10).trans rfl
  have c1 : w9.cell? ⟨w5.heap.size, 1, none⟩ = some (.int .i64 a2) := (cell_of_row _ _ 1 _ _ _ R10).trans rfl
  go_wp2_with fail
  refine (RT _).mono ?_
  rintro e w10 ⟨rfl, hb10⟩
  have K10 := Below.then' K9 hb10 K9.size
  have R11 := row_later R10 hb10
  have S11 := row_later S10 hb10
  clear K9 hb10 R10 S10 c0 c1 RT
  go_wp2_with fail
  refine (N1 _).mono ?_
  rintro e w11 ⟨rfl, hb11⟩
  have K11 := Below.then' K10 hb11 K10.size
  have R12 := row_later R11 hb11
  have S12 := row_later S11 hb11
  clear K10 hb11 R11 S11 N1
  have c0 : w11.cell? ⟨w5.heap.size, 0, none⟩ = some (.int .i64 a1) := (cell_of_row _ _ 0 _ _ _ R12).trans rfl
  have c1 : w11.cell? ⟨w5.heap.size, 1, none⟩ = some (.int .i64 a2) := (cell_of_row _ _ 1 _ _ _ R12).trans rfl
  have d0 : w11.cell? ⟨w6.heap.size, 0, none⟩ = some (.int .i64 b1) := (cell_of_row _ _ 0 _ _ _ S12).trans rfl
  have d1 : w11.cell? ⟨w6.heap.size, 1, none⟩ = some (.int .i64 b2) := (cell_of_row _ _ 1 _ _ _ S12).trans rfl
  clear R12 S12
  go_wp2_with fail
  refine (RJ _).mono ?_
  rintro e w12 ⟨rfl, hb12⟩
  have K12 := Below.then' K11 hb12 K11.size
  clear K11 hb12 RJ c0 c1 d0 d1
  go_wp2_with fail
  refine (N2 _).mono ?_
  rintro e w13 ⟨rfl, hb13⟩
  go_wp2
  go_ret
  exact ⟨rfl, Below.then' K12 hb13 K12.size⟩

/-- The second one is no weight. -/
theorem turns_half (px py qx qy : Nat) (a : Int × Int) (hp : NumZ px py a) (h1 : px < 2 ^ 64) (h2 : py < 2 ^ 64) (h3 : qx < 2 ^ 64) (h4 : qy < 2 ^ 64) (hq : ¬ IsZ qx qy) (n : Int) (w : World) :
    Calls Try.prog 4 #[zZ px py, zZ qx qy, .int .i64 n] w (LawPost w) := by
  unfold zZ
  have PP := parts_yes hp.1 hp.2
  have PQ := parts_no h3 h4 hq
  have TT := fun w => still_below (turn_yes hp n w)
  have JJ := join_no h1 h2 h3 h4 (fun h => hq h.2) n
  have ra := rot_num (turns n) ⟨hp.1.2.2, hp.2.2.2⟩
  have RT := rturn_any a.1 a.2 hp.1.2.2 hp.2.2.2 n
  have ba : (a.1, a.2) = a := rfl
  rw [ba] at RT
  obtain ⟨t, ht⟩ : ∃ t, t = rot (turns n) a := ⟨_, rfl⟩
  rw [← ht] at TT RT ra
  have PL1 := isPlain_any t.1 t.2 (by omega) (by omega)
  have PL2 := isPlain_any 0 0 (by decide) (by decide)
  rw [flt0] at PL2
  have o1 := order_self t.1 (by omega)
  have o2 := order_self t.2 (by omega)
  have oz := order_zero_zero
  have N1 := num_any t.1 t.2
  obtain ⟨a1, a2⟩ := a
  obtain ⟨t1, t2⟩ := t
  simp only at *
  generalize flt t1 = T1 at *
  generalize flt t2 = T2 at *
  clear ht ba ra hp hq h1 h2 h3 h4
  unfold wW at *
  go_enter Try.func4, Try.ntmps4
  go_wp2
  go_region
  obtain ⟨W2, hW2⟩ : ∃ W2, W2 = ((w.alloc (.cells #[.float .f64 px, .float .f64 py] 36)).alloc (.cells #[.float .f64 qx, .float .f64 qy] 36)).drew := ⟨_, rfl⟩
  have K2 : Below w.heap.size w W2 := by
    rw [hW2]
    exact (((Below.refl _ _).alloc (Nat.le_refl _) _).alloc (by simp) _).drew
  rw [← hW2]
  clear hW2
  go_wp2_with fail
  refine (PP _).mono ?_
  rintro e w5 ⟨rfl, hb5⟩
  have K5 := Below.then' K2 hb5 K2.size
  clear K2 hb5 PP
  obtain ⟨X9, hX9⟩ : ∃ X9, X9 = w5.alloc (.cells #[.int .i64 a1, .int .i64 a2] 28) := ⟨_, rfl⟩
  have KX : Below w.heap.size w X9 := by rw [hX9]; exact K5.alloc K5.size _
  have R9 : X9.heap[w5.heap.size]? = some (.cells #[.int .i64 a1, .int .i64 a2] 28 (0, 0)) := by rw [hX9]; exact heap_alloc_last w5 _
  have HX9 := Lib.hid hX9
  clear hX9 K5
  go_wp2_with fail
  rw [← HX9.out]
  refine (PQ _).mono ?_
  rintro e w6 ⟨rfl, hb6⟩
  have K6 := Below.then' KX hb6 KX.size
  have R6 := row_later R9 hb6
  clear KX hb6 PQ R9
  obtain ⟨Y9, hY9⟩ : ∃ Y9, Y9 = w6.alloc (.cells #[.int .i64 0, .int .i64 0] 28) := ⟨_, rfl⟩
  have KY : Below w.heap.size w Y9 := by rw [hY9]; exact K6.alloc K6.size _
  have S9 : Y9.heap[w6.heap.size]? = some (.cells #[.int .i64 0, .int .i64 0] 28 (0, 0)) := by rw [hY9]; exact heap_alloc_last w6 _
  have R7 : Y9.heap[w5.heap.size]? = some (.cells #[.int .i64 a1, .int .i64 a2] 28 (0, 0)) := by rw [hY9]; exact (Below.heap_alloc _ _ _ (Array.getElem?_eq_some_iff.1 R6).1).trans R6
  have HY9 := Lib.hid hY9
  clear hY9 K6 R6
  go_wp2_with fail
  rw [← HY9.out]
  refine (TT _).mono ?_
  rintro e w7 ⟨rfl, hb7⟩
  have K7 := Below.then' KY hb7 KY.size
  have R8 := row_later R7 hb7
  have S8 := row_later S9 hb7
  clear KY hb7 TT R7 S9
  go_wp2_with fail
  refine (JJ _).mono ?_
  rintro e w8 ⟨rfl, hb8⟩
  have K8 := Below.then' K7 hb8 K7.size
  have R9 := row_later R8 hb8
  have S9 := row_later S8 hb8
  clear K7 hb8 JJ R8 S8
  go_wp2_with fail
  refine (PL1 _).mono ?_
  rintro e w' ⟨rfl, rfl⟩
  go_wp2_with fail
  refine (PL2 _).mono ?_
  rintro e w' ⟨rfl, rfl⟩
  go_wp2_with fail
  refine (awake_any _).mono ?_
  rintro e w9 ⟨rfl, hb9⟩
  have K9 := Below.then' K8 hb9 K8.size
  have R10 := row_later R9 hb9
  have S10 := row_later S9 hb9
  clear K8 hb9 PL1 PL2 R9 S9
  have c0 : w9.cell? ⟨w5.heap.size, 0, none⟩ = some (.int .i64 a1) := (cell_of_row _ _ 0 _ _ _ R10).trans rfl
  have c1 : w9.cell? ⟨w5.heap.size, 1, none⟩ = some (.int .i64 a2) := (cell_of_row _ _ 1 _ _ _ R10).trans rfl
  go_wp2_with fail
  refine (RT _).mono ?_
  rintro e w10 ⟨rfl, hb10⟩
  have K10 := Below.then' K9 hb10 K9.size
  have R11 := row_later R10 hb10
  have S11 := row_later S10 hb10
  clear K9 hb10 R10 S10 c0 c1 RT
  go_wp2_with fail
  refine (N1 _).mono ?_
  rintro e w11 ⟨rfl, hb11⟩
  have K11 := Below.then' K10 hb11 K10.size
  have R12 := row_later R11 hb11
  have S12 := row_later S11 hb11
  clear K10 hb11 R11 S11 N1
  clear R12 S12
  go_wp2
  go_ret
  exact ⟨rfl, K11⟩

/-- The first one is no weight. -/
theorem turns_none (px py qx qy : Nat) (h1 : px < 2 ^ 64) (h2 : py < 2 ^ 64) (h3 : qx < 2 ^ 64) (h4 : qy < 2 ^ 64) (hp : ¬ IsZ px py) (n : Int) (w : World) :
    Calls Try.prog 4 #[zZ px py, zZ qx qy, .int .i64 n] w (LawPost w) := by
  unfold zZ
  have PP := parts_no h1 h2 hp
  have Q : ∃ (b1 b2 : Int) (ok : Bool), ∀ w, Calls Try.prog 15 #[.complex .f64 qx qy] w fun e w' => e = .returned (.tuple #[wW b1 b2, .bool ok]) ∧ Below w.heap.size w w' := by
    rcases parts_cases (x := qx) (y := qy) with ⟨z, hz⟩ | hz
    · exact ⟨_, _, _, parts_yes hz.1 hz.2⟩
    · exact ⟨_, _, _, parts_no h3 h4 hz⟩
  obtain ⟨b1, b2, ok, PQ⟩ := Q
  have TT := turn_no h1 h2 hp n
  have JJ := join_no h1 h2 h3 h4 (fun h => hp h.1) n
  have PL2 := isPlain_any 0 0 (by decide) (by decide)
  rw [flt0] at PL2
  have PL1 := PL2
  have oz := order_zero_zero
  clear hp h1 h2 h3 h4
  unfold wW at *
  go_enter Try.func4, Try.ntmps4
  go_wp2
  go_region
  obtain ⟨W2, hW2⟩ : ∃ W2, W2 = ((w.alloc (.cells #[.float .f64 px, .float .f64 py] 36)).alloc (.cells #[.float .f64 qx, .float .f64 qy] 36)).drew := ⟨_, rfl⟩
  have K2 : Below w.heap.size w W2 := by
    rw [hW2]
    exact (((Below.refl _ _).alloc (Nat.le_refl _) _).alloc (by simp) _).drew
  rw [← hW2]
  clear hW2
  go_wp2_with fail
  refine (PP _).mono ?_
  rintro e w5 ⟨rfl, hb5⟩
  have K5 := Below.then' K2 hb5 K2.size
  clear K2 hb5 PP
  obtain ⟨X9, hX9⟩ : ∃ X9, X9 = w5.alloc (.cells #[.int .i64 0, .int .i64 0] 28) := ⟨_, rfl⟩
  have KX : Below w.heap.size w X9 := by rw [hX9]; exact K5.alloc K5.size _
  have R9 : X9.heap[w5.heap.size]? = some (.cells #[.int .i64 0, .int .i64 0] 28 (0, 0)) := by rw [hX9]; exact heap_alloc_last w5 _
  have HX9 := Lib.hid hX9
  clear hX9 K5
  go_wp2_with fail
  rw [← HX9.out]
  refine (PQ _).mono ?_
  rintro e w6 ⟨rfl, hb6⟩
  have K6 := Below.then' KX hb6 KX.size
  have R6 := row_later R9 hb6
  clear KX hb6 PQ R9
  obtain ⟨Y9, hY9⟩ : ∃ Y9, Y9 = w6.alloc (.cells #[.int .i64 b1, .int .i64 b2] 28) := ⟨_, rfl⟩
  have KY : Below w.heap.size w Y9 := by rw [hY9]; exact K6.alloc K6.size _
  have S9 : Y9.heap[w6.heap.size]? = some (.cells #[.int .i64 b1, .int .i64 b2] 28 (0, 0)) := by rw [hY9]; exact heap_alloc_last w6 _
  have R7 : Y9.heap[w5.heap.size]? = some (.cells #[.int .i64 0, .int .i64 0] 28 (0, 0)) := by rw [hY9]; exact (Below.heap_alloc _ _ _ (Array.getElem?_eq_some_iff.1 R6).1).trans R6
  have HY9 := Lib.hid hY9
  clear hY9 K6 R6
  go_wp2_with fail
  rw [← HY9.out]
  refine (TT _).mono ?_
  rintro e w7 ⟨rfl, hb7⟩
  have K7 := Below.then' KY hb7 KY.size
  have R8 := row_later R7 hb7
  have S8 := row_later S9 hb7
  clear KY hb7 TT R7 S9
  go_wp2_with fail
  refine (JJ _).mono ?_
  rintro e w8 ⟨rfl, hb8⟩
  have K8 := Below.then' K7 hb8 K7.size
  have R9 := row_later R8 hb8
  have S9 := row_later S8 hb8
  clear K7 hb8 JJ R8 S8
  go_wp2_with fail
  refine (PL1 _).mono ?_
  rintro e w' ⟨rfl, rfl⟩
  go_wp2_with fail
  refine (PL2 _).mono ?_
  rintro e w' ⟨rfl, rfl⟩
  go_wp2_with fail
  refine (awake_any _).mono ?_
  rintro e w9 ⟨rfl, hb9⟩
  have K9 := Below.then' K8 hb9 K8.size
  have R10 := row_later R9 hb9
  have S10 := row_later S9 hb9
  clear K8 hb9 PL1 PL2 R9 S9
  clear R10 S10
  go_wp2
  go_ret
  exact ⟨rfl, K9⟩

theorem walk_weighTurns (px py : Nat) (h1 : px < 2 ^ 64) (h2 : py < 2 ^ 64) (qx qy : Nat) (h3 : qx < 2 ^ 64) (h4 : qy < 2 ^ 64) (n : Int) (_wn : (Lit.int .i64 n).wf = true) (w : World) :
    Calls Try.prog 4 #[zZ px py, zZ qx qy, .int .i64 n] w (LawPost w) := by
  rcases parts_cases (x := px) (y := py) with ⟨a, ha⟩ | hp
  · rcases parts_cases (x := qx) (y := qy) with ⟨b, hb⟩ | hq
    · exact turns_yes px py qx qy a b ha hb n w
    · exact turns_half px py qx qy a ha h1 h2 h3 h4 hq n w
  · exact turns_none px py qx qy h1 h2 h3 h4 hp n w

end Go.Proofs.Ytmobkjdncfdokaa
