/- The landed boxes' counters; which numbers are IDs; how many bytes a head has; Check, Size. -/
import Derived.Test.YtdmbebafpamgfaaDoorBxA
namespace Go.Proofs.YtdmbebafpamgfaaDoor
open Go.RowKit

theorem heap_set2 {w : World} {b o : Nat} {C : Array Value} {T : TypeId} (h : w.heap[b]? = some (.cells C T (0, 0))) (x y : Value) :
    ((w.setCell ⟨b, o, none⟩ x).setCell ⟨b, o + 1, none⟩ y).heap[b]? = some (.cells ((C.setIfInBounds o x).setIfInBounds (o + 1) y) T (0, 0)) :=
  heap_setCell_same _ b (o + 1) _ T y (heap_setCell_same w b o C T x h)

/-- Counting refused. -/
def cntE (s t S M n : Nat) : Int := if n < 1 ∨ 4096 < n then 1 else if s = S ∨ M < t + n then 100 else 0

set_option maxRecDepth 100000 in
set_option maxHeartbeats 4000000 in
theorem count_no (b o : Nat) (C : Array Value) (T : TypeId) (s t S M n : Nat) (w : World) (hrow : w.heap[b]? = some (.cells C T (0, 0)))
    (h0 : C[o]? = some (.int .i64 (s : Nat))) (h1 : C[o + 1]? = some (.int .i64 (t : Nat))) (h2 : C[o + 2]? = some (.int .i64 (S : Nat))) (h3 : C[o + 3]? = some (.int .i64 (M : Nat)))
    (hM : M ≤ 65536) (ht : t ≤ M) (hn : n ≤ maxLen) (r : Int) (hr : r = cntE s t S M n) (hne : r ≠ 0) :
    Calls Tryd.prog 37 #[.pointer (some ⟨b, o, none⟩), .int .i64 n] w fun e w' => e = .returned (.int .i64 r) ∧ Kept w w' := by
  have c0 : w.cell? ⟨b, o, none⟩ = some (.int .i64 (s : Nat)) := (cell_of_row _ _ _ _ _ _ hrow).trans h0
  have c1 : w.cell? ⟨b, o + 1, none⟩ = some (.int .i64 (t : Nat)) := (cell_of_row _ _ _ _ _ _ hrow).trans h1
  have c2 : w.cell? ⟨b, o + 2, none⟩ = some (.int .i64 (S : Nat)) := (cell_of_row _ _ _ _ _ _ hrow).trans h2
  have c3 : w.cell? ⟨b, o + 3, none⟩ = some (.int .i64 (M : Nat)) := (cell_of_row _ _ _ _ _ _ hrow).trans h3
  unfold maxLen at hn
  clear hrow h0 h1 h2 h3
  by_cases g1 : n < 1
  · have b1 : decide ((n : Int) < 1) = true := decide_eq_true (by omega)
    obtain rfl : r = 1 := by rw [hr]; unfold cntE; rw [if_pos (Or.inl g1)]
    clear hr hne g1
    go_enter Tryd.func37, Tryd.ntmps37
    go_wp2
    go_ret
    exact ⟨rfl, Kept.refl w⟩
  · have b1 : decide ((n : Int) < 1) = false := decide_eq_false (by omega)
    by_cases g2 : 4096 < n
    · have b2 : decide ((n : Int) > 4096) = true := decide_eq_true (by omega)
      obtain rfl : r = 1 := by rw [hr]; unfold cntE; rw [if_pos (Or.inr g2)]
      clear hr hne g1 g2
      go_enter Tryd.func37, Tryd.ntmps37
      go_wp2
      go_ret
      exact ⟨rfl, Kept.refl w⟩
    · have b2 : decide ((n : Int) > 4096) = false := decide_eq_false (by omega)
      by_cases g3 : s = S
      · subst g3
        have b3 : ((s : Int) == (s : Int)) = true := beq_self_eq_true _
        obtain rfl : r = 100 := by rw [hr]; unfold cntE; rw [if_neg (by omega), if_pos (Or.inl rfl)]
        clear hr hne g1 g2
        go_enter Tryd.func37, Tryd.ntmps37
        go_wp2
        go_quiet (fail)
        go_wp2
        go_ret
        exact ⟨rfl, below_drewN (Below.refl _ w) _⟩
      · have b3 : ((s : Int) == (S : Int)) = false := beq_eq_false_iff_ne.2 (by omega)
        have g4 : M < t + n := by
          refine Decidable.byContradiction fun g => hne ?_
          rw [hr]; unfold cntE; rw [if_neg (by omega), if_neg (by omega)]
        obtain ⟨d, hd⟩ : ∃ d, d = M - t := ⟨_, rfl⟩
        have v1 : IntKind.i64.wrap ((M : Int) - (t : Int)) = (d : Int) := by rw [show (M : Int) - (t : Int) = (d : Int) by omega]; exact IntWalk.i64_in _ (by omega)
        have b4 : decide ((n : Int) > (d : Int)) = true := decide_eq_true (by omega)
        have b5 : d < n := by omega
        obtain rfl : r = 100 := by rw [hr]; unfold cntE; rw [if_neg (by omega), if_pos (Or.inr g4)]
        clear hr hne g1 g2 g4 hd g3
        go_enter Tryd.func37, Tryd.ntmps37
        go_wp2
        go_quiet (fail)
        go_wp2
        go_ret
        exact ⟨rfl, below_drewN (Below.refl _ w) _⟩

set_option maxRecDepth 100000 in
set_option maxHeartbeats 4000000 in
theorem count_yes (b o : Nat) (C : Array Value) (T : TypeId) (s t S M n : Nat) (w : World) (hrow : w.heap[b]? = some (.cells C T (0, 0)))
    (h0 : C[o]? = some (.int .i64 (s : Nat))) (h1 : C[o + 1]? = some (.int .i64 (t : Nat))) (h2 : C[o + 2]? = some (.int .i64 (S : Nat))) (h3 : C[o + 3]? = some (.int .i64 (M : Nat)))
    (hM : M ≤ 65536) (hS : s ≤ 256) (hn : n ≤ maxLen) (hr : cntE s t S M n = 0) (s1 t1 : Nat) (hs1 : s1 = s + 1) (ht1 : t1 = t + n) :
    Calls Tryd.prog 37 #[.pointer (some ⟨b, o, none⟩), .int .i64 n] w fun e w' => e = .returned (.int .i64 0) ∧ w.grownBy w' (some b) ∧
      w'.heap[b]? = some (.cells ((C.setIfInBounds o (.int .i64 (s1 : Nat))).setIfInBounds (o + 1) (.int .i64 (t1 : Nat))) T (0, 0)) := by
  have c0 : w.cell? ⟨b, o, none⟩ = some (.int .i64 (s : Nat)) := (cell_of_row _ _ _ _ _ _ hrow).trans h0
  have c1 : w.cell? ⟨b, o + 1, none⟩ = some (.int .i64 (t : Nat)) := (cell_of_row _ _ _ _ _ _ hrow).trans h1
  have c2 : w.cell? ⟨b, o + 2, none⟩ = some (.int .i64 (S : Nat)) := (cell_of_row _ _ _ _ _ _ hrow).trans h2
  have c3 : w.cell? ⟨b, o + 3, none⟩ = some (.int .i64 (M : Nat)) := (cell_of_row _ _ _ _ _ _ hrow).trans h3
  have f0 : w.frozen? ⟨b, o, none⟩ = false := frozen_of_row _ _ _ _ _ hrow
  have f1 : w.frozen? ⟨b, o + 1, none⟩ = false := frozen_of_row _ _ _ _ _ hrow
  have HROW := Lib.hid hrow
  unfold maxLen at hn
  unfold cntE at hr
  have g1 : ¬ (n < 1 ∨ 4096 < n) := fun x => by rw [if_pos x] at hr; omega
  rw [if_neg g1] at hr
  have g2 : ¬ (s = S ∨ M < t + n) := fun x => by rw [if_pos x] at hr; omega
  have b1 : decide ((n : Int) < 1) = false := decide_eq_false (by omega)
  have b2 : decide ((n : Int) > 4096) = false := decide_eq_false (by omega)
  have b3 : ((s : Int) == (S : Int)) = false := beq_eq_false_iff_ne.2 (by omega)
  obtain ⟨d, hd⟩ : ∃ d, d = M - t := ⟨_, rfl⟩
  have v1 : IntKind.i64.wrap ((M : Int) - (t : Int)) = (d : Int) := by rw [show (M : Int) - (t : Int) = (d : Int) by omega]; exact IntWalk.i64_in _ (by omega)
  have b4 : decide ((n : Int) > (d : Int)) = false := decide_eq_false (by omega)
  have b5 : ¬ d < n := by omega
  have v2 : IntKind.i64.wrap ((s : Int) + 1) = (s1 : Int) := by rw [show (s : Int) + 1 = (s1 : Int) by omega]; exact IntWalk.i64_in _ (by omega)
  have v3 : IntKind.i64.wrap ((t : Int) + (n : Int)) = (t1 : Int) := by rw [show (t : Int) + (n : Int) = (t1 : Int) by omega]; exact IntWalk.i64_in _ (by omega)
  clear hrow h0 h1 h2 h3 hr g1 g2 hd hs1 ht1 hM hS hn
  go_enter Tryd.func37, Tryd.ntmps37
  go_wp2
  go_quiet (fail)
  go_wp2
  go_ret
  exact ⟨rfl, grown_trans (grown_below (below_drewN (Below.refl _ w) _) _) (grown_trans (grown_set _ _ _ _) (grown_set _ _ _ _)), heap_set2 HROW.out _ _⟩

theorem boxCounters_any (w : World) :
    Calls Tryd.prog 36 #[] w fun e w' => e = .returned (.agg #[.int .i64 0, .int .i64 0, .int .i64 256, .int .i64 65536]) ∧ Kept w w' := by
  go_enter Tryd.func36, Tryd.ntmps36
  go_wp2
  refine bodyPost_ret (results_cell_row Tryd.results36 _ _ w.heap.size 73 #[.int .i64 0, .int .i64 0, .int .i64 256, .int .i64 65536] (0, 0) _ rfl (heap_alloc_last w _) Tryd.underlying73 rfl (by kernel_rfl)) rfl ⟨rfl, box_below _ _⟩

theorem validID_any (id : Nat) (hid : id < 4294967296) (w : World) :
    Calls Tryd.prog 38 #[.int .u32 (id : Nat)] w fun e w' => e = .returned (.bool (decide (idOk id))) ∧ Kept w w' := by
  by_cases h1 : 1 ≤ id
  · have b1 : decide ((1 : Int) ≤ (id : Int)) = true := decide_eq_true (by omega)
    by_cases h2 : id ≤ 4294967294
    · have b2 : decide ((id : Int) ≤ 4294967294) = true := decide_eq_true (by omega)
      rw [show decide (idOk id) = true from decide_eq_true ⟨h1, h2⟩]
      clear h1 h2 hid
      go_enter Tryd.func38, Tryd.ntmps38
      go_wp2
      go_ret
      exact ⟨rfl, Kept.refl w⟩
    · have b2 : decide ((id : Int) ≤ 4294967294) = false := decide_eq_false (by omega)
      rw [show decide (idOk id) = false from decide_eq_false (fun x => h2 x.2)]
      clear h1 h2 hid
      go_enter Tryd.func38, Tryd.ntmps38
      go_wp2
      go_ret
      exact ⟨rfl, Kept.refl w⟩
  · have b1 : decide ((1 : Int) ≤ (id : Int)) = false := decide_eq_false (by omega)
    rw [show decide (idOk id) = false from decide_eq_false (fun x => h1 x.1)]
    clear h1 hid
    go_enter Tryd.func38, Tryd.ntmps38
    go_wp2
    go_ret
    exact ⟨rfl, Kept.refl w⟩

theorem headLen_any (n z : Nat) (hz : z = 14 + 6 * n) (hn : n ≤ 1000000) (w : World) :
    Calls Tryd.prog 44 #[.int .i64 n] w fun e w' => e = .returned (.int .i64 z) ∧ Kept w w' := by
  obtain ⟨m, hm⟩ : ∃ m, m = 6 * n := ⟨_, rfl⟩
  obtain ⟨k, hk⟩ : ∃ k, k = 10 + m := ⟨_, rfl⟩
  have v1 : IntKind.i64.wrap ((n : Int) * 6) = (m : Int) := by rw [show (n : Int) * 6 = (m : Int) by omega]; exact IntWalk.i64_in _ (by omega)
  have v2 : IntKind.i64.wrap ((10 : Int) + (m : Int)) = (k : Int) := by rw [show (10 : Int) + (m : Int) = (k : Int) by omega]; exact IntWalk.i64_in _ (by omega)
  have v3 : IntKind.i64.wrap ((k : Int) + 4) = (z : Int) := by rw [show (k : Int) + 4 = (z : Int) by omega]; exact IntWalk.i64_in _ (by omega)
  clear hz hn hm hk
  go_enter Tryd.func44, Tryd.ntmps44
  go_wp2
  go_ret
  exact ⟨rfl, Kept.refl w⟩

end Go.Proofs.YtdmbebafpamgfaaDoor
