/- The landed extent's end, cropped, lies. -/
import Derived.Test.YtppbknlhknadbaaEcM
import Derived.Test.YtppbknlhknadbaaGJ
namespace Go.Proofs.Ytppbknlhknadbaa
open Go.RowKit

theorem set2_row {w : World} {g : Nat} {a b : Value} {T : TypeId} (h : w.heap[g]? = some (.cells #[a, b] T (0, 0))) (x y : Value) : ((w.setCell ⟨g, 0, none⟩ x).setCell ⟨g, 1, none⟩ y).heap[g]? = some (.cells #[x, y] T (0, 0)) := by
  rw [heap_setCell_same _ _ _ _ _ _ (heap_setCell_same _ _ _ _ _ _ h)]
  rfl
theorem i64_of {x : Int} (h : I64 x) : IntKind.i64.wrap x = x := IntWalk.i64_in _ h

set_option maxRecDepth 100000 in
set_option maxHeartbeats 1000000 in
theorem eend_any (a n : Int) (h : I64 (a + n)) (w : World) :
    Calls Try.prog 62 #[.agg #[.int .i64 a, .int .i64 n]] w fun e w' => e = .returned (.int .i64 (a + n)) ∧ Below w.heap.size w w' := by
  obtain ⟨x, hx⟩ : ∃ x, x = a + n := ⟨_, rfl⟩
  have v1 : IntKind.i64.wrap (a + n) = x := by rw [hx]; exact i64_of h
  rw [← hx]
  clear hx h
  go_enter Try.func62, Try.ntmps62
  go_wp2
  go_ret
  exact ⟨rfl, box_below _ _⟩

set_option maxRecDepth 100000 in
set_option maxHeartbeats 1000000 in
theorem cropped_any (a n : Int) (ha : I64 a) (hn : I64 n) (w : World) :
    Calls Try.prog 77 #[.agg #[.int .i64 a, .int .i64 n]] w fun e w' => e = .returned (.agg #[.int .i64 (cropI (a, n)).1, .int .i64 (cropI (a, n)).2]) ∧ Below w.heap.size w w' := by
  have ha1 := ha.1
  have ha2 := ha.2
  have hn1 := hn.1
  have hn2 := hn.2
  obtain ⟨ir, hir, hx⟩ := Option.map_eq_some_iff.1 infoRun
  simp only [Prod.mk.injEq] at hx
  have HFI : Hid ((Try.prog.info? 66).map (·.size) = some 2) := Lib.hid (by rw [hir]; simp [hx.2.1])
  clear hir hx
  have hbel : Below w.heap.size w ((w.alloc (.cells #[.int .i64 a, .int .i64 n] 66)).alloc (.cells #[.int .i64 0, .int .i64 0] 66)) := (box_below w _).alloc (by simp) _
  by_cases h1 : n < 1
  · have e1 : cropI (a, n) = (0, 0) := by unfold cropI; rw [if_pos h1]
    rw [e1]
    go_enter Try.func77, Try.ntmps77
    go_wp2
    refine bodyPost_ret (results_cell_row Try.results77 _ _ (w.heap.size + 1) 66 #[.int .i64 0, .int .i64 0] (0, 0) _ rfl ?_ Try.underlying66 rfl HFI.out) rfl ⟨rfl, ?_⟩
    · exact heap_alloc2_new w _ _
    · exact hbel
  · have hn0 : 1 ≤ n := by omega
    obtain ⟨d, hd⟩ : ∃ d, d = 8192 - n := ⟨_, rfl⟩
    have v1 : IntKind.i64.wrap (8192 - n) = d := by rw [← hd]; exact IntWalk.i64_in _ (by omega)
    obtain ⟨mx, hmx⟩ : ∃ mx, mx = max a 0 := ⟨_, rfl⟩
    have hmr : Hid ((if (0 : Int) > a then 0 else a) = mx) := Lib.hid (by split <;> omega)
    obtain ⟨W0, hW0⟩ : ∃ W0, W0 = (w.alloc (.cells #[.int .i64 a, .int .i64 n] 66)).alloc (.cells #[.int .i64 0, .int .i64 0] 66) := ⟨_, rfl⟩
    have HB0 : Hid (W0.heap[w.heap.size]? = some (.cells #[.int .i64 a, .int .i64 n] 66 (0, 0))) := Lib.hid (by rw [hW0]; exact heap_alloc2_old w _ _)
    have HB1 : Hid (W0.heap[w.heap.size + 1]? = some (.cells #[.int .i64 0, .int .i64 0] 66 (0, 0))) := Lib.hid (by rw [hW0]; exact heap_alloc2_new w _ _)
    have HK0 : Hid (Below w.heap.size w W0) := Lib.hid (by rw [hW0]; exact hbel)
    have HW0 := Lib.hid hW0
    have HMX := Lib.hid hmx
    have HSZ : Hid (w.heap.size ≤ W0.heap.size) := Lib.hid (by rw [hW0]; simp; omega)
    by_cases h2 : a < d
    · obtain ⟨s, hs⟩ : ∃ s, s = a + n := ⟨_, rfl⟩
      have EN := eend_any a n ⟨by omega, by omega⟩ W0
      rw [← hs] at EN
      have e1 : cropI (a, n) = if s ≤ mx then (0, 0) else (mx, s - mx) := by rw [crop_a a n h1 (by omega), hmx, hs]
      have hs1 : s ≤ 8192 := by omega
      have hmx0 : 0 ≤ mx := by omega
      have HS1 := Lib.hid hs1
      have HMX0 := Lib.hid hmx0
      have HE1 := Lib.hid e1
      clear hbel hd hs hmx hW0 e1 hs1 hmx0
      go_enter Try.func77, Try.ntmps77
      go_wp2_with fail
      rw [← HW0.out]
      refine EN.mono ?_
      rintro e w1 ⟨rfl, hb1⟩
      have K1 : Hid (Below w.heap.size w w1) := Lib.hid (Below.then' HK0.out hb1 HSZ.out)
      have r0 := Kept.row hb1 HB0.out
      have r1 := Kept.row hb1 HB1.out
      have c0 : w1.cell? ⟨w.heap.size, 0, none⟩ = some (.int .i64 a) := by rw [cell_of_row _ _ _ _ _ _ r0]; rfl
      have d0 : w1.cell? ⟨w.heap.size + 1, 0, none⟩ = some (.int .i64 0) := by rw [cell_of_row _ _ _ _ _ _ r1]; rfl
      have d1 : w1.cell? ⟨w.heap.size + 1, 1, none⟩ = some (.int .i64 0) := by rw [cell_of_row _ _ _ _ _ _ r1]; rfl
      have g0 := frozen_of_row w1 (w.heap.size + 1) 0 _ _ r1
      have g1 := frozen_of_row w1 (w.heap.size + 1) 1 _ _ r1
      have RW : ∀ x y, Hid (((w1.setCell ⟨w.heap.size + 1, 0, none⟩ x).setCell ⟨w.heap.size + 1, 1, none⟩ y).heap[w.heap.size + 1]? = some (.cells #[x, y] 66 (0, 0))) := fun x y => Lib.hid (set2_row r1 x y)
      have RK : ∀ x y, Hid (Below w.heap.size w ((w1.setCell ⟨w.heap.size + 1, 0, none⟩ x).setCell ⟨w.heap.size + 1, 1, none⟩ y)) := fun x y => Lib.hid (Below.setCell (Below.setCell K1.out (Nat.le_succ _) _) (Nat.le_succ _) _)
      have RKH := Lib.hid RK
      have RWH := Lib.hid RW
      clear EN hb1 r0 r1 RW RK
      by_cases h3 : mx ≥ s
      · go_wp2_with (first
          | (with_reducible refine wpList_maxI rfl _ _ _ _ rfl .i64 .i64 a 0 mx rfl rfl hmr.out ?_))
        refine bodyPost_ret (results_cell_row Try.results77 _ _ (w.heap.size + 1) 66 #[.int .i64 0, .int .i64 0] (0, 0) _ rfl (RWH.out _ _).out Try.underlying66 rfl HFI.out) rfl ⟨?_, (RKH.out _ _).out⟩
        rw [HE1.out, if_pos h3]
      · obtain ⟨q, hq⟩ : ∃ q, q = s - mx := ⟨_, rfl⟩
        have v2 : IntKind.i64.wrap (s - mx) = q := by rw [hq]; exact IntWalk.i64_in _ (by have := HS1.out; have := HMX0.out; omega)
        have HQ := Lib.hid hq
        clear hq
        go_wp2_with (first
          | (with_reducible refine wpList_maxI rfl _ _ _ _ rfl .i64 .i64 a 0 mx rfl rfl hmr.out ?_))
        refine bodyPost_ret (results_cell_row Try.results77 _ _ (w.heap.size + 1) 66 #[.int .i64 mx, .int .i64 q] (0, 0) _ rfl (RWH.out _ _).out Try.underlying66 rfl HFI.out) rfl ⟨?_, (RKH.out _ _).out⟩
        rw [HE1.out, if_neg (by omega), HQ.out]
    · have e1 : cropI (a, n) = if (8192 : Int) ≤ mx then (0, 0) else (mx, 8192 - mx) := by rw [crop_b a n h1 (by omega), hmx]
      have hmx0 : 0 ≤ mx := by omega
      have HE1 := Lib.hid e1
      have HMX0 := Lib.hid hmx0
      have HBEL := Lib.hid hbel
      clear hbel hd hmx hW0 e1 hmx0 HW0 HB0 HB1 HK0 HSZ
      by_cases h3 : mx ≥ 8192
      · go_enter Try.func77, Try.ntmps77
        go_wp2_with (first
          | (with_reducible refine wpList_maxI rfl _ _ _ _ rfl .i64 .i64 a 0 mx rfl rfl hmr.out ?_))
        refine bodyPost_ret (results_cell_row Try.results77 _ _ (w.heap.size + 1) 66 #[.int .i64 0, .int .i64 0] (0, 0) _ rfl (heap_alloc2_new w _ _) Try.underlying66 rfl HFI.out) rfl ⟨?_, HBEL.out⟩
        rw [HE1.out, if_pos h3]
      · obtain ⟨q, hq⟩ : ∃ q, q = 8192 - mx := ⟨_, rfl⟩
        have v2 : IntKind.i64.wrap (8192 - mx) = q := by rw [hq]; exact IntWalk.i64_in _ (by have := HMX0.out; omega)
        have HQ := Lib.hid hq
        clear hq
        have HBEL2 : Hid (Below w.heap.size w ((w.alloc (.cells #[.int .i64 a, .int .i64 n] 66)).alloc (.cells #[.int .i64 mx, .int .i64 q] 66))) := Lib.hid ((box_below w _).alloc (by simp) _)
        go_enter Try.func77, Try.ntmps77
        go_wp2_with (first
          | (with_reducible refine wpList_maxI rfl _ _ _ _ rfl .i64 .i64 a 0 mx rfl rfl hmr.out ?_))
        refine bodyPost_ret (results_cell_row Try.results77 _ _ (w.heap.size + 1) 66 #[.int .i64 mx, .int .i64 q] (0, 0) _ rfl (heap_alloc2_new w _ _) Try.underlying66 rfl HFI.out) rfl ⟨?_, HBEL2.out⟩
        rw [HE1.out, if_neg (by omega), HQ.out]

set_option maxRecDepth 100000 in
set_option maxHeartbeats 1000000 in
/-- Does a run lie where it may? -/
theorem lies_any (a n fr te : Int) (ha : I64 a) (hn : I64 n) (hto : I64 te) (w : World) :
    Calls Try.prog 60 #[.agg #[.int .i64 a, .int .i64 n], .int .i64 fr, .int .i64 te] w fun e w' => e = .returned (.bool (decide (fitR fr te (a, n)))) ∧ Below w.heap.size w w' := by
  have ha1 := ha.1
  have ha2 := ha.2
  have hn1 := hn.1
  have hn2 := hn.2
  have hto2 := hto.2
  obtain ⟨r, hr⟩ : ∃ r, r = decide (fitR fr te (a, n)) := ⟨_, rfl⟩
  rw [← hr]
  unfold fitR at hr
  simp only at hr
  by_cases h1 : a ≥ fr
  · by_cases h2 : n ≥ 1
    · obtain ⟨d, hd⟩ : ∃ d, d = 9223372036854775807 - n := ⟨_, rfl⟩
      have v1 : IntKind.i64.wrap (9223372036854775807 - n) = d := by rw [← hd]; exact IntWalk.i64_in _ (by omega)
      by_cases h3 : a ≤ d
      · obtain ⟨s, hs⟩ : ∃ s, s = a + n := ⟨_, rfl⟩
        have EN := fun W => eend_any a n ⟨by omega, by omega⟩ W
        rw [← hs] at EN
        have hbel := box_below w (.cells #[.int .i64 a, .int .i64 n] 66)
        have HBEL := Lib.hid hbel
        by_cases h4 : s ≤ te
        · obtain rfl : r = true := by rw [hr]; exact decide_eq_true ⟨h1, h2, by omega⟩
          have b4 : decide (s ≤ te) = true := decide_eq_true h4
          clear hr hd hs hbel
          go_enter Try.func60, Try.ntmps60
          go_wp2_with fail
          refine (EN _).mono ?_
          rintro e w1 ⟨rfl, hb1⟩
          go_wp2
          go_ret
          exact ⟨rfl, Below.then' HBEL.out hb1 HBEL.out.size⟩
        · obtain rfl : r = false := by rw [hr]; exact decide_eq_false (fun y => h4 (by omega))
          have b4 : decide (s ≤ te) = false := decide_eq_false h4
          clear hr hd hs hbel
          go_enter Try.func60, Try.ntmps60
          go_wp2_with fail
          refine (EN _).mono ?_
          rintro e w1 ⟨rfl, hb1⟩
          go_wp2
          go_ret
          exact ⟨rfl, Below.then' HBEL.out hb1 HBEL.out.size⟩
      · obtain rfl : r = false := by rw [hr]; exact decide_eq_false (fun y => h3 (by omega))
        clear hr hd
        go_enter Try.func60, Try.ntmps60
        go_wp2
        go_ret
        exact ⟨rfl, box_below _ _⟩
    · obtain rfl : r = false := by rw [hr]; exact decide_eq_false (fun y => h2 y.2.1)
      clear hr
      go_enter Try.func60, Try.ntmps60
      go_wp2
      go_ret
      exact ⟨rfl, box_below _ _⟩
  · obtain rfl : r = false := by rw [hr]; exact decide_eq_false (fun y => h1 y.1)
    clear hr
    go_enter Try.func60, Try.ntmps60
    go_wp2
    go_ret
    exact ⟨rfl, box_below _ _⟩

end Go.Proofs.Ytppbknlhknadbaa
