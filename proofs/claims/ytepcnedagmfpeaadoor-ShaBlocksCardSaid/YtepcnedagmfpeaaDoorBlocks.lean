/- The walk of ShaBlocks. -/
import Derived.Test.YtepcnedagmfpeaaDoorAwakeS
import Derived.Test.YtepcnedagmfpeaaDoorRBlock
import Derived.Test.YtepcnedagmfpeaaDoorBlockS
import Derived.Test.YtepcnedagmfpeaaDoorAgg8
namespace Go.Proofs.YtepcnedagmfpeaaDoor
open Go.RowKit

theorem same_zero8 (w : World) : (Op.equalIn 10000 39 (.agg zeros8) (.agg zeros8)).run Tryd.prog w = .ok true w := same_st (List.replicate 8 0) rfl w

set_option maxRecDepth 100000 in
set_option maxHeartbeats 8000000 in
theorem walk_shaBlocks (s : St) (hs : s.lo) (x : ByteArray) (_hx : x.size ≤ maxLen) (w : World) (hT : TabAt w) :
    Calls Tryd.prog 5 #[.agg (nuA s.list), .string x] w (LawPost w) := by
  have hxm := _hx
  unfold maxLen at _hx
  by_cases h64 : x.size = 64
  · have BK := fun w' h => block_any s hs x h64 w' h
    have RB := fun b w' h => rblock_any s hs b 8 x h64 w' h
    obtain ⟨l, hl⟩ : ∃ l, l = x.data.toList := ⟨_, rfl⟩
    rw [← hl] at BK RB
    have hRi := infoSt (proc s l)
    have hR1 := nuA_one (proc s l).list
    have hRs : (nuA (proc s l).list).size = 8 := by rw [nuA_size]; rfl
    have hRg : ∀ j, j < 8 → (nuA (proc s l).list)[j]? = some (.int .u32 ((proc s l).list.getD j 0 : Nat)) := fun j hj => nuA_get _ _ hj
    obtain ⟨R, hR⟩ : ∃ R, R = nuA (proc s l).list := ⟨_, rfl⟩
    rw [← hR] at BK hRi hR1 hRs hRg
    obtain ⟨a, b, c, d, e0, f, g, h⟩ := s
    obtain ⟨pr, hpr⟩ : ∃ pr, pr = proc ⟨a, b, c, d, e0, f, g, h⟩ l := ⟨_, rfl⟩
    rw [← hpr] at RB hRg
    have BK' : ∀ w', TabAt w' → Calls Tryd.prog 15 #[.agg #[.int .u32 a, .int .u32 b, .int .u32 c, .int .u32 d, .int .u32 e0, .int .u32 f, .int .u32 g, .int .u32 h], .string x] w' fun e w'' => e = .returned (.tuple #[.agg R, .int .i64 0]) ∧ Below w'.heap.size w' w'' := BK
    show Calls Tryd.prog 5 #[.agg #[.int .u32 a, .int .u32 b, .int .u32 c, .int .u32 d, .int .u32 e0, .int .u32 f, .int .u32 g, .int .u32 h], .string x] w (LawPost w)
    have HRI := Lib.hid hRi
    have HR1 := Lib.hid hR1
    have HRS := Lib.hid hRs
    have HRG := Lib.hid hRg
    have hx64 : (x.size : Int) = 64 := by omega
    have K0 : Below w.heap.size w ((w.alloc (.cells #[.int .u32 a, .int .u32 b, .int .u32 c, .int .u32 d, .int .u32 e0, .int .u32 f, .int .u32 g, .int .u32 h] 38)).alloc (.cells #[.int .u32 a, .int .u32 b, .int .u32 c, .int .u32 d, .int .u32 e0, .int .u32 f, .int .u32 g, .int .u32 h] 39)) := ((Below.refl _ _).alloc (Nat.le_refl _) _).alloc (by simp) _
    have a0 := heap_alloc2_old w (.cells #[.int .u32 a, .int .u32 b, .int .u32 c, .int .u32 d, .int .u32 e0, .int .u32 f, .int .u32 g, .int .u32 h] 38) (.cells #[.int .u32 a, .int .u32 b, .int .u32 c, .int .u32 d, .int .u32 e0, .int .u32 f, .int .u32 g, .int .u32 h] 39)
    have B1 := BK' _ (hT.later K0)
    have HA0 := Lib.hid a0
    have HK0 := Lib.hid K0
    clear hRi hR1 hRs hRg hR hpr BK BK' hl a0 K0
    go_enter Tryd.func5, Tryd.ntmps5
    go_wp2_with fail
    refine B1.mono ?_
    rintro e w1 ⟨rfl, hb1⟩
    have K1 := Below.then' HK0.out hb1 HK0.out.size
    have A1 := (hb1.block _ (Array.getElem?_eq_some_iff.1 HA0.out).1).trans HA0.out
    have hw1 : w.heap.size < w1.heap.size := (Array.getElem?_eq_some_iff.1 A1).1
    obtain ⟨W2, hW2⟩ : ∃ W2, W2 = w1.alloc (.cells R 39) := ⟨_, rfl⟩
    have A2 : W2.heap[w.heap.size]? = some (.cells #[.int .u32 a, .int .u32 b, .int .u32 c, .int .u32 d, .int .u32 e0, .int .u32 f, .int .u32 g, .int .u32 h] 38 (0, 0)) := by
      rw [hW2, Below.heap_alloc _ _ _ hw1]; exact A1
    have R2 : W2.heap[w1.heap.size]? = some (.cells R 39 (0, 0)) := by rw [hW2]; exact heap_alloc_last w1 _
    have K2 : Below w.heap.size w W2 := by rw [hW2]; exact K1.alloc K1.size _
    have c0 : W2.cell? ⟨w.heap.size, 0, none⟩ = some (.int .u32 a) := (cell_of_row _ _ _ _ _ _ A2).trans rfl
    have c1 : W2.cell? ⟨w.heap.size, 1, none⟩ = some (.int .u32 b) := (cell_of_row _ _ _ _ _ _ A2).trans rfl
    have c2 : W2.cell? ⟨w.heap.size, 2, none⟩ = some (.int .u32 c) := (cell_of_row _ _ _ _ _ _ A2).trans rfl
    have c3 : W2.cell? ⟨w.heap.size, 3, none⟩ = some (.int .u32 d) := (cell_of_row _ _ _ _ _ _ A2).trans rfl
    have c4 : W2.cell? ⟨w.heap.size, 4, none⟩ = some (.int .u32 e0) := (cell_of_row _ _ _ _ _ _ A2).trans rfl
    have c5 : W2.cell? ⟨w.heap.size, 5, none⟩ = some (.int .u32 f) := (cell_of_row _ _ _ _ _ _ A2).trans rfl
    have c6 : W2.cell? ⟨w.heap.size, 6, none⟩ = some (.int .u32 g) := (cell_of_row _ _ _ _ _ _ A2).trans rfl
    have c7 : W2.cell? ⟨w.heap.size, 7, none⟩ = some (.int .u32 h) := (cell_of_row _ _ _ _ _ _ A2).trans rfl
    have HW2 := Lib.hid hW2
    have HA2 := Lib.hid A2
    have HR2 := Lib.hid R2
    have HK2 := Lib.hid K2
    have HRB := Lib.hid RB
    clear B1 HA0 HK0 hb1 K1 A1 hW2 A2 R2 K2 RB
    go_wp2_with ((with_reducible refine wpList_store_row rfl _ _ _ rfl w1.heap.size R rfl rfl 39 _ (heap_alloc_last w1 _) HRI.out ?_ HR1.out ?_); rotate_left; rw [World.setRow_alloc_new, ← HW2.out])
    · refine (HRB.out W2.heap.size _ (fun j hj => ?_)).mono ?_
      · have hrow := heap_alloc_last W2 (.cells #[.int .u32 a, .int .u32 b, .int .u32 c, .int .u32 d, .int .u32 e0, .int .u32 f, .int .u32 g, .int .u32 h] 36)
        have hj' : j = 0 ∨ j = 1 ∨ j = 2 ∨ j = 3 ∨ j = 4 ∨ j = 5 ∨ j = 6 ∨ j = 7 := by omega
        rcases hj' with rfl | rfl | rfl | rfl | rfl | rfl | rfl | rfl <;> exact (cell_of_row _ _ _ _ _ _ hrow).trans rfl
      rintro e w3 ⟨gq, cq, rfl, hgq, hq, hb3⟩
      have K3 := Below.then' (HK2.out.alloc HK2.out.size _) hb3 (HK2.out.alloc HK2.out.size _).size
      have R3 := (hb3.block _ (Nat.lt_trans (Array.getElem?_eq_some_iff.1 HR2.out).1 (by simp))).trans ((Below.heap_alloc _ _ _ (Array.getElem?_eq_some_iff.1 HR2.out).1).trans HR2.out)
      clear c0 c1 c2 c3 c4 c5 c6 c7 HW2 HA2 HR2 HK2 HRB hb3
      have hSi := infoSt stH
      have hS1 := nuA_one stH.list
      have hSs : (nuA stH.list).size = 8 := by rw [nuA_size]; rfl
      have hSg : ∀ j, j < 8 → (nuA stH.list)[j]? = some (.int .u32 (stH.list.getD j 0 : Nat)) := fun j hj => nuA_get _ _ hj
      have ST := start_any w3
      have RS := fun w' => rstart_any w'
      obtain ⟨S0, hS⟩ : ∃ S0, S0 = nuA stH.list := ⟨_, rfl⟩
      rw [← hS] at hSi hS1 hSs hSg ST
      simp only [← hS] at RS
      have HSI := Lib.hid hSi
      have HS1 := Lib.hid hS1
      have HSS := Lib.hid hSs
      have HSG := Lib.hid hSg
      have HRT := Lib.hid RS
      clear hSi hS1 hSs hSg hS RS
      go_wp2_with fail
      refine ST.mono ?_
      rintro e w4 ⟨rfl, hb4⟩
      have K4 := Below.then' K3 hb4 K3.size
      have R4 := (hb4.block _ (Array.getElem?_eq_some_iff.1 R3).1).trans R3
      have hw4 : w1.heap.size < w4.heap.size := (Array.getElem?_eq_some_iff.1 R4).1
      have q4 : ∀ j, j < 8 → w4.cell? ⟨gq, j, none⟩ = some (.int .u32 (pr.list.getD j 0 : Nat)) := fun j hj => (hb4.cell (World.block_lt_of_cell? _ _ (hq j hj))).trans (hq j hj)
      clear hb4 K3 R3 hq
      have K5 : Below w.heap.size w (w4.alloc (.cells S0 39)) := K4.alloc K4.size _
      go_wp2_with ((with_reducible refine wpList_store_row rfl _ _ _ rfl w4.heap.size S0 rfl rfl 39 _ (heap_alloc_last w4 _) HSI.out ?_ HS1.out ?_); rotate_left; rw [World.setRow_alloc_new])
      · refine (HRT.out _).mono ?_
        rintro e w6 ⟨rfl, hw6⟩
        have R5 : (w4.alloc (.cells S0 39)).heap[w1.heap.size]? = some (.cells R 39 (0, 0)) := (Below.heap_alloc _ _ _ hw4).trans R4
        have S5 := heap_alloc_last w4 (.cells S0 39)
        have hw5 : w1.heap.size < (w4.alloc (.cells S0 39)).heap.size := (Array.getElem?_eq_some_iff.1 R5).1
        have hw45 : w4.heap.size < (w4.alloc (.cells S0 39)).heap.size := (Array.getElem?_eq_some_iff.1 S5).1
        have q5 : ∀ j, j < 8 → (w4.alloc (.cells S0 39)).cell? ⟨gq, j, none⟩ = some (.int .u32 (pr.list.getD j 0 : Nat)) := fun j hj => (((Below.refl _ _).alloc (Nat.le_refl _) _).cell (World.block_lt_of_cell? _ _ (q4 j hj))).trans (q4 j hj)
        obtain ⟨W5, hW5⟩ : ∃ W5, W5 = w4.alloc (.cells S0 39) := ⟨_, rfl⟩
        simp only [← hW5] at R5 S5 hw5 hw45 q5 hw6 K5 ⊢
        have R6 : w6.heap[w1.heap.size]? = some (.cells R 39 (0, 0)) := by rw [hw6]; exact (Below.heap_alloc _ _ _ hw5).trans R5
        have S6 : w6.heap[w4.heap.size]? = some (.cells S0 39 (0, 0)) := by rw [hw6]; exact (Below.heap_alloc _ _ _ hw45).trans S5
        have T6 : w6.heap[W5.heap.size]? = some (.cells S0 36 (0, 0)) := by rw [hw6]; exact heap_alloc_last W5 _
        have q6 : ∀ j, j < 8 → w6.cell? ⟨gq, j, none⟩ = some (.int .u32 (pr.list.getD j 0 : Nat)) := fun j hj => by rw [hw6]; exact (((Below.refl _ _).alloc (Nat.le_refl _) _).cell (World.block_lt_of_cell? _ _ (q5 j hj))).trans (q5 j hj)
        have r6 : ∀ j, j < 8 → w6.cell? ⟨w1.heap.size, j, none⟩ = some (.int .u32 (pr.list.getD j 0 : Nat)) := fun j hj => (cell_of_row _ _ _ _ _ _ R6).trans (HRG.out j hj)
        have s6 : ∀ j, j < 8 → w6.cell? ⟨w4.heap.size, j, none⟩ = some (.int .u32 (stH.list.getD j 0 : Nat)) := fun j hj => (cell_of_row _ _ _ _ _ _ S6).trans (HSG.out j hj)
        have t6 : ∀ j, j < 8 → w6.cell? ⟨W5.heap.size, j, none⟩ = some (.int .u32 (stH.list.getD j 0 : Nat)) := fun j hj => (cell_of_row _ _ _ _ _ _ T6).trans (HSG.out j hj)
        have K6 : Below w.heap.size w w6 := by rw [hw6]; exact K5.alloc K5.size _
        have HQ6 := Lib.hid q6
        have HR6 := Lib.hid r6
        have HS6 := Lib.hid s6
        have HT6 := Lib.hid t6
        have HK6 := Lib.hid K6
        clear R5 S5 hw5 hw45 q5 hW5 R6 S6 T6 q6 r6 s6 t6 K6 K5 hw6 q4 R4 K4 ST HRT hgq
        go_wp2
        go_loopw [11] (fun x wr => ∃ (k : Nat), k ≤ 8 ∧ x = .int .i64 k ∧ ∃ m, wr = w6.drewN m) (fun x _ => 8 - (intOf x).toNat)
        case atStart => exact ⟨0, by omega, rfl, 0, rfl⟩
        case round =>
          obtain ⟨k, hk, rfl, m, rfl⟩ := hrel
          by_cases hlt : k < 8
          · have c1 : w6.cell? ⟨w1.heap.size, k, none⟩ = some (.int .u32 (pr.list.getD k 0 : Nat)) := HR6.out k hlt
            have c2 : w6.cell? ⟨gq, k, none⟩ = some (.int .u32 (pr.list.getD k 0 : Nat)) := HQ6.out k hlt
            have c3 : w6.cell? ⟨w4.heap.size, k, none⟩ = some (.int .u32 (stH.list.getD k 0 : Nat)) := HS6.out k hlt
            have c4 : w6.cell? ⟨W5.heap.size, k, none⟩ = some (.int .u32 (stH.list.getD k 0 : Nat)) := HT6.out k hlt
            have c2' : w6.cell? ⟨gq, 0 + k, none⟩ = some (.int .u32 (pr.list.getD k 0 : Nat)) := by rw [Nat.zero_add]; exact c2
            have c4' : w6.cell? ⟨W5.heap.size, 0 + k, none⟩ = some (.int .u32 (stH.list.getD k 0 : Nat)) := by rw [Nat.zero_add]; exact c4
            obtain ⟨u, hu⟩ : ∃ u, u = pr.list.getD k 0 := ⟨_, rfl⟩
            obtain ⟨v, hv⟩ : ∃ v, v = stH.list.getD k 0 := ⟨_, rfl⟩
            rw [← hu] at c1 c2 c2'
            rw [← hv] at c3 c4 c4'
            have hl : (k : Int) < 8 := by omega
            have e1 : ((u : Int) != u) = false := by simp
            have e2 : ((v : Int) != v) = false := by simp
            have e3 : decide ((u : Int) = u) = true := by simp
            clear hu hv
            go_wp2_with fail
            go_quiet (fail)
            go_wp2
            go_roundw
            case rel => exact ⟨k + 1, by omega, by go_num, m + nq, rfl⟩
            case measure => simp [intOf]; omega
          · obtain rfl : k = 8 := by omega
            go_wp2_with fail
            have hT8 : TabAt (w6.drewN m) := hT.later (below_drewN' HK6.out m)
            refine (awake_any _ hT8).mono ?_
            rintro e w8 ⟨rfl, hb8⟩
            go_wp2
            go_ret
            exact ⟨rfl, Below.then' (below_drewN' HK6.out m) hb8 (below_drewN' HK6.out m).size⟩
      · rw [HSS.out]; rfl
    · rw [HRS.out]; rfl
  · have BN := fun w' => block_no s x h64 hxm w'
    obtain ⟨a, b, c, d, e0, f, g, h⟩ := s
    have BN' : ∀ w', Calls Tryd.prog 15 #[.agg #[.int .u32 a, .int .u32 b, .int .u32 c, .int .u32 d, .int .u32 e0, .int .u32 f, .int .u32 g, .int .u32 h], .string x] w' fun e w'' => e = .returned (.tuple #[.agg zeros8, .int .i64 1]) ∧ Below w'.heap.size w' w'' := BN
    show Calls Tryd.prog 5 #[.agg #[.int .u32 a, .int .u32 b, .int .u32 c, .int .u32 d, .int .u32 e0, .int .u32 f, .int .u32 g, .int .u32 h], .string x] w (LawPost w)
    have heq := same_zero8
    unfold zeros8 at BN' heq
    have hx64 : ¬ (x.size : Int) = 64 := by omega
    have K0 : Below w.heap.size w ((w.alloc (.cells #[.int .u32 a, .int .u32 b, .int .u32 c, .int .u32 d, .int .u32 e0, .int .u32 f, .int .u32 g, .int .u32 h] 38)).alloc (.cells #[.int .u32 a, .int .u32 b, .int .u32 c, .int .u32 d, .int .u32 e0, .int .u32 f, .int .u32 g, .int .u32 h] 39)) := ((Below.refl _ _).alloc (Nat.le_refl _) _).alloc (by simp) _
    have B1 := BN' ((w.alloc (.cells #[.int .u32 a, .int .u32 b, .int .u32 c, .int .u32 d, .int .u32 e0, .int .u32 f, .int .u32 g, .int .u32 h] 38)).alloc (.cells #[.int .u32 a, .int .u32 b, .int .u32 c, .int .u32 d, .int .u32 e0, .int .u32 f, .int .u32 g, .int .u32 h] 39))
    have HK0 := Lib.hid K0
    clear BN BN' K0
    go_enter Tryd.func5, Tryd.ntmps5
    go_wp2_with fail
    refine B1.mono ?_
    rintro e w1 ⟨rfl, hb1⟩
    have K1 := Below.then' HK0.out hb1 HK0.out.size
    have K2 := K1.alloc K1.size (.cells #[.int .u32 0, .int .u32 0, .int .u32 0, .int .u32 0, .int .u32 0, .int .u32 0, .int .u32 0, .int .u32 0] 39)
    have HK1 := Lib.hid K1
    have HK2 := Lib.hid K2
    clear B1 HK0 hb1 K1 K2
    go_wp2_with fail
    refine (awake_any _ (hT.later HK2.out)).mono ?_
    rintro e w8 ⟨rfl, hb8⟩
    go_wp2
    go_ret
    exact ⟨rfl, Below.then' HK2.out hb8 HK2.out.size⟩

end Go.Proofs.YtepcnedagmfpeaaDoor
