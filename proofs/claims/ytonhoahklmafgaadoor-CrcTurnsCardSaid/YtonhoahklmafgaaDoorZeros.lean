/- The walks of the joining: zeros, Join. -/
import Derived.Test.YtonhoahklmafgaaDoorMore
import Derived.Laws.Rows
import Derived.Deep.WholeRow
import Derived.RegionTactic
import Derived.Deep.RegionWith
namespace Go.Proofs.YtonhoahklmafgaaDoor
open Go.RowKit

set_option maxHeartbeats 400000 in
theorem after_any (m n : Nat) (hn : n ≤ 4294967295) (w : World) :
    Calls Tryd.prog 29 #[.agg (zarr m), .int .u32 n] w fun e w' => e = .returned (.int .u32 (stps m n)) ∧ w' = w.alloc (.cells (zarr m) 48) := by
  go_enter Tryd.func29, Tryd.ntmps29
  go_wp2
  go_loop [5, 7] (fun x i => ∃ (k : Nat), k ≤ 32 ∧ i = .int .i64 k ∧ x = .int .u32 (stps m (n % 2 ^ k) : Nat)) (fun _ i => 32 - (intOf i).toNat)
  case atStart => exact ⟨0, Nat.zero_le _, rfl, by rw [Nat.pow_zero, Nat.mod_one, stps_zero]; rfl⟩
  case round =>
    obtain ⟨k, hk, rfl, rfl⟩ := hrel
    by_cases hlt : k < 32
    · have hb : n / 2 ^ k ≤ 4294967295 := Nat.le_trans (Nat.div_le_self _ _) hn
      have e1 := a32_1 hb
      have ec : ((n / 2 ^ k : Nat) : Int) = (n : Int) / 2 ^ k := by simp
      rw [ec] at e1
      clear ec
      have hg := zarr_get m k hlt
      rcases Nat.mod_two_eq_zero_or_one (n / 2 ^ k) with h | h
      · rw [h] at e1
        have e3 : bits .and .u32 ((n : Int) / 2 ^ k) 1 = 0 := e1
        clear e1
        have HX := Lib.hid (stps_bit_off n k (by omega))
        clear h
        go_wp2
        go_round
        case rel => exact ⟨k + 1, by omega, by go_num, by rw [HX.out]⟩
        case measure => simp [intOf]; omega
      · rw [h] at e1
        have e3 : bits .and .u32 ((n : Int) / 2 ^ k) 1 = 1 := e1
        clear e1
        have l1 : stps m (n % 2 ^ k) ≤ 4294967295 := stps_le m (Nat.le_trans (Nat.mod_le _ _) hn)
        have l2 : stps m (2 ^ k) ≤ 4294967295 := stps_le m (pow_le hlt)
        have e2 := x32 l1 l2
        rw [stps_bit_on m n k h] at e2
        clear h
        go_wp2
        go_round
        case rel => exact ⟨k + 1, by omega, by go_num, rfl⟩
        case measure => simp [intOf]; omega
    · obtain rfl : k = 32 := by omega
      have hm : n % 2 ^ 32 = n := Nat.mod_eq_of_lt (by omega)
      rw [hm]
      clear hm
      go_wp2
      go_ret
      exact ⟨rfl, rfl⟩

theorem info48 : (Tryd.prog.info? 48).map (·.size) = some 32 := by kernel_rfl

theorem zarr_info (m : Nat) : (Tryd.prog.info? 48).map (·.size) = some (zarr m).size := by rw [zarr_size]; exact info48

theorem zarr_one (m : Nat) : (zarr m).all (·.oneCell') = true := by
  rw [Array.all_eq_true]
  intro i hi
  simp [zarr, Value.oneCell']

theorem below_setRow {B : Nat} {w w' : World} (h : Below B w w') (g : Nat) (cs : Array Value) (hg : B ≤ g) : Below B w (w'.setRow g cs) :=
  ⟨h.os, h.tape, h.output, by simpa using h.size, fun i hi => (setRow_other w' g i cs (by omega)).trans (h.block i hi)⟩

/-- Thirty-two zeros. -/
def zeros32 : Array Value := #[Value.int .u32 0, Value.int .u32 0, Value.int .u32 0, Value.int .u32 0, Value.int .u32 0, Value.int .u32 0, Value.int .u32 0, Value.int .u32 0, Value.int .u32 0, Value.int .u32 0, Value.int .u32 0, Value.int .u32 0, Value.int .u32 0, Value.int .u32 0, Value.int .u32 0, Value.int .u32 0, Value.int .u32 0, Value.int .u32 0, Value.int .u32 0, Value.int .u32 0, Value.int .u32 0, Value.int .u32 0, Value.int .u32 0, Value.int .u32 0, Value.int .u32 0, Value.int .u32 0, Value.int .u32 0, Value.int .u32 0, Value.int .u32 0, Value.int .u32 0, Value.int .u32 0, Value.int .u32 0]

set_option maxHeartbeats 1000000 in
theorem zeroByte_any (w : World) :
    Calls Tryd.prog 28 #[] w fun e w' => e = .returned (.agg (zarr 8)) ∧ Below w.heap.size w w' := by
  go_enter Tryd.func28, Tryd.ntmps28
  go_wp2
  obtain ⟨Z, hZ⟩ : ∃ Z : Array Value, Z = zeros32 := ⟨_, rfl⟩
  have hZ' := hZ
  unfold zeros32 at hZ'
  rw [← hZ']
  have hZs : Z.size = 32 := by rw [hZ]; rfl
  clear hZ hZ'
  go_loopw [3] (fun x wr => ∃ (i : Nat) (C : Array Value), i ≤ 32 ∧ x = .int .i64 i ∧ C.size = 32 ∧ (∀ j (h : j < i), C[j]? = some (.int .u32 (stps 8 (2 ^ j) : Nat))) ∧ wr = (w.alloc (.cells Z 48)).alloc (.cells C 48)) (fun x _ => 32 - (intOf x).toNat)
  case atStart => exact ⟨0, _, Nat.zero_le _, rfl, hZs, fun j h => by omega, rfl⟩
  case round =>
    obtain ⟨i, C, hi, rfl, hC, hcs, rfl⟩ := hrel
    by_cases hlt : i < 32
    · have HC := Lib.hid hcs
      have hp := pow_le hlt
      have e0 : (2 : Int) ^ i % 4294967296 = ((2 ^ i : Nat) : Int) := by
        have h2 : ((2 ^ i : Nat) : Int) = (2 : Int) ^ i := by simp
        rw [← h2]
        have h3 : (2 ^ i : Nat) < 4294967296 := by omega
        have h4 : ((2 ^ i : Nat) : Int) < ((4294967296 : Nat) : Int) := Int.ofNat_lt.2 h3
        exact Int.emod_eq_of_lt (Int.natCast_nonneg _) h4
      obtain ⟨p, hp'⟩ : ∃ p : Nat, p = 2 ^ i := ⟨_, rfl⟩
      rw [← hp'] at hp e0
      have HP := Lib.hid hp'
      have b1 : decide ((i : Int) < 32) = true := by simp; omega
      clear hp'
      clear hcs
      go_wp2
      simp only [e0]
      go_loopw [10] (fun x wr => ∃ (k : Nat) (D : Array Value), k ≤ 8 ∧ x = .int .i64 k ∧ D.size = 32 ∧ (∀ j (h : j < i), D[j]? = some (.int .u32 (stps 8 (2 ^ j) : Nat))) ∧ D[i]? = some (.int .u32 (stps k p : Nat)) ∧ wr = (w.alloc (.cells Z 48)).alloc (.cells D 48)) (fun x _ => 8 - (intOf x).toNat)
      case atStart =>
        refine ⟨0, _, Nat.zero_le _, rfl, by simpa using hC, ?_, ?_, rfl⟩
        · intro j hj
          rw [Array.getElem?_setIfInBounds, if_neg (by omega)]
          exact HC.out j hj
        · rw [Array.getElem?_setIfInBounds, if_pos rfl, if_pos (by omega)]
          rfl
      case round =>
        obtain ⟨k, D, hk, rfl, hD, hds, hdi, rfl⟩ := hrel
        by_cases hlk : k < 8
        · have HD := Lib.hid hds
          have hv := stps_le k hp
          have e1 := stps_succ k p
          obtain ⟨v, hv'⟩ : ∃ v : Nat, v = stps k p := ⟨_, rfl⟩
          rw [← hv'] at hv e1 hdi
          have C1 := step_any v hv
          have HE := Lib.hid e1
          have hdg : D[i]'(by omega) = .int .u32 (v : Nat) := (Array.getElem?_eq_some_iff.1 hdi).2
          clear hds e1 hv' hdi
          go_wp2_with fail
          ((with_reducible refine (C1 _).mono ?_); rintro e w' ⟨rfl, rfl⟩)
          go_wp2
          go_roundw
          case rel =>
            refine ⟨k + 1, _, by omega, by go_num, by simpa using hD, ?_, ?_, rfl⟩
            · intro j hj
              rw [Array.getElem?_setIfInBounds, if_neg (by omega)]
              exact HD.out j hj
            · rw [Array.getElem?_setIfInBounds, if_pos rfl, if_pos (by omega), HE.out]
          case measure => simp [intOf]; omega
        · obtain rfl : k = 8 := by omega
          have HD := Lib.hid hds
          clear hds
          go_wp2
          go_roundw
          case rel =>
            refine ⟨i + 1, _, by omega, by go_num, hD, ?_, rfl⟩
            intro j hj
            by_cases e : j = i
            · subst e; rw [← HP.out]; exact hdi
            · exact HD.out j (by omega)
          case measure => simp [intOf]; omega
    · obtain rfl : i = 32 := by omega
      have hc := zarr_of 8 C hC hcs
      subst hc
      clear hcs hC
      go_wp2_with (first
        | (with_reducible refine wpList_load_row rfl _ _ rfl (w.heap.size + 1) rfl 48 (zarr 8) (0, 0) _ (heap_alloc2_new w _ _) Tryd.underlying48 rfl (zarr_info 8) ?_)
        | (with_reducible refine wpList_store_row rfl _ _ _ rfl w.heap.size (zarr 8) rfl rfl 48 Z (heap_alloc2_old w _ _) (zarr_info 8) (by rw [hZs, zarr_size]) (zarr_one 8) ?_))
      refine bodyPost_ret (results_cell_row Tryd.results28 _ _ w.heap.size 48 (zarr 8) (0, 0) _ rfl (setRow_heap _ _ _ _ _ _ (heap_alloc2_old w _ _)) Tryd.underlying48 rfl (zarr_info 8)) rfl ⟨rfl, ?_⟩
      exact below_setRow (((Below.refl _ _).alloc (Nat.le_refl _) _).alloc (by simp) _) _ _ (Nat.le_refl _)

theorem load48 (w : World) (g : Nat) (cs : Array Value) (hg : w.heap[g]? = some (.cells cs 48 (0, 0))) (hs : cs.size = 32) :
    (loadVar 48 ⟨g, 0, none⟩).run Tryd.prog w = .ok (.agg cs) w :=
  run_loadVar_row w g 48 48 cs (0, 0) _ hg Tryd.underlying48 rfl (by rw [hs]; exact info48)

theorem load48c (w : World) (g : Nat) (cs : Array Value) (hg : w.heap[g]? = some (.cells cs 48 (0, 0))) (hs : cs.size = 32) :
    (loadCellsFrom ⟨g, 0, none⟩ 0 32 #[]).run Tryd.prog w = .ok cs w := by
  have := run_loadCells_list (P := Tryd.prog) w ⟨g, 0, none⟩ cs.toList (fun j v hv => by
    have hadd : (⟨g, 0, none⟩ : Addr).add j = ⟨g, j, none⟩ := by unfold Addr.add; split <;> simp_all
    rw [hadd, cell_of_row _ _ j cs 48 (0, 0) hg]
    simpa using hv)
  simpa [loadCells, hs] using this

set_option maxHeartbeats 1000000 in
theorem twice_any (m : Nat) (w : World) :
    Calls Tryd.prog 30 #[.agg (zarr m)] w fun e w' => e = .returned (.agg (zarr (m + m))) ∧ Below w.heap.size w w' := by
  go_enter Tryd.func30, Tryd.ntmps30
  go_wp2
  obtain ⟨Z, hZ⟩ : ∃ Z : Array Value, Z = zeros32 := ⟨_, rfl⟩
  have hZ' := hZ
  unfold zeros32 at hZ'
  rw [← hZ']
  have hZs : Z.size = 32 := by rw [hZ]; rfl
  clear hZ hZ'
  go_loopw [5] (fun x wr => ∃ (i : Nat) (C : Array Value), i ≤ 32 ∧ x = .int .i64 i ∧ C.size = 32 ∧ (∀ j (h : j < i), C[j]? = some (.int .u32 (stps (m + m) (2 ^ j) : Nat))) ∧
      wr.heap[w.heap.size]? = some (.cells (zarr m) 48 (0, 0)) ∧ wr.heap[w.heap.size + 1]? = some (.cells Z 48 (0, 0)) ∧ wr.heap[w.heap.size + 1 + 1]? = some (.cells C 48 (0, 0)) ∧ Below w.heap.size w wr) (fun x _ => 32 - (intOf x).toNat)
  case atStart =>
    refine ⟨0, _, Nat.zero_le _, rfl, hZs, fun j h => by omega, ?_, ?_, ?_, ?_⟩
    · rw [Below.heap_alloc _ _ _ (by simp; omega)]; exact heap_alloc2_old w _ _
    · rw [Below.heap_alloc _ _ _ (by simp)]; exact heap_alloc2_new w _ _
    · have := heap_alloc2_new (w.alloc (.cells (zarr m) 48)) (.cells Z 48) (.cells Z 48)
      simpa using this
    · exact (((Below.refl _ _).alloc (Nat.le_refl _) _).alloc (by simp) _).alloc (by simp; omega) _
  case round =>
    obtain ⟨i, C, hi, rfl, hC, hcs, h0, h1, h2, hb⟩ := hrel
    by_cases hlt : i < 32
    · have HC := Lib.hid hcs
      have hv := stps_le m (pow_le hlt)
      have e1 := stps_add m m (2 ^ i)
      obtain ⟨v, hv'⟩ : ∃ v : Nat, v = stps m (2 ^ i) := ⟨_, rfl⟩
      have c0 : wr.drew.cell? ⟨w.heap.size, i, none⟩ = some (.int .u32 (v : Nat)) := by
        have : wr.drew.cell? ⟨w.heap.size, i, none⟩ = (zarr m)[i]? := cell_of_row _ _ i (zarr m) _ _ h0
        rw [this, zarr_get m i hlt, hv']
      rw [← hv'] at hv e1
      have g0 : wr.drew.heap[w.heap.size]? = some (.cells (zarr m) 48 (0, 0)) := h0
      have HL := load48c wr.drew w.heap.size (zarr m) g0 (zarr_size m)
      have hlt2 : w.heap.size + 1 + 1 < wr.heap.size := (Array.getElem?_eq_some_iff.1 h2).1
      have c2 : wr.cell? ⟨w.heap.size + 1 + 1, i, none⟩ = some (C[i]'(by omega)) := (cell_of_row _ _ i C _ _ h2).trans (by simp [hC, hlt])
      have f2 : wr.frozen? ⟨w.heap.size + 1 + 1, i, none⟩ = false := frozen_of_row _ _ _ _ _ h2
      have hsz : (wr.setCell ⟨w.heap.size + 1 + 1, i, none⟩ (.int .u32 (stps m v : Nat))).heap.size = wr.heap.size := by simp [World.setCell]
      have CA := after_any m v hv
      have HE := Lib.hid e1
      clear hcs e1 hv'
      have h0d : wr.drew.heap[w.heap.size]? = some (.cells (zarr m) 48 (0, 0)) := h0
      clear g0
      go_wp2
      refine wp_region_any (by kernel_rfl) ?_
      try (change wpAny _ _ _ _ _ _ _ (World.drew _))
      refine wpAny_take (i := 0) (v := ?_) rfl (by kernel_rfl) (by kernel_rfl) (by kernel_rfl) (fun _ _ _ h => h) (Or.inl ⟨by rfl, ?_⟩) ?_
      case refine_2 => intro w; go_simp; try with_reducible rfl
      refine wpAny_take (i := 2) (v := ?_) rfl (by kernel_rfl) (by kernel_rfl) (by kernel_rfl) (fun _ _ _ h => h) (Or.inl ⟨by rfl, ?_⟩) ?_
      case refine_2 => intro w; go_simp; try with_reducible rfl
      refine wpAny_take (i := 3) (v := ?_) rfl (by kernel_rfl) (by kernel_rfl) (by kernel_rfl) (fun _ _ _ h => h) (Or.inl ⟨by rfl, ?_⟩) ?_
      case refine_2 => intro w; go_simp; try with_reducible rfl
      refine wpAny_ready (rs := [1, 4]) (by kernel_rfl) (by simp) ?_
      refine AllReady.cons rfl (fun K hK => ?_) (AllReady.cons rfl (fun K hK => ?_) AllReady.nil)
      · refine wp_load_row 48 _ rfl w.heap.size rfl 48 (zarr m) (0, 0) _ h0d Tryd.underlying48 rfl (zarr_info m) ?_
        refine hK _ _ ?_
        clear hK K
        refine wpAny_ready (rs := [4]) (by kernel_rfl) (by simp) (AllReady.cons rfl (fun K hK => ?_) AllReady.nil)
        go_simp
        refine hK _ _ ?_
        clear hK K
        refine wpAny_ready (rs := [5]) (by kernel_rfl) (by simp) (AllReady.cons rfl (fun K hK => ?_) AllReady.nil)
        go_simp
        refine (CA _).mono ?_
        rintro e w' ⟨rfl, rfl⟩
        refine hK _ _ ?_
        clear hK K
        refine wpAny_ready (rs := [6]) (by kernel_rfl) (by simp) (AllReady.cons rfl (fun K hK => ?_) AllReady.nil)
        go_simp
        refine hK _ _ ?_
        clear hK K
        refine wpAny_ready (rs := [7]) (by kernel_rfl) (by simp) (AllReady.cons rfl (fun K hK => ?_) AllReady.nil)
        go_simp
        refine hK _ _ ?_
        clear hK K
        refine wpAny_done (by kernel_rfl) ?_ _
        go_wp2
        go_roundw
        case rel =>
          refine ⟨i + 1, C.setIfInBounds i (.int .u32 (stps m v : Nat)), by omega, by go_num, by simpa using hC, ?_, ?_, ?_, ?_, ?_⟩
          rotate_left 3
          · exact (Below.heap_alloc _ _ _ (by rw [hsz]; omega)).trans (heap_setCell_same _ _ _ _ _ _ h2)
          · exact ((hb.setCell (by show w.heap.size ≤ w.heap.size + 1 + 1; omega) _).alloc (by rw [hsz]; omega) _).drew
          · intro j hj
            rw [Array.getElem?_setIfInBounds]
            by_cases e : i = j
            · subst e
              rw [if_pos rfl, if_pos (by omega), HE.out]
            · rw [if_neg e]; exact HC.out j (by omega)
          · refine (Below.heap_alloc _ _ _ (by rw [hsz]; omega)).trans ?_
            rw [heap_setCell_other _ _ _ _ (by show ¬ w.heap.size = w.heap.size + 1 + 1; omega)]; exact h0
          · refine (Below.heap_alloc _ _ _ (by rw [hsz]; omega)).trans ?_
            rw [heap_setCell_other _ _ _ _ (by show ¬ w.heap.size + 1 = w.heap.size + 1 + 1; omega)]; exact h1
        case measure => simp [intOf]; omega
      · go_simp
        refine hK _ _ ?_
        clear hK K
        refine wpAny_ready (rs := [1]) (by kernel_rfl) (by simp) (AllReady.cons rfl (fun K hK => ?_) AllReady.nil)
        refine wp_load_row 48 _ rfl w.heap.size rfl 48 (zarr m) (0, 0) _ h0d Tryd.underlying48 rfl (zarr_info m) ?_
        refine hK _ _ ?_
        clear hK K
        refine wpAny_ready (rs := [5]) (by kernel_rfl) (by simp) (AllReady.cons rfl (fun K hK => ?_) AllReady.nil)
        go_simp
        refine (CA _).mono ?_
        rintro e w' ⟨rfl, rfl⟩
        refine hK _ _ ?_
        clear hK K
        refine wpAny_ready (rs := [6]) (by kernel_rfl) (by simp) (AllReady.cons rfl (fun K hK => ?_) AllReady.nil)
        go_simp
        refine hK _ _ ?_
        clear hK K
        refine wpAny_ready (rs := [7]) (by kernel_rfl) (by simp) (AllReady.cons rfl (fun K hK => ?_) AllReady.nil)
        go_simp
        refine hK _ _ ?_
        clear hK K
        refine wpAny_done (by kernel_rfl) ?_ _
        go_wp2
        go_roundw
        case rel =>
          refine ⟨i + 1, C.setIfInBounds i (.int .u32 (stps m v : Nat)), by omega, by go_num, by simpa using hC, ?_, ?_, ?_, ?_, ?_⟩
          rotate_left 3
          · exact (Below.heap_alloc _ _ _ (by rw [hsz]; omega)).trans (heap_setCell_same _ _ _ _ _ _ h2)
          · exact ((hb.setCell (by show w.heap.size ≤ w.heap.size + 1 + 1; omega) _).alloc (by rw [hsz]; omega) _).drew
          · intro j hj
            rw [Array.getElem?_setIfInBounds]
            by_cases e : i = j
            · subst e
              rw [if_pos rfl, if_pos (by omega), HE.out]
            · rw [if_neg e]; exact HC.out j (by omega)
          · refine (Below.heap_alloc _ _ _ (by rw [hsz]; omega)).trans ?_
            rw [heap_setCell_other _ _ _ _ (by show ¬ w.heap.size = w.heap.size + 1 + 1; omega)]; exact h0
          · refine (Below.heap_alloc _ _ _ (by rw [hsz]; omega)).trans ?_
            rw [heap_setCell_other _ _ _ _ (by show ¬ w.heap.size + 1 = w.heap.size + 1 + 1; omega)]; exact h1
        case measure => simp [intOf]; omega
    · obtain rfl : i = 32 := by omega
      have hc := zarr_of (m + m) C hC hcs
      subst hc
      clear hcs hC
      go_wp2_with (first
        | (with_reducible refine wpList_load_row rfl _ _ rfl (w.heap.size + 1 + 1) rfl 48 (zarr (m + m)) (0, 0) _ h2 Tryd.underlying48 rfl (zarr_info _) ?_)
        | (with_reducible refine wpList_store_row rfl _ _ _ rfl (w.heap.size + 1) (zarr (m + m)) rfl rfl 48 Z h1 (zarr_info _) (by rw [hZs, zarr_size]) (zarr_one _) ?_))
      refine bodyPost_ret (results_cell_row Tryd.results30 _ _ (w.heap.size + 1) 48 (zarr (m + m)) (0, 0) _ rfl (setRow_heap _ _ _ _ _ _ h1) Tryd.underlying48 rfl (zarr_info _)) rfl ⟨rfl, ?_⟩
      exact below_setRow hb _ _ (by omega)

end Go.Proofs.YtonhoahklmafgaaDoor
