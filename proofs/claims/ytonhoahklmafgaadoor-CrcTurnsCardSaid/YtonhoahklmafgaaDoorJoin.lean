/- The walk of Join. -/
import Derived.Test.YtonhoahklmafgaaDoorZeros
namespace Go.Proofs.YtonhoahklmafgaaDoor
open Go.RowKit

theorem join_odd (m q x : Nat) (h : q % 2 = 1) : stps (m * q) x = stps ((m + m) * (q / 2)) (stps m x) := by
  rw [← stps_add]
  congr 1
  have e : q = 1 + 2 * (q / 2) := by omega
  conv => lhs; rw [e]
  rw [Nat.mul_add, Nat.mul_one, ← Nat.mul_assoc]
  congr 2
  omega

theorem join_even (m q x : Nat) (h : q % 2 = 0) : stps (m * q) x = stps ((m + m) * (q / 2)) x := by
  congr 1
  have e : q = 2 * (q / 2) := by omega
  conv => lhs; rw [e]
  rw [← Nat.mul_assoc]
  congr 1
  omega

theorem a64_1 (q : Nat) (h : q ≤ 9223372036854775807) : bits .and .i64 (q : Int) 1 = ((q % 2 : Nat) : Int) := by
  have e : (BitVec.ofInt 64 (q : Int)).toNat = q := by
    rw [BitVec.ofInt_natCast, BitVec.toNat_ofNat]; exact Nat.mod_eq_of_lt (by omega)
  show IntKind.i64.wrap ((BitVec.ofInt 64 (q : Int) &&& BitVec.ofInt 64 (1 : Int)).toNat : Int) = _
  rw [BitVec.toNat_and, e, show (BitVec.ofInt 64 (1 : Int)).toNat = 1 by decide, nat_mask1, IntKind.wrap_i64]
  omega

set_option maxHeartbeats 1000000 in
theorem join_any (a b : Nat) (n : Int) (ha : a ≤ 4294967295) (hb : b ≤ 4294967295) (hn : n ≤ 9223372036854775807) (w : World) :
    Calls Tryd.prog 15 #[.int .u32 a, .int .u32 b, .int .i64 n] w fun e w' => e = .returned (.int .u32 (stps (8 * n.toNat) a ^^^ b : Nat)) ∧ Below w.heap.size w w' := by
  by_cases hpos : 0 < n
  · obtain ⟨N, rfl⟩ := Int.eq_ofNat_of_zero_le (show 0 ≤ n by omega)
    rw [Int.toNat_natCast]
    go_enter Tryd.func15, Tryd.ntmps15
    go_wp2_with fail
    refine (zeroByte_any _).mono ?_
    rintro e w1 ⟨rfl, hb1⟩
    go_wp2_with (((with_reducible refine wpList_store_row rfl _ _ _ rfl w1.heap.size (zarr 8) rfl rfl 48 _ (heap_alloc_last w1 _) (zarr_info 8) ?_ (zarr_one 8) ?_); rotate_left))
    rotate_left
    · rw [zarr_size]; rfl
    rw [World.setRow_alloc_new]
    simp only [Act.put]
    have h1 : w.heap.size ≤ w1.heap.size := hb1.size
    have K1 := hb1.alloc hb1.size (.cells (zarr 8) 48)
    go_loopw [0, 2] (fun x i wr => ∃ (m q y : Nat), i = .int .i64 q ∧ x = .int .u32 y ∧ y ≤ 4294967295 ∧ q ≤ 9223372036854775807 ∧ stps (8 * N) a = stps (m * q) y ∧ wr.heap[w1.heap.size]? = some (.cells (zarr m) 48 (0, 0)) ∧ Below w.heap.size w wr) (fun _ i _ => (intOf i).toNat)
    case atStart => exact ⟨8, N, a, rfl, rfl, ha, by omega, rfl, heap_alloc_last _ _, K1⟩
    case round =>
      clear K1 hb1
      obtain ⟨m, q, y, rfl, rfl, hy, hq, heq, hZ, K⟩ := hrel
      have HEQ := Lib.hid heq
      clear heq
      by_cases hq0 : 0 < q
      · have e1 := a64_1 q hq
        have hbk := (Array.getElem?_eq_some_iff.1 hZ).1
        have HT := twice_any m
        rcases Nat.mod_two_eq_zero_or_one q with h | h
        · rw [h] at e1
          have e2 : bits .and .i64 (q : Int) 1 = 0 := e1
          have HX := Lib.hid (join_even m q y h)
          have HZ := Lib.hid hZ
          clear h e1 hZ
          go_wp2_with (first
            | (with_reducible refine wpList_load_row rfl _ _ rfl w1.heap.size rfl 48 (zarr m) (0, 0) _ HZ.out Tryd.underlying48 rfl (zarr_info _) ?_)
            | (go_at_call 30; refine (HT _).mono ?_; rintro e w2 ⟨rfl, hb2⟩)
            | (with_reducible refine wpList_store_row rfl _ _ _ rfl w1.heap.size (zarr (m + m)) rfl rfl 48 (zarr m) ((hb2.block _ hbk).trans HZ.out) (zarr_info _) (by rw [zarr_size, zarr_size]) (zarr_one _) ?_))
          refine ⟨⟨m + m, q / 2, y, by simp, rfl, hy, by omega, HEQ.out.trans HX.out, ?_, below_setRow (Below.then' K hb2 K.size) _ _ h1⟩, by simp [intOf]; omega⟩
          exact setRow_heap _ _ _ _ _ _ ((hb2.block _ hbk).trans HZ.out)
        · rw [h] at e1
          have e2 : bits .and .i64 (q : Int) 1 = 1 := e1
          have HX := Lib.hid (join_odd m q y h)
          have HZ := Lib.hid hZ
          have HA := after_any m y hy
          have hbk3 : w1.heap.size < (wr.alloc (.cells (zarr m) 48)).heap.size := by
            show w1.heap.size < (wr.heap.push _).size
            simp; omega
          have HZ3 := Lib.hid ((Below.heap_alloc wr (.cells (zarr m) 48) _ hbk).trans hZ)
          clear h e1 hZ
          go_wp2_with (first
            | (with_reducible refine wpList_load_row (o := ⟨some 16, _, _, _, _, _⟩) rfl _ _ rfl w1.heap.size rfl 48 (zarr m) (0, 0) _ HZ.out Tryd.underlying48 rfl (zarr_info _) ?_)
            | (go_at_call 29; refine (HA _).mono ?_; rintro e w3 ⟨rfl, rfl⟩)
            | (with_reducible refine wpList_load_row (o := ⟨some 19, _, _, _, _, _⟩) rfl _ _ rfl w1.heap.size rfl 48 (zarr m) (0, 0) _ HZ3.out Tryd.underlying48 rfl (zarr_info _) ?_)
            | (go_at_call 30; refine (HT _).mono ?_; rintro e w2 ⟨rfl, hb2⟩)
            | (with_reducible refine wpList_store_row rfl _ _ _ rfl w1.heap.size (zarr (m + m)) rfl rfl 48 (zarr m) ((hb2.block _ hbk3).trans HZ3.out) (zarr_info _) (by rw [zarr_size, zarr_size]) (zarr_one _) ?_))
          refine ⟨⟨m + m, q / 2, stps m y, by simp, rfl, stps_le m hy, by omega, HEQ.out.trans HX.out, ?_, below_setRow (Below.then' (K.alloc K.size _) hb2 (K.alloc K.size _).size) _ _ h1⟩, by simp [intOf]; omega⟩
          exact setRow_heap _ _ _ _ _ _ ((hb2.block _ hbk3).trans HZ3.out)
      · obtain rfl : q = 0 := by omega
        have e1 := x32 hy hb
        have HX := HEQ.out
        rw [Nat.mul_zero] at HX
        have HY : Hid (stps (8 * N) a = y) := HX
        clear HX
        go_wp2
        go_ret
        exact ⟨by rw [HY.out]; rfl, K⟩
  · have hn0 : n.toNat = 0 := by omega
    have e1 := x32 ha hb
    rw [hn0]
    clear hn0
    go_enter Tryd.func15, Tryd.ntmps15
    go_wp2_with fail
    refine (zeroByte_any _).mono ?_
    rintro e w1 ⟨rfl, hb1⟩
    go_wp2_with (((with_reducible refine wpList_store_row rfl _ _ _ rfl w1.heap.size (zarr 8) rfl rfl 48 _ (heap_alloc_last w1 _) (zarr_info 8) ?_ (zarr_one 8) ?_); rotate_left))
    rotate_left
    · rw [zarr_size]; rfl
    rw [World.setRow_alloc_new]
    simp only [Act.put]
    have K1 := hb1.alloc hb1.size (.cells (zarr 8) 48)
    refine wp_loop_once ?_
    go_wp2
    go_ret
    exact ⟨rfl, K1⟩

end Go.Proofs.YtonhoahklmafgaaDoor
