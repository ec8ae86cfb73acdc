/- The walk of the page's example. -/
import Derived.Test.YtopdgjfgdodgeaaDoorRollQ
namespace Go.Proofs.YtopdgjfgdodgeaaDoor
open Go.RowKit

theorem tab_lt {w : World} (h : TabAt w) : 0 < w.heap.size := World.block_lt_of_cell? _ _ (h 0 (by decide))

theorem tab_keep {B : Nat} {w w' : World} (h : TabAt w) (hB : 0 < B) (hb : Below B w w') : TabAt w' := fun i hi => (hb.cell hB).trans (h i hi)

theorem r0 : rsum ([] ++ [0]) = 1 := by decide +kernel
theorem r01 : rsum ([0] ++ [1]) = 259 := by decide +kernel
theorem r01' : rsum [0, 1] = 259 := by decide +kernel
theorem s0 : rsum (⟨#[0]⟩ : ByteArray).data.toList = 1 := by decide +kernel
theorem s01 : rsum (⟨#[0, 1]⟩ : ByteArray).data.toList = 259 := by decide +kernel

set_option maxRecDepth 100000 in
set_option maxHeartbeats 4000000 in
theorem awake_any (w : World) (hT : TabAt w) : Calls Tryd.prog 8 #[] w (LawPost w) := by
  have hTB := tab_lt hT
  have S0 := fun w' h => sum_any ⟨#[0]⟩ (by decide) w' h
  have S1 := fun w' h => sum_any ⟨#[0, 1]⟩ (by decide) w' h
  rw [s0] at S0
  rw [s01] at S1
  have AL := fun w' h => all_any ⟨#[97, 98, 99]⟩ (by decide) w' h
  go_enter Tryd.func8, Tryd.ntmps8
  go_wp2_with fail
  refine (new_any _).mono ?_
  rintro e w1 ⟨rfl, hI1, K1⟩
  obtain ⟨B, hB⟩ : ∃ B, B = w.heap.size := ⟨_, rfl⟩
  have HB := Lib.hid hB
  rw [← hB] at hI1 K1 hTB ⊢
  clear hB
  have P9 : Calls Tryd.prog 22 #[.pointer (some ⟨B, 0, none⟩), .int .u8 9] w1 _ := push_any B B (Nat.le_refl _) [] (by decide) 9 w1 (by have := K1.size; have := HB.out; omega) hI1 (tab_keep hT hTB K1) hTB
  go_wp2_with fail
  refine P9.mono ?_
  rintro e w2 ⟨rfl, hI2, hb2⟩
  have K2 := K1.trans hb2
  clear hb2 hI1 K1 P9
  go_wp2_with fail
  refine (reset_any B B (Nat.le_refl _) _ w2 (by have := K2.size; have := HB.out; omega) hI2).mono ?_
  rintro e w3 ⟨rfl, hI3, hb3⟩
  have K3 := K2.trans hb3
  clear hb3 hI2 K2
  have P0 : Calls Tryd.prog 22 #[.pointer (some ⟨B, 0, none⟩), .int .u8 0] w3 _ := push_any B B (Nat.le_refl _) [] (by decide) 0 w3 (by have := K3.size; have := HB.out; omega) hI3 (tab_keep hT hTB K3) hTB
  rw [r0] at P0
  go_wp2_with fail
  refine P0.mono ?_
  rintro e w4 ⟨rfl, hI4, hb4⟩
  have K4 := K3.trans hb4
  clear hb4 hI3 K3 P0
  have P1 : Calls Tryd.prog 22 #[.pointer (some ⟨B, 0, none⟩), .int .u8 1] w4 _ := push_any B B (Nat.le_refl _) [0] (by decide) 1 w4 (by have := K4.size; have := HB.out; omega) hI4 (tab_keep hT hTB K4) hTB
  rw [r01] at P1
  go_wp2_with fail
  refine P1.mono ?_
  rintro e w5 ⟨rfl, hI5, hb5⟩
  have K5 := K4.trans hb5
  have hI5' : IsRoll B [0, 1] w5 := hI5
  clear hb5 hI4 K4 P1 hI5
  go_wp2_with fail
  refine (S0 w5 (tab_keep hT hTB K5)).mono ?_
  rintro e w6 ⟨rfl, hb6⟩
  have hw5 : B ≤ w5.heap.size := by have := K5.size; have := HB.out; omega
  have hI6 := hI5'.later hb6
  have K6 := Below.then' K5 hb6 hw5
  clear hb6 K5 hI5' hw5
  go_wp2_with fail
  refine (S1 w6 (tab_keep hT hTB K6)).mono ?_
  rintro e w7 ⟨rfl, hb7⟩
  have hw6 : B ≤ w6.heap.size := by have := K6.size; have := HB.out; omega
  have hI7 := hI6.later hb7
  have K7 := Below.then' K6 hb7 hw6
  clear hb7 K6 hI6 hw6
  have LN : Calls Tryd.prog 21 #[.pointer (some ⟨B, 0, none⟩)] w7 fun e w' => e = .returned (.int .i64 2) ∧ w7 = w' := len_any B [0, 1] w7 hI7
  go_wp2_with fail
  refine LN.mono ?_
  rintro e w' ⟨rfl, rfl⟩
  have SU := sumr_any B [0, 1] (by decide) w7 hI7 (tab_keep hT hTB K7)
  rw [r01'] at SU
  go_wp2_with fail
  refine SU.mono ?_
  rintro e w8 ⟨rfl, hb8⟩
  have hw7 : B ≤ w7.heap.size := by have := K7.size; have := HB.out; omega
  have K8 := Below.then' K7 hb8 hw7
  clear hb8 K7 hI7 hw7 LN SU
  go_wp2_with fail
  refine (AL w8 (tab_keep hT hTB K8)).mono ?_
  rintro e w9 ⟨v, rfl, ⟨p, c, rfl, _⟩, hb9⟩
  rw [hashes_len]
  have hw8 : B ≤ w8.heap.size := by have := K8.size; have := HB.out; omega
  have K9 := Below.then' K8 hb9 hw8
  have hz : ((⟨#[97, 98, 99]⟩ : ByteArray).size : Int) = 3 := rfl
  go_wp2
  go_ret
  exact ⟨rfl, by rw [← HB.out]; exact K9⟩

end Go.Proofs.YtopdgjfgdodgeaaDoor
