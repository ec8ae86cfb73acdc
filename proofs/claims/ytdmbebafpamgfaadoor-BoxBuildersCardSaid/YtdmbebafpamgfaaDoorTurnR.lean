/- The walk of the document's Turn. -/
import Derived.Test.YtdmbebafpamgfaaDoorTextR
namespace Go.Proofs.YtdmbebafpamgfaaDoor
open Go.RowKit

/-- A text with some of its bits turned. -/
def turnL (s : ByteArray) (a : Int) (b : Nat) : List UInt8 := unbits s.size (flips (bitsB s.data.toList) a b 32)

theorem turnL_bits (s : ByteArray) (a : Int) (b : Nat) : bitsB (turnL s a b) = flips (bitsB s.data.toList) a b 32 := by
  unfold turnL
  exact bits_unbits _ _ (by rw [flips_len, bits_len, data_len])

theorem turnL_len (s : ByteArray) (a : Int) (b : Nat) : (turnL s a b).length = s.size := unbits_len _ _

theorem testBit_even (y b k : Nat) (hy : y = b / 2 ^ k) : b.testBit k = (y % 2 == 1) := by rw [testBit_mod, hy]

set_option maxHeartbeats 1000000 in
theorem rturn_any (s : ByteArray) (hs : s.size ≤ 100000) (a : Int) (ha : -9223372036854775808 ≤ a ∧ a ≤ 9223372036854775807) (b : Nat) (hb : b ≤ 4294967295) (w : World) :
    Calls Tryd.prog 31 #[.string s, .int .i64 a, .int .u32 b] w fun e w' => e = .returned (.string (str (turnL s a b))) ∧ Below w.heap.size w w' := by
  have BA := bits_any s (by omega)
  have hz := data_len s
  have hbl := bits_len s.data.toList
  rw [hz] at hbl
  have TX := fun g cap w hg => text_any (turnL s a b) (by rw [turnL_len]; exact hs) g cap w hg
  rw [turnL_bits, turnL_len] at TX
  obtain ⟨R, hR⟩ : ∃ R, R = str (turnL s a b) := ⟨_, rfl⟩
  rw [← hR] at TX ⊢
  obtain ⟨L, hL⟩ : ∃ L : List Bool, L = bitsB s.data.toList := ⟨_, rfl⟩
  rw [← hL] at BA hbl TX
  obtain ⟨ha1, ha2⟩ := ha
  have HBL := Lib.hid hbl
  have HTX := Lib.hid TX
  clear hz hbl hL hR TX
  go_enter Tryd.func31, Tryd.ntmps31
  go_wp2_with (go_at_call 53; refine (BA _).mono ?_; rintro e w' ⟨rfl, rfl⟩)
  go_loopw [2, 8] (fun y x wr => ∃ (k q : Nat) (F : List Bool), k ≤ 32 ∧ x = .int .i64 k ∧ y = .int .u32 q ∧ q = b / 2 ^ k ∧ F = flips L a b k ∧ wr = w.alloc (.cells (boolA F) 4)) (fun _ x _ => 32 - (intOf x).toNat)
  case atStart => exact ⟨0, b, L, Nat.zero_le _, rfl, rfl, by simp, (flips_zero _ _ _).symm, rfl⟩
  case round =>
    obtain ⟨k, q, F, hk, rfl, rfl, hq, hF, rfl⟩ := hrel
    have hql : q ≤ 4294967295 := by rw [hq]; exact Nat.le_trans (Nat.div_le_self _ _) hb
    have HQ := Lib.hid hq
    have HF := Lib.hid hF
    have hFl : F.length = 8 * s.size := by rw [hF, flips_len, HBL.out]
    have HFl := Lib.hid hFl
    have hbit := testBit_even q b k hq
    have HBIT := Lib.hid hbit
    clear hq hF hFl hbit
    by_cases hlt : k < 32
    · have hq2 : q / 2 = b / 2 ^ (k + 1) := by rw [HQ.out, Nat.div_div_eq_div_mul, Nat.pow_succ]
      have HQ2 := Lib.hid hq2
      have b32 : decide ((k : Int) < 32) = true := by simp; omega
      clear hq2
      rcases Nat.mod_two_eq_zero_or_one q with h | h
      · have b1 : ((q : Int) % 2 == 1) = false := by rw [int_odd, h]; rfl
        have hoff : flips L a b (k + 1) = F := by rw [flips_succ_off _ _ _ _ (by rw [HBIT.out, h]; rfl)]; exact HF.out.symm
        have HOFF := Lib.hid hoff
        clear h hoff
        go_wp2
        go_roundw
        case rel => exact ⟨k + 1, q / 2, F, by omega, by go_num, rfl, HQ2.out, HOFF.out.symm, rfl⟩
        case measure => simp [intOf]; omega
      · have b1 : ((q : Int) % 2 == 1) = true := by rw [int_odd, h]; rfl
        by_cases hin : 0 ≤ a + k ∧ a + k < 8 * s.size
        · obtain ⟨j, hj⟩ := Int.eq_ofNat_of_zero_le hin.1
          have i1 : a < 8 * (s.size : Int) - k := by omega
          have i2 : -(k : Int) ≤ a := by omega
          have d1 : decide (a < 8 * (s.size : Int) - k) = true := by simpa using i1
          have d2 : decide (-(k : Int) ≤ a) = true := by simpa using i2
          have hjl : j < F.length := by rw [HFl.out]; omega
          have i3 : (j : Int) < 8 * s.size := by omega
          have hc := boolA_get F j hjl
          have hon : flips L a b (k + 1) = F.set j (!F[j]) := by
            rw [flips_succ_in L a b k j hj (by rw [HBL.out]; omega), HBIT.out, h]
            simp only [← HF.out]
            congr 1
            simp
          have HON := Lib.hid hon
          have hset := boolA_set F j (!F[j])
          obtain ⟨x, hx⟩ : ∃ x, x = F[j] := ⟨_, rfl⟩
          rw [← hx] at hc hset
          have HSET := Lib.hid hset
          have HX := Lib.hid hx
          clear h hin hx hon hset
          go_wp2
          go_roundw
          case rel => exact ⟨k + 1, q / 2, F.set j (!x), by omega, by go_num, rfl, HQ2.out, by rw [HON.out, HX.out], by rw [HSET.out]⟩
          case measure => simp [intOf]; omega
        · have hoff : flips L a b (k + 1) = F := by rw [flips_succ_out _ _ _ _ (by rw [HBL.out]; omega)]; exact HF.out.symm
          have HOFF := Lib.hid hoff
          clear h hoff
          by_cases hlo : a < 8 * (s.size : Int) - k
          · have d1 : decide (a < 8 * (s.size : Int) - k) = true := by simpa using hlo
            have hhi : ¬ (-(k : Int) ≤ a) := by omega
            have d2 : decide (-(k : Int) ≤ a) = false := by simpa using hhi
            clear hin
            go_wp2
            go_roundw
            case rel => exact ⟨k + 1, q / 2, F, by omega, by go_num, rfl, HQ2.out, HOFF.out.symm, rfl⟩
            case measure => simp [intOf]; omega
          · have d1 : decide (a < 8 * (s.size : Int) - k) = false := by simpa using hlo
            clear hin
            go_wp2
            go_roundw
            case rel => exact ⟨k + 1, q / 2, F, by omega, by go_num, rfl, HQ2.out, HOFF.out.symm, rfl⟩
            case measure => simp [intOf]; omega
    · obtain rfl : k = 32 := by omega
      have hF' := HF.out
      subst hF'
      have CT := HTX.out w.heap.size (8 * s.size) (w.alloc (.cells (boolA (flips L a b 32)) 4)) (heap_alloc_last w _)
      go_wp2_with (go_at_call 54; refine CT.mono ?_; rintro e w1 ⟨rfl, hb1⟩)
      go_ret
      exact ⟨rfl, Below.then' ((Below.refl _ _).alloc (Nat.le_refl _) _) hb1 (by simp)⟩

end Go.Proofs.YtdmbebafpamgfaaDoor
