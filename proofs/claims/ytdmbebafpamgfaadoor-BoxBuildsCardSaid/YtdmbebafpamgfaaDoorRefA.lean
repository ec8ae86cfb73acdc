/- The walks of the document's sums: Bits, Step, More, Join. -/
import Derived.Test.YtdmbebafpamgfaaDoorBits
import Derived.Test.YtdmbebafpamgfaaDoorMore
namespace Go.Proofs.YtdmbebafpamgfaaDoor
open Go.RowKit

theorem info4 : (Tryd.prog.info? 4).map (fun i => (i.zero, i.size, i.bytes)) = some (some (.bool false), 1, 1) := by kernel_rfl

theorem int_odd (y : Nat) : ((y : Int) % 2 == 1) = (y % 2 == 1) := by
  rcases Nat.mod_two_eq_zero_or_one y with h | h
  · have : (y : Int) % 2 = 0 := by omega
    rw [this, h]; rfl
  · have : (y : Int) % 2 = 1 := by omega
    rw [this, h]; rfl

set_option maxHeartbeats 800000 in
theorem bits_any (s : ByteArray) (hs : s.size ≤ 1000000) (w : World) :
    Calls Tryd.prog 53 #[.string s] w fun e w' => e = .returned (.slice (some ⟨w.heap.size, 0, none⟩) (8 * s.size) (8 * s.size)) ∧ w' = w.alloc (.cells (boolA (bitsB s.data.toList)) 4) := by
  have hmk := fun w' => run_make_row' (P := Tryd.prog) 94 4 (.bool false) 1 Tryd.underlying94 info4 rfl .i64 .i64 (8 * s.size) (by omega) (by omega) w'
  have e8 : ((8 * s.size : Nat) : Int) = 8 * (s.size : Int) := by omega
  simp only [e8] at hmk
  clear e8
  have hz := data_len s
  have HZ := Lib.hid hz
  have hbl := bits_len s.data.toList
  rw [hz] at hbl
  have HB := Lib.hid hbl
  clear hz hbl
  go_enter Tryd.func53, Tryd.ntmps53
  go_wp2
  go_loopw [4] (fun x wr => ∃ (i : Nat) (C : Array Value), i ≤ s.size ∧ x = .int .i64 i ∧ C.size = 8 * s.size ∧ (∀ j (h : j < 8 * i), C[j]? = some (.bool ((bitsB s.data.toList).getD j false))) ∧ wr = w.alloc (.cells C 4)) (fun x _ => s.size - (intOf x).toNat)
  case atStart => exact ⟨0, _, Nat.zero_le _, rfl, size_madeCells _ _, fun j h => by omega, rfl⟩
  case round =>
    obtain ⟨i, C, hi, rfl, hC, hcs, rfl⟩ := hrel
    by_cases hlt : i < s.size
    · have HC := Lib.hid hcs
      have hzz := HZ.out
      obtain ⟨c, hc⟩ : ∃ c : Nat, c = s[i].toNat := ⟨_, rfl⟩
      have hcl : c < 256 := by rw [hc]; exact s[i].toNat_lt
      have hat : ∀ k, k < 8 → (bitsB s.data.toList).getD (8 * i + k) false = c.testBit k := fun k hk => by
        rw [bits_at s.data.toList i k (by omega) hk, hc]; rfl
      have HAT := Lib.hid hat
      have b1 : decide ((i : Int) < s.size) = true := by simp; omega
      have hcc : s[i].toNat = c := hc.symm
      clear hcs hat hzz hc
      go_wp2
      go_loopw [5, 6] (fun b k wr => ∃ (m y : Nat) (D : Array Value), m ≤ 8 ∧ k = .int .i64 m ∧ b = .int .u8 y ∧ y = c / 2 ^ m ∧ D.size = 8 * s.size ∧ (∀ j (h : j < 8 * i + m), D[j]? = some (.bool ((bitsB s.data.toList).getD j false))) ∧ wr = w.alloc (.cells D 4)) (fun _ x _ => 8 - (intOf x).toNat)
      case atStart => exact ⟨0, c, _, Nat.zero_le _, rfl, rfl, by simp, hC, fun j h => HC.out j (by omega), rfl⟩
      case round =>
        obtain ⟨m, y, D, hm, rfl, rfl, hy, hD, hds, rfl⟩ := hrel
        have HY := Lib.hid hy
        have HD := Lib.hid hds
        have hyl : y < 256 := by rw [hy]; exact Nat.lt_of_le_of_lt (Nat.div_le_self _ _) hcl
        by_cases hlm : m < 8
        · have e5 : ((8 : Int) * i + m).toNat = 8 * i + m := by omega
          have hb := HAT.out m hlm
          have HBB := Lib.hid hb
          obtain ⟨v, hv⟩ : ∃ v, D[8 * i + m]? = some v := ⟨_, Array.getElem?_eq_getElem (by omega)⟩
          clear hb hy hds
          go_wp2
          go_roundw
          case rel =>
            refine ⟨m + 1, y / 2, _, by omega, by go_num, rfl, ?_, by simpa using hD, ?_, rfl⟩
            · rw [HY.out, Nat.div_div_eq_div_mul, Nat.pow_succ]
            · intro j hj
              rw [Array.getElem?_setIfInBounds]
              by_cases e : 8 * i + m = j
              · subst e
                rw [if_pos rfl, if_pos (by omega), HBB.out, testBit_mod, ← HY.out, int_odd]
              · rw [if_neg e]; exact HD.out j (by omega)
          case measure => simp [intOf]; omega
        · obtain rfl : m = 8 := by omega
          clear hy hds
          go_wp2
          go_roundw
          case rel => exact ⟨i + 1, D, by omega, by go_num, hD, fun j hj => HD.out j (by omega), rfl⟩
          case measure => simp [intOf]; omega
    · obtain rfl : i = s.size := by omega
      have hb := boolA_of (bitsB s.data.toList) C (by rw [HB.out]; exact hC) (fun j hj => hcs j (by rw [← HB.out]; exact hj))
      subst hb
      clear hcs hC
      go_wp2
      go_ret
      exact ⟨rfl, rfl⟩

end Go.Proofs.YtdmbebafpamgfaaDoor
