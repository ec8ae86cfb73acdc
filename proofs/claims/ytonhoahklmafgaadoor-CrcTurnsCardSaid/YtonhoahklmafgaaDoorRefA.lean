/- The walks of the document's sums: Bits, Step, More, Join. -/
import Derived.Test.YtonhoahklmafgaaDoorBits
import Derived.Test.YtonhoahklmafgaaDoorMore
namespace Go.Proofs.YtonhoahklmafgaaDoor
open Go.RowKit

theorem rstep_any (x : Nat) (hx : x ≤ 4294967295) (w : World) :
    Calls Tryd.prog 27 #[.int .u32 x] w fun e w' => e = .returned (.int .u32 (stp x)) ∧ w = w' := by
  rcases Nat.mod_two_eq_zero_or_one x with h | h
  · have hs := stp_even h
    have b1 : ((x : Int) % 2 == 1) = false := by
      have : (x : Int) % 2 = 0 := by omega
      rw [this]; rfl
    have HS := Lib.hid hs
    clear hs h
    go_enter Tryd.func27, Tryd.ntmps27
    go_wp2
    go_ret
    exact ⟨by rw [HS.out]; rfl, rfl⟩
  · have hs := stp_odd h
    have b1 : ((x : Int) % 2 == 1) = true := by
      have : (x : Int) % 2 = 1 := by omega
      rw [this]; rfl
    have e2 : bits .xor .u32 ((x : Int) / 2) 3988292384 = ((x / 2 ^^^ 3988292384 : Nat) : Int) := x32 (a := x / 2) (b := 3988292384) (by omega) (by omega)
    have HS := Lib.hid hs
    clear hs h
    go_enter Tryd.func27, Tryd.ntmps27
    go_wp2
    go_ret
    exact ⟨by rw [HS.out]; rfl, rfl⟩

theorem info4 : (Tryd.prog.info? 4).map (fun i => (i.zero, i.size, i.bytes)) = some (some (.bool false), 1, 1) := by kernel_rfl

theorem int_odd (y : Nat) : ((y : Int) % 2 == 1) = (y % 2 == 1) := by
  rcases Nat.mod_two_eq_zero_or_one y with h | h
  · have : (y : Int) % 2 = 0 := by omega
    rw [this, h]; rfl
  · have : (y : Int) % 2 = 1 := by omega
    rw [this, h]; rfl

set_option maxHeartbeats 800000 in
theorem bits_any (s : ByteArray) (hs : s.size ≤ 1000000) (w : World) :
    Calls Tryd.prog 25 #[.string s] w fun e w' => e = .returned (.slice (some ⟨w.heap.size, 0, none⟩) (8 * s.size) (8 * s.size)) ∧ w' = w.alloc (.cells (boolA (bitsB s.data.toList)) 4) := by
  have hmk := fun w' => run_make_row' (P := Tryd.prog) 41 4 (.bool false) 1 Tryd.underlying41 info4 rfl .i64 .i64 (8 * s.size) (by omega) (by omega) w'
  have e8 : ((8 * s.size : Nat) : Int) = 8 * (s.size : Int) := by omega
  simp only [e8] at hmk
  clear e8
  have hz := data_len s
  have HZ := Lib.hid hz
  have hbl := bits_len s.data.toList
  rw [hz] at hbl
  have HB := Lib.hid hbl
  clear hz hbl
  go_enter Tryd.func25, Tryd.ntmps25
  go_wp2
  go_loopw [4] (fun x wr => ∃ (i : Nat) (C : Array Value), i ≤ s.size ∧ x = .int .i64 i ∧ C.size = 8 * s.size ∧ (∀ j (h : j < 8 * i), C[j]? = some (.bool ((bitsB s.data.toList).getD j false))) ∧ wr = w.alloc (.cells C 4)) (fun x _ => s.size - (intOf x).toNat)
  case atStart => exact ⟨0, _, Nat.zero_le _, rfl, size_madeCells _ _, fun j h => by omega, rfl⟩
  case round =>
    obtain ⟨i, C, hi, rfl, hC, hcs, rfl⟩ := hrel
    by_cases hlt : i < s.size
    · have HC := Lib.hid hcs
      have hzz := HZ.out
      obtain ⟨c, hc⟩ : ∃ c : Nat, c = s[i].toNat := ⟨_, rfl⟩
      have hcl : c < 256 := by rw [hc]; exact s[i].toNat_lt
      have hat : ∀ k, k < 8 → (bitsB s.data.toList).getD (8 * i + k) false = c.testBit k := fun k hk => by
        rw [bits_at s.data.toList i k (by omega) hk, hc]; rfl
      have HAT := Lib.hid hat
      have b1 : decide ((i : Int) < s.size) = true := by simp; omega
      have hcc : s[i].toNat = c := hc.symm
      clear hcs hat hzz hc
      go_wp2
      go_loopw [5, 6] (fun b k wr => ∃ (m y : Nat) (D : Array Value), m ≤ 8 ∧ k = .int .i64 m ∧ b = .int .u8 y ∧ y = c / 2 ^ m ∧ D.size = 8 * s.size ∧ (∀ j (h : j < 8 * i + m), D[j]? = some (.bool ((bitsB s.data.toList).getD j false))) ∧ wr = w.alloc (.cells D 4)) (fun _ x _ => 8 - (intOf x).toNat)
      case atStart => exact ⟨0, c, _, Nat.zero_le _, rfl, rfl, by simp, hC, fun j h => HC.out j (by omega), rfl⟩
      case round =>
        obtain ⟨m, y, D, hm, rfl, rfl, hy, hD, hds, rfl⟩ := hrel
        have HY := Lib.hid hy
        have HD := Lib.hid hds
        have hyl : y < 256 := by rw [hy]; exact Nat.lt_of_le_of_lt (Nat.div_le_self _ _) hcl
        by_cases hlm : m < 8
        · have e5 : ((8 : Int) * i + m).toNat = 8 * i + m := by omega
          have hb := HAT.out m hlm
          have HBB := Lib.hid hb
          obtain ⟨v, hv⟩ : ∃ v, D[8 * i + m]? = some v := ⟨_, Array.getElem?_eq_getElem (by omega)⟩
          clear hb hy hds
          go_wp2
          go_roundw
          case rel =>
            refine ⟨m + 1, y / 2, _, by omega, by go_num, rfl, ?_, by simpa using hD, ?_, rfl⟩
            · rw [HY.out, Nat.div_div_eq_div_mul, Nat.pow_succ]
            · intro j hj
              rw [Array.getElem?_setIfInBounds]
              by_cases e : 8 * i + m = j
              · subst e
                rw [if_pos rfl, if_pos (by omega), HBB.out, testBit_mod, ← HY.out, int_odd]
              · rw [if_neg e]; exact HD.out j (by omega)
          case measure => simp [intOf]; omega
        · obtain rfl : m = 8 := by omega
          clear hy hds
          go_wp2
          go_roundw
          case rel => exact ⟨i + 1, D, by omega, by go_num, hD, fun j hj => HD.out j (by omega), rfl⟩
          case measure => simp [intOf]; omega
    · obtain rfl : i = s.size := by omega
      have hb := boolA_of (bitsB s.data.toList) C (by rw [HB.out]; exact hC) (fun j hj => hcs j (by rw [← HB.out]; exact hj))
      subst hb
      clear hcs hC
      go_wp2
      go_ret
      exact ⟨rfl, rfl⟩

set_option maxHeartbeats 800000 in
theorem rmore_any (n : Nat) (hn : n ≤ 4294967295) (s : ByteArray) (hs : s.size ≤ 1000000) (w : World) :
    Calls Tryd.prog 13 #[.int .u32 n, .string s] w fun e w' => e = .returned (.int .u32 (moreN n s.data.toList)) ∧ Below w.heap.size w w' := by
  have hz := data_len s
  have hbl := bits_len s.data.toList
  rw [hz] at hbl
  have hbz := boolA_size (bitsB s.data.toList)
  have en : (4294967295 : Int) - n = ((4294967295 - n : Nat) : Int) := by omega
  have hm : moreN n s.data.toList = 4294967295 - reg (4294967295 - n) (bitsB s.data.toList) := rfl
  obtain ⟨L, hL⟩ : ∃ L : List Bool, L = bitsB s.data.toList := ⟨_, rfl⟩
  have BA := bits_any s hs
  rw [← hL] at BA hbl hm
  clear hz hbz
  have HM := Lib.hid hm
  clear hm
  have HB := Lib.hid hbl
  clear hbl hL
  go_enter Tryd.func13, Tryd.ntmps13
  go_wp2_with (go_at_call 25; refine (BA _).mono ?_; rintro e w' ⟨rfl, rfl⟩)
  go_loop [5, 7] (fun x i => ∃ (k : Nat), k ≤ 8 * s.size ∧ i = .int .i64 k ∧ x = .int .u32 (reg (4294967295 - n) (L.take k) : Nat)) (fun _ i => 8 * s.size - (intOf i).toNat)
  case atStart => exact ⟨0, Nat.zero_le _, rfl, by rw [List.take_zero]; rfl⟩
  case round =>
    obtain ⟨k, hk, rfl, rfl⟩ := hrel
    have hr : reg (4294967295 - n) (L.take k) ≤ 4294967295 := reg_le' (by omega)
    by_cases hlt : k < 8 * s.size
    · have hlt' : k < L.length := by rw [HB.out]; exact hlt
      have hnx := reg_take_bit (4294967295 - n) L k hlt'
      have hcell := boolA_get L k hlt'
      obtain ⟨r, hr'⟩ : ∃ r : Nat, r = reg (4294967295 - n) (L.take k) := ⟨_, rfl⟩
      rw [← hr'] at hr hnx ⊢
      obtain ⟨b, hb⟩ : ∃ b : Bool, b = L[k] := ⟨_, rfl⟩
      rw [← hb] at hnx hcell
      clear hb hr'
      cases b with
      | false =>
        have ST := rstep_any r hr
        rw [show r ^^^ false.toNat = r from Nat.xor_zero r] at hnx
        have HN := Lib.hid hnx
        clear hnx hlt'
        go_wp2_with (go_at_call 27; refine (ST _).mono ?_; rintro e w' ⟨rfl, rfl⟩)
        go_round
        case rel => exact ⟨k + 1, by omega, by go_num, by rw [HN.out]⟩
        case measure => simp [intOf]; omega
      | true =>
        have e1 : bits .xor .u32 (r : Int) 1 = ((r ^^^ 1 : Nat) : Int) := x32 (a := r) (b := 1) hr (by omega)
        have ST := rstep_any (r ^^^ 1) (xor_le hr (by omega))
        rw [show r ^^^ true.toNat = r ^^^ 1 from rfl] at hnx
        have HN := Lib.hid hnx
        clear hnx hlt'
        go_wp2_with (go_at_call 27; refine (ST _).mono ?_; rintro e w' ⟨rfl, rfl⟩)
        go_round
        case rel => exact ⟨k + 1, by omega, by go_num, by rw [HN.out]⟩
        case measure => simp [intOf]; omega
    · obtain rfl : k = 8 * s.size := by omega
      have ht : L.take (8 * s.size) = L := List.take_of_length_le (by rw [HB.out]; omega)
      rw [ht] at hr ⊢
      have ef : (4294967295 : Int) - (reg (4294967295 - n) L : Nat) = ((4294967295 - reg (4294967295 - n) L : Nat) : Int) := by omega
      rw [← HM.out] at ef
      clear ht
      go_wp2
      go_ret
      exact ⟨rfl, (Below.refl _ _).alloc (Nat.le_refl _) _⟩

set_option maxHeartbeats 800000 in
theorem rjoin_any (a b : Nat) (n : Int) (ha : a ≤ 4294967295) (hb : b ≤ 4294967295) (hn : n ≤ 1000000) (w : World) :
    Calls Tryd.prog 16 #[.int .u32 a, .int .u32 b, .int .i64 n] w fun e w' => e = .returned (.int .u32 (stps (8 * n.toNat) a ^^^ b : Nat)) ∧ w = w' := by
  go_enter Tryd.func16, Tryd.ntmps16
  go_wp2
  go_loop [0, 7] (fun x i => ∃ (k y : Nat), k ≤ n.toNat ∧ i = .int .i64 k ∧ x = .int .u32 y ∧ y = stps (8 * k) a) (fun _ i => n.toNat - (intOf i).toNat)
  case atStart => exact ⟨0, a, Nat.zero_le _, rfl, rfl, rfl⟩
  case round =>
    obtain ⟨k, y, hk, rfl, rfl, hy⟩ := hrel
    have hyl : y ≤ 4294967295 := by rw [hy]; exact stps_le _ ha
    have HY := Lib.hid hy
    clear hy
    by_cases hlt : (k : Int) < n
    · have b1 : decide ((k : Int) < n) = true := by simp; omega
      go_wp2
      go_loop [0, 8] (fun x i => ∃ (m z : Nat), m ≤ 8 ∧ i = .int .i64 m ∧ x = .int .u32 z ∧ z = stps m y) (fun _ i => 8 - (intOf i).toNat)
      case atStart => exact ⟨0, y, Nat.zero_le _, rfl, rfl, rfl⟩
      case round =>
        obtain ⟨m, z, hm, rfl, rfl, hz⟩ := hrel
        have hzl : z ≤ 4294967295 := by rw [hz]; exact stps_le _ hyl
        have HZ := Lib.hid hz
        clear hz
        by_cases hlm : m < 8
        · have ST := rstep_any z hzl
          go_wp2_with (go_at_call 27; refine (ST _).mono ?_; rintro e w' ⟨rfl, rfl⟩)
          go_round
          case rel => exact ⟨m + 1, stp z, by omega, by go_num, rfl, by rw [stps_succ, ← HZ.out]⟩
          case measure => simp [intOf]; omega
        · obtain rfl : m = 8 := by omega
          go_wp2
          go_round
          case rel => exact ⟨k + 1, z, by omega, by go_num, rfl, by rw [HZ.out, HY.out, ← stps_add]; rfl⟩
          case measure => simp [intOf]; omega
    · obtain rfl : k = n.toNat := by omega
      have e1 := x32 hyl hb
      have hge : decide (((n.toNat : Nat) : Int) < n) = false := by simp; omega
      go_wp2
      all_goals
        go_ret
        exact ⟨by rw [← HY.out]; rfl, rfl⟩

end Go.Proofs.YtonhoahklmafgaaDoor
