/- The walks of the sum: Sum, More, step. -/
import Derived.Test.YtdmbebafpamgfaaDoorRows
import Derived.Test.YtdmbebafpamgfaaDoorCrc
import Derived.WalkKit
import Derived.WalkSpells
import Derived.WalkLawsBesides
import Derived.Deep.OwnRows
import Derived.Lib.Hide
namespace Go.Proofs.YtdmbebafpamgfaaDoor
open Go.RowKit

/-- The table lies where the program lays it. -/
def TabAt (w : World) : Prop := ∀ i, i < 16 → w.cell? ⟨0, i, none⟩ = some (.int .u32 (T16.getD i 0 : Nat))

theorem TabAt.later {w w' : World} (h : TabAt w) (hb : Below w.heap.size w w') : TabAt w' := fun i hi => (hb.cell (World.block_lt_of_cell? _ _ (h i hi))).trans (h i hi)

set_option maxHeartbeats 400000 in
theorem more_any (n : Nat) (hn : n ≤ 4294967295) (s : ByteArray) (hs : s.size ≤ maxLen) (w : World) (hT : TabAt w) :
    Calls Tryd.prog 73 #[.int .u32 n, .string s] w fun e w' => e = .returned (.int .u32 (moreN n s.data.toList)) ∧ w = w' := by
  unfold maxLen at hs
  have hz := data_len s
  have en := not32 hn
  go_enter Tryd.func73, Tryd.ntmps73
  go_wp2
  go_loop [5, 11] (fun x i => ∃ (k : Nat), k ≤ s.size ∧ i = .int .i64 k ∧ x = .int .u32 (reg (4294967295 - n) (bitsB (s.data.toList.take k)) : Nat)) (fun _ i => s.size - (intOf i).toNat)
  case atStart => exact ⟨0, Nat.zero_le _, rfl, rfl⟩
  case round =>
    obtain ⟨k, hk, rfl, rfl⟩ := hrel
    have hr : reg (4294967295 - n) (bitsB (s.data.toList.take k)) ≤ 4294967295 := reg_le' (by omega)
    by_cases hlt : k < s.size
    · have hnx := reg_take (4294967295 - n) s.data.toList k (by omega)
      obtain ⟨r, hr'⟩ : ∃ r : Nat, r = reg (4294967295 - n) (bitsB (s.data.toList.take k)) := ⟨_, rfl⟩
      rw [← hr'] at hr hnx ⊢
      obtain ⟨c, hc⟩ : ∃ c : Nat, c = s[k].toNat := ⟨_, rfl⟩
      have hcl : c < 256 := by rw [hc]; exact s[k].toNat_lt
      have e0 : (s[k].toNat : Int) % 4294967296 = (c : Int) := by omega
      have hc2 : (s.data.toList[k]'(by omega)).toNat = c := hc.symm
      rw [hc2] at hnx
      have e1 := x32 (a := r) (b := c) hr (by omega)
      have hy := xor_le (a := r) (b := c) hr (by omega)
      have hf := four (r ^^^ c)
      obtain ⟨y, hy'⟩ : ∃ y : Nat, y = r ^^^ c := ⟨_, rfl⟩
      rw [← hy'] at e1 hy hf hnx
      have e2 := a32_15 hy
      have i2 : y % 16 < 16 := by omega
      have c2 := hT (y % 16) i2
      have t2 := T16_le ⟨y % 16, i2⟩
      simp only at t2
      obtain ⟨t, ht⟩ : ∃ t : Nat, t = T16.getD (y % 16) 0 := ⟨_, rfl⟩
      rw [← ht] at c2 hf t2
      have e3 : bits .xor .u32 ((y : Int) / 16) (t : Int) = ((y / 16 ^^^ t : Nat) : Int) := x32 (a := y / 16) (b := t) (by omega) t2
      rw [hf] at e3
      have hz1 := stps_le 4 hy
      have hg := four (stps 4 y)
      obtain ⟨z, hz'⟩ : ∃ z : Nat, z = stps 4 y := ⟨_, rfl⟩
      rw [← hz'] at e3 hz1 hg hnx
      have e4 := a32_15 hz1
      have i4 : z % 16 < 16 := by omega
      have c4 := hT (z % 16) i4
      have t4 := T16_le ⟨z % 16, i4⟩
      simp only at t4
      obtain ⟨u, hu⟩ : ∃ u : Nat, u = T16.getD (z % 16) 0 := ⟨_, rfl⟩
      rw [← hu] at c4 hg t4
      have e5 : bits .xor .u32 ((z : Int) / 16) (u : Int) = ((z / 16 ^^^ u : Nat) : Int) := x32 (a := z / 16) (b := u) (by omega) t4
      rw [hg] at e5
      have HN := Lib.hid hnx
      clear hc hc2 hy' ht hf hz' hg hu hnx hT hr' hz
      go_wp2
      go_round
      case rel => exact ⟨k + 1, by omega, by go_num, by rw [HN.out]⟩
      case measure => simp [intOf]; omega
    · obtain rfl : k = s.size := by omega
      have ef := not32 hr
      have hm : 4294967295 - reg (4294967295 - n) (bitsB (s.data.toList.take s.size)) = moreN n s.data.toList := by
        unfold moreN top32
        rw [List.take_of_length_le (by omega)]
      rw [hm] at ef
      have HM := Lib.hid hm
      clear hm hz
      go_wp2
      go_ret
      exact ⟨rfl, rfl⟩

theorem sum_any (s : ByteArray) (hs : s.size ≤ maxLen) (w : World) (hT : TabAt w) :
    Calls Tryd.prog 55 #[.string s] w fun e w' => e = .returned (.int .u32 (moreN 0 s.data.toList)) ∧ w = w' := by
  have C := more_any 0 (by omega) s hs
  go_enter Tryd.func55, Tryd.ntmps55
  go_wp2_with (go_at_call 73; refine (C _ hT).mono ?_; rintro e w' ⟨rfl, rfl⟩)
  go_ret
  exact ⟨rfl, rfl⟩

end Go.Proofs.YtdmbebafpamgfaaDoor
