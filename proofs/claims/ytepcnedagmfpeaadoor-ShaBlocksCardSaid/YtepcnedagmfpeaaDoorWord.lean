/- The walks of the words' functions: rotated, lower0 .., turned. -/
import Derived.Test.YtepcnedagmfpeaaDoorRows
import Derived.Test.YtepcnedagmfpeaaDoorSha
import Derived.WalkKit
import Derived.WalkSpells
import Derived.WalkLawsBesides
import Derived.Deep.OwnRows
import Derived.Lib.Hide
import Derived.Outline
namespace Go.Proofs.YtepcnedagmfpeaaDoor
open Go.RowKit

theorem x32 {a b : Nat} (ha : a ≤ 4294967295) (hb : b ≤ 4294967295) : bits .xor .u32 (a : Int) (b : Int) = ((a ^^^ b : Nat) : Int) := u32_xor_nat a b (by omega) (by omega)
theorem a32 {a b : Nat} (ha : a ≤ 4294967295) (hb : b ≤ 4294967295) : bits .and .u32 (a : Int) (b : Int) = ((a &&& b : Nat) : Int) := u32_and_nat a b (by omega) (by omega)
theorem o32 {a b : Nat} (ha : a ≤ 4294967295) (hb : b ≤ 4294967295) : bits .or .u32 (a : Int) (b : Int) = ((a ||| b : Nat) : Int) := u32_or_nat a b (by omega) (by omega)

theorem pow_cast (n : Nat) : (2 : Int) ^ n = ((2 ^ n : Nat) : Int) := by simp

/-- Both ways of turning a word, as the walk writes them. -/
theorem rot_spell (x n : Nat) (hx : x ≤ 4294967295) :
    bits .or .u32 ((x : Int) * 2 ^ (32 - n) % 4294967296) ((x : Int) / 2 ^ n) = ((rotr n x : Nat) : Int) := by
  have h1 : ((x : Int) * 2 ^ (32 - n) % 4294967296) = ((x * 2 ^ (32 - n) % 4294967296 : Nat) : Int) := by rw [pow_cast]; omega
  have h2 : ((x : Int) / 2 ^ n) = ((x / 2 ^ n : Nat) : Int) := by simp
  have h3 : x / 2 ^ n ≤ 4294967295 := Nat.le_trans (Nat.div_le_self _ _) hx
  rw [h1, h2, o32 (by omega) h3, Nat.or_comm]
  rfl
theorem rot_spell' (x n : Nat) (hx : x ≤ 4294967295) :
    bits .or .u32 ((x : Int) / 2 ^ n) ((x : Int) * 2 ^ (32 - n) % 4294967296) = ((rotr n x : Nat) : Int) := by
  have h1 : ((x : Int) * 2 ^ (32 - n) % 4294967296) = ((x * 2 ^ (32 - n) % 4294967296 : Nat) : Int) := by rw [pow_cast]; omega
  have h2 : ((x : Int) / 2 ^ n) = ((x / 2 ^ n : Nat) : Int) := by simp
  have h3 : x / 2 ^ n ≤ 4294967295 := Nat.le_trans (Nat.div_le_self _ _) hx
  rw [h1, h2, o32 h3 (by omega)]
  rfl

def RotOk (n : Nat) : Prop := n ≤ 31 ∧ bits .and .u64 (IntKind.u64.wrap (-(n : Int))) 31 = ((32 - n : Nat) : Int)

theorem rl_any (n x : Nat) (hn : RotOk n) (hx : x ≤ 4294967295) (w : World) :
    Calls Tryd.prog 47 #[.int .u32 x, .int .i64 (-(n : Int))] w fun e w' => e = .returned (.int .u32 (rotr n x)) ∧ w = w' := by
  obtain ⟨hn1, hk⟩ := hn
  have e := rot_spell x n hx
  have hnn : 32 - (32 - n) = n := by omega
  obtain ⟨k, hk'⟩ : ∃ k : Int, k = -(n : Int) := ⟨_, rfl⟩
  rw [← hk'] at hk ⊢
  clear hk'
  go_enter Tryd.func47, Tryd.ntmps47
  go_wp2
  go_ret
  exact ⟨rfl, rfl⟩

theorem rotated_any (n x : Nat) (hn : RotOk n) (hx : x ≤ 4294967295) (w : World) :
    Calls Tryd.prog 40 #[.int .u32 x, .int .i64 n] w fun e w' => e = .returned (.int .u32 (rotr n x)) ∧ w = w' := by
  have C := rl_any n x hn hx
  have hn1 := hn.1
  clear hn
  go_enter Tryd.func40, Tryd.ntmps40
  go_wp2_with ((with_reducible refine (C _).mono ?_); rintro e w' ⟨rfl, rfl⟩)
  go_ret
  exact ⟨rfl, rfl⟩

theorem rotated_at (n : Nat) (k : Int) (x : Nat) (hk : k = n) (hn : RotOk n) (hx : x ≤ 4294967295) (w : World) :
    Calls Tryd.prog 40 #[.int .u32 x, .int .i64 k] w fun e w' => e = .returned (.int .u32 (rotr n x)) ∧ w = w' := by
  subst hk
  exact rotated_any n x hn hx w

theorem turned_any (n x : Nat) (h1 : n ≤ 31) (hx : x ≤ 4294967295) (w : World) :
    Calls Tryd.prog 29 #[.int .u32 x, .int .i64 n] w fun e w' => e = .returned (.int .u32 (rotr n x)) ∧ w = w' := by
  have e := rot_spell' x n hx
  have e1 : ((32 : Int) - n).toNat = 32 - n := by omega
  go_enter Tryd.func29, Tryd.ntmps29
  go_wp2
  go_ret
  exact ⟨rfl, rfl⟩

theorem turned_at (n : Nat) (k : Int) (x : Nat) (hk : k = n) (h1 : n ≤ 31) (hx : x ≤ 4294967295) (w : World) :
    Calls Tryd.prog 29 #[.int .u32 x, .int .i64 k] w fun e w' => e = .returned (.int .u32 (rotr n x)) ∧ w = w' := by
  subst hk
  exact turned_any n x h1 hx w

theorem low0_any (x : Nat) (hx : x ≤ 4294967295) (w : World) :
    Calls Tryd.prog 39 #[.int .u32 x] w fun e w' => e = .returned (.int .u32 (low0 x)) ∧ w = w' := by
  have C1 := fun w => rotated_at 7 7 x rfl (by unfold RotOk; decide) hx w
  have C2 := fun w => rotated_at 18 18 x rfl (by unfold RotOk; decide) hx w
  have e1 := x32 (rotr_lo 7 hx) (rotr_lo 18 hx)
  have e2 : bits .xor .u32 ((rotr 7 x ^^^ rotr 18 x : Nat) : Int) ((x : Int) / 8) = ((low0 x : Nat) : Int) := x32 (b := x / 8) (xor_lo (rotr_lo 7 hx) (rotr_lo 18 hx)) (by omega)
  go_enter Tryd.func39, Tryd.ntmps39
  go_wp2_with (first
    | ((with_reducible refine (C1 _).mono ?_); rintro e w' ⟨rfl, rfl⟩)
    | ((with_reducible refine (C2 _).mono ?_); rintro e w' ⟨rfl, rfl⟩))
  go_ret
  exact ⟨rfl, rfl⟩

theorem low1_any (x : Nat) (hx : x ≤ 4294967295) (w : World) :
    Calls Tryd.prog 38 #[.int .u32 x] w fun e w' => e = .returned (.int .u32 (low1 x)) ∧ w = w' := by
  have C1 := fun w => rotated_at 17 17 x rfl (by unfold RotOk; decide) hx w
  have C2 := fun w => rotated_at 19 19 x rfl (by unfold RotOk; decide) hx w
  have e1 := x32 (rotr_lo 17 hx) (rotr_lo 19 hx)
  have e2 : bits .xor .u32 ((rotr 17 x ^^^ rotr 19 x : Nat) : Int) ((x : Int) / 1024) = ((low1 x : Nat) : Int) := x32 (b := x / 1024) (xor_lo (rotr_lo 17 hx) (rotr_lo 19 hx)) (by omega)
  go_enter Tryd.func38, Tryd.ntmps38
  go_wp2_with (first
    | ((with_reducible refine (C1 _).mono ?_); rintro e w' ⟨rfl, rfl⟩)
    | ((with_reducible refine (C2 _).mono ?_); rintro e w' ⟨rfl, rfl⟩))
  go_ret
  exact ⟨rfl, rfl⟩

theorem upp0_any (x : Nat) (hx : x ≤ 4294967295) (w : World) :
    Calls Tryd.prog 35 #[.int .u32 x] w fun e w' => e = .returned (.int .u32 (upp0 x)) ∧ w = w' := by
  have C1 := fun w => rotated_at 2 2 x rfl (by unfold RotOk; decide) hx w
  have C2 := fun w => rotated_at 13 13 x rfl (by unfold RotOk; decide) hx w
  have C3 := fun w => rotated_at 22 22 x rfl (by unfold RotOk; decide) hx w
  have e1 := x32 (rotr_lo 2 hx) (rotr_lo 13 hx)
  have e2 : bits .xor .u32 ((rotr 2 x ^^^ rotr 13 x : Nat) : Int) ((rotr 22 x : Nat) : Int) = ((upp0 x : Nat) : Int) := x32 (xor_lo (rotr_lo 2 hx) (rotr_lo 13 hx)) (rotr_lo 22 hx)
  go_enter Tryd.func35, Tryd.ntmps35
  go_wp2_with (first
    | ((with_reducible refine (C1 _).mono ?_); rintro e w' ⟨rfl, rfl⟩)
    | ((with_reducible refine (C2 _).mono ?_); rintro e w' ⟨rfl, rfl⟩)
    | ((with_reducible refine (C3 _).mono ?_); rintro e w' ⟨rfl, rfl⟩))
  go_ret
  exact ⟨rfl, rfl⟩

theorem upp1_any (x : Nat) (hx : x ≤ 4294967295) (w : World) :
    Calls Tryd.prog 34 #[.int .u32 x] w fun e w' => e = .returned (.int .u32 (upp1 x)) ∧ w = w' := by
  have C1 := fun w => rotated_at 6 6 x rfl (by unfold RotOk; decide) hx w
  have C2 := fun w => rotated_at 11 11 x rfl (by unfold RotOk; decide) hx w
  have C3 := fun w => rotated_at 25 25 x rfl (by unfold RotOk; decide) hx w
  have e1 := x32 (rotr_lo 6 hx) (rotr_lo 11 hx)
  have e2 : bits .xor .u32 ((rotr 6 x ^^^ rotr 11 x : Nat) : Int) ((rotr 25 x : Nat) : Int) = ((upp1 x : Nat) : Int) := x32 (xor_lo (rotr_lo 6 hx) (rotr_lo 11 hx)) (rotr_lo 25 hx)
  go_enter Tryd.func34, Tryd.ntmps34
  go_wp2_with (first
    | ((with_reducible refine (C1 _).mono ?_); rintro e w' ⟨rfl, rfl⟩)
    | ((with_reducible refine (C2 _).mono ?_); rintro e w' ⟨rfl, rfl⟩)
    | ((with_reducible refine (C3 _).mono ?_); rintro e w' ⟨rfl, rfl⟩))
  go_ret
  exact ⟨rfl, rfl⟩

end Go.Proofs.YtepcnedagmfpeaaDoor
