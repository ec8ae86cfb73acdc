/- Eight bytes turned round: the mathematics, and the walk of ReverseBytes64. -/
import Derived.Test.YtepcnedagmfpeaaDoorRows
import Derived.Test.YtepcnedagmfpeaaDoorSha
import Derived.WalkKit
import Derived.WalkSpells
import Derived.WalkLawsBesides
import Derived.Deep.OwnRows
import Derived.Lib.Hide
namespace Go.Proofs.YtepcnedagmfpeaaDoor
open Go.RowKit

def rv1 (x : Nat) : Nat := (x / 2 ^ 8 &&& 71777214294589695) ||| ((x &&& 71777214294589695) * 2 ^ 8 % 2 ^ 64)
def rv2 (x : Nat) : Nat := (x / 2 ^ 16 &&& 281470681808895) ||| ((x &&& 281470681808895) * 2 ^ 16 % 2 ^ 64)
def rv3 (x : Nat) : Nat := x / 2 ^ 32 ||| (x * 2 ^ 32 % 2 ^ 64)
def rev64 (x : Nat) : Nat := rv3 (rv2 (rv1 x))

theorem m8_bit : ∀ j : Fin 64, (71777214294589695 : Nat).testBit j.1 = decide (j.1 / 8 % 2 = 0) := by decide +kernel
theorem m16_bit : ∀ j : Fin 64, (281470681808895 : Nat).testBit j.1 = decide (j.1 / 16 % 2 = 0) := by decide +kernel
theorem m8_lt : (71777214294589695 : Nat) < 2 ^ 64 := by decide
theorem m16_lt : (281470681808895 : Nat) < 2 ^ 64 := by decide

def ix1 (j : Nat) : Nat := if j / 8 % 2 = 0 then j + 8 else j - 8
def ix2 (j : Nat) : Nat := if j / 16 % 2 = 0 then j + 16 else j - 16
def ix3 (j : Nat) : Nat := if j < 32 then j + 32 else j - 32

theorem rv1_bit (x j : Nat) (h : j < 64) : (rv1 x).testBit j = x.testBit (ix1 j) := by
  unfold rv1 ix1
  rw [Nat.testBit_or, Nat.testBit_and, Nat.testBit_div_two_pow, Nat.testBit_mod_two_pow, Nat.testBit_mul_two_pow, m8_bit ⟨j, h⟩]
  simp only [h, decide_true, Bool.true_and]
  by_cases e : j / 8 % 2 = 0
  · simp only [e, decide_true, Bool.and_true, if_true]
    by_cases h8 : 8 ≤ j
    · rw [Nat.testBit_and, m8_bit ⟨j - 8, by omega⟩]
      have : ¬ (j - 8) / 8 % 2 = 0 := by omega
      simp [this]
    · simp [h8]
  · have h8 : 8 ≤ j := by omega
    rw [Nat.testBit_and, m8_bit ⟨j - 8, by omega⟩]
    have : (j - 8) / 8 % 2 = 0 := by omega
    simp [e, this, h8]

theorem rv2_bit (x j : Nat) (h : j < 64) : (rv2 x).testBit j = x.testBit (ix2 j) := by
  unfold rv2 ix2
  rw [Nat.testBit_or, Nat.testBit_and, Nat.testBit_div_two_pow, Nat.testBit_mod_two_pow, Nat.testBit_mul_two_pow, m16_bit ⟨j, h⟩]
  simp only [h, decide_true, Bool.true_and]
  by_cases e : j / 16 % 2 = 0
  · simp only [e, decide_true, Bool.and_true, if_true]
    by_cases h8 : 16 ≤ j
    · rw [Nat.testBit_and, m16_bit ⟨j - 16, by omega⟩]
      have : ¬ (j - 16) / 16 % 2 = 0 := by omega
      simp [this]
    · simp [h8]
  · have h8 : 16 ≤ j := by omega
    rw [Nat.testBit_and, m16_bit ⟨j - 16, by omega⟩]
    have : (j - 16) / 16 % 2 = 0 := by omega
    simp [e, this, h8]

theorem rv3_bit (x j : Nat) (hx : x < 2 ^ 64) (h : j < 64) : (rv3 x).testBit j = x.testBit (ix3 j) := by
  unfold rv3 ix3
  rw [Nat.testBit_or, Nat.testBit_div_two_pow, Nat.testBit_mod_two_pow, Nat.testBit_mul_two_pow]
  simp only [h, decide_true, Bool.true_and]
  by_cases e : j < 32
  · have : ¬ 32 ≤ j := by omega
    simp [e, this]
  · have h8 : 32 ≤ j := by omega
    have hz : x.testBit (j + 32) = false := Nat.testBit_lt_two_pow (Nat.lt_of_lt_of_le hx (Nat.pow_le_pow_right (by omega) (by omega)))
    simp [e, h8, hz]

theorem rv1_lt (x : Nat) : rv1 x < 2 ^ 64 := Nat.or_lt_two_pow (Nat.and_lt_two_pow _ m8_lt) (Nat.mod_lt _ (by decide))
theorem rv2_lt (x : Nat) : rv2 x < 2 ^ 64 := Nat.or_lt_two_pow (Nat.and_lt_two_pow _ m16_lt) (Nat.mod_lt _ (by decide))
theorem rv3_lt (x : Nat) (hx : x < 2 ^ 64) : rv3 x < 2 ^ 64 := Nat.or_lt_two_pow (Nat.lt_of_le_of_lt (Nat.div_le_self _ _) hx) (Nat.mod_lt _ (by decide))

theorem ix_all : ∀ j : Fin 64, ix3 j.1 < 64 ∧ ix2 (ix3 j.1) < 64 ∧ ix1 (ix2 (ix3 j.1)) = 8 * (7 - j.1 / 8) + j.1 % 8 := by decide +kernel

theorem rev64_bit (x j : Nat) (h : j < 64) : (rev64 x).testBit j = x.testBit (8 * (7 - j / 8) + j % 8) := by
  obtain ⟨h3, h2, h1⟩ := ix_all ⟨j, h⟩
  simp only at h3 h2 h1
  unfold rev64
  rw [rv3_bit _ j (rv2_lt _) h, rv2_bit _ _ h3, rv1_bit _ _ h2, h1]

theorem byte_bit (n i k : Nat) : (n / 256 ^ i % 256).testBit k = (decide (k < 8) && n.testBit (8 * i + k)) := by
  rw [show (256 : Nat) ^ i = 2 ^ (8 * i) by rw [show (256 : Nat) = 2 ^ 8 from rfl, ← Nat.pow_mul], show (256 : Nat) = 2 ^ 8 from rfl, Nat.testBit_mod_two_pow, Nat.testBit_div_two_pow, Nat.add_comm]

theorem rev64_byte (x i : Nat) (h : i < 8) : rev64 x / 256 ^ i % 256 = x / 256 ^ (7 - i) % 256 := by
  apply Nat.eq_of_testBit_eq
  intro k
  rw [byte_bit, byte_bit]
  by_cases hk : k < 8
  · simp only [hk, decide_true, Bool.true_and]
    rw [rev64_bit _ _ (by omega), show (8 * i + k) / 8 = i by omega, show (8 * i + k) % 8 = k by omega]
  · simp [hk]

theorem beB_get : ∀ k n i (h : i < (beB k n).length), (beB k n)[i] = UInt8.ofNat (n / 256 ^ (k - 1 - i))
  | 0, _, i, h => by simp [beB] at h
  | k + 1, n, 0, h => by simp [beB]
  | k + 1, n, i + 1, h => by
    simp only [beB, List.getElem_cons_succ]
    rw [beB_get k n i]
    congr 3
    omega

theorem ofNat_mod (n : Nat) : UInt8.ofNat (n % 256) = UInt8.ofNat n := by
  apply UInt8.toNat_inj.1
  rw [UInt8.toNat_ofNat', UInt8.toNat_ofNat']
  omega

theorem rev64_bytes (x : Nat) : leB 8 (rev64 x) = beB 8 x := by
  apply List.ext_getElem (by rw [leB_len, beB_len])
  intro i h1 h2
  have hi : i < 8 := by rw [leB_len] at h1; exact h1
  rw [leB_get, beB_get, ← ofNat_mod, rev64_byte x i hi, ofNat_mod]

theorem a64 {a b : Nat} (ha : a < 2 ^ 64) (hb : b < 2 ^ 64) : bits .and .u64 (a : Int) (b : Int) = ((a &&& b : Nat) : Int) := u64_and_nat a b (by omega) (by omega)
theorem o64 {a b : Nat} (ha : a < 2 ^ 64) (hb : b < 2 ^ 64) : bits .or .u64 (a : Int) (b : Int) = ((a ||| b : Nat) : Int) := u64_or_nat a b (by omega) (by omega)

theorem a64l (X C : Int) (a b r : Nat) (hX : X = (a : Nat)) (hC : C = (b : Nat)) (hr : r = a &&& b) (ha : a < 2 ^ 64) (hb : b < 2 ^ 64) : bits .and .u64 X C = (r : Int) := by
  rw [hX, hC, a64 ha hb, hr]
theorem o64l (X C : Int) (a b r : Nat) (hX : X = (a : Nat)) (hC : C = (b : Nat)) (hr : r = a ||| b) (ha : a < 2 ^ 64) (hb : b < 2 ^ 64) : bits .or .u64 X C = (r : Int) := by
  rw [hX, hC, o64 ha hb, hr]

theorem rev_any (x : Nat) (hx : x ≤ 18446744073709551615) (w : World) :
    Calls Tryd.prog 30 #[.int .u64 x] w fun e w' => e = .returned (.int .u64 (rev64 x)) ∧ w = w' := by
  have hx' : x < 2 ^ 64 := by omega
  obtain ⟨a, ha⟩ : ∃ a, a = x / 2 ^ 8 &&& 71777214294589695 := ⟨_, rfl⟩
  obtain ⟨b, hb⟩ : ∃ b, b = x &&& 71777214294589695 := ⟨_, rfl⟩
  obtain ⟨y, hy⟩ : ∃ y, y = rv1 x := ⟨_, rfl⟩
  have la : a < 2 ^ 64 := by rw [ha]; exact Nat.and_lt_two_pow _ m8_lt
  have e1 : bits .and .u64 ((x : Int) / 256) 71777214294589695 = (a : Int) := a64l _ _ (x / 2 ^ 8) 71777214294589695 a (by omega) (by omega) ha (by omega) m8_lt
  have e2 : bits .and .u64 (x : Int) 71777214294589695 = (b : Int) := a64l _ _ x 71777214294589695 b rfl (by omega) hb hx' m8_lt
  have e3 : bits .or .u64 (a : Int) (IntKind.u64.wrap ((b : Int) * 256)) = (y : Int) := o64l _ _ a (b * 2 ^ 8 % 2 ^ 64) y rfl (by rw [IntKind.wrap_u64]; omega) (by rw [hy, ha, hb]; rfl) la (Nat.mod_lt _ (by decide))
  have ly : y < 2 ^ 64 := by rw [hy]; exact rv1_lt x
  obtain ⟨c, hc⟩ : ∃ a, a = y / 2 ^ 16 &&& 281470681808895 := ⟨_, rfl⟩
  obtain ⟨d, hd⟩ : ∃ b, b = y &&& 281470681808895 := ⟨_, rfl⟩
  obtain ⟨z, hz⟩ : ∃ z, z = rv2 y := ⟨_, rfl⟩
  have lc : c < 2 ^ 64 := by rw [hc]; exact Nat.and_lt_two_pow _ m16_lt
  have f1 : bits .and .u64 ((y : Int) / 65536) 281470681808895 = (c : Int) := a64l _ _ (y / 2 ^ 16) 281470681808895 c (by omega) (by omega) hc (by omega) m16_lt
  have f2 : bits .and .u64 (y : Int) 281470681808895 = (d : Int) := a64l _ _ y 281470681808895 d rfl (by omega) hd ly m16_lt
  have f3 : bits .or .u64 (c : Int) (IntKind.u64.wrap ((d : Int) * 65536)) = (z : Int) := o64l _ _ c (d * 2 ^ 16 % 2 ^ 64) z rfl (by rw [IntKind.wrap_u64]; omega) (by rw [hz, hc, hd]; rfl) lc (Nat.mod_lt _ (by decide))
  have lz : z < 2 ^ 64 := by rw [hz]; exact rv2_lt y
  obtain ⟨r, hr⟩ : ∃ r, r = rev64 x := ⟨_, rfl⟩
  have g3 : bits .or .u64 ((z : Int) / 4294967296) (IntKind.u64.wrap ((z : Int) * 4294967296)) = (r : Int) :=
    o64l _ _ (z / 2 ^ 32) (z * 2 ^ 32 % 2 ^ 64) r (by omega) (by rw [IntKind.wrap_u64]; omega) (by rw [hr, hz, hy]; rfl) (by omega) (Nat.mod_lt _ (by decide))
  have hx0 : (x : Int) ≤ 18446744073709551615 := by omega
  have hy0 : (y : Int) ≤ 18446744073709551615 := by omega
  have hz0 : (z : Int) ≤ 18446744073709551615 := by omega
  rw [← hr]
  clear ha hb hy hc hd hz hr hx' la lc ly lz
  go_enter Tryd.func30, Tryd.ntmps30
  go_wp2
  go_ret
  exact ⟨rfl, rfl⟩

end Go.Proofs.YtepcnedagmfpeaaDoor
