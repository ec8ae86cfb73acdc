/- Plain facts on texts as lists of bits, of no program. -/
import Derived.Test.YtdmbebafpamgfaaDoorCrc
namespace Go.Proofs.YtdmbebafpamgfaaDoor
open Go.RowKit

/-- The cells of a list of bits. -/
def boolA (L : List Bool) : Array Value := (L.map Value.bool).toArray

theorem boolA_size (L : List Bool) : (boolA L).size = L.length := by simp [boolA]

theorem boolA_get (L : List Bool) (i : Nat) (h : i < L.length) : (boolA L)[i]? = some (.bool L[i]) := by simp [boolA, h]

theorem boolA_of (L : List Bool) (C : Array Value) (hC : C.size = L.length) (h : ∀ i, i < L.length → C[i]? = some (.bool (L.getD i false))) : C = boolA L := by
  apply Array.ext_getElem?
  intro i
  by_cases hi : i < L.length
  · rw [h i hi, boolA_get L i hi]
    simp [List.getD, hi]
  · rw [Array.getElem?_eq_none (by omega), Array.getElem?_eq_none (by rw [boolA_size]; omega)]

theorem boolA_set (L : List Bool) (i : Nat) (b : Bool) : (boolA L).setIfInBounds i (.bool b) = boolA (L.set i b) := by
  apply Array.ext_getElem?
  intro j
  rw [Array.getElem?_setIfInBounds]
  by_cases h : i = j
  · subst h
    by_cases hi : i < L.length
    · rw [if_pos rfl, boolA_size, if_pos hi, boolA_get _ _ (by simpa using hi)]
      simp
    · rw [if_pos rfl, boolA_size, if_neg hi, Array.getElem?_eq_none (by rw [boolA_size, List.length_set]; omega)]
  · rw [if_neg h]
    simp [boolA, h]

theorem byteBits_get (c : UInt8) (k : Nat) (h : k < 8) : (byteBits c).getD k false = c.toNat.testBit k := by
  simp [byteBits, List.getD, h]

theorem byteBits_len (c : UInt8) : (byteBits c).length = 8 := by simp [byteBits]

theorem bits_at : ∀ (l : List UInt8) (i k : Nat) (h : i < l.length), k < 8 → (bitsB l).getD (8 * i + k) false = l[i].toNat.testBit k
  | c :: l, 0, k, _, hk => by
    rw [show bitsB (c :: l) = byteBits c ++ bitsB l by simp [bitsB], Nat.mul_zero, Nat.zero_add, List.getD_eq_getElem?_getD,
      List.getElem?_append_left (by rw [byteBits_len]; exact hk), ← List.getD_eq_getElem?_getD, byteBits_get c k hk]
    rfl
  | c :: l, i + 1, k, h, hk => by
    rw [show bitsB (c :: l) = byteBits c ++ bitsB l by simp [bitsB], List.getD_eq_getElem?_getD,
      List.getElem?_append_right (by rw [byteBits_len]; omega), byteBits_len, show 8 * (i + 1) + k - 8 = 8 * i + k by omega, ← List.getD_eq_getElem?_getD,
      bits_at l i k (by simpa using h) hk]
    rfl

theorem testBit_mod (x k : Nat) : x.testBit k = (x / 2 ^ k % 2 == 1) := by
  rw [Nat.testBit_eq_decide_div_mod_eq]
  rfl

theorem reg_take_bit (r : Nat) (L : List Bool) (k : Nat) (h : k < L.length) : reg r (L.take (k + 1)) = stp (reg r (L.take k) ^^^ L[k].toNat) := by
  rw [List.take_succ_eq_append_getElem h, reg_append]
  rfl

/-! ### Long division -/
/-- The polynomial's bits, the highest first. -/
def polyL : List Bool := (List.range 33).map fun k => (4374732215 : Nat).testBit (32 - k)

/-- What a row holds while a text's bits E are divided: ahead of 'at' whatever it holds; from there on the text's bits, on which the register lies. -/
def Divides (E : List Bool) (r a : Nat) (L : List Bool) : Prop := L.length = E.length ∧ ∀ j, a ≤ j → L.getD j false = (E.getD j false ^^ r.testBit (j - a))

theorem divides_next (E L : List Bool) (r a : Nat) (h : Divides E r a L) (L' : List Bool) (hL : L'.length = L.length)
    (hk : ∀ j, L'.getD j false = if a ≤ j ∧ j < a + 33 then (L.getD j false ^^ (L.getD a false && polyL.getD (j - a) false)) else L.getD j false) :
    Divides E (stp (r ^^^ (E.getD a false).toNat)) (a + 1) L' := by
  obtain ⟨h1, h2⟩ := h
  refine ⟨by omega, fun j hj => ?_⟩
  have ha : L.getD a false = (E.getD a false ^^ r.testBit 0) := by simpa using h2 a (Nat.le_refl _)
  obtain ⟨i, rfl⟩ : ∃ i, j = a + 1 + i := ⟨j - (a + 1), by omega⟩
  have e1 : a + 1 + i - (a + 1) = i := by omega
  have e2 : a + 1 + i - a = i + 1 := by omega
  rw [hk, e1, e2, h2 _ (by omega), e2]
  have hs : (stp (r ^^^ (E.getD a false).toNat)).testBit i = (r.testBit (i + 1) ^^ (L.getD a false && pol.testBit i)) := by
    have hb : (r ^^^ (E.getD a false).toNat).testBit 0 = L.getD a false := by
      rw [Nat.testBit_xor, ha, Bool.xor_comm]
      congr 1
      cases E.getD a false <;> rfl
    have hb1 : (r ^^^ (E.getD a false).toNat).testBit (i + 1) = r.testBit (i + 1) := by
      rw [Nat.testBit_xor]
      have : ((E.getD a false).toNat).testBit (i + 1) = false := by cases E.getD a false <;> simp [Nat.testBit_succ]
      rw [this, Bool.xor_false]
    unfold stp
    rw [Nat.testBit_xor, hb, Nat.testBit_shiftRight, Nat.add_comm 1 i, hb1]
    congr 1
    cases L.getD a false <;> simp
  rw [hs]
  by_cases hi : i < 32
  · rw [if_pos (by omega)]
    have hp : polyL.getD (i + 1) false = pol.testBit i := by
      have : ∀ i : Fin 32, polyL.getD (i.val + 1) false = pol.testBit i.val := by decide +kernel
      exact this ⟨i, hi⟩
    rw [hp, Bool.xor_assoc]
  · rw [if_neg (by omega)]
    have hp : pol.testBit i = false := Nat.testBit_lt_two_pow (Nat.lt_of_lt_of_le (by decide : pol < 2 ^ 32) (Nat.pow_le_pow_right (by omega) (by omega)))
    rw [hp, Bool.and_false, Bool.xor_false]

theorem divides_start (E L : List Bool) (hL : L.length = E.length) (hk : ∀ j, L.getD j false = if j < 32 then !E.getD j false else E.getD j false) : Divides E top32 0 L := by
  refine ⟨hL, fun j _ => ?_⟩
  rw [hk, Nat.sub_zero]
  by_cases h : j < 32
  · have : top32.testBit j = true := by
      have e : top32 = 2 ^ 32 - 1 := rfl
      rw [e, Nat.testBit_two_pow_sub_one]
      simpa using h
    rw [if_pos h, this, Bool.xor_true]
  · have : top32.testBit j = false := Nat.testBit_lt_two_pow (Nat.lt_of_lt_of_le (by decide : top32 < 2 ^ 32) (Nat.pow_le_pow_right (by omega) (by omega)))
    rw [if_neg h, this, Bool.xor_false]

/-- What stands behind so many rounds of the last loop. -/
theorem tail_step (r k : Nat) : (top32 - r) >>> k = 2 * ((top32 - r) >>> (k + 1)) + ((top32 - r).testBit k).toNat := by
  rw [Nat.shiftRight_eq_div_pow, Nat.shiftRight_eq_div_pow, Nat.pow_succ, ← Nat.div_div_eq_div_mul, Nat.testBit_eq_decide_div_mod_eq]
  have := Nat.mod_two_eq_zero_or_one ((top32 - r) / 2 ^ k)
  rcases this with h | h
  · rw [h]; simp; omega
  · rw [h]; simp; omega

theorem top_sub_bit (r k : Nat) (hr : r ≤ top32) (hk : k < 32) : (top32 - r).testBit k = !r.testBit k := by
  rw [top_xor hr, Nat.testBit_xor]
  have : top32.testBit k = true := by
    have e : top32 = 2 ^ 32 - 1 := rfl
    rw [e, Nat.testBit_two_pow_sub_one]
    simpa using hk
  rw [this, Bool.true_xor]

end Go.Proofs.YtdmbebafpamgfaaDoor
