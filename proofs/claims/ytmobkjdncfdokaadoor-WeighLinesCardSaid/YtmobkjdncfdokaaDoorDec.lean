/- Weights as texts: decimal numbers, and how they are read. Of no program. -/
import Derived.Test.YtmobkjdncfdokaaDoorLastAny
import Derived.Lib.ItoaNum
import Derived.Lib.AtoiAll
import Derived.Lib.Strings
namespace Go.Proofs.YtmobkjdncfdokaaDoor
open Go.RowKit

/-! ### Digits. -/
theorem dec_small {u : Nat} (h : u < 10) : Lib.decDigits u = [UInt8.ofNat (48 + u)] := Lib.decDigits_one h
theorem dec_big {u : Nat} (h : ¬ u < 10) : Lib.decDigits u = Lib.decDigits (u / 10) ++ [UInt8.ofNat (48 + u % 10)] := by rw [Lib.decDigits, dif_neg h]

theorem digit_nat (d : Nat) (h : d < 10) : (UInt8.ofNat (48 + d)).toNat = 48 + d := by
  rw [UInt8.toNat_ofNat']; omega

theorem dec_digits : ∀ u : Nat, ∀ c ∈ Lib.decDigits u, 48 ≤ c.toNat ∧ c.toNat ≤ 57 := by
  intro u
  induction u using Nat.strongRecOn with
  | _ u ih =>
    intro c hc
    by_cases h : u < 10
    · rw [dec_small h] at hc
      simp only [List.mem_singleton] at hc
      rw [hc, digit_nat u h]; omega
    · rw [dec_big h] at hc
      rcases List.mem_append.1 hc with hc | hc
      · exact ih (u / 10) (by omega) c hc
      · simp only [List.mem_singleton] at hc
        rw [hc, digit_nat _ (by omega)]; omega

theorem dec_ne (u : Nat) : Lib.decDigits u ≠ [] := by
  by_cases h : u < 10
  · rw [dec_small h]; simp
  · rw [dec_big h]; simp

theorem dec_len : ∀ (k u : Nat), u < 10 ^ (k + 1) → (Lib.decDigits u).length ≤ k + 1
  | 0, u, h => by rw [dec_small (by simpa using h)]; simp
  | k + 1, u, h => by
    by_cases c : u < 10
    · rw [dec_small c]; simp
    · rw [dec_big c, List.length_append]
      have h10 : 10 ^ (k + 1 + 1) = 10 ^ (k + 1) * 10 := Nat.pow_succ ..
      have := dec_len k (u / 10) (by omega)
      simp only [List.length_singleton]
      omega

theorem dec_head : ∀ u : Nat, 10 ≤ u → ∃ c r, Lib.decDigits u = c :: r ∧ c.toNat ≠ 48 := by
  intro u
  induction u using Nat.strongRecOn with
  | _ u ih =>
    intro h
    rw [dec_big (by omega)]
    by_cases c : u / 10 < 10
    · rw [dec_small c]
      exact ⟨_, _, rfl, by rw [digit_nat _ c]; omega⟩
    · obtain ⟨x, r, e, hx⟩ := ih (u / 10) (by omega) (by omega)
      exact ⟨x, r ++ _, by rw [e]; rfl, hx⟩

theorem parse_append : ∀ (l r : List UInt8) (acc v : Nat), Lib.parseUint10 acc l = .ok v → Lib.parseUint10 acc (l ++ r) = Lib.parseUint10 v r
  | [], r, acc, v, h => by
    simp only [Lib.parseUint10] at h
    injection h with h
    rw [h]; rfl
  | c :: l, r, acc, v, h => by
    simp only [Lib.parseUint10] at h
    simp only [List.cons_append, Lib.parseUint10]
    split at h
    · rename_i h1
      rw [if_pos h1]
      split at h
      · cases h
      · rename_i h2
        rw [if_neg h2]
        split at h
        · cases h
        · rename_i h3
          rw [if_neg h3]
          exact parse_append l r _ v h
    · cases h

theorem parse_dec : ∀ u : Nat, u < 9223372036854775808 → Lib.parseUint10 0 (Lib.decDigits u) = .ok u := by
  intro u
  induction u using Nat.strongRecOn with
  | _ u ih =>
    intro h
    have one : ∀ (v d : Nat), v < 922337203685477581 → d < 10 → Lib.parseUint10 v [UInt8.ofNat (48 + d)] = .ok (v * 10 + d) := by
      intro v d hv hd
      simp only [Lib.parseUint10, digit_nat d hd]
      rw [if_pos (by omega), if_neg (by omega), if_neg (by omega)]
      congr 1
      omega
    by_cases c : u < 10
    · rw [dec_small c, one 0 u (by omega) c]
      congr 1
      omega
    · rw [dec_big c, parse_append _ _ 0 (u / 10) (ih (u / 10) (by omega) (by omega)), one _ _ (by omega) (by omega)]
      congr 1
      omega

/-- The number that digits spell. -/
def numOf (l : List UInt8) : Nat := l.foldl (fun n c => n * 10 + (c.toNat - 48)) 0

theorem numOf_snoc (l : List UInt8) (c : UInt8) : numOf (l ++ [c]) = numOf l * 10 + (c.toNat - 48) := by simp [numOf]

theorem numOf_take (l : List UInt8) (i : Nat) (h : i < l.length) : numOf (l.take (i + 1)) = numOf (l.take i) * 10 + (l[i].toNat - 48) := by
  rw [List.take_succ_eq_append_getElem h, numOf_snoc]

theorem numOf_dec : ∀ u : Nat, numOf (Lib.decDigits u) = u := by
  intro u
  induction u using Nat.strongRecOn with
  | _ u ih =>
    by_cases c : u < 10
    · rw [dec_small c]
      simp only [numOf, List.foldl_cons, List.foldl_nil, digit_nat u c]
      omega
    · rw [dec_big c, numOf_snoc, ih (u / 10) (by omega), digit_nat _ (by omega)]
      omega

theorem numOf_lt : ∀ (l : List UInt8), (∀ c ∈ l, c.toNat ≤ 57) → ∀ i, i ≤ l.length → numOf (l.take i) < 10 ^ i
  | l, h, 0, _ => by simp [numOf]
  | l, h, i + 1, hi => by
    have ih := numOf_lt l h i (by omega)
    rw [numOf_take l i (by omega), Nat.pow_succ]
    have := h l[i] (List.getElem_mem _)
    omega

/-! ### The texts of weights. -/
/-- The second part, with its sign. -/
def secB (b : Int) : List UInt8 := (if b < 0 then 45 else 43) :: Lib.decDigits b.natAbs

/-- The text of a weight. -/
def textW (a b : Int) : List UInt8 := Lib.itoa a ++ (secB b ++ [105])

theorem sec_eq (b : Int) : (if 0 ≤ b then [43] else []) ++ Lib.itoa b = secB b := by
  unfold secB Lib.itoa
  by_cases c : b < 0
  · rw [if_neg (by omega), if_pos c, if_pos c]; rfl
  · rw [if_pos (by omega), if_neg c, if_neg c]
    have : b.toNat = b.natAbs := by omega
    rw [this]; rfl

theorem itoa_ne (a : Int) : Lib.itoa a ≠ [] := by
  unfold Lib.itoa
  split
  · simp
  · exact dec_ne _

theorem head_digit (u : Nat) (c : UInt8) (r : List UInt8) (h : Lib.decDigits u = c :: r) : c.toNat ≠ 43 ∧ c.toNat ≠ 45 := by
  have := dec_digits u c (by rw [h]; simp)
  omega

theorem atoi_minus (u : Nat) (h : u ≤ 9007199254740992) : Lib.atoiAll (45 :: Lib.decDigits u) = .ok (-(u : Int)) := by
  have hp := parse_dec u (by omega)
  have hn := dec_ne u
  have g : ¬ 9223372036854775808 < u := by omega
  simp [Lib.atoiAll, Lib.parseMag, hp, hn, g]

theorem atoi_plus (u : Nat) (h : u ≤ 9007199254740992) : Lib.atoiAll (43 :: Lib.decDigits u) = .ok (u : Int) := by
  have hp := parse_dec u (by omega)
  have hn := dec_ne u
  have g : ¬ 9223372036854775808 ≤ u := by omega
  simp [Lib.atoiAll, Lib.parseMag, hp, hn, g]

theorem atoi_plain (u : Nat) (h : u ≤ 9007199254740992) : Lib.atoiAll (Lib.decDigits u) = .ok (u : Int) := by
  have hp := parse_dec u (by omega)
  have hn := dec_ne u
  have g : ¬ 9223372036854775808 ≤ u := by omega
  cases hd : Lib.decDigits u with
  | nil => exact absurd hd hn
  | cons x r =>
    have hx := head_digit _ _ _ hd
    rw [hd] at hp
    simp [Lib.atoiAll, Lib.parseMag, hp, g, hx.1, hx.2]

theorem atoi_itoa (a : Int) (h : a.natAbs ≤ 9007199254740992) : Lib.atoiAll (Lib.itoa a) = .ok a := by
  unfold Lib.itoa
  by_cases c : a < 0
  · rw [if_pos c, atoi_minus _ h]
    congr 1; omega
  · rw [if_neg c, atoi_plain _ (by omega)]
    congr 1; omega

theorem atoi_sec (b : Int) (h : b.natAbs ≤ 9007199254740992) : Lib.atoiAll (secB b) = .ok b := by
  unfold secB
  by_cases c : b < 0
  · rw [if_pos c, atoi_minus _ h]
    congr 1; omega
  · rw [if_neg c, atoi_plus _ h]
    congr 1; omega

theorem trim_text (a b : Int) : Lib.trimSuffix (textW a b) [105] = Lib.itoa a ++ secB b := by
  unfold Lib.trimSuffix textW
  rw [← List.append_assoc]
  have h : Lib.hasSuffix (Lib.itoa a ++ secB b ++ [105]) [105] = true := by
    unfold Lib.hasSuffix
    rw [List.isSuffixOf_iff_suffix]
    exact List.suffix_append _ _
  rw [if_pos h]
  exact List.take_left' (by simp)

theorem trim_len (l : List UInt8) : (Lib.trimSuffix l [105]).length ≤ l.length := by
  unfold Lib.trimSuffix
  split
  · simp
  · exact Nat.le_refl _

theorem hit_text (a b : Int) : Hit (Lib.itoa a ++ secB b) (Lib.itoa a).length := by
  refine ⟨by simp [secB], ?_, fun j h1 h2 => ?_⟩
  · rw [List.getD_eq_getElem?_getD, List.getElem?_append_right (Nat.le_refl _), Nat.sub_self]
    unfold secB
    split <;> rfl
  · obtain ⟨i, rfl⟩ : ∃ i, j = (Lib.itoa a).length + (i + 1) := ⟨j - (Lib.itoa a).length - 1, by omega⟩
    rw [List.getD_eq_getElem?_getD, List.getElem?_append_right (by omega), Nat.add_sub_cancel_left]
    unfold secB
    rw [List.getElem?_cons_succ]
    have hi : i < (Lib.decDigits b.natAbs).length := by
      rw [List.length_append] at h2
      simp only [secB, List.length_cons] at h2
      omega
    rw [List.getElem?_eq_getElem hi]
    have hd := dec_digits b.natAbs _ (List.getElem_mem hi)
    simp only [Option.getD_some]
    unfold isSign
    refine ⟨by omega, ?_⟩
    simp; omega

theorem dec16 (u : Nat) (h : u ≤ 9007199254740992) : (Lib.decDigits u).length ≤ 16 := dec_len 15 u (by omega)

theorem itoa_len (a : Int) (h : a.natAbs ≤ 9007199254740992) : 1 ≤ (Lib.itoa a).length ∧ (Lib.itoa a).length ≤ 17 := by
  have hne := List.length_pos_iff.2 (itoa_ne a)
  refine ⟨hne, ?_⟩
  unfold Lib.itoa
  split
  · have := dec16 a.natAbs h
    simp only [List.length_cons]
    omega
  · have := dec16 a.toNat (by omega)
    omega

theorem sec_len (b : Int) (h : b.natAbs ≤ 9007199254740992) : 2 ≤ (secB b).length ∧ (secB b).length ≤ 17 := by
  have h1 := dec16 b.natAbs h
  have h2 := List.length_pos_iff.2 (dec_ne b.natAbs)
  unfold secB
  simp only [List.length_cons]
  omega

end Go.Proofs.YtmobkjdncfdokaaDoor
