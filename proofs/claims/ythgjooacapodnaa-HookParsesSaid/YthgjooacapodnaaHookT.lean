/- Fingerprints as texts, as numbers: the mathematics of stage 7, of no program. -/
import Derived.Test.YthgjooacapodnaaHookM
namespace Go.Proofs.Ythgjooacapodnaa

/-- A hexadecimal digit, and its worth. -/
def hexD (n : Nat) : UInt8 := if n < 10 then UInt8.ofNat (48 + n) else UInt8.ofNat (87 + n)
def valD (c : UInt8) : Option Nat := if 48 ≤ c.toNat ∧ c.toNat ≤ 57 then some (c.toNat - 48) else if 97 ≤ c.toNat ∧ c.toNat ≤ 102 then some (c.toNat - 87) else none

theorem hexD_nat (n : Nat) (h : n < 16) : (hexD n).toNat = if n < 10 then 48 + n else 87 + n := by
  unfold hexD
  split <;> (rw [UInt8.toNat_ofNat']; omega)

theorem valD_hexD (n : Nat) (h : n < 16) : valD (hexD n) = some n := by
  unfold valD
  rw [hexD_nat n h]
  by_cases h10 : n < 10
  · rw [if_pos h10, if_pos (by omega)]
    simp
  · rw [if_neg h10, if_neg (by omega), if_pos (by omega)]
    simp

theorem valD_lt (c : UInt8) (n : Nat) (h : valD c = some n) : n < 16 := by
  unfold valD at h
  split at h
  · injection h; omega
  · split at h
    · injection h; omega
    · cases h

theorem hexD_valD (c : UInt8) (n : Nat) (h : valD c = some n) : hexD n = c := by
  have hn := valD_lt c n h
  apply UInt8.toNat_inj.1
  rw [hexD_nat n hn]
  unfold valD at h
  split at h
  · injection h; split <;> omega
  · split at h
    · injection h; split <;> omega
    · cases h

/-- The text of some bytes. -/
def hexL (l : List UInt8) : List UInt8 := l.flatMap fun b => [hexD (b.toNat / 16), hexD (b.toNat % 16)]

theorem hexL_len (l : List UInt8) : (hexL l).length = 2 * l.length := by
  induction l with
  | nil => rfl
  | cons b l ih => simp only [hexL, List.flatMap_cons, List.length_append, List.length_cons, List.length_nil] at ih ⊢; omega

/-- The bytes of a text, where it is one of bytes. -/
def unhex : List UInt8 → Option (List UInt8)
  | [] => some []
  | [_] => none
  | a :: b :: l => match valD a, valD b, unhex l with
    | some x, some y, some r => some (UInt8.ofNat (x * 16 + y) :: r)
    | _, _, _ => none

theorem unhex_hexL : ∀ l : List UInt8, unhex (hexL l) = some l
  | [] => rfl
  | b :: l => by
    have hb := b.toNat_lt
    have e : hexL (b :: l) = hexD (b.toNat / 16) :: hexD (b.toNat % 16) :: hexL l := rfl
    rw [e, unhex, valD_hexD _ (by omega), valD_hexD _ (by omega), unhex_hexL l]
    simp only
    congr 2
    apply UInt8.toNat_inj.1
    rw [UInt8.toNat_ofNat']
    omega

theorem hexL_unhex : ∀ (l r : List UInt8), unhex l = some r → hexL r = l
  | [], r, h => by simp only [unhex, Option.some.injEq] at h; rw [← h]; rfl
  | [_], _, h => by simp [unhex] at h
  | a :: b :: l, r, h => by
    unfold unhex at h
    split at h
    · rename_i x y q hx hy hq
      injection h with h
      have h1 := valD_lt a x hx
      have h2 := valD_lt b y hy
      rw [← h]
      have e : hexL (UInt8.ofNat (x * 16 + y) :: q) = hexD ((UInt8.ofNat (x * 16 + y)).toNat / 16) :: hexD ((UInt8.ofNat (x * 16 + y)).toNat % 16) :: hexL q := rfl
      rw [e, UInt8.toNat_ofNat', show (x * 16 + y) % 2 ^ 8 / 16 = x by omega, show (x * 16 + y) % 2 ^ 8 % 16 = y by omega, hexD_valD a x hx, hexD_valD b y hy, hexL_unhex l q hq]
    · cases h

/-- A text of so many digits alone is one of bytes. -/
theorem unhex_some : ∀ (n : Nat) (l : List UInt8), l.length = 2 * n → (∀ c ∈ l, (valD c).isSome = true) → ∃ r, unhex l = some r ∧ r.length = n
  | 0, l, hl, _ => by
    have := List.eq_nil_of_length_eq_zero (show l.length = 0 by omega)
    subst this
    exact ⟨[], rfl, rfl⟩
  | n + 1, l, hl, h => by
    match l, hl with
    | a :: b :: l, hl =>
      obtain ⟨x, hx⟩ := Option.isSome_iff_exists.1 (h a (by simp))
      obtain ⟨y, hy⟩ := Option.isSome_iff_exists.1 (h b (by simp))
      obtain ⟨r, hr, hrl⟩ := unhex_some n l (by simp only [List.length_cons] at hl; omega) (fun c hc => h c (by simp [hc]))
      exact ⟨_, by rw [unhex, hx, hy, hr], by simp [hrl]⟩

theorem unhex_digits : ∀ (l r : List UInt8), unhex l = some r → ∀ c ∈ l, (valD c).isSome = true
  | [], _, _, c, hc => by cases hc
  | [_], _, h, _, _ => by simp [unhex] at h
  | a :: b :: l, r, h, c, hc => by
    unfold unhex at h
    split at h
    · rename_i x y q hx hy hq
      rcases List.mem_cons.1 hc with e | hc
      · rw [e, hx]; rfl
      · rcases List.mem_cons.1 hc with e | hc
        · rw [e, hy]; rfl
        · exact unhex_digits l q hq c hc
    · cases h

theorem unhex_len (l r : List UInt8) (h : unhex l = some r) : l.length = 2 * r.length := by rw [← hexL_unhex l r h, hexL_len]

/-- Where an element goes. -/
theorem ins_split (x : List UInt8) : ∀ l, ins x l = l.take (l.takeWhile fun a => ltB a x).length ++ x :: l.drop (l.takeWhile fun a => ltB a x).length
  | [] => rfl
  | a :: l => by
    unfold ins
    by_cases h : ltB a x = true
    · rw [if_pos h, List.takeWhile_cons_of_pos (p := fun a => ltB a x) h, ins_split x l]
      simp
    · rw [if_neg h, List.takeWhile_cons_of_neg (p := fun a => ltB a x) h]
      simp

end Go.Proofs.Ythgjooacapodnaa
