/- The rolling hash, summed from the last byte on: its mathematics, of no program. -/
import Derived.Test.YtimllddlcjnikaaDoorRollM
namespace Go.Proofs.YtimllddlcjnikaaDoor

/-! ### The powers of 257, and a hash summed from the last byte on. -/
def P16 : List Nat := [0x00000001, 0x00000101, 0x00010201, 0x01030301, 0x04060403, 0x0A0A070B, 0x1411121F, 0x25233147, 0x48547891, 0x1CCD0A22, 0x69D72C5B, 0x4103882F, 0x448BB7B1, 0x5043693A, 0x13ACA3DB, 0x40507F02]

theorem P16_pow : ∀ i : Fin 16, P16.getD i.1 0 = 257 ^ i.1 % 2147483647 := by decide +kernel
theorem P16_lt : ∀ i : Fin 16, P16.getD i.1 0 < 2147483647 := by decide +kernel

/-- What a byte with i bytes behind it adds. -/
def rterm (b : UInt8) (i : Nat) : Nat := (b.toNat + 1) * P16.getD i 0

theorem rterm_le (b : UInt8) (i : Nat) (h : i < 16) : rterm b i ≤ 549755813376 := by
  have h1 := P16_lt ⟨i, h⟩
  have h2 := b.toNat_lt
  simp only at h1
  unfold rterm
  have : (b.toNat + 1) * P16.getD i 0 ≤ 256 * 2147483646 := Nat.mul_le_mul (by omega) (by omega)
  omega

/-- The last k bytes' hash, not yet modulo. -/
def bk (l : List UInt8) : Nat → Nat
  | 0 => 0
  | k + 1 => bk l k + rterm (l.getD (l.length - 1 - k) 0) k

theorem bk_le (l : List UInt8) : ∀ k, k ≤ 16 → bk l k ≤ 549755813376 * k
  | 0, _ => by simp [bk]
  | k + 1, h => by
    have h1 := bk_le l k (by omega)
    have h2 := rterm_le (l.getD (l.length - 1 - k) 0) k (by omega)
    simp only [bk]
    omega

theorem bk_cons (a : UInt8) (l : List UInt8) : ∀ k, k ≤ l.length → bk (a :: l) k = bk l k
  | 0, _ => rfl
  | k + 1, h => by
    simp only [bk]
    rw [bk_cons a l k (by omega), List.length_cons, show l.length + 1 - 1 - k = (l.length - 1 - k) + 1 by omega, List.getD_cons_succ]

theorem bk_append (p l : List UInt8) (k : Nat) (h : k ≤ l.length) : bk (p ++ l) k = bk l k := by
  induction p with
  | nil => rfl
  | cons a p ih => rw [List.cons_append, bk_cons a (p ++ l) k (by rw [List.length_append]; omega), ih]

theorem bk_fold (l : List UInt8) (h : l.length ≤ 16) : bk l l.length % 2147483647 = rfold 0 l := by
  induction l with
  | nil => rfl
  | cons a l ih =>
    rw [List.length_cons] at h
    have ih := ih (by omega)
    rw [List.length_cons]
    simp only [bk]
    rw [bk_cons a l _ (Nat.le_refl _), List.length_cons, show l.length + 1 - 1 - l.length = 0 by omega, List.getD_cons_zero]
    have hP := P16_pow ⟨l.length, by omega⟩
    simp only at hP
    have h1 := rfold_add l (a.toNat + 1) 0
    rw [Nat.add_zero] at h1
    have e : rfold 0 (a :: l) = rfold (a.toNat + 1) l := by
      show rfold (rstep 0 a) l = _
      have e : rstep 0 a = a.toNat + 1 := by
        unfold rstep rP; have := a.toNat_lt; omega
      rw [e]
    have hlt : rfold (a.toNat + 1) l < 2147483647 := rfold_lt l (by have := a.toNat_lt; omega)
    rw [e, ← Nat.mod_eq_of_lt hlt, h1, ← ih]
    unfold rterm
    rw [hP]
    generalize bk l l.length = B
    generalize 257 ^ l.length = g
    rw [Nat.add_mod, Nat.mul_mod, Nat.mod_mod, ← Nat.mul_mod, ← Nat.add_mod, Nat.add_comm B, Nat.add_mod ((a.toNat + 1) * g) (B % 2147483647), Nat.mod_mod, ← Nat.add_mod]

theorem bk_rsum (l : List UInt8) : bk l (min l.length 16) % 2147483647 = rsum l := by
  unfold rsum
  have h1 := last16_len l
  have h2 := bk_fold (last16 l) (by omega)
  rw [← h2, h1]
  congr 1
  have h3 := bk_append (l.take (l.length - 16)) (last16 l) (min l.length 16) (by omega)
  rw [← h3]
  unfold last16
  rw [List.take_append_drop]

theorem RingOf.get {l A : List UInt8} (h : RingOf l A) (i : Nat) (h1 : i < l.length) (h2 : i < 16) : A.getD ((l.length - 1 - i) % 16) 0 = l.getD (l.length - 1 - i) 0 := by
  have := h.2 (l.length - 1 - i) (by omega) (by omega)
  rw [List.getD_eq_getElem?_getD, this, List.getD_eq_getElem?_getD, List.getElem?_eq_getElem (by omega)]

/-- A hash slid, as the code reckons it: the first subtraction is not reduced. -/
theorem rslide_code (h : Nat) (o i : UInt8) (_hh : h < 2147483647) : ((h + 2147483647 - rterm o 15 % 2147483647) * 257 + rterm i 0) % 2147483647 = rslide h o i := by
  have hP := P16_pow ⟨15, by omega⟩
  simp only at hP
  have e0 : rterm i 0 = i.toNat + 1 := by simp [rterm, P16]
  have e1 : rterm o 15 % 2147483647 = (o.toNat + 1) * rworth % 2147483647 := by unfold rterm rworth; rw [hP]
  rw [e0, e1]
  unfold rslide rstep rP
  generalize (o.toNat + 1) * rworth = g
  omega

theorem last16_eq (l : List UInt8) (k : Nat) (h : k = l.length - 16) : rsum (l.drop k) = rsum l := by
  subst h
  unfold rsum
  rw [last16_short (l.drop (l.length - 16)) (by rw [List.length_drop]; omega)]
  rfl

theorem rsum_nil : rsum [] = 0 := rfl

end Go.Proofs.YtimllddlcjnikaaDoor
