/- The rolling hash: its mathematics, of no program. -/
import Derived.Test.YtimllddlcjnikaaDoorPlain
namespace Go.Proofs.YtimllddlcjnikaaDoor

def rP : Nat := 2147483647
def rstep (n : Nat) (b : UInt8) : Nat := (n * 257 + b.toNat + 1) % rP
def rfold (n : Nat) (l : List UInt8) : Nat := l.foldl rstep n
def last16 (l : List UInt8) : List UInt8 := l.drop (l.length - 16)
/-- The hash of a text: of its last sixteen bytes. -/
def rsum (l : List UInt8) : Nat := rfold 0 (last16 l)

theorem rstep_lt (n : Nat) (b : UInt8) : rstep n b < 2147483647 := Nat.mod_lt _ (by decide)

theorem rfold_snoc (n : Nat) (l : List UInt8) (b : UInt8) : rfold n (l ++ [b]) = rstep (rfold n l) b := by simp [rfold]

theorem rfold_lt (l : List UInt8) : ∀ {n : Nat}, n < 2147483647 → rfold n l < 2147483647 := by
  induction l with
  | nil => intro n h; exact h
  | cons b l ih => intro n _; exact ih (rstep_lt n b)

theorem rsum_lt (l : List UInt8) : rsum l < 2147483647 := rfold_lt _ (by decide)

theorem rfold_take (n : Nat) (l : List UInt8) (i : Nat) (h : i < l.length) : rfold n (l.take (i + 1)) = rstep (rfold n (l.take i)) l[i] := by
  rw [List.take_succ_eq_append_getElem h, rfold_snoc]

/-- A step of the loop over the last sixteen, by the place in the whole text. -/
theorem rfold_seg (l : List UInt8) (k i : Nat) (hk : k ≤ i) (h : i < l.length) : rfold 0 ((l.take (i + 1)).drop k) = rstep (rfold 0 ((l.take i).drop k)) l[i] := by
  rw [List.take_succ_eq_append_getElem h, List.drop_append_of_le_length (by rw [List.length_take]; omega), rfold_snoc]

theorem rstep_mod (n : Nat) (b : UInt8) : rstep (n % 2147483647) b = rstep n b := by
  unfold rstep rP
  omega

theorem rfold_mod (n : Nat) (l : List UInt8) : rfold (n % 2147483647) l % 2147483647 = rfold n l % 2147483647 := by
  cases l with
  | nil => exact Nat.mod_mod _ _
  | cons b l => show rfold (rstep (n % 2147483647) b) l % _ = rfold (rstep n b) l % _; rw [rstep_mod]

theorem rfold_add (l : List UInt8) : ∀ x y : Nat, rfold (x + y) l % 2147483647 = (x * 257 ^ l.length + rfold y l) % 2147483647 := by
  induction l with
  | nil => intro x y; simp [rfold]
  | cons b l ih =>
    intro x y
    have h1 : rfold (rstep (x + y) b) l % 2147483647 = rfold (x * 257 + (y * 257 + b.toNat + 1)) l % 2147483647 := by
      have e : rstep (x + y) b = (x * 257 + (y * 257 + b.toNat + 1)) % 2147483647 := by unfold rstep rP; omega
      rw [e, rfold_mod]
    have h2 : rfold (rstep y b) l % 2147483647 = rfold (y * 257 + b.toNat + 1) l % 2147483647 := by
      rw [← rfold_mod (y * 257 + b.toNat + 1) l]; rfl
    show rfold (rstep (x + y) b) l % 2147483647 = (x * 257 ^ (l.length + 1) + rfold (rstep y b) l) % 2147483647
    rw [h1, ih, Nat.add_mod (x * 257 ^ (l.length + 1)), h2, ← Nat.add_mod, Nat.pow_succ, Nat.mul_assoc, Nat.mul_comm 257]

/-- 257^15. -/
def rworth : Nat := 257 ^ 15 % 2147483647

def rslide (h : Nat) (o i : UInt8) : Nat := rstep ((h + 2147483647 - (o.toNat + 1) * rworth % 2147483647) % 2147483647) i

theorem rslide_lt (h : Nat) (o i : UInt8) : rslide h o i < 2147483647 := rstep_lt _ _

theorem rslide_fold (a b : UInt8) (l : List UInt8) (hl : l.length = 15) : rslide (rfold 0 (a :: l)) a b = rfold 0 (l ++ [b]) := by
  have hR := rfold_lt l (n := 0) (by decide)
  have hH := rfold_lt (a :: l) (n := 0) (by decide)
  have h1 : rfold 0 (a :: l) = ((a.toNat + 1) * 257 ^ 15 + rfold 0 l) % 2147483647 := by
    rw [← hl, ← rfold_add l (a.toNat + 1) 0, ← Nat.mod_eq_of_lt hH]
    show rfold (rstep 0 a) l % 2147483647 = _
    have e : rstep 0 a = (a.toNat + 1 + 0) % 2147483647 := by unfold rstep rP; omega
    rw [e, rfold_mod]
  have h2 : (a.toNat + 1) * rworth % 2147483647 = (a.toNat + 1) * 257 ^ 15 % 2147483647 := by
    unfold rworth; rw [Nat.mul_mod, Nat.mod_mod, ← Nat.mul_mod]
  have h3 : (rfold 0 (a :: l) + 2147483647 - (a.toNat + 1) * rworth % 2147483647) % 2147483647 = rfold 0 l := by
    rw [h2, h1]
    generalize (a.toNat + 1) * 257 ^ 15 = g
    generalize rfold 0 l = R at hR
    omega
  unfold rslide
  rw [h3, rfold_snoc]

theorem last16_short (l : List UInt8) (h : l.length ≤ 16) : last16 l = l := by
  unfold last16; rw [show l.length - 16 = 0 by omega, List.drop_zero]

theorem last16_append (a s : List UInt8) (h : 16 ≤ s.length) : last16 (a ++ s) = last16 s := by
  unfold last16
  rw [List.length_append, show a.length + s.length - 16 = a.length + (s.length - 16) by omega, List.drop_append, List.drop_eq_nil_of_le (by omega), List.nil_append, Nat.add_sub_cancel_left]

theorem last16_len (l : List UInt8) : (last16 l).length = min l.length 16 := by
  unfold last16; rw [List.length_drop]; omega

/-- Of sixteen bytes the hash moves on by one. -/
theorem rslide_rsum (a b : UInt8) (l : List UInt8) (hl : l.length = 15) : rslide (rsum (a :: l)) a b = rsum (l ++ [b]) := by
  unfold rsum
  rw [last16_short _ (by simp [hl]), last16_short _ (by simp [hl]), rslide_fold a b l hl]

theorem rsum_forgets (a b s : List UInt8) (h : 16 ≤ s.length) : rsum (a ++ s) = rsum (b ++ s) := by
  unfold rsum; rw [last16_append _ _ h, last16_append _ _ h]

/-- The hash, one byte further, where the window isn't full, and where it is. -/
theorem rsum_more (l : List UInt8) (b : UInt8) (h : l.length < 16) : rsum (l ++ [b]) = rstep (rsum l) b := by
  unfold rsum
  rw [last16_short _ (by simp; omega), last16_short _ (by omega), rfold_snoc]

theorem rsum_slid (l : List UInt8) (b : UInt8) (h : 16 ≤ l.length) : rsum (l ++ [b]) = rslide (rsum l) (l[l.length - 16]'(by omega)) b := by
  have e : last16 l = l[l.length - 16]'(by omega) :: l.drop (l.length - 15) := by
    unfold last16
    rw [List.drop_eq_getElem_cons (by omega), show l.length - 16 + 1 = l.length - 15 by omega]
  have e2 : last16 (l ++ [b]) = l.drop (l.length - 15) ++ [b] := by
    unfold last16
    rw [List.length_append, List.length_singleton, show l.length + 1 - 16 = l.length - 15 by omega, List.drop_append_of_le_length (by omega)]
  unfold rsum
  rw [e, e2, rslide_fold _ _ _ (by rw [List.length_drop]; omega)]

/-- A power of 257, one further. -/
theorem rpow_next (i : Nat) : 257 ^ i % 2147483647 * 257 % 2147483647 = 257 ^ (i + 1) % 2147483647 := by
  rw [Nat.pow_succ, Nat.mod_mul_mod]

/-- A ring of sixteen that holds the last bytes of a list, each at its place modulo 16. -/
def RingOf (l : List UInt8) (A : List UInt8) : Prop := A.length = 16 ∧ ∀ k, l.length - 16 ≤ k → ∀ h : k < l.length, A[k % 16]? = some l[k]

theorem RingOf.nil : RingOf [] (List.replicate 16 0) := ⟨by simp, fun k _ h => by simp at h⟩

theorem RingOf.push {l A : List UInt8} (h : RingOf l A) (b : UInt8) : RingOf (l ++ [b]) (A.set (l.length % 16) b) := by
  refine ⟨by rw [List.length_set]; exact h.1, fun k hk hk2 => ?_⟩
  rw [List.length_append, List.length_singleton] at hk hk2
  by_cases e : k = l.length
  · subst e
    rw [List.getElem?_set_self (by rw [h.1]; omega)]
    simp
  · have hk3 : k < l.length := by omega
    rw [List.getElem?_set_ne (by omega), List.getElem_append_left hk3]
    exact h.2 k (by omega) hk3

end Go.Proofs.YtimllddlcjnikaaDoor
