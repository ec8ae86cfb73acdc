/- Weights as two whole numbers: bytes times powers of i. Of no program. -/
import Derived.IntWalk
namespace Go.Proofs.YtmobkjdncfdokaaDoor

/-- The parts of i to the power k. -/
def pr (k : Nat) : Int := if k % 4 = 0 then 1 else if k % 4 = 2 then -1 else 0
def pi (k : Nat) : Int := if k % 4 = 1 then 1 else if k % 4 = 3 then -1 else 0

theorem pr_next (k : Nat) : pr (k + 1) = -(pi k) := by
  unfold pr pi
  have h : k % 4 = 0 ∨ k % 4 = 1 ∨ k % 4 = 2 ∨ k % 4 = 3 := by omega
  rcases h with h | h | h | h
  · rw [show (k + 1) % 4 = 1 by omega, h]; rfl
  · rw [show (k + 1) % 4 = 2 by omega, h]; rfl
  · rw [show (k + 1) % 4 = 3 by omega, h]; rfl
  · rw [show (k + 1) % 4 = 0 by omega, h]; rfl

theorem pi_next (k : Nat) : pi (k + 1) = pr k := by
  unfold pr pi
  have h : k % 4 = 0 ∨ k % 4 = 1 ∨ k % 4 = 2 ∨ k % 4 = 3 := by omega
  rcases h with h | h | h | h
  · rw [show (k + 1) % 4 = 1 by omega, h]; rfl
  · rw [show (k + 1) % 4 = 2 by omega, h]; rfl
  · rw [show (k + 1) % 4 = 3 by omega, h]; rfl
  · rw [show (k + 1) % 4 = 0 by omega, h]; rfl

theorem pr_abs (k : Nat) : -1 ≤ pr k ∧ pr k ≤ 1 := by unfold pr; split <;> (try split) <;> omega
theorem pi_abs (k : Nat) : -1 ≤ pi k ∧ pi k ≤ 1 := by unfold pi; split <;> (try split) <;> omega
theorem pr_mod (k : Nat) : pr k = pr (k % 4) := by unfold pr; rw [Nat.mod_mod]
theorem pi_mod (k : Nat) : pi k = pi (k % 4) := by unfold pi; rw [Nat.mod_mod]

/-- The parts of the weight of bytes the first of which stands at k. -/
def wRe : Nat → List UInt8 → Int
  | _, [] => 0
  | k, b :: l => (b.toNat : Int) * pr k + wRe (k + 1) l
def wIm : Nat → List UInt8 → Int
  | _, [] => 0
  | k, b :: l => (b.toNat : Int) * pi k + wIm (k + 1) l

theorem wRe_append : ∀ (k : Nat) (a b : List UInt8), wRe k (a ++ b) = wRe k a + wRe (k + a.length) b
  | k, [], b => by simp [wRe]
  | k, x :: a, b => by
    simp only [List.cons_append, wRe, List.length_cons]
    rw [wRe_append (k + 1) a b, show k + 1 + a.length = k + (a.length + 1) by omega]
    omega
theorem wIm_append : ∀ (k : Nat) (a b : List UInt8), wIm k (a ++ b) = wIm k a + wIm (k + a.length) b
  | k, [], b => by simp [wIm]
  | k, x :: a, b => by
    simp only [List.cons_append, wIm, List.length_cons]
    rw [wIm_append (k + 1) a b, show k + 1 + a.length = k + (a.length + 1) by omega]
    omega

theorem wRe_take (l : List UInt8) (i : Nat) (h : i < l.length) : wRe 0 (l.take (i + 1)) = wRe 0 (l.take i) + (l[i].toNat : Int) * pr i := by
  rw [List.take_succ_eq_append_getElem h, wRe_append, List.length_take, Nat.min_eq_left (by omega)]
  simp [wRe]
theorem wIm_take (l : List UInt8) (i : Nat) (h : i < l.length) : wIm 0 (l.take (i + 1)) = wIm 0 (l.take i) + (l[i].toNat : Int) * pi i := by
  rw [List.take_succ_eq_append_getElem h, wIm_append, List.length_take, Nat.min_eq_left (by omega)]
  simp [wIm]

theorem mul_abs (b : UInt8) (p : Int) (h : -1 ≤ p ∧ p ≤ 1) : -255 ≤ (b.toNat : Int) * p ∧ (b.toNat : Int) * p ≤ 255 := by
  have hb := b.toNat_lt
  have h3 : p = -1 ∨ p = 0 ∨ p = 1 := by omega
  rcases h3 with rfl | rfl | rfl <;> omega

theorem wRe_abs : ∀ (k : Nat) (l : List UInt8), -(255 * (l.length : Int)) ≤ wRe k l ∧ wRe k l ≤ 255 * (l.length : Int)
  | _, [] => by simp [wRe]
  | k, b :: l => by
    have h := wRe_abs (k + 1) l
    have hm := mul_abs b (pr k) (pr_abs k)
    simp only [wRe, List.length_cons]
    omega
theorem wIm_abs : ∀ (k : Nat) (l : List UInt8), -(255 * (l.length : Int)) ≤ wIm k l ∧ wIm k l ≤ 255 * (l.length : Int)
  | _, [] => by simp [wIm]
  | k, b :: l => by
    have h := wIm_abs (k + 1) l
    have hm := mul_abs b (pi k) (pi_abs k)
    simp only [wIm, List.length_cons]
    omega

/-! ### Turned. -/
/-- A weight turned so many times. -/
def rot : Nat → Int × Int → Int × Int
  | 0, z => z
  | n + 1, z => rot n (-z.2, z.1)

theorem rot_add : ∀ (m n : Nat) (z : Int × Int), rot (m + n) z = rot n (rot m z)
  | 0, n, z => by rw [Nat.zero_add]; rfl
  | m + 1, n, z => by
    rw [show m + 1 + n = (m + n) + 1 by omega]
    exact rot_add m n _

theorem rot_four (z : Int × Int) : rot 4 z = z := by simp [rot]

theorem rot_mod (n : Nat) (z : Int × Int) : rot (n % 4) z = rot n z := by
  have h : ∀ k (z : Int × Int), rot (4 * k) z = z := by
    intro k
    induction k with
    | zero => intro z; rfl
    | succ k ih => intro z; rw [show 4 * (k + 1) = 4 + 4 * k by omega, rot_add, rot_four, ih]
  conv => rhs; rw [show n = 4 * (n / 4) + n % 4 by omega, rot_add, h]

theorem rot_succ (n : Nat) (z : Int × Int) : rot (n + 1) z = (-(rot n z).2, (rot n z).1) := by rw [rot_add]; rfl

theorem rot_abs (B : Int) : ∀ (n : Nat) (z : Int × Int), (-B ≤ z.1 ∧ z.1 ≤ B) ∧ (-B ≤ z.2 ∧ z.2 ≤ B) → (-B ≤ (rot n z).1 ∧ (rot n z).1 ≤ B) ∧ (-B ≤ (rot n z).2 ∧ (rot n z).2 ≤ B)
  | 0, _, h => h
  | n + 1, z, h => rot_abs B n (-z.2, z.1) ⟨by simp only; omega, by simp only; omega⟩

theorem rot_one (n : Nat) : rot n (1, 0) = (pr n, pi n) := by
  induction n with
  | zero => rfl
  | succ n ih => rw [rot_succ, ih, pr_next, pi_next]

theorem w_shift : ∀ (k : Nat) (l : List UInt8), wRe (k + 1) l = -(wIm k l) ∧ wIm (k + 1) l = wRe k l
  | _, [] => by simp [wRe, wIm]
  | k, b :: l => by
    have h := w_shift (k + 1) l
    simp only [wRe, wIm]
    rw [h.1, h.2, pr_next, pi_next]
    constructor
    · rw [Int.mul_neg]; omega
    · rfl

theorem w_rot (k n : Nat) (l : List UInt8) : (wRe (k + n) l, wIm (k + n) l) = rot n (wRe k l, wIm k l) := by
  induction n with
  | zero => rfl
  | succ n ih =>
    rw [rot_succ, ← ih, show k + (n + 1) = (k + n) + 1 by omega, (w_shift (k + n) l).1, (w_shift (k + n) l).2]

/-- The weight of a text, by those of its parts. -/
theorem w_join (l : List UInt8) (k : Nat) (hk : k ≤ l.length) :
    wRe 0 l = wRe 0 (l.take k) + (rot k (wRe 0 (l.drop k), wIm 0 (l.drop k))).1 ∧ wIm 0 l = wIm 0 (l.take k) + (rot k (wRe 0 (l.drop k), wIm 0 (l.drop k))).2 := by
  have e := w_rot 0 k (l.drop k)
  have hl : (l.take k).length = k := by rw [List.length_take, Nat.min_eq_left hk]
  have h1 := wRe_append 0 (l.take k) (l.drop k)
  have h2 := wIm_append 0 (l.take k) (l.drop k)
  rw [List.take_append_drop, hl] at h1 h2
  rw [← e]
  exact ⟨h1, h2⟩

/-! ### Bytes that change places. -/
theorem wRe_set : ∀ (l : List UInt8) (k i : Nat) (b : UInt8) (h : i < l.length), wRe k (l.set i b) = wRe k l + ((b.toNat : Int) - (l[i].toNat : Int)) * pr (k + i)
  | [], _, _, _, h => by simp at h
  | x :: l, k, 0, b, h => by
    simp only [List.set_cons_zero, wRe, List.getElem_cons_zero, Nat.add_zero]
    rw [Int.sub_mul]; omega
  | x :: l, k, i + 1, b, h => by
    have h' : i < l.length := by simpa using h
    simp only [List.set_cons_succ, wRe, List.getElem_cons_succ]
    rw [wRe_set l (k + 1) i b h', show k + 1 + i = k + (i + 1) by omega]
    omega
theorem wIm_set : ∀ (l : List UInt8) (k i : Nat) (b : UInt8) (h : i < l.length), wIm k (l.set i b) = wIm k l + ((b.toNat : Int) - (l[i].toNat : Int)) * pi (k + i)
  | [], _, _, _, h => by simp at h
  | x :: l, k, 0, b, h => by
    simp only [List.set_cons_zero, wIm, List.getElem_cons_zero, Nat.add_zero]
    rw [Int.sub_mul]; omega
  | x :: l, k, i + 1, b, h => by
    have h' : i < l.length := by simpa using h
    simp only [List.set_cons_succ, wIm, List.getElem_cons_succ]
    rw [wIm_set l (k + 1) i b h', show k + 1 + i = k + (i + 1) by omega]
    omega

theorem w_swap (l : List UInt8) (a b : Nat) (ha : a < l.length) (hb : b < l.length) (h : a % 4 = b % 4) :
    wRe 0 ((l.set a l[b]).set b l[a]) = wRe 0 l ∧ wIm 0 ((l.set a l[b]).set b l[a]) = wIm 0 l := by
  have hb' : b < (l.set a l[b]).length := by rw [List.length_set]; exact hb
  have e : (l.set a l[b])[b] = l[b] := by
    rw [List.getElem_set]
    split <;> rfl
  rw [wRe_set _ 0 b _ hb', wIm_set _ 0 b _ hb', wRe_set l 0 a _ ha, wIm_set l 0 a _ ha, e, Nat.zero_add, Nat.zero_add, pr_mod a, pi_mod a, pr_mod b, pi_mod b, h]
  have key : ∀ x y p : Int, (x - y) * p + (y - x) * p = 0 := fun x y p => by rw [← Int.add_mul, show x - y + (y - x) = 0 by omega, Int.zero_mul]
  constructor
  · have := key l[b].toNat l[a].toNat (pr (b % 4)); omega
  · have := key l[b].toNat l[a].toNat (pi (b % 4)); omega

end Go.Proofs.YtmobkjdncfdokaaDoor
