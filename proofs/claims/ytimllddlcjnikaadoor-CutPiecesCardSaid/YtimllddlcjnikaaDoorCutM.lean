/- Texts that are cut into chunks: the mathematics of stage 6, of no program. -/
import Derived.Test.YtimllddlcjnikaaDoorRollN
namespace Go.Proofs.YtimllddlcjnikaaDoor

/-! ### A text cut by a function that says where its first chunk ends, 0 where more is needed. -/
section
variable (f : List UInt8 → Nat)

/-- The chunks that end within a text, and what is left. -/
def dn (l : List UInt8) : List (List UInt8) × List UInt8 :=
  if _h : 0 < f l ∧ f l ≤ l.length then
    (l.take (f l) :: (dn (l.drop (f l))).1, (dn (l.drop (f l))).2)
  else ([], l)
termination_by l.length
decreasing_by all_goals (rw [List.length_drop]; omega)

/-- All chunks: those that end, and what is left, where it is not empty. -/
def spl (l : List UInt8) : List (List UInt8) := if (dn f l).2 = [] then (dn f l).1 else (dn f l).1 ++ [(dn f l).2]

variable {f}

theorem dn_zero {l : List UInt8} (h : f l = 0) : dn f l = ([], l) := by
  rw [dn, dif_neg (by omega)]

theorem dn_cut {l : List UInt8} (h : 0 < f l) (h2 : f l ≤ l.length) : dn f l = (l.take (f l) :: (dn f (l.drop (f l))).1, (dn f (l.drop (f l))).2) := by
  rw [dn, dif_pos ⟨h, h2⟩]

theorem dn_rest (hle : ∀ l, f l ≤ l.length) : ∀ n l, l.length ≤ n → f (dn f l).2 = 0 := by
  intro n
  induction n with
  | zero =>
    intro l hl
    have h0 : f l = 0 := by have := hle l; omega
    rw [dn_zero h0]; exact h0
  | succ n ih =>
    intro l hl
    by_cases h0 : f l = 0
    · rw [dn_zero h0]; exact h0
    · rw [dn_cut (by omega) (hle l)]
      exact ih _ (by rw [List.length_drop]; omega)

/-- What is behind a cut is cut as if alone; what ends stays. -/
theorem dn_more (hle : ∀ l, f l ≤ l.length) (hst : ∀ l m, 0 < f l → f (l ++ m) = f l) (m : List UInt8) :
    ∀ n l, l.length ≤ n → dn f (l ++ m) = ((dn f l).1 ++ (dn f ((dn f l).2 ++ m)).1, (dn f ((dn f l).2 ++ m)).2) := by
  intro n
  induction n with
  | zero =>
    intro l hl
    have h0 : f l = 0 := by have := hle l; omega
    rw [dn_zero h0]; rfl
  | succ n ih =>
    intro l hl
    by_cases h0 : f l = 0
    · rw [dn_zero h0]; rfl
    · have hl1 := hle l
      have e := hst l m (by omega)
      rw [dn_cut (l := l ++ m) (by omega) (by rw [e, List.length_append]; omega), e, List.take_append_of_le_length hl1, List.drop_append_of_le_length hl1, dn_cut (by omega) hl1]
      rw [ih (l.drop (f l)) (by rw [List.length_drop]; omega)]
      rfl

theorem dn_join (hle : ∀ l, f l ≤ l.length) : ∀ n l, l.length ≤ n → (dn f l).1.flatten ++ (dn f l).2 = l := by
  intro n
  induction n with
  | zero =>
    intro l hl
    have h0 : f l = 0 := by have := hle l; omega
    rw [dn_zero h0]; rfl
  | succ n ih =>
    intro l hl
    by_cases h0 : f l = 0
    · rw [dn_zero h0]; rfl
    · rw [dn_cut (by omega) (hle l)]
      simp only [List.flatten_cons, List.append_assoc]
      rw [ih _ (by rw [List.length_drop]; omega), List.take_append_drop]

theorem spl_join (hle : ∀ l, f l ≤ l.length) (l : List UInt8) : (spl f l).flatten = l := by
  have h := dn_join hle _ l (Nat.le_refl _)
  unfold spl
  split
  · rename_i e; rw [e, List.append_nil] at h; exact h
  · simpa using h

theorem spl_nil (hle : ∀ l, f l ≤ l.length) : spl f [] = [] := by
  have h0 : f [] = 0 := by have := hle []; simpa using this
  unfold spl
  rw [dn_zero h0]; rfl

/-- All chunks of a text, one by one. -/
theorem spl_zero {l : List UInt8} (h : f l = 0) (hl : l ≠ []) : spl f l = [l] := by
  unfold spl
  rw [dn_zero h]
  simp [hl]

theorem spl_cut {l : List UInt8} (h : 0 < f l) (h2 : f l ≤ l.length) : spl f l = l.take (f l) :: spl f (l.drop (f l)) := by
  unfold spl
  rw [dn_cut h h2]
  simp only
  split <;> rfl

theorem dn_pos (hle : ∀ l, f l ≤ l.length) : ∀ n l, l.length ≤ n → ∀ c ∈ (dn f l).1, c ≠ [] := by
  intro n
  induction n with
  | zero =>
    intro l hl c hc
    have h0 : f l = 0 := by have := hle l; omega
    rw [dn_zero h0] at hc; simp at hc
  | succ n ih =>
    intro l hl c hc
    by_cases h0 : f l = 0
    · rw [dn_zero h0] at hc; simp at hc
    · rw [dn_cut (by omega) (hle l)] at hc
      rcases List.mem_cons.1 hc with rfl | hc
      · intro e
        have := congrArg List.length e
        rw [List.length_take, List.length_nil] at this
        have := hle l
        omega
      · exact ih _ (by rw [List.length_drop]; omega) c hc
end

/-! ### Where the first chunk ends. -/
def seekUp (p : Nat → Bool) : Nat → Nat → Nat
  | _, 0 => 0
  | n, k + 1 => if p n then n else seekUp p (n + 1) k
def seekDown (p : Nat → Bool) : Nat → Nat → Nat
  | _, 0 => 0
  | n, k + 1 => if p n then n else seekDown p (n - 1) k

theorem seekUp_in (p : Nat → Bool) : ∀ k n, seekUp p n k = 0 ∨ (n ≤ seekUp p n k ∧ seekUp p n k < n + k ∧ p (seekUp p n k) = true)
  | 0, _ => Or.inl rfl
  | k + 1, n => by
    unfold seekUp
    by_cases h : p n = true
    · rw [if_pos h]; exact Or.inr ⟨Nat.le_refl _, by omega, h⟩
    · rw [if_neg h]
      rcases seekUp_in p k (n + 1) with e | ⟨h1, h2, h3⟩
      · exact Or.inl e
      · exact Or.inr ⟨by omega, by omega, h3⟩

theorem seekDown_in (p : Nat → Bool) : ∀ k n, k ≤ n → seekDown p n k = 0 ∨ (n < seekDown p n k + k ∧ seekDown p n k ≤ n ∧ p (seekDown p n k) = true)
  | 0, _, _ => Or.inl rfl
  | k + 1, n, hk => by
    unfold seekDown
    by_cases h : p n = true
    · rw [if_pos h]; exact Or.inr ⟨by omega, Nat.le_refl _, h⟩
    · rw [if_neg h]
      rcases seekDown_in p k (n - 1) (by omega) with e | ⟨h1, h2, h3⟩
      · exact Or.inl e
      · exact Or.inr ⟨by omega, by omega, h3⟩

theorem seekUp_congr (p q : Nat → Bool) : ∀ k n, (∀ i, n ≤ i → i < n + k → p i = q i) → seekUp p n k = seekUp q n k
  | 0, _, _ => rfl
  | k + 1, n, h => by
    unfold seekUp
    rw [h n (Nat.le_refl _) (by omega), seekUp_congr p q k (n + 1) (fun i h1 h2 => h i (by omega) (by omega))]

theorem seekDown_congr (p q : Nat → Bool) : ∀ k n, (∀ i, i ≤ n → p i = q i) → seekDown p n k = seekDown q n k
  | 0, _, _ => rfl
  | k + 1, n, h => by
    unfold seekDown
    rw [h n (Nat.le_refl _), seekDown_congr p q k (n - 1) (fun i h1 => h i (by omega))]

theorem seekUp_more (p : Nat → Bool) (m : Nat) : ∀ k n, seekUp p n k ≠ 0 → seekUp p n (k + m) = seekUp p n k
  | 0, _, h => absurd rfl h
  | k + 1, n, h => by
    have e : k + 1 + m = (k + m) + 1 := by omega
    rw [e]
    unfold seekUp at h ⊢
    by_cases hp : p n = true
    · rw [if_pos hp, if_pos hp]
    · rw [if_neg hp] at h ⊢
      rw [if_neg hp]
      exact seekUp_more p m k (n + 1) h

/-- Is the hash of the first n bytes one of a place, for a divisor? -/
def isAt (l : List UInt8) (d n : Nat) : Bool := rsum (l.take n) % d == d - 1

/-- The first chunk's end (settings that can cut): mn to mx bytes, main and backup divisors; 0 where more is needed. -/
def cutN (mn mx dm db : Nat) (l : List UInt8) : Nat :=
  let a := seekUp (isAt l dm) mn (min l.length mx + 1 - mn)
  if a ≠ 0 then a else if l.length < mx then 0 else
  let b := seekDown (isAt l db) mx (mx + 1 - mn)
  if b ≠ 0 then b else mx

theorem cutN_in (mn mx dm db : Nat) (h1 : 1 ≤ mn) (_h2 : mn ≤ mx) (l : List UInt8) : cutN mn mx dm db l = 0 ∨ (mn ≤ cutN mn mx dm db l ∧ cutN mn mx dm db l ≤ mx ∧ cutN mn mx dm db l ≤ l.length) := by
  unfold cutN
  simp only
  rcases seekUp_in (isAt l dm) (min l.length mx + 1 - mn) mn with e | ⟨e1, e2, _⟩
  · rw [e]
    simp only [ne_eq, not_true_eq_false, if_false]
    by_cases h : l.length < mx
    · rw [if_pos h]; exact Or.inl rfl
    · rw [if_neg h]
      rcases seekDown_in (isAt l db) (mx + 1 - mn) mx (by omega) with e | ⟨e1, e2, _⟩
      · rw [e]; simp only [not_true_eq_false, if_false]; right; omega
      · rw [if_pos (by omega)]; right; omega
  · rw [if_pos (by omega)]; right; omega

theorem cutN_le (mn mx dm db : Nat) (h1 : 1 ≤ mn) (h2 : mn ≤ mx) (l : List UInt8) : cutN mn mx dm db l ≤ l.length := by
  rcases cutN_in mn mx dm db h1 h2 l with h | h <;> omega

theorem isAt_more (l m : List UInt8) (d n : Nat) (h : n ≤ l.length) : isAt (l ++ m) d n = isAt l d n := by
  unfold isAt
  rw [List.take_append_of_le_length h]

/-- What comes behind does not bear on a chunk that ends. -/
theorem cutN_stay (mn mx dm db : Nat) (_h1 : 1 ≤ mn) (_h2 : mn ≤ mx) (l m : List UInt8) (h : 0 < cutN mn mx dm db l) : cutN mn mx dm db (l ++ m) = cutN mn mx dm db l := by
  have hup : ∀ k, mn + k ≤ l.length + 1 → seekUp (isAt (l ++ m) dm) mn k = seekUp (isAt l dm) mn k := fun k hk =>
    seekUp_congr _ _ k mn (fun i _ h2 => isAt_more l m dm i (by omega))
  have hlm : (l ++ m).length = l.length + m.length := List.length_append
  unfold cutN at h ⊢
  simp only at h ⊢
  by_cases ha : seekUp (isAt l dm) mn (min l.length mx + 1 - mn) = 0
  · rw [ha] at h
    simp only [ne_eq, not_true_eq_false, if_false] at h
    have hx : ¬ l.length < mx := by
      intro hx
      rw [if_pos hx] at h
      omega
    have e1 : min (l ++ m).length mx = mx := by omega
    have e2 : min l.length mx = mx := by omega
    rw [e2] at ha ⊢
    rw [e1, hup _ (by omega), ha]
    simp only [ne_eq, not_true_eq_false, if_false]
    rw [if_neg (by omega), if_neg hx]
    rw [seekDown_congr (isAt (l ++ m) db) (isAt l db) _ mx (fun i hi => isAt_more l m db i (by omega))]
  · have hne : min l.length mx + 1 - mn ≠ 0 := by
      intro e; rw [e] at ha; exact ha rfl
    obtain ⟨q, hq⟩ : ∃ q, min (l ++ m).length mx + 1 - mn = (min l.length mx + 1 - mn) + q := ⟨min (l ++ m).length mx - min l.length mx, by omega⟩
    have e3 : seekUp (isAt (l ++ m) dm) mn (min l.length mx + 1 - mn) = seekUp (isAt l dm) mn (min l.length mx + 1 - mn) := hup _ (by omega)
    have e4 := seekUp_more (isAt (l ++ m) dm) q (min l.length mx + 1 - mn) mn (by rw [e3]; exact ha)
    rw [hq, e4, e3, if_pos ha, if_pos ha]

end Go.Proofs.YtimllddlcjnikaaDoor
