/- Texts that are cut into chunks: the mathematics of stage 6, of no program. The search for a chunk's end: its mathematics, of no program. The walks of a search: isLast, step. The walks of May, of the document's May; of a new search. -/
import Derived.Test.YtlmccnelhpnneaaGF
namespace Go.Proofs.Ytlmccnelhpnneaa

/-! ### A text cut by a function that says where its first chunk ends, 0 where more is needed. -/
section
variable (f : List UInt8 → Nat)

/-- The chunks that end within a text, and what is left. -/
def dn (l : List UInt8) : List (List UInt8) × List UInt8 :=
  if _h : 0 < f l ∧ f l ≤ l.length then
    (l.take (f l) :: (dn (l.drop (f l))).1, (dn (l.drop (f l))).2)
  else ([], l)
termination_by l.length
decreasing_by all_goals (rw [List.length_drop]; omega)

/-- All chunks: those that end, and what is left, where it is not empty. -/
def spl (l : List UInt8) : List (List UInt8) := if (dn f l).2 = [] then (dn f l).1 else (dn f l).1 ++ [(dn f l).2]

variable {f}

theorem dn_zero {l : List UInt8} (h : f l = 0) : dn f l = ([], l) := by
  rw [dn, dif_neg (by omega)]

theorem dn_cut {l : List UInt8} (h : 0 < f l) (h2 : f l ≤ l.length) : dn f l = (l.take (f l) :: (dn f (l.drop (f l))).1, (dn f (l.drop (f l))).2) := by
  rw [dn, dif_pos ⟨h, h2⟩]

theorem dn_rest (hle : ∀ l, f l ≤ l.length) : ∀ n l, l.length ≤ n → f (dn f l).2 = 0 := by
  intro n
  induction n with
  | zero =>
    intro l hl
    have h0 : f l = 0 := by have := hle l; omega
    rw [dn_zero h0]; exact h0
  | succ n ih =>
    intro l hl
    by_cases h0 : f l = 0
    · rw [dn_zero h0]; exact h0
    · rw [dn_cut (by omega) (hle l)]
      exact ih _ (by rw [List.length_drop]; omega)

/-- What is behind a cut is cut as if alone; what ends stays. -/
theorem dn_more (hle : ∀ l, f l ≤ l.length) (hst : ∀ l m, 0 < f l → f (l ++ m) = f l) (m : List UInt8) :
    ∀ n l, l.length ≤ n → dn f (l ++ m) = ((dn f l).1 ++ (dn f ((dn f l).2 ++ m)).1, (dn f ((dn f l).2 ++ m)).2) := by
  intro n
  induction n with
  | zero =>
    intro l hl
    have h0 : f l = 0 := by have := hle l; omega
    rw [dn_zero h0]; rfl
  | succ n ih =>
    intro l hl
    by_cases h0 : f l = 0
    · rw [dn_zero h0]; rfl
    · have hl1 := hle l
      have e := hst l m (by omega)
      rw [dn_cut (l := l ++ m) (by omega) (by rw [e, List.length_append]; omega), e, List.take_append_of_le_length hl1, List.drop_append_of_le_length hl1, dn_cut (by omega) hl1]
      rw [ih (l.drop (f l)) (by rw [List.length_drop]; omega)]
      rfl

theorem dn_join (hle : ∀ l, f l ≤ l.length) : ∀ n l, l.length ≤ n → (dn f l).1.flatten ++ (dn f l).2 = l := by
  intro n
  induction n with
  | zero =>
    intro l hl
    have h0 : f l = 0 := by have := hle l; omega
    rw [dn_zero h0]; rfl
  | succ n ih =>
    intro l hl
    by_cases h0 : f l = 0
    · rw [dn_zero h0]; rfl
    · rw [dn_cut (by omega) (hle l)]
      simp only [List.flatten_cons, List.append_assoc]
      rw [ih _ (by rw [List.length_drop]; omega), List.take_append_drop]

theorem spl_join (hle : ∀ l, f l ≤ l.length) (l : List UInt8) : (spl f l).flatten = l := by
  have h := dn_join hle _ l (Nat.le_refl _)
  unfold spl
  split
  · rename_i e; rw [e, List.append_nil] at h; exact h
  · simpa using h

theorem spl_nil (hle : ∀ l, f l ≤ l.length) : spl f [] = [] := by
  have h0 : f [] = 0 := by have := hle []; simpa using this
  unfold spl
  rw [dn_zero h0]; rfl

/-- All chunks of a text, one by one. -/
theorem spl_zero {l : List UInt8} (h : f l = 0) (hl : l ≠ []) : spl f l = [l] := by
  unfold spl
  rw [dn_zero h]
  simp [hl]

theorem spl_cut {l : List UInt8} (h : 0 < f l) (h2 : f l ≤ l.length) : spl f l = l.take (f l) :: spl f (l.drop (f l)) := by
  unfold spl
  rw [dn_cut h h2]
  simp only
  split <;> rfl

theorem dn_pos (hle : ∀ l, f l ≤ l.length) : ∀ n l, l.length ≤ n → ∀ c ∈ (dn f l).1, c ≠ [] := by
  intro n
  induction n with
  | zero =>
    intro l hl c hc
    have h0 : f l = 0 := by have := hle l; omega
    rw [dn_zero h0] at hc; simp at hc
  | succ n ih =>
    intro l hl c hc
    by_cases h0 : f l = 0
    · rw [dn_zero h0] at hc; simp at hc
    · rw [dn_cut (by omega) (hle l)] at hc
      rcases List.mem_cons.1 hc with rfl | hc
      · intro e
        have := congrArg List.length e
        rw [List.length_take, List.length_nil] at this
        have := hle l
        omega
      · exact ih _ (by rw [List.length_drop]; omega) c hc
end

/-! ### Where the first chunk ends. -/
def seekUp (p : Nat → Bool) : Nat → Nat → Nat
  | _, 0 => 0
  | n, k + 1 => if p n then n else seekUp p (n + 1) k
def seekDown (p : Nat → Bool) : Nat → Nat → Nat
  | _, 0 => 0
  | n, k + 1 => if p n then n else seekDown p (n - 1) k

theorem seekUp_in (p : Nat → Bool) : ∀ k n, seekUp p n k = 0 ∨ (n ≤ seekUp p n k ∧ seekUp p n k < n + k ∧ p (seekUp p n k) = true)
  | 0, _ => Or.inl rfl
  | k + 1, n => by
    unfold seekUp
    by_cases h : p n = true
    · rw [if_pos h]; exact Or.inr ⟨Nat.le_refl _, by omega, h⟩
    · rw [if_neg h]
      rcases seekUp_in p k (n + 1) with e | ⟨h1, h2, h3⟩
      · exact Or.inl e
      · exact Or.inr ⟨by omega, by omega, h3⟩

theorem seekDown_in (p : Nat → Bool) : ∀ k n, k ≤ n → seekDown p n k = 0 ∨ (n < seekDown p n k + k ∧ seekDown p n k ≤ n ∧ p (seekDown p n k) = true)
  | 0, _, _ => Or.inl rfl
  | k + 1, n, hk => by
    unfold seekDown
    by_cases h : p n = true
    · rw [if_pos h]; exact Or.inr ⟨by omega, Nat.le_refl _, h⟩
    · rw [if_neg h]
      rcases seekDown_in p k (n - 1) (by omega) with e | ⟨h1, h2, h3⟩
      · exact Or.inl e
      · exact Or.inr ⟨by omega, by omega, h3⟩

theorem seekUp_congr (p q : Nat → Bool) : ∀ k n, (∀ i, n ≤ i → i < n + k → p i = q i) → seekUp p n k = seekUp q n k
  | 0, _, _ => rfl
  | k + 1, n, h => by
    unfold seekUp
    rw [h n (Nat.le_refl _) (by omega), seekUp_congr p q k (n + 1) (fun i h1 h2 => h i (by omega) (by omega))]

theorem seekDown_congr (p q : Nat → Bool) : ∀ k n, (∀ i, i ≤ n → p i = q i) → seekDown p n k = seekDown q n k
  | 0, _, _ => rfl
  | k + 1, n, h => by
    unfold seekDown
    rw [h n (Nat.le_refl _), seekDown_congr p q k (n - 1) (fun i h1 => h i (by omega))]

theorem seekUp_more (p : Nat → Bool) (m : Nat) : ∀ k n, seekUp p n k ≠ 0 → seekUp p n (k + m) = seekUp p n k
  | 0, _, h => absurd rfl h
  | k + 1, n, h => by
    have e : k + 1 + m = (k + m) + 1 := by omega
    rw [e]
    unfold seekUp at h ⊢
    by_cases hp : p n = true
    · rw [if_pos hp, if_pos hp]
    · rw [if_neg hp] at h ⊢
      rw [if_neg hp]
      exact seekUp_more p m k (n + 1) h

/-- Is the hash of the first n bytes one of a place, for a divisor? -/
def isAt (l : List UInt8) (d n : Nat) : Bool := rsum (l.take n) % d == d - 1

/-- The first chunk's end (settings that can cut): mn to mx bytes, main and backup divisors; 0 where more is needed. -/
def cutN (mn mx dm db : Nat) (l : List UInt8) : Nat :=
  let a := seekUp (isAt l dm) mn (min l.length mx + 1 - mn)
  if a ≠ 0 then a else if l.length < mx then 0 else
  let b := seekDown (isAt l db) mx (mx + 1 - mn)
  if b ≠ 0 then b else mx

theorem cutN_in (mn mx dm db : Nat) (h1 : 1 ≤ mn) (_h2 : mn ≤ mx) (l : List UInt8) : cutN mn mx dm db l = 0 ∨ (mn ≤ cutN mn mx dm db l ∧ cutN mn mx dm db l ≤ mx ∧ cutN mn mx dm db l ≤ l.length) := by
  unfold cutN
  simp only
  rcases seekUp_in (isAt l dm) (min l.length mx + 1 - mn) mn with e | ⟨e1, e2, _⟩
  · rw [e]
    simp only [ne_eq, not_true_eq_false, if_false]
    by_cases h : l.length < mx
    · rw [if_pos h]; exact Or.inl rfl
    · rw [if_neg h]
      rcases seekDown_in (isAt l db) (mx + 1 - mn) mx (by omega) with e | ⟨e1, e2, _⟩
      · rw [e]; simp only [not_true_eq_false, if_false]; right; omega
      · rw [if_pos (by omega)]; right; omega
  · rw [if_pos (by omega)]; right; omega

theorem cutN_le (mn mx dm db : Nat) (h1 : 1 ≤ mn) (h2 : mn ≤ mx) (l : List UInt8) : cutN mn mx dm db l ≤ l.length := by
  rcases cutN_in mn mx dm db h1 h2 l with h | h <;> omega

theorem isAt_more (l m : List UInt8) (d n : Nat) (h : n ≤ l.length) : isAt (l ++ m) d n = isAt l d n := by
  unfold isAt
  rw [List.take_append_of_le_length h]

/-- What comes behind does not bear on a chunk that ends. -/
theorem cutN_stay (mn mx dm db : Nat) (_h1 : 1 ≤ mn) (_h2 : mn ≤ mx) (l m : List UInt8) (h : 0 < cutN mn mx dm db l) : cutN mn mx dm db (l ++ m) = cutN mn mx dm db l := by
  have hup : ∀ k, mn + k ≤ l.length + 1 → seekUp (isAt (l ++ m) dm) mn k = seekUp (isAt l dm) mn k := fun k hk =>
    seekUp_congr _ _ k mn (fun i _ h2 => isAt_more l m dm i (by omega))
  have hlm : (l ++ m).length = l.length + m.length := List.length_append
  unfold cutN at h ⊢
  simp only at h ⊢
  by_cases ha : seekUp (isAt l dm) mn (min l.length mx + 1 - mn) = 0
  · rw [ha] at h
    simp only [ne_eq, not_true_eq_false, if_false] at h
    have hx : ¬ l.length < mx := by
      intro hx
      rw [if_pos hx] at h
      omega
    have e1 : min (l ++ m).length mx = mx := by omega
    have e2 : min l.length mx = mx := by omega
    rw [e2] at ha ⊢
    rw [e1, hup _ (by omega), ha]
    simp only [ne_eq, not_true_eq_false, if_false]
    rw [if_neg (by omega), if_neg hx]
    rw [seekDown_congr (isAt (l ++ m) db) (isAt l db) _ mx (fun i hi => isAt_more l m db i (by omega))]
  · have hne : min l.length mx + 1 - mn ≠ 0 := by
      intro e; rw [e] at ha; exact ha rfl
    obtain ⟨q, hq⟩ : ∃ q, min (l ++ m).length mx + 1 - mn = (min l.length mx + 1 - mn) + q := ⟨min (l ++ m).length mx - min l.length mx, by omega⟩
    have e3 : seekUp (isAt (l ++ m) dm) mn (min l.length mx + 1 - mn) = seekUp (isAt l dm) mn (min l.length mx + 1 - mn) := hup _ (by omega)
    have e4 := seekUp_more (isAt (l ++ m) dm) q (min l.length mx + 1 - mn) mn (by rw [e3]; exact ha)
    rw [hq, e4, e3, if_pos ha, if_pos ha]

end Go.Proofs.Ytlmccnelhpnneaa
namespace Go.Proofs.Ytlmccnelhpnneaa

def lastB (h d : Nat) : Bool := h % d == d - 1
theorem isAt_last (l : List UInt8) (d n : Nat) : isAt l d n = lastB (rsum (l.take n)) d := rfl

/-- How far the end of a text's first chunk was searched for. -/
structure Srch (mn mx dm db : Nat) (l : List UInt8) (n fr h k : Nat) : Prop where
  lo : mn ≤ n + 1
  hi : n + 1 = mn ∨ n ≤ l.length
  top : n ≤ mx
  main : ∀ p, mn ≤ p → p ≤ n → isAt l dm p = false
  f16 : 16 ≤ fr
  fmn : mn ≤ fr
  fmx : fr ≤ 4097
  skip : ∀ p, 16 ≤ p → mn ≤ p → p < fr → p ≤ l.length ∧ p ≤ mx ∧ isAt l dm p = false ∧ isAt l db p = false
  back : (k = 0 ∧ ∀ p, mn ≤ p → p ≤ n → isAt l db p = false) ∨ (mn ≤ k ∧ k ≤ n ∧ isAt l db k = true ∧ ∀ p, k < p → p ≤ n → isAt l db p = false)
  hash : fr ≤ n → h = rsum (l.take n)

variable {mn mx dm db : Nat} {l : List UInt8} {n fr h k : Nat}

theorem Srch.start (h1 : 1 ≤ mn) (h2 : mn ≤ mx) (h3 : mx ≤ 4096) (l : List UInt8) : Srch mn mx dm db l (mn - 1) (max mn 16) 0 0 where
  lo := by omega
  hi := Or.inl (by omega)
  top := by omega
  main := fun p a b => by omega
  f16 := by omega
  fmn := by omega
  fmx := by omega
  skip := fun p a b c => by omega
  back := Or.inl ⟨rfl, fun p a b => by omega⟩
  hash := fun a => by omega

theorem Srch.jump (s : Srch mn mx dm db l n fr h k) (hn : 15 ≤ n) : Srch mn mx dm db l (max n (fr - 1)) fr h k := by
  by_cases hc : fr - 1 ≤ n
  · rw [Nat.max_eq_left hc]; exact s
  · rw [Nat.max_eq_right (by omega)]
    have hlo := s.lo
    have hf := s.skip (fr - 1) (by omega) (by omega) (by omega)
    have hsk := s.skip
    exact {
      lo := by omega
      hi := Or.inr hf.1
      top := hf.2.1
      main := fun p a b => by
        by_cases hp : p ≤ n
        · exact s.main p a hp
        · exact (hsk p (by omega) a (by omega)).2.2.1
      f16 := s.f16
      fmn := s.fmn
      fmx := s.fmx
      skip := hsk
      back := by
        rcases s.back with ⟨a, b⟩ | ⟨a, b, c, d⟩
        · refine Or.inl ⟨a, fun p x y => ?_⟩
          by_cases hp : p ≤ n
          · exact b p x hp
          · exact (hsk p (by omega) x (by omega)).2.2.2
        · refine Or.inr ⟨a, by omega, c, fun p x y => ?_⟩
          by_cases hp : p ≤ n
          · exact d p x hp
          · exact (hsk p (by omega) (by omega) (by omega)).2.2.2
      hash := fun a => by have := s.f16; omega }

theorem Srch.step (s : Srch mn mx dm db l n fr h k) (h1 : n < l.length) (h2 : n < mx) (hm : isAt l dm (n + 1) = false) :
    Srch mn mx dm db l (n + 1) fr (rsum (l.take (n + 1))) (if isAt l db (n + 1) then n + 1 else k) where
  lo := by have := s.lo; omega
  hi := Or.inr (by omega)
  top := by omega
  main := fun p a b => by
    by_cases hp : p ≤ n
    · exact s.main p a hp
    · obtain rfl : p = n + 1 := by omega
      exact hm
  f16 := s.f16
  fmn := s.fmn
  fmx := s.fmx
  skip := s.skip
  back := by
    have hlo := s.lo
    by_cases hb : isAt l db (n + 1) = true
    · rw [if_pos hb]
      exact Or.inr ⟨by omega, by omega, hb, fun p x y => by omega⟩
    · rw [if_neg hb]
      have hb' : isAt l db (n + 1) = false := by simpa using hb
      rcases s.back with ⟨a, b⟩ | ⟨a, b, c, d⟩
      · refine Or.inl ⟨a, fun p x y => ?_⟩
        by_cases hp : p ≤ n
        · exact b p x hp
        · obtain rfl : p = n + 1 := by omega
          exact hb'
      · refine Or.inr ⟨a, by omega, c, fun p x y => ?_⟩
        by_cases hp : p ≤ n
        · exact d p x hp
        · obtain rfl : p = n + 1 := by omega
          exact hb'
  hash := fun _ => rfl

theorem seekUp_find (p : Nat → Bool) (m : Nat) : ∀ k n, n ≤ m → m < n + k → (∀ i, n ≤ i → i < m → p i = false) → p m = true → seekUp p n k = m
  | 0, _, _, h2, _, _ => by omega
  | k + 1, n, h1, h2, h3, h4 => by
    unfold seekUp
    by_cases e : n = m
    · subst e; rw [if_pos h4]
    · rw [if_neg (by rw [h3 n (Nat.le_refl _) (by omega)]; simp)]
      exact seekUp_find p m k (n + 1) (by omega) (by omega) (fun i a b => h3 i (by omega) b) h4

theorem seekUp_none (p : Nat → Bool) : ∀ k n, (∀ i, n ≤ i → i < n + k → p i = false) → seekUp p n k = 0
  | 0, _, _ => rfl
  | k + 1, n, h => by
    unfold seekUp
    rw [if_neg (by rw [h n (Nat.le_refl _) (by omega)]; simp)]
    exact seekUp_none p k (n + 1) (fun i a b => h i (by omega) (by omega))

theorem seekDown_find (p : Nat → Bool) (m : Nat) : ∀ k n, m ≤ n → n < m + k → (∀ i, m < i → i ≤ n → p i = false) → p m = true → seekDown p n k = m
  | 0, _, _, h2, _, _ => by omega
  | k + 1, n, h1, h2, h3, h4 => by
    unfold seekDown
    by_cases e : n = m
    · subst e; rw [if_pos h4]
    · rw [if_neg (by rw [h3 n (by omega) (Nat.le_refl _)]; simp)]
      exact seekDown_find p m k (n - 1) (by omega) (by omega) (fun i a b => h3 i a (by omega)) h4

theorem seekDown_none (p : Nat → Bool) : ∀ k n, (∀ i, i ≤ n → n < i + k → p i = false) → seekDown p n k = 0
  | 0, _, _ => rfl
  | k + 1, n, h => by
    unfold seekDown
    rw [if_neg (by rw [h n (Nat.le_refl _) (by omega)]; simp)]
    exact seekDown_none p k (n - 1) (fun i a b => h i (by omega) (by omega))

theorem Srch.found (s : Srch mn mx dm db l n fr h k) (h1 : n < l.length) (h2 : n < mx) (hm : isAt l dm (n + 1) = true) : cutN mn mx dm db l = n + 1 := by
  have hlo := s.lo
  unfold cutN
  rw [seekUp_find (isAt l dm) (n + 1) _ mn (by omega) (by omega) (fun i a b => s.main i a (by omega)) hm]
  simp

theorem Srch.none_up (s : Srch mn mx dm db l n fr h k) (h1 : min l.length mx ≤ n) : seekUp (isAt l dm) mn (min l.length mx + 1 - mn) = 0 := by
  have hlo := s.lo
  exact seekUp_none _ _ _ (fun i a b => s.main i a (by omega))

theorem Srch.more (s : Srch mn mx dm db l n fr h k) (h1 : min l.length mx ≤ n) (h2 : l.length < mx) : cutN mn mx dm db l = 0 := by
  unfold cutN
  simp only
  rw [s.none_up h1, if_neg (by simp), if_pos h2]

theorem Srch.none (s : Srch mn mx dm db l n fr h k) (h0 : 1 ≤ mn) (h1 : mx ≤ l.length) (h2 : mx ≤ n) : n = mx ∧ cutN mn mx dm db l = (if 0 < k then k else mx) := by
  have ht := s.top
  obtain rfl : n = mx := by omega
  refine ⟨rfl, ?_⟩
  unfold cutN
  simp only
  rw [s.none_up (by omega), if_neg (by simp), if_neg (by omega)]
  rcases s.back with ⟨a, b⟩ | ⟨a, b, c, d⟩
  · rw [seekDown_none (isAt l db) _ n (fun i x y => b i (by omega) x), a]
    simp
  · rw [seekDown_find (isAt l db) k _ n b (by omega) (fun i x y => d i x y) c, if_pos (by omega), if_pos (by omega)]

/-- A chunk of r bytes ends, and the places from there up to n are of neither kind. -/
structure Ended (mx dm db : Nat) (l : List UInt8) (r n : Nat) : Prop where
  pos : 0 < r
  le : r ≤ n
  len : n ≤ l.length
  top : n ≤ mx
  none : ∀ p, r < p → p ≤ n → isAt l dm p = false ∧ isAt l db p = false

theorem Srch.ended_found (_s : Srch mn mx dm db l n fr h k) (h1 : n < l.length) (h2 : n < mx) : Ended mx dm db l (n + 1) (n + 1) where
  pos := by omega
  le := Nat.le_refl _
  len := by omega
  top := by omega
  none := fun p a b => by omega

theorem Srch.ended_none (s : Srch mn mx dm db l n fr h k) (h0 : 1 ≤ mn) (hx : mn ≤ mx) (h1 : mx ≤ l.length) (h2 : mx ≤ n) : Ended mx dm db l (if 0 < k then k else mx) n := by
  have ht := s.top
  obtain rfl : n = mx := by omega
  rcases s.back with ⟨a, b⟩ | ⟨a, b, c, d⟩
  · rw [if_neg (by omega)]
    exact ⟨by omega, Nat.le_refl _, h1, Nat.le_refl _, fun p a b => by omega⟩
  · rw [if_pos (by omega)]
    exact ⟨by omega, b, h1, Nat.le_refl _, fun p x y => ⟨s.main p (by omega) y, d p x y⟩⟩

theorem isAt_drop (l : List UInt8) (d r p : Nat) (hp : 16 ≤ p) (h : r + p ≤ l.length) : isAt (l.drop r) d p = isAt l d (r + p) := by
  unfold isAt
  have e : l.take (r + p) = l.take r ++ (l.drop r).take p := by
    rw [List.take_add]
  have hl : 16 ≤ ((l.drop r).take p).length := by rw [List.length_take, List.length_drop]; omega
  rw [e, rsum_forgets (l.take r) [] _ hl, List.nil_append]

/-- The search behind a chunk. -/
theorem Ended.next {r : Nat} (e : Ended mx dm db l r n) (h1 : 1 ≤ mn) (h2 : mn ≤ mx) (h3 : mx ≤ 4096) : Srch mn mx dm db (l.drop r) (mn - 1) (max (max mn 16) (n - r + 1)) 0 0 where
  lo := by omega
  hi := Or.inl (by omega)
  top := by omega
  main := fun p a b => by omega
  f16 := by omega
  fmn := by omega
  fmx := by have := e.top; omega
  skip := fun p a b c => by
    have he := e.le
    have hl := e.len
    have ht := e.top
    have hp : p + r ≤ n := by omega
    have hn := e.none (r + p) (by omega) (by omega)
    rw [isAt_drop l dm r p a (by omega), isAt_drop l db r p a (by omega)]
    exact ⟨by rw [List.length_drop]; omega, by omega, hn.1, hn.2⟩
  back := Or.inl ⟨rfl, fun p a b => by omega⟩
  hash := fun a => by omega

/-- The text may get longer. -/
theorem Srch.longer (s : Srch mn mx dm db l n fr h k) (m : List UInt8) : Srch mn mx dm db (l ++ m) n fr h k where
  lo := s.lo
  hi := by rcases s.hi with a | a; exact Or.inl a; exact Or.inr (by rw [List.length_append]; omega)
  top := s.top
  main := fun p a b => by
    have := s.hi
    rw [isAt_more l m dm p (by omega)]; exact s.main p a b
  f16 := s.f16
  fmn := s.fmn
  fmx := s.fmx
  skip := fun p a b c => by
    obtain ⟨x, y, z, u⟩ := s.skip p a b c
    rw [isAt_more l m dm p x, isAt_more l m db p x]
    exact ⟨by rw [List.length_append]; omega, y, z, u⟩
  back := by
    have := s.hi
    rcases s.back with ⟨a, b⟩ | ⟨a, b, c, d⟩
    · exact Or.inl ⟨a, fun p x y => by rw [isAt_more l m db p (by omega)]; exact b p x y⟩
    · exact Or.inr ⟨a, b, by rw [isAt_more l m db k (by omega)]; exact c, fun p x y => by rw [isAt_more l m db p (by omega)]; exact d p x y⟩
  hash := fun a => by
    have h1 := s.fmn
    have := s.hi
    rw [List.take_append_of_le_length (by omega)]; exact s.hash a

/-- What a search comes to: the first chunk's end, or 0, and how far it was searched for. -/
def EndsAt (mn mx dm db : Nat) (l : List UInt8) (r n fr h k : Nat) : Prop :=
  r = cutN mn mx dm db l ∧ ((r = 0 ∧ Srch mn mx dm db l n fr h k) ∨ Ended mx dm db l r n)

end Go.Proofs.Ytlmccnelhpnneaa
namespace Go.Proofs.Ytlmccnelhpnneaa
open Go.RowKit

/-- Settings in cells: the first four, of thirteen. -/
structure IsConf (C : Array Value) (a b c d : Int) : Prop where
  size : C.size = 13
  c0 : C[0]? = some (.int .i64 a)
  c1 : C[1]? = some (.int .i64 b)
  c2 : C[2]? = some (.int .i64 c)
  c3 : C[3]? = some (.int .i64 d)
  one : C.all (·.oneCell') = true

/-- A search in a row, from a place on. -/
structure SrchRow (R : Array Value) (o : Nat) (C : Array Value) (n fr h k : Nat) : Prop where
  size : o + 17 ≤ R.size
  conf : R.extract o (o + 13) = C
  cn : R[o + 13]? = some (.int .i64 n)
  cf : R[o + 14]? = some (.int .i64 fr)
  ch : R[o + 15]? = some (.int .u32 h)
  ck : R[o + 16]? = some (.int .i64 k)

/-- All but the search stays. -/
def Other (o : Nat) (R R' : Array Value) : Prop := R'.size = R.size ∧ ∀ j, j < o + 13 ∨ o + 17 ≤ j → R'[j]? = R[j]?

theorem Other.refl (o : Nat) (R : Array Value) : Other o R R := ⟨rfl, fun _ _ => rfl⟩
theorem Other.set {o : Nat} {R R' : Array Value} (h : Other o R R') (i : Nat) (v : Value) (hi : o + 13 ≤ i) (hi2 : i < o + 17) : Other o R (R'.setIfInBounds i v) :=
  ⟨by rw [Array.size_setIfInBounds]; exact h.1, fun j hj => by rw [Array.getElem?_setIfInBounds_ne (by omega)]; exact h.2 j hj⟩
theorem Other.trans {o : Nat} {R R' R'' : Array Value} (h : Other o R R') (h2 : Other o R' R'') : Other o R R'' := ⟨h2.1.trans h.1, fun j hj => (h2.2 j hj).trans (h.2 j hj)⟩

theorem extract_set (R : Array Value) (o i : Nat) (v : Value) (h : o + 13 ≤ i) : (R.setIfInBounds i v).extract o (o + 13) = R.extract o (o + 13) := by
  apply Array.ext_getElem?
  intro j
  rw [Array.getElem?_extract, Array.getElem?_extract, Array.size_setIfInBounds]
  by_cases hj : j < min (o + 13) R.size - o
  · rw [if_pos hj, if_pos hj, Array.getElem?_setIfInBounds_ne (by omega)]
  · rw [if_neg hj, if_neg hj]

theorem set_same (R : Array Value) (i : Nat) (v : Value) (h : i < R.size) : (R.setIfInBounds i v)[i]? = some v := by
  rw [Array.getElem?_setIfInBounds, if_pos rfl, if_pos h]

theorem SrchRow.setN {R : Array Value} {o : Nat} {C : Array Value} {n fr h k : Nat} (s : SrchRow R o C n fr h k) (m : Nat) : SrchRow (R.setIfInBounds (o + 13) (.int .i64 m)) o C m fr h k where
  size := by rw [Array.size_setIfInBounds]; exact s.size
  conf := by rw [extract_set _ _ _ _ (Nat.le_refl _)]; exact s.conf
  cn := set_same _ _ _ (by have := s.size; omega)
  cf := by rw [Array.getElem?_setIfInBounds_ne (by omega)]; exact s.cf
  ch := by rw [Array.getElem?_setIfInBounds_ne (by omega)]; exact s.ch
  ck := by rw [Array.getElem?_setIfInBounds_ne (by omega)]; exact s.ck
theorem SrchRow.setH {R : Array Value} {o : Nat} {C : Array Value} {n fr h k : Nat} (s : SrchRow R o C n fr h k) (m : Nat) : SrchRow (R.setIfInBounds (o + 15) (.int .u32 m)) o C n fr m k where
  size := by rw [Array.size_setIfInBounds]; exact s.size
  conf := by rw [extract_set _ _ _ _ (by omega)]; exact s.conf
  cn := by rw [Array.getElem?_setIfInBounds_ne (by omega)]; exact s.cn
  cf := by rw [Array.getElem?_setIfInBounds_ne (by omega)]; exact s.cf
  ch := set_same _ _ _ (by have := s.size; omega)
  ck := by rw [Array.getElem?_setIfInBounds_ne (by omega)]; exact s.ck
theorem SrchRow.setK {R : Array Value} {o : Nat} {C : Array Value} {n fr h k : Nat} (s : SrchRow R o C n fr h k) (m : Nat) : SrchRow (R.setIfInBounds (o + 16) (.int .i64 m)) o C n fr h m where
  size := by rw [Array.size_setIfInBounds]; exact s.size
  conf := by rw [extract_set _ _ _ _ (by omega)]; exact s.conf
  cn := by rw [Array.getElem?_setIfInBounds_ne (by omega)]; exact s.cn
  cf := by rw [Array.getElem?_setIfInBounds_ne (by omega)]; exact s.cf
  ch := by rw [Array.getElem?_setIfInBounds_ne (by omega)]; exact s.ch
  ck := set_same _ _ _ (by have := s.size; omega)

/-- A search in the block b, from the place o on; beside it the row R0. -/
def SrchIn (b o : Nat) (T : TypeId) (R0 C : Array Value) (n fr h k : Nat) (w : World) : Prop :=
  ∃ R, w.heap[b]? = some (.cells R T (0, 0)) ∧ SrchRow R o C n fr h k ∧ Other o R0 R

section
variable {b o : Nat} {T : TypeId} {R0 C : Array Value} {n fr h k : Nat} {w w' : World}

theorem SrchIn.lt (s : SrchIn b o T R0 C n fr h k w) : b < w.heap.size := by
  obtain ⟨R, g, _⟩ := s
  exact (Array.getElem?_eq_some_iff.1 g).1
theorem SrchIn.later (s : SrchIn b o T R0 C n fr h k w) (hb : Below w.heap.size w w') : SrchIn b o T R0 C n fr h k w' := by
  obtain ⟨R, g, x⟩ := s
  exact ⟨R, (hb.block _ (Array.getElem?_eq_some_iff.1 g).1).trans g, x⟩
theorem SrchIn.drew (s : SrchIn b o T R0 C n fr h k w) : SrchIn b o T R0 C n fr h k w.drew := s
theorem SrchIn.drewN (s : SrchIn b o T R0 C n fr h k w) (m : Nat) : SrchIn b o T R0 C n fr h k (w.drewN m) := s
theorem SrchIn.setN (s : SrchIn b o T R0 C n fr h k w) (m : Nat) : SrchIn b o T R0 C m fr h k (w.setCell ⟨b, o + 13, none⟩ (.int .i64 m)) := by
  obtain ⟨R, g, x, y⟩ := s
  exact ⟨_, heap_setCell_same _ _ _ _ _ _ g, x.setN m, y.set _ _ (by omega) (by omega)⟩
theorem SrchIn.setH (s : SrchIn b o T R0 C n fr h k w) (m : Nat) : SrchIn b o T R0 C n fr m k (w.setCell ⟨b, o + 15, none⟩ (.int .u32 m)) := by
  obtain ⟨R, g, x, y⟩ := s
  exact ⟨_, heap_setCell_same _ _ _ _ _ _ g, x.setH m, y.set _ _ (by omega) (by omega)⟩
theorem SrchIn.setK (s : SrchIn b o T R0 C n fr h k w) (m : Nat) : SrchIn b o T R0 C n fr h m (w.setCell ⟨b, o + 16, none⟩ (.int .i64 m)) := by
  obtain ⟨R, g, x, y⟩ := s
  exact ⟨_, heap_setCell_same _ _ _ _ _ _ g, x.setK m, y.set _ _ (by omega) (by omega)⟩
theorem SrchIn.frozen (s : SrchIn b o T R0 C n fr h k w) (j : Nat) : w.frozen? ⟨b, j, none⟩ = false := by
  obtain ⟨R, g, _⟩ := s
  exact frozen_of_row _ _ _ _ _ g
theorem SrchIn.cn (s : SrchIn b o T R0 C n fr h k w) : w.cell? ⟨b, o + 13, none⟩ = some (.int .i64 n) := by
  obtain ⟨R, g, x, _⟩ := s
  exact (cell_of_row _ _ _ _ _ _ g).trans x.cn
theorem SrchIn.cf (s : SrchIn b o T R0 C n fr h k w) : w.cell? ⟨b, o + 14, none⟩ = some (.int .i64 fr) := by
  obtain ⟨R, g, x, _⟩ := s
  exact (cell_of_row _ _ _ _ _ _ g).trans x.cf
theorem SrchIn.ch (s : SrchIn b o T R0 C n fr h k w) : w.cell? ⟨b, o + 15, none⟩ = some (.int .u32 h) := by
  obtain ⟨R, g, x, _⟩ := s
  exact (cell_of_row _ _ _ _ _ _ g).trans x.ch
theorem SrchIn.ck (s : SrchIn b o T R0 C n fr h k w) : w.cell? ⟨b, o + 16, none⟩ = some (.int .i64 k) := by
  obtain ⟨R, g, x, _⟩ := s
  exact (cell_of_row _ _ _ _ _ _ g).trans x.ck
theorem SrchIn.cc (s : SrchIn b o T R0 C n fr h k w) (i : Nat) (hi : i < 13) (v : Value) (hv : C[i]? = some v) : w.cell? ⟨b, o + i, none⟩ = some v := by
  obtain ⟨R, g, x, _⟩ := s
  rw [cell_of_row _ _ _ _ _ _ g, ← hv, ← x.conf, Array.getElem?_extract, if_pos (by have := x.size; omega)]
end

theorem lastB_int (h d : Nat) (hd : 1 ≤ d) : (((h : Int)).tmod (d : Int) == (d : Int) - 1) = lastB h d := by
  unfold lastB
  rw [Int.tmod_eq_emod_of_nonneg (by omega)]
  have e : ((h : Int) % (d : Int)) = ((h % d : Nat) : Int) := by simp
  rw [e]
  by_cases c : h % d = d - 1
  · rw [c]; simp; omega
  · have : ¬ (((h % d : Nat) : Int) = (d : Int) - 1) := by omega
    rw [beq_eq_false_iff_ne.2 this, beq_eq_false_iff_ne.2 c]

end Go.Proofs.Ytlmccnelhpnneaa
namespace Go.Proofs.Ytlmccnelhpnneaa
open Go.RowKit

def MayC (a b c d : Int) : Prop := 1 ≤ a ∧ a ≤ b ∧ b ≤ 4096 ∧ 1 ≤ c ∧ c ≤ 1048576 ∧ 1 ≤ d ∧ d ≤ 1048576
instance (a b c d : Int) : Decidable (MayC a b c d) := by unfold MayC; infer_instance

def mayD (d : Int) : Bool := decide (1 ≤ d) && decide (d ≤ 1048576)

theorem info_conf : (Try.prog.info? 24).map (·.size) = some 13 := by kernel_rfl

theorem mayD_true (d : Int) : mayD d = true ↔ 1 ≤ d ∧ d ≤ 1048576 := by simp [mayD]
theorem mayD_false (d : Int) (h : mayD d = false) : ¬ (1 ≤ d ∧ d ≤ 1048576) := fun x => by rw [(mayD_true d).2 x] at h; cases h

theorem box_below (w : World) (o : Obj) : Below w.heap.size w (w.alloc o) := (Below.refl _ _).alloc (Nat.le_refl _) _

end Go.Proofs.Ytlmccnelhpnneaa
