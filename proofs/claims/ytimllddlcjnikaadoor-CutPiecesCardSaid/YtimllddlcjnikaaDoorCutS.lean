/- The search for a chunk's end: its mathematics, of no program. -/
import Derived.Test.YtimllddlcjnikaaDoorCutM
namespace Go.Proofs.YtimllddlcjnikaaDoor

def lastB (h d : Nat) : Bool := h % d == d - 1
theorem isAt_last (l : List UInt8) (d n : Nat) : isAt l d n = lastB (rsum (l.take n)) d := rfl

/-- How far the end of a text's first chunk was searched for. -/
structure Srch (mn mx dm db : Nat) (l : List UInt8) (n fr h k : Nat) : Prop where
  lo : mn ≤ n + 1
  hi : n + 1 = mn ∨ n ≤ l.length
  top : n ≤ mx
  main : ∀ p, mn ≤ p → p ≤ n → isAt l dm p = false
  f16 : 16 ≤ fr
  fmn : mn ≤ fr
  fmx : fr ≤ 4097
  skip : ∀ p, 16 ≤ p → mn ≤ p → p < fr → p ≤ l.length ∧ p ≤ mx ∧ isAt l dm p = false ∧ isAt l db p = false
  back : (k = 0 ∧ ∀ p, mn ≤ p → p ≤ n → isAt l db p = false) ∨ (mn ≤ k ∧ k ≤ n ∧ isAt l db k = true ∧ ∀ p, k < p → p ≤ n → isAt l db p = false)
  hash : fr ≤ n → h = rsum (l.take n)

variable {mn mx dm db : Nat} {l : List UInt8} {n fr h k : Nat}

theorem Srch.start (h1 : 1 ≤ mn) (h2 : mn ≤ mx) (h3 : mx ≤ 4096) (l : List UInt8) : Srch mn mx dm db l (mn - 1) (max mn 16) 0 0 where
  lo := by omega
  hi := Or.inl (by omega)
  top := by omega
  main := fun p a b => by omega
  f16 := by omega
  fmn := by omega
  fmx := by omega
  skip := fun p a b c => by omega
  back := Or.inl ⟨rfl, fun p a b => by omega⟩
  hash := fun a => by omega

theorem Srch.jump (s : Srch mn mx dm db l n fr h k) (hn : 15 ≤ n) : Srch mn mx dm db l (max n (fr - 1)) fr h k := by
  by_cases hc : fr - 1 ≤ n
  · rw [Nat.max_eq_left hc]; exact s
  · rw [Nat.max_eq_right (by omega)]
    have hlo := s.lo
    have hf := s.skip (fr - 1) (by omega) (by omega) (by omega)
    have hsk := s.skip
    exact {
      lo := by omega
      hi := Or.inr hf.1
      top := hf.2.1
      main := fun p a b => by
        by_cases hp : p ≤ n
        · exact s.main p a hp
        · exact (hsk p (by omega) a (by omega)).2.2.1
      f16 := s.f16
      fmn := s.fmn
      fmx := s.fmx
      skip := hsk
      back := by
        rcases s.back with ⟨a, b⟩ | ⟨a, b, c, d⟩
        · refine Or.inl ⟨a, fun p x y => ?_⟩
          by_cases hp : p ≤ n
          · exact b p x hp
          · exact (hsk p (by omega) x (by omega)).2.2.2
        · refine Or.inr ⟨a, by omega, c, fun p x y => ?_⟩
          by_cases hp : p ≤ n
          · exact d p x hp
          · exact (hsk p (by omega) (by omega) (by omega)).2.2.2
      hash := fun a => by have := s.f16; omega }

theorem Srch.step (s : Srch mn mx dm db l n fr h k) (h1 : n < l.length) (h2 : n < mx) (hm : isAt l dm (n + 1) = false) :
    Srch mn mx dm db l (n + 1) fr (rsum (l.take (n + 1))) (if isAt l db (n + 1) then n + 1 else k) where
  lo := by have := s.lo; omega
  hi := Or.inr (by omega)
  top := by omega
  main := fun p a b => by
    by_cases hp : p ≤ n
    · exact s.main p a hp
    · obtain rfl : p = n + 1 := by omega
      exact hm
  f16 := s.f16
  fmn := s.fmn
  fmx := s.fmx
  skip := s.skip
  back := by
    have hlo := s.lo
    by_cases hb : isAt l db (n + 1) = true
    · rw [if_pos hb]
      exact Or.inr ⟨by omega, by omega, hb, fun p x y => by omega⟩
    · rw [if_neg hb]
      have hb' : isAt l db (n + 1) = false := by simpa using hb
      rcases s.back with ⟨a, b⟩ | ⟨a, b, c, d⟩
      · refine Or.inl ⟨a, fun p x y => ?_⟩
        by_cases hp : p ≤ n
        · exact b p x hp
        · obtain rfl : p = n + 1 := by omega
          exact hb'
      · refine Or.inr ⟨a, by omega, c, fun p x y => ?_⟩
        by_cases hp : p ≤ n
        · exact d p x hp
        · obtain rfl : p = n + 1 := by omega
          exact hb'
  hash := fun _ => rfl

theorem seekUp_find (p : Nat → Bool) (m : Nat) : ∀ k n, n ≤ m → m < n + k → (∀ i, n ≤ i → i < m → p i = false) → p m = true → seekUp p n k = m
  | 0, _, _, h2, _, _ => by omega
  | k + 1, n, h1, h2, h3, h4 => by
    unfold seekUp
    by_cases e : n = m
    · subst e; rw [if_pos h4]
    · rw [if_neg (by rw [h3 n (Nat.le_refl _) (by omega)]; simp)]
      exact seekUp_find p m k (n + 1) (by omega) (by omega) (fun i a b => h3 i (by omega) b) h4

theorem seekUp_none (p : Nat → Bool) : ∀ k n, (∀ i, n ≤ i → i < n + k → p i = false) → seekUp p n k = 0
  | 0, _, _ => rfl
  | k + 1, n, h => by
    unfold seekUp
    rw [if_neg (by rw [h n (Nat.le_refl _) (by omega)]; simp)]
    exact seekUp_none p k (n + 1) (fun i a b => h i (by omega) (by omega))

theorem seekDown_find (p : Nat → Bool) (m : Nat) : ∀ k n, m ≤ n → n < m + k → (∀ i, m < i → i ≤ n → p i = false) → p m = true → seekDown p n k = m
  | 0, _, _, h2, _, _ => by omega
  | k + 1, n, h1, h2, h3, h4 => by
    unfold seekDown
    by_cases e : n = m
    · subst e; rw [if_pos h4]
    · rw [if_neg (by rw [h3 n (by omega) (Nat.le_refl _)]; simp)]
      exact seekDown_find p m k (n - 1) (by omega) (by omega) (fun i a b => h3 i a (by omega)) h4

theorem seekDown_none (p : Nat → Bool) : ∀ k n, (∀ i, i ≤ n → n < i + k → p i = false) → seekDown p n k = 0
  | 0, _, _ => rfl
  | k + 1, n, h => by
    unfold seekDown
    rw [if_neg (by rw [h n (Nat.le_refl _) (by omega)]; simp)]
    exact seekDown_none p k (n - 1) (fun i a b => h i (by omega) (by omega))

theorem Srch.found (s : Srch mn mx dm db l n fr h k) (h1 : n < l.length) (h2 : n < mx) (hm : isAt l dm (n + 1) = true) : cutN mn mx dm db l = n + 1 := by
  have hlo := s.lo
  unfold cutN
  rw [seekUp_find (isAt l dm) (n + 1) _ mn (by omega) (by omega) (fun i a b => s.main i a (by omega)) hm]
  simp

theorem Srch.none_up (s : Srch mn mx dm db l n fr h k) (h1 : min l.length mx ≤ n) : seekUp (isAt l dm) mn (min l.length mx + 1 - mn) = 0 := by
  have hlo := s.lo
  exact seekUp_none _ _ _ (fun i a b => s.main i a (by omega))

theorem Srch.more (s : Srch mn mx dm db l n fr h k) (h1 : min l.length mx ≤ n) (h2 : l.length < mx) : cutN mn mx dm db l = 0 := by
  unfold cutN
  simp only
  rw [s.none_up h1, if_neg (by simp), if_pos h2]

theorem Srch.none (s : Srch mn mx dm db l n fr h k) (h0 : 1 ≤ mn) (h1 : mx ≤ l.length) (h2 : mx ≤ n) : n = mx ∧ cutN mn mx dm db l = (if 0 < k then k else mx) := by
  have ht := s.top
  obtain rfl : n = mx := by omega
  refine ⟨rfl, ?_⟩
  unfold cutN
  simp only
  rw [s.none_up (by omega), if_neg (by simp), if_neg (by omega)]
  rcases s.back with ⟨a, b⟩ | ⟨a, b, c, d⟩
  · rw [seekDown_none (isAt l db) _ n (fun i x y => b i (by omega) x), a]
    simp
  · rw [seekDown_find (isAt l db) k _ n b (by omega) (fun i x y => d i x y) c, if_pos (by omega), if_pos (by omega)]

/-- A chunk of r bytes ends, and the places from there up to n are of neither kind. -/
structure Ended (mx dm db : Nat) (l : List UInt8) (r n : Nat) : Prop where
  pos : 0 < r
  le : r ≤ n
  len : n ≤ l.length
  top : n ≤ mx
  none : ∀ p, r < p → p ≤ n → isAt l dm p = false ∧ isAt l db p = false

theorem Srch.ended_found (_s : Srch mn mx dm db l n fr h k) (h1 : n < l.length) (h2 : n < mx) : Ended mx dm db l (n + 1) (n + 1) where
  pos := by omega
  le := Nat.le_refl _
  len := by omega
  top := by omega
  none := fun p a b => by omega

theorem Srch.ended_none (s : Srch mn mx dm db l n fr h k) (h0 : 1 ≤ mn) (hx : mn ≤ mx) (h1 : mx ≤ l.length) (h2 : mx ≤ n) : Ended mx dm db l (if 0 < k then k else mx) n := by
  have ht := s.top
  obtain rfl : n = mx := by omega
  rcases s.back with ⟨a, b⟩ | ⟨a, b, c, d⟩
  · rw [if_neg (by omega)]
    exact ⟨by omega, Nat.le_refl _, h1, Nat.le_refl _, fun p a b => by omega⟩
  · rw [if_pos (by omega)]
    exact ⟨by omega, b, h1, Nat.le_refl _, fun p x y => ⟨s.main p (by omega) y, d p x y⟩⟩

theorem isAt_drop (l : List UInt8) (d r p : Nat) (hp : 16 ≤ p) (h : r + p ≤ l.length) : isAt (l.drop r) d p = isAt l d (r + p) := by
  unfold isAt
  have e : l.take (r + p) = l.take r ++ (l.drop r).take p := by
    rw [List.take_add]
  have hl : 16 ≤ ((l.drop r).take p).length := by rw [List.length_take, List.length_drop]; omega
  rw [e, rsum_forgets (l.take r) [] _ hl, List.nil_append]

/-- The search behind a chunk. -/
theorem Ended.next {r : Nat} (e : Ended mx dm db l r n) (h1 : 1 ≤ mn) (h2 : mn ≤ mx) (h3 : mx ≤ 4096) : Srch mn mx dm db (l.drop r) (mn - 1) (max (max mn 16) (n - r + 1)) 0 0 where
  lo := by omega
  hi := Or.inl (by omega)
  top := by omega
  main := fun p a b => by omega
  f16 := by omega
  fmn := by omega
  fmx := by have := e.top; omega
  skip := fun p a b c => by
    have he := e.le
    have hl := e.len
    have ht := e.top
    have hp : p + r ≤ n := by omega
    have hn := e.none (r + p) (by omega) (by omega)
    rw [isAt_drop l dm r p a (by omega), isAt_drop l db r p a (by omega)]
    exact ⟨by rw [List.length_drop]; omega, by omega, hn.1, hn.2⟩
  back := Or.inl ⟨rfl, fun p a b => by omega⟩
  hash := fun a => by omega

/-- The text may get longer. -/
theorem Srch.longer (s : Srch mn mx dm db l n fr h k) (m : List UInt8) : Srch mn mx dm db (l ++ m) n fr h k where
  lo := s.lo
  hi := by rcases s.hi with a | a; exact Or.inl a; exact Or.inr (by rw [List.length_append]; omega)
  top := s.top
  main := fun p a b => by
    have := s.hi
    rw [isAt_more l m dm p (by omega)]; exact s.main p a b
  f16 := s.f16
  fmn := s.fmn
  fmx := s.fmx
  skip := fun p a b c => by
    obtain ⟨x, y, z, u⟩ := s.skip p a b c
    rw [isAt_more l m dm p x, isAt_more l m db p x]
    exact ⟨by rw [List.length_append]; omega, y, z, u⟩
  back := by
    have := s.hi
    rcases s.back with ⟨a, b⟩ | ⟨a, b, c, d⟩
    · exact Or.inl ⟨a, fun p x y => by rw [isAt_more l m db p (by omega)]; exact b p x y⟩
    · exact Or.inr ⟨a, b, by rw [isAt_more l m db k (by omega)]; exact c, fun p x y => by rw [isAt_more l m db p (by omega)]; exact d p x y⟩
  hash := fun a => by
    have h1 := s.fmn
    have := s.hi
    rw [List.take_append_of_le_length (by omega)]; exact s.hash a

/-- What a search comes to: the first chunk's end, or 0, and how far it was searched for. -/
def EndsAt (mn mx dm db : Nat) (l : List UInt8) (r n fr h k : Nat) : Prop :=
  r = cutN mn mx dm db l ∧ ((r = 0 ∧ Srch mn mx dm db l n fr h k) ∨ Ended mx dm db l r n)

end Go.Proofs.YtimllddlcjnikaaDoor
