/- Sorted, without duplicates: the list as a set. Mathematics, of no program. -/
import Derived.Test.YthgjooacapodnaaHkC
namespace Go.Proofs.Ythgjooacapodnaa

/-- Each once, where equals stand together. -/
def onceL : List (List UInt8) → List (List UInt8)
  | [] => []
  | [a] => [a]
  | a :: b :: l => if a = b then onceL (b :: l) else a :: onceL (b :: l)

theorem onceL_mem : ∀ (l : List (List UInt8)) (x : List UInt8), x ∈ onceL l ↔ x ∈ l
  | [], x => Iff.rfl
  | [a], x => Iff.rfl
  | a :: b :: l, x => by
    have ih := onceL_mem (b :: l) x
    unfold onceL
    split
    · rename_i e
      subst e
      rw [ih, List.mem_cons (a := x) (b := a) (l := a :: l)]
      constructor
      · exact Or.inr
      · rintro (h | h)
        · rw [h]; exact List.mem_cons_self ..
        · exact h
    · rw [List.mem_cons, ih, List.mem_cons (a := x) (b := a)]

theorem onceL_snoc (x y : List UInt8) : ∀ l : List (List UInt8), onceL (l ++ [y] ++ [x]) = if y = x then onceL (l ++ [y]) else onceL (l ++ [y]) ++ [x]
  | [] => by
    simp only [List.nil_append, List.cons_append, onceL]
    by_cases h : y = x
    · subst h; simp
    · simp [h]
  | [a] => by
    have ih := onceL_snoc x y []
    simp only [List.nil_append, List.cons_append] at ih ⊢
    rw [onceL]
    rw [show onceL [a, y] = if a = y then onceL [y] else a :: onceL [y] from rfl]
    by_cases h : a = y
    · rw [if_pos h, if_pos h]; exact ih
    · rw [if_neg h, if_neg h, ih]
      by_cases h2 : y = x
      · rw [if_pos h2, if_pos h2]
      · rw [if_neg h2, if_neg h2]; rfl
  | a :: b :: l => by
    have ih := onceL_snoc x y (b :: l)
    simp only [List.cons_append] at ih ⊢
    rw [onceL]
    rw [show onceL (a :: b :: (l ++ [y])) = if a = b then onceL (b :: (l ++ [y])) else a :: onceL (b :: (l ++ [y])) from rfl]
    by_cases h : a = b
    · rw [if_pos h, if_pos h]; exact ih
    · rw [if_neg h, if_neg h, ih]
      by_cases h2 : y = x
      · rw [if_pos h2, if_pos h2]
      · rw [if_neg h2, if_neg h2]; rfl

theorem onceL_one (a : List UInt8) : onceL [a] = [a] := rfl

/-- One more element. -/
theorem onceL_take (ls : List (List UInt8)) (j : Nat) (hj : j + 1 < ls.length) : onceL (ls.take (j + 2)) = if ls[j] = ls[j + 1] then onceL (ls.take (j + 1)) else onceL (ls.take (j + 1)) ++ [ls[j + 1]] := by
  rw [List.take_succ_eq_append_getElem hj, List.take_succ_eq_append_getElem (show j < ls.length by omega)]
  exact onceL_snoc _ _ _

/-- Sorted lists: each once is in increasing order. -/
theorem onceL_incr (n : Nat) : ∀ l : List (List UInt8), (∀ x ∈ l, x.length = n) → l.Pairwise (fun a b => ltB b a = false) → Incr (onceL l)
  | [], _, _ => by simp [onceL, Incr]
  | [a], _, _ => by simp [onceL, Incr]
  | a :: b :: l, hn, h => by
    rw [List.pairwise_cons] at h
    have ih := onceL_incr n (b :: l) (fun x hx => hn x (List.mem_cons_of_mem _ hx)) h.2
    unfold onceL
    split
    · exact ih
    · rename_i hab
      rw [Incr, List.pairwise_cons]
      refine ⟨fun x hx => ?_, ih⟩
      have hx' := (onceL_mem _ x).1 hx
      have hbl : b.length = n := hn b (by simp)
      have hal : a.length = n := hn a (by simp)
      have hba : ltB b a = false := h.1 b (by simp)
      have lab : ltB a b = true := ltB_total b a (by omega) hba (fun e => hab e.symm)
      rcases List.mem_cons.1 hx' with e | e
      · rw [e]; exact lab
      · have hbx : ltB x b = false := (List.pairwise_cons.1 h.2).1 x e
        by_cases hxb : x = b
        · rw [hxb]; exact lab
        · have := ltB_total x b (by rw [hn x (by simp [e])]; omega) hbx hxb
          exact ltB_trans _ _ _ lab this

/-- A sorted permutation, each once, is the list as a set. -/
theorem once_set (n : Nat) (l m : List (List UInt8)) (hl : ∀ x ∈ l, x.length = n) (hp : m.Perm l) (hs : m.Pairwise (fun a b => ltB b a = false)) : onceL m = setL l :=
  setL_unique n l _ hl (onceL_incr n m (fun x hx => hl x (hp.mem_iff.1 hx)) hs) (fun y => (onceL_mem m y).trans hp.mem_iff)

theorem onceL_le : ∀ l : List (List UInt8), (onceL l).length ≤ l.length
  | [] => Nat.le_refl _
  | [a] => Nat.le_refl _
  | a :: b :: l => by
    have := onceL_le (b :: l)
    unfold onceL
    split
    · rw [List.length_cons (a := a)]; omega
    · rw [List.length_cons, List.length_cons (a := a)]; omega

theorem once_pos (a : List UInt8) : ∀ l : List (List UInt8), 0 < (onceL (a :: l)).length
  | [] => Nat.one_pos
  | b :: l => by
    unfold onceL
    split
    · exact once_pos b l
    · exact Nat.succ_pos _

end Go.Proofs.Ythgjooacapodnaa
