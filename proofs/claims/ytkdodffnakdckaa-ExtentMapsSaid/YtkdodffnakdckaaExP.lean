/- Plain lists of runs: one list for each set of sectors; joined, sorted, put together. Mathematics of stage 10, of no program. -/
import Derived.Test.YtkdodffnakdckaaExM
namespace Go.Proofs.Ytkdodffnakdckaa

/-- A plain list. -/
structure PlainL (l : List (Int × Int)) : Prop where
  nat : ∀ r ∈ l, 0 ≤ r.1 ∧ 1 ≤ r.2 ∧ r.1 + r.2 ≤ 8192
  gap : l.Pairwise fun r s => r.1 + r.2 < s.1

theorem runsA_plain (f : Nat → Bool) : PlainL (runsA f) := ⟨fun r hr => (runsF_ok f mxS).nat r hr, (runsF_ok f mxS).gap⟩
theorem PlainL.tail {r : Int × Int} {l : List (Int × Int)} (h : PlainL (r :: l)) : PlainL l := ⟨fun s hs => h.nat s (List.mem_cons_of_mem _ hs), (List.pairwise_cons.1 h.gap).2⟩
theorem hasR_cons (r : Int × Int) (l : List (Int × Int)) (k : Nat) : hasR (r :: l) k = (inR r k || hasR l k) := rfl
theorem hasR_out {l : List (Int × Int)} {k : Nat} (h : ∀ r ∈ l, ¬ (r.1 ≤ (k : Int) ∧ (k : Int) < r.1 + r.2)) : hasR l k = false := by
  cases e : hasR l k with
  | false => rfl
  | true =>
    unfold hasR at e
    obtain ⟨r, hr, hk⟩ := List.any_eq_true.1 e
    exact absurd (of_decide_eq_true hk) (h r hr)
theorem inR_iff (r : Int × Int) (k : Nat) : inR r k = true ↔ (r.1 ≤ (k : Int) ∧ (k : Int) < r.1 + r.2) := by unfold inR; exact decide_eq_true_iff
theorem hasR_iff (l : List (Int × Int)) (k : Nat) : hasR l k = true ↔ ∃ r ∈ l, r.1 ≤ (k : Int) ∧ (k : Int) < r.1 + r.2 := by
  unfold hasR
  rw [List.any_eq_true]
  exact ⟨fun ⟨r, hr, h⟩ => ⟨r, hr, (inR_iff _ _).1 h⟩, fun ⟨r, hr, h⟩ => ⟨r, hr, (inR_iff _ _).2 h⟩⟩
theorem hasR_perm {l m : List (Int × Int)} (h : l.Perm m) (k : Nat) : hasR l k = hasR m k := by
  cases e : hasR m k with
  | true => obtain ⟨r, hr, hk⟩ := (hasR_iff _ _).1 e; exact (hasR_iff _ _).2 ⟨r, h.mem_iff.2 hr, hk⟩
  | false =>
    refine hasR_out fun r hr hk => ?_
    rw [(hasR_iff m k).2 ⟨r, h.mem_iff.1 hr, hk⟩] at e
    cases e

/-- Below its first run a plain list has nothing. -/
theorem PlainL.head_le {r : Int × Int} {l : List (Int × Int)} (h : PlainL (r :: l)) {k : Nat} (hk : hasR (r :: l) k = true) : r.1 ≤ (k : Int) := by
  obtain ⟨s, hs, h1, h2⟩ := (hasR_iff _ _).1 hk
  rcases List.mem_cons.1 hs with rfl | hs
  · exact h1
  · have := (List.pairwise_cons.1 h.gap).1 s hs
    have := h.nat r (List.mem_cons_self ..)
    omega
/-- Behind its first run there is a gap. -/
theorem PlainL.head_gap {r : Int × Int} {l : List (Int × Int)} (h : PlainL (r :: l)) {k : Nat} (hk : hasR l k = true) : r.1 + r.2 < (k : Int) := by
  obtain ⟨s, hs, h1, h2⟩ := (hasR_iff _ _).1 hk
  have := (List.pairwise_cons.1 h.gap).1 s hs
  omega

theorem plain_uniq : ∀ (l m : List (Int × Int)), PlainL l → PlainL m → (∀ k : Nat, k < 8192 → hasR l k = hasR m k) → l = m
  | [], [], _, _, _ => rfl
  | [], s :: m, _, hm, h => by
    have hs := hm.nat s (List.mem_cons_self ..)
    have e := h s.1.toNat (by omega)
    rw [hasR_nil, (hasR_iff _ _).2 ⟨s, List.mem_cons_self .., by omega, by omega⟩] at e
    cases e
  | r :: l, [], hl, _, h => by
    have hs := hl.nat r (List.mem_cons_self ..)
    have e := h r.1.toNat (by omega)
    rw [hasR_nil, (hasR_iff _ _).2 ⟨r, List.mem_cons_self .., by omega, by omega⟩] at e
    cases e
  | r :: l, s :: m, hl, hm, h => by
    have nr := hl.nat r (List.mem_cons_self ..)
    have ns := hm.nat s (List.mem_cons_self ..)
    have e1 : s.1 ≤ r.1 := by
      have := hm.head_le (k := r.1.toNat) (by rw [← h _ (by omega)]; exact (hasR_iff _ _).2 ⟨r, List.mem_cons_self .., by omega, by omega⟩)
      omega
    have e2 : r.1 ≤ s.1 := by
      have := hl.head_le (k := s.1.toNat) (by rw [h _ (by omega)]; exact (hasR_iff _ _).2 ⟨s, List.mem_cons_self .., by omega, by omega⟩)
      omega
    have e3 : ¬ r.1 + r.2 < s.1 + s.2 := by
      intro hlt
      have hk : hasR (s :: m) (r.1 + r.2).toNat = true := (hasR_iff _ _).2 ⟨s, List.mem_cons_self .., by omega, by omega⟩
      rw [← h _ (by omega), hasR_cons, Bool.or_eq_true] at hk
      rcases hk with hk | hk
      · have := (inR_iff _ _).1 hk; omega
      · have := hl.head_gap hk; omega
    have e4 : ¬ s.1 + s.2 < r.1 + r.2 := by
      intro hlt
      have hk : hasR (r :: l) (s.1 + s.2).toNat = true := (hasR_iff _ _).2 ⟨r, List.mem_cons_self .., by omega, by omega⟩
      rw [h _ (by omega), hasR_cons, Bool.or_eq_true] at hk
      rcases hk with hk | hk
      · have := (inR_iff _ _).1 hk; omega
      · have := hm.head_gap hk; omega
    have er : r = s := Prod.ext (by omega) (by omega)
    subst er
    congr 1
    refine plain_uniq l m hl.tail hm.tail fun k hk => ?_
    have e := h k hk
    rw [hasR_cons, hasR_cons] at e
    cases hi : inR r k with
    | false => rw [hi] at e; simpa using e
    | true =>
      have hi' := (inR_iff _ _).1 hi
      have a1 : hasR l k = false := by
        cases hx : hasR l k with
        | false => rfl
        | true => have := hl.head_gap hx; omega
      have a2 : hasR m k = false := by
        cases hx : hasR m k with
        | false => rfl
        | true => have := hm.head_gap hx; omega
      rw [a1, a2]

/-- A plain list of a set's sectors is that set's. -/
theorem plain_runsA {l : List (Int × Int)} {f : Nat → Bool} (h : PlainL l) (hf : ∀ k : Nat, k < 8192 → hasR l k = f k) : l = runsA f :=
  plain_uniq l _ h (runsA_plain f) fun k hk => by rw [hf k hk, runsA_has f k hk]
theorem runsA_self {l : List (Int × Int)} (h : PlainL l) : runsA (hasR l) = l := (plain_runsA h fun _ _ => rfl).symm

/-- How many sectors a plain list has. -/
def sumR (l : List (Int × Int)) : Int := (l.map fun r => r.2).sum
theorem sumR_cons (r : Int × Int) (l : List (Int × Int)) : sumR (r :: l) = r.2 + sumR l := by unfold sumR; rw [List.map_cons, List.sum_cons]
theorem sumR_append (l m : List (Int × Int)) : sumR (l ++ m) = sumR l + sumR m := by unfold sumR; rw [List.map_append, List.sum_append]
theorem cntF_run (a b : Nat) : ∀ n, cntF (fun k => decide (a ≤ k ∧ k < b)) n = min n b - min n a
  | 0 => by simp [cntF]
  | n + 1 => by
    unfold cntF
    rw [cntF_run a b n]
    by_cases h : a ≤ n ∧ n < b
    · rw [if_pos (decide_eq_true h)]; omega
    · rw [if_neg (by simpa using h)]; omega
theorem cntF_or (f g : Nat → Bool) : ∀ n, (∀ k, k < n → ¬ (f k = true ∧ g k = true)) → cntF (fun k => f k || g k) n = cntF f n + cntF g n
  | 0, _ => rfl
  | n + 1, h => by
    unfold cntF
    rw [cntF_or f g n (fun k hk => h k (by omega))]
    have := h n (by omega)
    cases hf : f n <;> cases hg : g n <;> simp_all <;> omega
theorem PlainL.count : ∀ {l : List (Int × Int)}, PlainL l → (cntA (hasR l) : Int) = sumR l
  | [], _ => by
    have : cntA (hasR []) = 0 := cntF_none fun _ _ => rfl
    rw [this]; rfl
  | r :: l, h => by
    have nr := h.nat r (List.mem_cons_self ..)
    have e : cntA (hasR (r :: l)) = cntA (fun k => inR r k || hasR l k) := rfl
    have e2 : cntA (fun k => inR r k || hasR l k) = cntA (inR r) + cntA (hasR l) := cntF_or _ _ _ fun k _ hk => by
      have h1 := (inR_iff _ _).1 hk.1
      have h2 := h.head_gap hk.2
      omega
    have e3 : cntA (inR r) = r.2.toNat := by
      have : cntA (inR r) = cntA (fun k => decide (r.1.toNat ≤ k ∧ k < (r.1 + r.2).toNat)) := cntA_congr fun k _ => by
        unfold inR; exact decide_eq_decide.2 (by omega)
      rw [this]
      unfold cntA
      rw [cntF_run]
      show min 8192 _ - min 8192 _ = _
      omega
    rw [e, e2, e3, sumR_cons, ← h.tail.count]
    omega

/-- One more run behind, that touches the last one or lies apart. -/
theorem PlainL.snoc {l : List (Int × Int)} (h : PlainL l) {r : Int × Int} (hr : 0 ≤ r.1 ∧ 1 ≤ r.2 ∧ r.1 + r.2 ≤ 8192) (hg : ∀ s ∈ l, s.1 + s.2 < r.1) : PlainL (l ++ [r]) :=
  ⟨fun s hs => (List.mem_append.1 hs).elim (h.nat s) (fun e => by rw [List.mem_singleton.1 e]; exact hr), List.pairwise_append.2 ⟨h.gap, List.pairwise_singleton _ _, fun a ha b hb => by rw [List.mem_singleton.1 hb]; exact hg a ha⟩⟩
theorem PlainL.init {l : List (Int × Int)} {r : Int × Int} (h : PlainL (l ++ [r])) : PlainL l ∧ (0 ≤ r.1 ∧ 1 ≤ r.2 ∧ r.1 + r.2 ≤ 8192) ∧ ∀ s ∈ l, s.1 + s.2 < r.1 :=
  ⟨⟨fun s hs => h.nat s (List.mem_append_left _ hs), (List.pairwise_append.1 h.gap).1⟩, h.nat r (List.mem_append_right _ (List.mem_singleton_self _)), fun s hs => (List.pairwise_append.1 h.gap).2.2 s hs r (List.mem_singleton_self _)⟩
/-- The last run grows. -/
theorem PlainL.grow {l : List (Int × Int)} {a n m : Int} (h : PlainL (l ++ [(a, n)])) (hm : n ≤ m) (hm2 : a + m ≤ 8192) : PlainL (l ++ [(a, m)]) := by
  obtain ⟨h1, h2, h3⟩ := h.init
  exact h1.snoc ⟨h2.1, Int.le_trans h2.2.1 hm, hm2⟩ h3
theorem hasR_grow (l : List (Int × Int)) (a n b m : Int) (k : Nat) (h1 : a ≤ b) (h2 : b ≤ a + n) : hasR (l ++ [(a, max (a + n) (b + m) - a)]) k = (hasR (l ++ [(a, n)]) k || inR (b, m) k) := by
  rw [hasR_append, hasR_append, hasR_one, hasR_one, Bool.or_assoc]
  congr 1
  rw [Bool.eq_iff_iff, Bool.or_eq_true, inR_iff, inR_iff, inR_iff]
  simp only
  omega

end Go.Proofs.Ytkdodffnakdckaa
