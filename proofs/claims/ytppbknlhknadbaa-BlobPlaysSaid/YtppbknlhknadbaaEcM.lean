/- Runs that are cropped, sorted and merged, searched for what they have in common, and counted from below: the mathematics of the landed extent, of no program. -/
import Derived.Test.YtppbknlhknadbaaGA
namespace Go.Proofs.Ytppbknlhknadbaa

/-- A run's sectors alone: cropped. -/
def cropI (r : Int × Int) : Int × Int :=
  if r.2 < 1 then (0, 0) else if (if r.1 < 8192 - r.2 then r.1 + r.2 else 8192) ≤ max r.1 0 then (0, 0) else (max r.1 0, (if r.1 < 8192 - r.2 then r.1 + r.2 else 8192) - max r.1 0)

theorem crop_cases (r : Int × Int) : (cropI r = (0, 0) ∧ ∀ k : Nat, k < 8192 → inR r k = false) ∨
    ((cropI r).1 = max r.1 0 ∧ 1 ≤ (cropI r).2 ∧ (cropI r).1 + (cropI r).2 ≤ 8192 ∧ ∀ k : Nat, k < 8192 → inR (cropI r) k = inR r k) := by
  obtain ⟨a, n⟩ := r
  unfold cropI
  simp only
  by_cases h1 : n < 1
  · rw [if_pos h1]
    refine Or.inl ⟨rfl, fun k _ => ?_⟩
    unfold inR; exact decide_eq_false (by simp only; omega)
  · rw [if_neg h1]
    by_cases h2 : a < 8192 - n
    · simp only [if_pos h2]
      by_cases h3 : a + n ≤ max a 0
      · rw [if_pos h3]
        refine Or.inl ⟨rfl, fun k hk => ?_⟩
        unfold inR; exact decide_eq_false (by simp only; omega)
      · rw [if_neg h3]
        refine Or.inr ⟨rfl, by simp only; omega, by simp only; omega, fun k hk => ?_⟩
        unfold inR; exact decide_eq_decide.2 (by simp only; omega)
    · simp only [if_neg h2]
      by_cases h3 : 8192 ≤ max a 0
      · rw [if_pos h3]
        refine Or.inl ⟨rfl, fun k hk => ?_⟩
        unfold inR; exact decide_eq_false (by simp only; omega)
      · rw [if_neg h3]
        refine Or.inr ⟨rfl, by simp only; omega, by simp only; omega, fun k hk => ?_⟩
        unfold inR; exact decide_eq_decide.2 (by simp only; omega)
theorem crop_a (a n : Int) (h1 : ¬ n < 1) (h2 : a < 8192 - n) : cropI (a, n) = if a + n ≤ max a 0 then (0, 0) else (max a 0, a + n - max a 0) := by
  unfold cropI
  rw [if_neg h1]
  simp only [if_pos h2]
theorem crop_b (a n : Int) (h1 : ¬ n < 1) (h2 : ¬ a < 8192 - n) : cropI (a, n) = if 8192 ≤ max a 0 then (0, 0) else (max a 0, 8192 - max a 0) := by
  unfold cropI
  rw [if_neg h1]
  simp only [if_neg h2]
theorem crop_bound (r : Int × Int) : 0 ≤ (cropI r).1 ∧ 0 ≤ (cropI r).2 ∧ (cropI r).1 + (cropI r).2 ≤ 8192 := by
  rcases crop_cases r with ⟨h, _⟩ | ⟨h1, h2, h3, _⟩
  · rw [h]; decide
  · omega
theorem crop_has (r : Int × Int) (k : Nat) (hk : k < 8192) : inR (cropI r) k = inR r k := by
  rcases crop_cases r with ⟨h, h2⟩ | ⟨_, _, _, h4⟩
  · rw [h, h2 k hk]; unfold inR; exact decide_eq_false (by simp only; omega)
  · exact h4 k hk
theorem crop_beyond (r : Int × Int) (k : Nat) (hk : 8192 ≤ k) : inR (cropI r) k = false := by
  have := crop_bound r
  unfold inR; exact decide_eq_false (by omega)

/-! ### Merged -/
/-- The first i runs of a sorted list, merged. -/
structure PInv (s : List (Int × Int)) (i : Nat) (P : List (Int × Int)) : Prop where
  pl : PlainL P
  has : ∀ k : Nat, k < 8192 → hasR P k = hasR (s.take i) k
  low : ∀ p ∈ P, ∀ r ∈ s.drop i, p.1 ≤ max r.1 0

theorem PlainL.nil : PlainL [] := ⟨fun r hr => (by cases hr), List.Pairwise.nil⟩
theorem PInv.zero (s : List (Int × Int)) : PInv s 0 [] := ⟨PlainL.nil, fun k _ => by simp, fun p hp => (by cases hp)⟩
theorem drop_mem {s : List (Int × Int)} {i : Nat} {r : Int × Int} (h : r ∈ s.drop (i + 1)) : r ∈ s.drop i := by
  rw [← List.drop_drop] at h
  exact List.mem_of_mem_drop h
theorem PInv.skip {s : List (Int × Int)} {i : Nat} {P : List (Int × Int)} (h : PInv s i P) (hi : i < s.length) (hc : (cropI s[i]).2 = 0) : PInv s (i + 1) P := by
  refine ⟨h.pl, fun k hk => ?_, fun p hp r hr => h.low p hp r (drop_mem hr)⟩
  rw [hasR_take s i hi, h.has k hk]
  rcases crop_cases s[i] with ⟨_, h2⟩ | ⟨_, h2, _, _⟩
  · rw [h2 k hk, Bool.or_false]
  · omega
theorem PInv.grow {s : List (Int × Int)} {i : Nat} {P : List (Int × Int)} {a n : Int} (h : PInv s i (P ++ [(a, n)])) (hi : i < s.length) (hc : (cropI s[i]).2 ≠ 0) (ht : (cropI s[i]).1 ≤ a + n) :
    PInv s (i + 1) (P ++ [(a, max (a + n) ((cropI s[i]).1 + (cropI s[i]).2) - a)]) := by
  have hb := crop_bound s[i]
  have hl := h.pl.nat (a, n) (by simp)
  have hd : s[i] ∈ s.drop i := by rw [List.drop_eq_getElem_cons hi]; exact List.mem_cons_self ..
  have hlow := h.low (a, n) (by simp) _ hd
  have h1 : (cropI s[i]).1 = max s[i].1 0 := by
    rcases crop_cases s[i] with ⟨e, _⟩ | ⟨e, _⟩
    · rw [e] at hc; exact absurd rfl hc
    · exact e
  simp only at hl hlow
  refine ⟨h.pl.grow (by omega) (by omega), fun k hk => ?_, fun p hp r hr => ?_⟩
  · rw [hasR_grow P a n (cropI s[i]).1 (cropI s[i]).2 k (by omega) ht, h.has k hk, hasR_take s i hi]
    congr 1
    exact crop_has s[i] k hk
  · rcases List.mem_append.1 hp with e | e
    · exact h.low p (List.mem_append_left _ e) r (drop_mem hr)
    · rw [List.mem_singleton.1 e]
      exact h.low (a, n) (by simp) r (drop_mem hr)
theorem PInv.add {s : List (Int × Int)} {i : Nat} {P : List (Int × Int)} (h : PInv s i P) (hi : i < s.length) (hs : s.Pairwise fun a b => a.1 ≤ b.1) (hc : (cropI s[i]).2 ≠ 0) (hg : ∀ p ∈ P, p.1 + p.2 < (cropI s[i]).1) :
    PInv s (i + 1) (P ++ [cropI s[i]]) := by
  have hb := crop_bound s[i]
  have h1 : (cropI s[i]).1 = max s[i].1 0 := by
    rcases crop_cases s[i] with ⟨e, _⟩ | ⟨e, _⟩
    · rw [e] at hc; exact absurd rfl hc
    · exact e
  refine ⟨h.pl.snoc ⟨hb.1, by omega, hb.2.2⟩ hg, fun k hk => ?_, fun p hp r hr => ?_⟩
  · rw [hasR_append, hasR_one, h.has k hk, hasR_take s i hi, crop_has s[i] k hk]
  · rcases List.mem_append.1 hp with e | e
    · exact h.low p e r (drop_mem hr)
    · rw [List.mem_singleton.1 e, h1]
      obtain ⟨j, hj, rfl⟩ := List.mem_iff_getElem.1 hr
      rw [List.length_drop] at hj
      rw [List.getElem_drop]
      have := List.pairwise_iff_getElem.1 hs i (i + 1 + j) hi (by omega) (by omega)
      omega
/-- The last one decides. -/
theorem PlainL.gaps {P : List (Int × Int)} {r : Int × Int} (h : PlainL (P ++ [r])) {x : Int} (hx : r.1 + r.2 < x) : ∀ p ∈ P ++ [r], p.1 + p.2 < x := fun p hp => by
  obtain ⟨_, h2, h3⟩ := h.init
  rcases List.mem_append.1 hp with e | e
  · have := h3 p e; omega
  · rw [List.mem_singleton.1 e]; exact hx
theorem PInv.done {s l P : List (Int × Int)} (h : PInv s s.length P) (hp : s.Perm l) : P = runsA (hasR l) :=
  plain_runsA h.pl fun k hk => by rw [h.has k hk, List.take_of_length_le (Nat.le_refl _), hasR_perm hp k]
theorem PInv.len {s : List (Int × Int)} {i : Nat} {P : List (Int × Int)} (h : PInv s i P) : P.length ≤ 8192 := by
  rw [plain_runsA h.pl fun _ _ => rfl]; exact runsA_len _
theorem PlainL.wf {P : List (Int × Int)} (h : PlainL P) : wfR P := fun r hr => by have := h.nat r hr; omega
theorem PlainL.take {P : List (Int × Int)} (h : PlainL P) (n : Nat) : PlainL (P.take n) := ⟨fun r hr => h.nat r (List.mem_of_mem_take hr), h.gap.sublist (List.take_sublist _ _)⟩
theorem PlainL.drop {P : List (Int × Int)} (h : PlainL P) (n : Nat) : PlainL (P.drop n) := ⟨fun r hr => h.nat r (List.mem_of_mem_drop hr), h.gap.sublist (List.drop_sublist _ _)⟩

/-! ### Counted -/
theorem sumR_takeE (l : List (Int × Int)) (i : Nat) (h : i < l.length) : sumR (l.take (i + 1)) = sumR (l.take i) + l[i].2 := by
  rw [List.take_succ_eq_append_getElem h, sumR_append]; unfold sumR; simp
theorem PlainL.sum_le {P : List (Int × Int)} (h : PlainL P) : 0 ≤ sumR P ∧ sumR P ≤ 8192 := by
  have := h.count
  have h2 := cntA_le (hasR P)
  omega
theorem PlainL.sum_pos {P : List (Int × Int)} (h : PlainL P) (hp : P ≠ []) : 0 < sumR P := by
  match P, hp with
  | r :: l, _ =>
    have := h.nat r (List.mem_cons_self ..)
    have := h.tail.sum_le
    rw [sumR_cons]; omega

theorem cntF_cut (f : Nat → Bool) (e : Nat) : ∀ n, cntF (fun k => f k && decide (k < e)) n = cntF f (min n e)
  | 0 => by simp [cntF]
  | n + 1 => by
    show cntF _ n + _ = _
    rw [cntF_cut f e n]
    by_cases h : n < e
    · rw [show min (n + 1) e = n + 1 by omega, show min n e = n by omega]
      simp [h, cntF]
    · rw [show min (n + 1) e = e by omega, show min n e = e by omega]
      simp [h]
theorem lowF_bound (f : Nat → Bool) (e k : Nat) : lowF f (cntF f e) k = (f k && decide (k < e)) := by
  unfold lowF
  cases hf : f k with
  | false => rfl
  | true =>
    simp only [Bool.true_and]
    refine decide_eq_decide.2 ⟨fun h => ?_, fun h => ?_⟩
    · refine Decidable.byContradiction fun hn => ?_
      have := cntF_mono f (m := e) (n := k) (by omega)
      omega
    · have h1 : cntF f (k + 1) = cntF f k + 1 := by show cntF f k + _ = _; rw [hf]; rfl
      have := cntF_mono f (m := k + 1) (n := e) (by omega)
      omega

/-- So many of the lowest: a plain list, cut in one of its runs. -/
theorem low_cut (A B : List (Int × Int)) (r : Int × Int) (m : Int) (h : PlainL (A ++ r :: B)) (h1 : 1 ≤ m) (h2 : m ≤ r.2) :
    A ++ [(r.1, m)] = runsA (lowF (hasR (A ++ r :: B)) (sumR (A ++ [(r.1, m)])).toNat) := by
  have hr := h.nat r (by simp)
  have hg := List.pairwise_append.1 h.gap
  have hgB := List.pairwise_cons.1 hg.2.1
  have hA : PlainL A := ⟨fun s hs => h.nat s (List.mem_append_left _ hs), hg.1⟩
  have hL : PlainL (A ++ [(r.1, m)]) := hA.snoc ⟨hr.1, h1, by omega⟩ (fun s hs => hg.2.2 s hs r (List.mem_cons_self ..))
  obtain ⟨e, he⟩ : ∃ e : Nat, (e : Int) = r.1 + m := ⟨(r.1 + m).toNat, by omega⟩
  have hh : ∀ k : Nat, hasR (A ++ [(r.1, m)]) k = (hasR (A ++ r :: B) k && decide (k < e)) := fun k => by
    rw [Bool.eq_iff_iff, Bool.and_eq_true, decide_eq_true_eq, hasR_iff, hasR_iff]
    constructor
    · rintro ⟨s, hs, h3, h4⟩
      rcases List.mem_append.1 hs with x | x
      · have := hg.2.2 s x r (List.mem_cons_self ..)
        exact ⟨⟨s, List.mem_append_left _ x, h3, h4⟩, by omega⟩
      · rw [List.mem_singleton.1 x] at h3 h4
        simp only at h3 h4
        exact ⟨⟨r, by simp, h3, by omega⟩, by omega⟩
    · rintro ⟨⟨s, hs, h3, h4⟩, h5⟩
      rcases List.mem_append.1 hs with x | x
      · exact ⟨s, List.mem_append_left _ x, h3, h4⟩
      · rcases List.mem_cons.1 x with rfl | x
        · exact ⟨(s.1, m), by simp, h3, by simp only; omega⟩
        · have := hgB.1 s x
          omega
  have hc : (sumR (A ++ [(r.1, m)])).toNat = cntF (hasR (A ++ r :: B)) e := by
    rw [← hL.count, Int.toNat_natCast]
    unfold cntA
    rw [cntF_congr mxS (fun k _ => hh k), cntF_cut, show min mxS e = e by show min 8192 e = e; omega]
  rw [hc]
  exact plain_runsA hL fun k _ => by rw [lowF_bound]; exact hh k
theorem low_nil (f : Nat → Bool) : [] = runsA (lowF f 0) := (runsA_none fun k _ => by unfold lowF; simp).symm

/-- Where the walk of the lowest is. -/
structure LInv (P : List (Int × Int)) (n0 : Int) (i : Nat) (L : List (Int × Int)) (n : Int) : Prop where
  pos : 0 ≤ n
  sum : sumR L + n = n0
  pl : PlainL L
  le : n0 - n ≤ sumR P
  here : n ≠ 0 → L = P.take i
  low : n = 0 → L = runsA (lowF (hasR P) n0.toNat)
  len : L.length ≤ i
theorem LInv.zero (P : List (Int × Int)) (hP : PlainL P) (n0 : Int) (h : 0 ≤ n0) : LInv P n0 0 [] n0 :=
  ⟨h, by unfold sumR; simp, PlainL.nil, by have := hP.sum_le; omega, fun _ => by simp, fun e => by rw [e]; exact low_nil _, Nat.le_refl _⟩
theorem LInv.step {P L : List (Int × Int)} {n0 n : Int} {i : Nat} (hP : PlainL P) (h : LInv P n0 i L n) (hi : i < P.length) (hn : n ≠ 0) :
    LInv P n0 (i + 1) (L ++ [(P[i].1, min P[i].2 n)]) (n - min P[i].2 n) := by
  have hr := hP.nat _ (List.getElem_mem hi)
  have hL := h.here hn
  have hp := h.pos
  have hsum := h.sum
  have hdec : P = P.take i ++ P[i] :: P.drop (i + 1) := by rw [← List.drop_eq_getElem_cons hi, List.take_append_drop]
  have hs1 : sumR (L ++ [(P[i].1, min P[i].2 n)]) = sumR L + min P[i].2 n := by rw [sumR_append]; unfold sumR; simp
  have hlow := low_cut (P.take i) (P.drop (i + 1)) P[i] (min P[i].2 n) (by rw [← hdec]; exact hP) (by omega) (by omega)
  rw [← hdec, ← hL] at hlow
  have hle : sumR L + P[i].2 ≤ sumR P := by
    have h1 : sumR P = sumR (P.take i) + (P[i].2 + sumR (P.drop (i + 1))) := by
      conv => lhs; rw [hdec]
      rw [sumR_append, sumR_cons]
    have h2 := (hP.drop (i + 1)).sum_le
    rw [hL]; omega
  have hg := List.pairwise_append.1 (show (P.take i ++ P[i] :: P.drop (i + 1)).Pairwise _ from by rw [← hdec]; exact hP.gap)
  refine ⟨by omega, by rw [hs1]; omega, h.pl.snoc ⟨hr.1, by omega, by omega⟩ (fun s hs => ?_), by omega, fun h0 => ?_, fun h0 => ?_, by rw [List.length_append]; have := h.len; show _ + 1 ≤ _; omega⟩
  · rw [hL] at hs
    exact hg.2.2 s hs P[i] (List.mem_cons_self ..)
  · have : min P[i].2 n = P[i].2 := by omega
    rw [this, hL, List.take_succ_eq_append_getElem hi]
  · rw [hlow, hs1]
    congr 3
    omega
theorem LInv.done {P L : List (Int × Int)} {n0 n : Int} {i : Nat} (hP : PlainL P) (h : LInv P n0 i L n) (f : Nat → Bool) (hf : P = runsA f) (hn0 : 0 ≤ n0) (he : n = 0 ∨ i = P.length) :
    (n = 0 → cntA f ≥ n0.toNat ∧ L = runsA (lowF f n0.toNat)) ∧ (n ≠ 0 → cntA f < n0.toNat) := by
  have hcP : (cntA f : Int) = sumR P := by rw [← hP.count, hf, cntA_again]
  refine ⟨fun h0 => ⟨by have := h.le; omega, ?_⟩, fun h0 => ?_⟩
  · rw [h.low h0]
    exact runsA_congr fun k hk => lowF_congr n0.toNat mxS (fun k hk => by rw [hf]; exact runsA_has f k hk) k hk
  · have hi : i = P.length := he.resolve_left h0
    have hL := h.here h0
    rw [hi, List.take_length] at hL
    have h2 := h.sum
    have h3 := h.pos
    rw [hL] at h2
    omega

/-! ### In common -/
/-- What two plain lists have in common, found so far: C, and what is left of both. -/
structure CInv (f : Nat → Bool) (C p q : List (Int × Int)) : Prop where
  pc : PlainL C
  pp : PlainL p
  pq : PlainL q
  has : ∀ k : Nat, k < 8192 → (hasR C k || (hasR p k && hasR q k)) = f k
  gap : ∀ s ∈ C, ∀ k : Nat, hasR p k = true → hasR q k = true → s.1 + s.2 < (k : Int)
theorem CInv.start {P Q : List (Int × Int)} (hp : PlainL P) (hq : PlainL Q) : CInv (fun k => hasR P k && hasR Q k) [] P Q := ⟨PlainL.nil, hp, hq, fun k _ => by simp [hasR_nil], fun s hs => (by cases hs)⟩
theorem CInv.swap {f : Nat → Bool} {C p q : List (Int × Int)} (h : CInv f C p q) : CInv f C q p :=
  ⟨h.pc, h.pq, h.pp, fun k hk => by rw [Bool.and_comm]; exact h.has k hk, fun s hs k h1 h2 => h.gap s hs k h2 h1⟩
theorem CInv.done {f : Nat → Bool} {C p q : List (Int × Int)} (h : CInv f C p q) (he : p = [] ∨ q = []) : C = runsA f :=
  plain_runsA h.pc fun k hk => by
    have h1 := h.has k hk
    rcases he with rfl | rfl
    · rw [hasR_nil, Bool.false_and, Bool.or_false] at h1; exact h1
    · rw [hasR_nil, Bool.and_false, Bool.or_false] at h1; exact h1
/-- The first run of p ends first (or both end there). -/
theorem CInv.step {f : Nat → Bool} {C p q : List (Int × Int)} {r s : Int × Int} (h : CInv f C (r :: p) (s :: q)) (he : r.1 + r.2 ≤ s.1 + s.2) :
    (max r.1 s.1 < r.1 + r.2 → CInv f (C ++ [(max r.1 s.1, r.1 + r.2 - max r.1 s.1)]) p (s :: q)) ∧ (¬ max r.1 s.1 < r.1 + r.2 → CInv f C p (s :: q)) := by
  have nr := h.pp.nat r (List.mem_cons_self ..)
  have ns := h.pq.nat s (List.mem_cons_self ..)
  -- what the run has in common with the other list
  have key : ∀ k : Nat, (inR r k && hasR (s :: q) k) = true ↔ (max r.1 s.1 ≤ (k : Int) ∧ (k : Int) < r.1 + r.2) := fun k => by
    rw [Bool.and_eq_true, inR_iff]
    constructor
    · rintro ⟨h1, h2⟩
      have := h.pq.head_le h2
      omega
    · intro h1
      exact ⟨by omega, (hasR_iff _ _).2 ⟨s, List.mem_cons_self .., by omega, by omega⟩⟩
  constructor
  · intro ha
    obtain ⟨a, ha0⟩ : ∃ a : Nat, (a : Int) = max r.1 s.1 := ⟨(max r.1 s.1).toNat, by omega⟩
    refine ⟨h.pc.snoc ⟨by simp only; omega, by simp only; omega, by simp only; omega⟩ (fun t ht => ?_), h.pp.tail, h.pq, fun k hk => ?_, fun t ht k h1 h2 => ?_⟩
    · have hk := (key a).2 ⟨by omega, by omega⟩
      rw [Bool.and_eq_true] at hk
      have := h.gap t ht a (by rw [hasR_cons, hk.1, Bool.true_or]) hk.2
      simp only; omega
    · rw [← h.has k hk, hasR_append, hasR_one, hasR_cons r p k, Bool.and_or_distrib_right, Bool.or_assoc, ← Bool.or_assoc]
      rw [Bool.or_assoc]
      congr 2
      rw [Bool.eq_iff_iff, key k, inR_iff]
      simp only
      omega
    · rcases List.mem_append.1 ht with e | e
      · exact h.gap t e k (by rw [hasR_cons, h1, Bool.or_true]) h2
      · rw [List.mem_singleton.1 e]
        have := h.pp.head_gap h1
        simp only; omega
  · intro ha
    refine ⟨h.pc, h.pp.tail, h.pq, fun k hk => ?_, fun t ht k h1 h2 => h.gap t ht k (by rw [hasR_cons, h1, Bool.or_true]) h2⟩
    rw [← h.has k hk, hasR_cons r p k, Bool.and_or_distrib_right]
    have : (inR r k && hasR (s :: q) k) = false := by
      rw [Bool.eq_false_iff]
      intro e
      have := (key k).1 e
      omega
    rw [this, Bool.false_or]

/-! ### The rest -/
/-- The gaps of a plain list, so far. -/
structure GInv (P : List (Int × Int)) (i : Nat) (a : Int) (G : List (Int × Int)) : Prop where
  pl : PlainL G
  lo : 0 ≤ a ∧ a ≤ 8192
  has : ∀ k : Nat, k < 8192 → hasR G k = (decide ((k : Int) < a) && !hasR P k)
  out : ∀ r ∈ P.drop i, a ≤ r.1
  gap : ∀ s ∈ G, s.1 + s.2 < a ∨ a = 0
  end_ : i ≤ P.length → ∀ k : Nat, hasR P k = true → a ≤ (k : Int) → hasR (P.drop i) k = true
theorem GInv.zero (P : List (Int × Int)) (h : PlainL P) : GInv P 0 0 [] :=
  ⟨PlainL.nil, by omega, fun k _ => by rw [hasR_nil, decide_eq_false (by omega)]; rfl, fun r hr => (h.nat r (by simpa using hr)).1, fun s hs => (by cases hs), fun _ k hk _ => by simpa using hk⟩

theorem GInv.next {P G : List (Int × Int)} {i : Nat} {a : Int} (hP : PlainL P) (h : GInv P i a G) (hi : i < P.length) :
    (a < P[i].1 → GInv P (i + 1) (P[i].1 + P[i].2) (G ++ [(a, P[i].1 - a)])) ∧ (¬ a < P[i].1 → GInv P (i + 1) (P[i].1 + P[i].2) G) := by
  have hr := hP.nat _ (List.getElem_mem hi)
  have hd : P.drop i = P[i] :: P.drop (i + 1) := List.drop_eq_getElem_cons hi
  have hout := h.out P[i] (by rw [hd]; exact List.mem_cons_self ..)
  have hPd : PlainL (P[i] :: P.drop (i + 1)) := by rw [← hd]; exact hP.drop i
  have hlo := h.lo
  have hnext : ∀ r ∈ P.drop (i + 1), P[i].1 + P[i].2 ≤ r.1 := fun r hr => by have := (List.pairwise_cons.1 hPd.gap).1 r hr; omega
  have hend : i + 1 ≤ P.length → ∀ k : Nat, hasR P k = true → P[i].1 + P[i].2 ≤ (k : Int) → hasR (P.drop (i + 1)) k = true := fun _ k hk hak => by
    have h1 := h.end_ (by omega) k hk (by omega)
    rw [hd, hasR_cons, Bool.or_eq_true, inR_iff] at h1
    rcases h1 with h1 | h1
    · omega
    · exact h1
  -- a sector from a on below the end of the run
  have key : ∀ k : Nat, a ≤ (k : Int) → (k : Int) < P[i].1 + P[i].2 → hasR P k = decide (P[i].1 ≤ (k : Int)) := fun k h1 h2 => by
    rw [Bool.eq_iff_iff, decide_eq_true_eq]
    constructor
    · intro hk
      have h3 := h.end_ (by omega) k hk h1
      rw [hd] at h3
      exact hPd.head_le h3
    · intro h3
      exact (hasR_iff _ _).2 ⟨P[i], List.getElem_mem hi, h3, h2⟩
  constructor
  · intro ha
    refine ⟨h.pl.snoc ⟨hlo.1, by simp only; omega, by simp only; omega⟩ (fun s hs => ?_), by omega, fun k hk => ?_, hnext, fun s hs => Or.inl ?_, hend⟩
    · rcases h.gap s hs with e | e
      · exact e
      · have h1 := h.pl.nat s hs
        have h2 := h.has s.1.toNat (by omega)
        rw [(hasR_iff _ _).2 ⟨s, hs, by omega, by omega⟩, decide_eq_false (by omega)] at h2
        cases h2
    · rw [hasR_append, hasR_one, h.has k hk]
      by_cases h1 : (k : Int) < a
      · have : inR (a, P[i].1 - a) k = false := by unfold inR; exact decide_eq_false (by simp only; omega)
        rw [this, Bool.or_false, decide_eq_true h1, decide_eq_true (show (k : Int) < P[i].1 + P[i].2 by omega)]
      · rw [decide_eq_false h1, Bool.false_and, Bool.false_or]
        by_cases h2 : (k : Int) < P[i].1 + P[i].2
        · rw [decide_eq_true h2, key k (by omega) h2, Bool.true_and]
          unfold inR
          rw [← decide_not]
          exact decide_eq_decide.2 (by simp only; omega)
        · rw [decide_eq_false h2, Bool.false_and]
          unfold inR; exact decide_eq_false (by simp only; omega)
    · rcases List.mem_append.1 hs with e | e
      · rcases h.gap s e with x | x
        · omega
        · have h1 := h.pl.nat s e
          have h2 := h.has s.1.toNat (by omega)
          rw [(hasR_iff _ _).2 ⟨s, e, by omega, by omega⟩, decide_eq_false (by omega)] at h2
          cases h2
      · rw [List.mem_singleton.1 e]; simp only; omega
  · intro ha
    refine ⟨h.pl, by omega, fun k hk => ?_, hnext, fun s hs => Or.inl ?_, hend⟩
    · rw [h.has k hk]
      by_cases h1 : (k : Int) < a
      · rw [decide_eq_true h1, decide_eq_true (show (k : Int) < P[i].1 + P[i].2 by omega)]
      · rw [decide_eq_false h1, Bool.false_and]
        by_cases h2 : (k : Int) < P[i].1 + P[i].2
        · rw [key k (by omega) h2, decide_eq_true (show P[i].1 ≤ (k : Int) by omega)]; simp
        · rw [decide_eq_false h2, Bool.false_and]
    · rcases h.gap s hs with e | e
      · omega
      · have h1 := h.pl.nat s hs
        have h2 := h.has s.1.toNat (by omega)
        rw [(hasR_iff _ _).2 ⟨s, hs, by omega, by omega⟩, decide_eq_false (by omega)] at h2
        cases h2
/-- The last gap, up to 8192. -/
theorem GInv.last {P G : List (Int × Int)} {a : Int} (h : GInv P P.length a G) :
    (a < 8192 → G ++ [(a, 8192 - a)] = runsA (fun k => !hasR P k)) ∧ (¬ a < 8192 → G = runsA (fun k => !hasR P k)) := by
  have hlo := h.lo
  have hno : ∀ k : Nat, a ≤ (k : Int) → hasR P k = false := fun k hk => by
    cases e : hasR P k with
    | false => rfl
    | true =>
      have := h.end_ (Nat.le_refl _) k e hk
      rw [List.drop_length, hasR_nil] at this
      cases this
  constructor
  · intro ha
    refine plain_runsA (h.pl.snoc ⟨hlo.1, by simp only; omega, by simp only; omega⟩ (fun s hs => ?_)) fun k hk => ?_
    · rcases h.gap s hs with e | e
      · exact e
      · have h1 := h.pl.nat s hs
        have h2 := h.has s.1.toNat (by omega)
        rw [(hasR_iff _ _).2 ⟨s, hs, by omega, by omega⟩, decide_eq_false (by omega)] at h2
        cases h2
    · rw [hasR_append, hasR_one, h.has k hk]
      by_cases h1 : (k : Int) < a
      · have : inR (a, 8192 - a) k = false := by unfold inR; exact decide_eq_false (by simp only; omega)
        rw [this, Bool.or_false, decide_eq_true h1, Bool.true_and]
      · rw [decide_eq_false h1, Bool.false_and, Bool.false_or, hno k (by omega)]
        unfold inR; exact decide_eq_true (by simp only; omega)
  · intro ha
    refine plain_runsA h.pl fun k hk => ?_
    rw [h.has k hk, decide_eq_true (by omega), Bool.true_and]

/-! ### Valid lists, sorted -/
theorem valid_sorted {s l : List (Int × Int)} (hp : s.Perm l) (hs : s.Pairwise fun a b => a.1 ≤ b.1) {fr to : Int} (hf : ∀ r ∈ l, fitR fr to r) :
    validL fr to l ↔ ∀ i, ∀ h : i + 1 < s.length, s[i].1 + s[i].2 ≤ s[i + 1].1 := by
  have hpos : ∀ r ∈ s, 1 ≤ r.2 := fun r hr => (hf r (hp.mem_iff.1 hr)).2.1
  have hval : validL fr to l ↔ l.Pairwise fun a b => ¬ overR a b ∧ ¬ overR b a := by
    rw [List.pairwise_iff_getElem]
    have hg : ∀ j (h : j < l.length), l.getD j (0, 0) = l[j] := fun j h => by rw [List.getD_eq_getElem?_getD, List.getElem?_eq_getElem h]; rfl
    constructor
    · intro h i j hi hj hij
      have := (h j hj).2 i hij
      rw [hg j hj, hg i hi] at this
      exact ⟨this.2, this.1⟩
    · intro h j hj
      rw [hg j hj]
      refine ⟨hf _ (List.getElem_mem hj), fun k hk => ?_⟩
      have hk2 : k < l.length := Nat.lt_trans hk hj
      rw [hg k hk2]
      have := h k j hk2 hj hk
      exact ⟨this.2, this.1⟩
  have hsym : ∀ {a b : Int × Int}, (¬ overR a b ∧ ¬ overR b a) → (¬ overR b a ∧ ¬ overR a b) := fun h => ⟨h.2, h.1⟩
  rw [hval, ← List.Perm.pairwise_iff hsym hp, List.pairwise_iff_getElem]
  have hsg := List.pairwise_iff_getElem.1 hs
  constructor
  · intro h i hi
    have h1 := h i (i + 1) (by omega) hi (by omega)
    have h2 := hsg i (i + 1) (by omega) hi (by omega)
    have h3 : ¬ (s[i].1 ≤ s[i + 1].1 ∧ s[i + 1].1 < s[i].1 + s[i].2) := h1.1
    omega
  · intro h i j hi hj hij
    have h1 := h i (by omega)
    have h2 : s[i + 1].1 ≤ s[j].1 := by
      by_cases e : i + 1 = j
      · subst e; exact Int.le_refl _
      · exact hsg (i + 1) j (by omega) hj (by omega)
    have h3 := hpos _ (List.getElem_mem hi)
    have h4 := hpos _ (List.getElem_mem hj)
    unfold overR
    omega

end Go.Proofs.Ytppbknlhknadbaa
