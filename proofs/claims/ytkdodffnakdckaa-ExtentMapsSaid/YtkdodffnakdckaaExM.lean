/- Runs of sectors as the document says them: the mathematics of stage 10, of no program. -/
import Derived.Test.YtkdodffnakdckaaPlain
namespace Go.Proofs.Ytkdodffnakdckaa

/-- Is a sector in a run; in a list? A run is where it begins, and how many sectors it has. -/
def inR (r : Int × Int) (k : Nat) : Bool := decide (r.1 ≤ (k : Int) ∧ (k : Int) < r.1 + r.2)
def hasR (l : List (Int × Int)) (k : Nat) : Bool := l.any fun r => inR r k

theorem hasR_nil (k : Nat) : hasR [] k = false := rfl
theorem hasR_append (a b : List (Int × Int)) (k : Nat) : hasR (a ++ b) k = (hasR a k || hasR b k) := by unfold hasR; rw [List.any_append]
theorem hasR_one (r : Int × Int) (k : Nat) : hasR [r] k = inR r k := by unfold hasR; simp
theorem hasR_take (l : List (Int × Int)) (i : Nat) (h : i < l.length) (k : Nat) : hasR (l.take (i + 1)) k = (hasR (l.take i) k || inR l[i] k) := by
  rw [List.take_succ_eq_append_getElem h, hasR_append, hasR_one]

/-- How many of the first n. -/
def cntF (f : Nat → Bool) : Nat → Nat
  | 0 => 0
  | n + 1 => cntF f n + (if f n = true then 1 else 0)

theorem cntF_congr {f g : Nat → Bool} : ∀ (n : Nat), (∀ k, k < n → f k = g k) → cntF f n = cntF g n
  | 0, _ => rfl
  | n + 1, h => by unfold cntF; rw [cntF_congr n (fun k hk => h k (by omega)), h n (by omega)]
theorem cntF_le (f : Nat → Bool) : ∀ n, cntF f n ≤ n
  | 0 => Nat.le_refl _
  | n + 1 => by unfold cntF; have := cntF_le f n; split <;> omega
theorem cntF_split (f g : Nat → Bool) : ∀ n, cntF (fun k => f k && !g k) n + cntF (fun k => f k && g k) n = cntF f n
  | 0 => rfl
  | n + 1 => by
    unfold cntF
    have := cntF_split f g n
    cases f n <;> cases g n <;> simp <;> omega
theorem cntF_zero {f : Nat → Bool} : ∀ {n : Nat}, cntF f n = 0 → ∀ k, k < n → f k = false
  | 0, _, k, hk => by omega
  | n + 1, h, k, hk => by
    unfold cntF at h
    have h2 : cntF f n = 0 := by omega
    by_cases e : k = n
    · subst e
      cases hf : f k with
      | false => rfl
      | true => rw [hf] at h; simp at h
    · exact cntF_zero h2 k (by omega)
theorem cntF_none {f : Nat → Bool} {n : Nat} (h : ∀ k, k < n → f k = false) : cntF f n = 0 := by
  rw [cntF_congr (g := fun _ => false) n h]
  induction n with
  | zero => rfl
  | succ n ih => unfold cntF; rw [ih (fun k hk => h k (by omega))]; rfl
theorem cntF_mono (f : Nat → Bool) {m n : Nat} (h : m ≤ n) : cntF f m ≤ cntF f n := by
  induction n with
  | zero => have : m = 0 := by omega
            subst this; exact Nat.le_refl _
  | succ n ih =>
    by_cases e : m = n + 1
    · subst e; exact Nat.le_refl _
    · have := ih (by omega)
      show _ ≤ cntF f n + _
      omega

/-- The lowest n. -/
def lowF (f : Nat → Bool) (n : Nat) (k : Nat) : Bool := f k && decide (cntF f k < n)
theorem lowF_cnt (f : Nat → Bool) (n : Nat) : ∀ m, cntF (lowF f n) m = min (cntF f m) n
  | 0 => by simp [cntF]
  | m + 1 => by
    unfold cntF
    rw [lowF_cnt f n m]
    unfold lowF
    cases f m <;> simp
    by_cases h : cntF f m < n
    · rw [if_pos h]; omega
    · rw [if_neg h]; omega
theorem lowF_sub (f : Nat → Bool) (n k : Nat) (h : lowF f n k = true) : f k = true := by
  unfold lowF at h
  simp only [Bool.and_eq_true] at h
  exact h.1
theorem lowF_congr {f g : Nat → Bool} (n N : Nat) (h : ∀ k, k < N → f k = g k) (k : Nat) (hk : k < N) : lowF f n k = lowF g n k := by
  unfold lowF
  rw [h k hk, cntF_congr k (fun j hj => h j (by omega))]

/-- One sector more in the last run. -/
def bump (l : List (Int × Int)) : List (Int × Int) := l.set (l.length - 1) ((l.getD (l.length - 1) (0, 0)).1, (l.getD (l.length - 1) (0, 0)).2 + 1)
theorem bump_snoc (pre : List (Int × Int)) (r : Int × Int) : bump (pre ++ [r]) = pre ++ [(r.1, r.2 + 1)] := by
  unfold bump
  rw [List.length_append]
  show (pre ++ [r]).set pre.length (((pre ++ [r]).getD pre.length (0, 0)).1, _) = _
  have e : (pre ++ [r]).getD pre.length (0, 0) = r := by rw [List.getD_eq_getElem?_getD, List.getElem?_append_right (Nat.le_refl _), Nat.sub_self]; rfl
  show (pre ++ [r]).set pre.length (((pre ++ [r]).getD pre.length (0, 0)).1, ((pre ++ [r]).getD pre.length (0, 0)).2 + 1) = _
  rw [e, List.set_append_right _ _ (Nat.le_refl _), Nat.sub_self]
  rfl
theorem bump_len (l : List (Int × Int)) : (bump l).length = l.length := by unfold bump; rw [List.length_set]

/-- The runs of the first n sectors. -/
def runsF (f : Nat → Bool) : Nat → List (Int × Int)
  | 0 => []
  | n + 1 => if f n = true then (if 0 < n ∧ f (n - 1) = true then bump (runsF f n) else runsF f n ++ [((n : Int), 1)]) else runsF f n

theorem runsF_congr {f g : Nat → Bool} : ∀ (n : Nat), (∀ k, k < n → f k = g k) → runsF f n = runsF g n
  | 0, _ => rfl
  | n + 1, h => by
    unfold runsF
    rw [runsF_congr n (fun k hk => h k (by omega)), h n (by omega)]
    by_cases h0 : 0 < n
    · rw [h (n - 1) (by omega)]
    · have e1 : ¬ (0 < n ∧ f (n - 1) = true) := fun x => h0 x.1
      have e2 : ¬ (0 < n ∧ g (n - 1) = true) := fun x => h0 x.1
      rw [if_neg e1, if_neg e2]
theorem runsF_len (f : Nat → Bool) : ∀ n, (runsF f n).length ≤ n
  | 0 => Nat.le_refl _
  | n + 1 => by
    unfold runsF
    have := runsF_len f n
    split
    · split
      · rw [bump_len]; omega
      · rw [List.length_append]; show _ + 1 ≤ _; omega
    · omega

/-- What holds of such runs. -/
structure RunsOk (f : Nat → Bool) (n : Nat) (l : List (Int × Int)) : Prop where
  nat : ∀ r ∈ l, 0 ≤ r.1 ∧ 1 ≤ r.2 ∧ r.1 + r.2 ≤ (n : Int)
  gap : l.Pairwise fun r s => r.1 + r.2 < s.1
  has : ∀ k, hasR l k = (decide (k < n) && f k)
  last : 0 < n → f (n - 1) = true → ∃ pre r, l = pre ++ [r] ∧ r.1 + r.2 = (n : Int)

theorem hasR_mem {l : List (Int × Int)} {r : Int × Int} (h : r ∈ l) (k : Nat) (hk : inR r k = true) : hasR l k = true := by
  unfold hasR
  exact List.any_eq_true.2 ⟨r, h, hk⟩

theorem RunsOk.mem {f : Nat → Bool} {n : Nat} {l : List (Int × Int)} (h : RunsOk f n l) {r : Int × Int} (hr : r ∈ l) (k : Nat) (h1 : r.1 ≤ (k : Int)) (h2 : (k : Int) < r.1 + r.2) : k < n ∧ f k = true := by
  have h3 := h.has k
  rw [hasR_mem hr k (by unfold inR; exact decide_eq_true ⟨h1, h2⟩)] at h3
  have h4 := h3.symm
  simp only [Bool.and_eq_true, decide_eq_true_eq] at h4
  exact h4

theorem runsF_ok (f : Nat → Bool) : ∀ n, RunsOk f n (runsF f n)
  | 0 => ⟨fun r hr => (by cases hr), List.Pairwise.nil, fun k => (by simp [runsF, hasR]), fun h => (by omega)⟩
  | n + 1 => by
    have ih := runsF_ok f n
    unfold runsF
    by_cases hf : f n = true
    · rw [if_pos hf]
      by_cases h0 : 0 < n ∧ f (n - 1) = true
      · rw [if_pos h0]
        obtain ⟨pre, r, hl, he⟩ := ih.last h0.1 h0.2
        rw [hl, bump_snoc]
        rw [hl] at ih
        have hr := ih.nat r (by simp)
        refine ⟨fun s hs => ?_, ?_, fun k => ?_, fun _ _ => ⟨pre, _, rfl, by show r.1 + (r.2 + 1) = _; omega⟩⟩
        · rcases List.mem_append.1 hs with e | e
          · have := ih.nat s (List.mem_append.2 (Or.inl e)); omega
          · rw [List.mem_singleton.1 e]; show 0 ≤ r.1 ∧ 1 ≤ r.2 + 1 ∧ r.1 + (r.2 + 1) ≤ _; omega
        · have hg := List.pairwise_append.1 ih.gap
          refine List.pairwise_append.2 ⟨hg.1, List.pairwise_singleton _ _, fun a ha b hb => ?_⟩
          rw [List.mem_singleton.1 hb]
          exact hg.2.2 a ha r (by simp)
        · have h1 := ih.has k
          rw [hasR_append, hasR_one] at h1 ⊢
          have e : inR (r.1, r.2 + 1) k = (inR r k || decide (k = n)) := by
            unfold inR
            rw [Bool.eq_iff_iff]
            simp only [decide_eq_true_eq, Bool.or_eq_true]
            omega
          rw [e, ← Bool.or_assoc, h1]
          by_cases hk : k = n
          · subst hk; simp [hf]
          · have e2 : decide (k < n + 1) = decide (k < n) := decide_eq_decide.2 (by omega)
            rw [e2]; simp [hk]
      · rw [if_neg h0]
        have hlast : ∀ r ∈ runsF f n, r.1 + r.2 < (n : Int) := fun r hr => by
          have h1 := ih.nat r hr
          refine Decidable.byContradiction fun hn => h0 ?_
          have h2 : r.1 + r.2 = n := by omega
          have h3 := ih.mem hr (n - 1) (by omega) (by omega)
          exact ⟨by omega, h3.2⟩
        refine ⟨fun s hs => ?_, ?_, fun k => ?_, fun _ _ => ⟨runsF f n, ((n : Int), 1), rfl, by show (n : Int) + 1 = _; omega⟩⟩
        · rcases List.mem_append.1 hs with e | e
          · have := ih.nat s e; omega
          · rw [List.mem_singleton.1 e]; show 0 ≤ (n : Int) ∧ (1 : Int) ≤ 1 ∧ (n : Int) + 1 ≤ _; omega
        · refine List.pairwise_append.2 ⟨ih.gap, List.pairwise_singleton _ _, fun a ha b hb => ?_⟩
          rw [List.mem_singleton.1 hb]
          exact hlast a ha
        · rw [hasR_append, hasR_one, ih.has k]
          have e : inR ((n : Int), 1) k = decide (k = n) := by unfold inR; exact decide_eq_decide.2 (by show (n : Int) ≤ k ∧ (k : Int) < n + 1 ↔ _; omega)
          rw [e]
          by_cases hk : k = n
          · subst hk; simp [hf]
          · have e2 : decide (k < n + 1) = decide (k < n) := decide_eq_decide.2 (by omega)
            rw [e2]; simp [hk]
    · rw [if_neg hf]
      have hff : f n = false := by simpa using hf
      refine ⟨fun s hs => ?_, ih.gap, fun k => ?_, fun _ h => ?_⟩
      · have := ih.nat s hs; omega
      · rw [ih.has k]
        by_cases hk : k = n
        · subst hk; simp [hff]
        · have e2 : decide (k < n + 1) = decide (k < n) := decide_eq_decide.2 (by omega)
          rw [e2]
      · rw [show n + 1 - 1 = n by omega] at h
        exact absurd h hf

/-- The number of sectors that there may be. -/
abbrev mxS : Nat := 8192
def runsA (f : Nat → Bool) : List (Int × Int) := runsF f mxS
def cntA (f : Nat → Bool) : Nat := cntF f mxS
theorem runsA_has (f : Nat → Bool) (k : Nat) (hk : k < mxS) : hasR (runsA f) k = f k := by
  rw [runsA, (runsF_ok f mxS).has k]; simp [hk]
theorem runsA_congr {f g : Nat → Bool} (h : ∀ k, k < mxS → f k = g k) : runsA f = runsA g := runsF_congr mxS h
theorem cntA_congr {f g : Nat → Bool} (h : ∀ k, k < mxS → f k = g k) : cntA f = cntA g := cntF_congr mxS h
theorem runsA_again (f : Nat → Bool) : runsA (hasR (runsA f)) = runsA f := runsA_congr (fun k hk => runsA_has f k hk)
theorem cntA_again (f : Nat → Bool) : cntA (hasR (runsA f)) = cntA f := cntA_congr (fun k hk => runsA_has f k hk)
theorem runsA_none {f : Nat → Bool} (h : ∀ k, k < mxS → f k = false) : runsA f = [] := by
  rw [runsA_congr (g := fun _ => false) h]
  unfold runsA
  generalize mxS = n
  induction n with
  | zero => rfl
  | succ n ih => unfold runsF; rw [ih]; rfl
theorem runsA_len (f : Nat → Bool) : (runsA f).length ≤ 8192 := runsF_len f mxS
theorem cntA_le (f : Nat → Bool) : cntA f ≤ 8192 := cntF_le f mxS

/-- Lists that are valid. -/
def overR (a b : Int × Int) : Prop := a.1 ≤ b.1 ∧ b.1 < a.1 + a.2
instance (a b : Int × Int) : Decidable (overR a b) := by unfold overR; infer_instance
def fitR (fr to : Int) (r : Int × Int) : Prop := fr ≤ r.1 ∧ 1 ≤ r.2 ∧ r.1 + r.2 ≤ to
instance (fr to : Int) (r : Int × Int) : Decidable (fitR fr to r) := by unfold fitR; infer_instance
/-- The first i of them are. -/
def validK (fr to : Int) (l : List (Int × Int)) (i : Nat) : Prop := ∀ j, j < i → fitR fr to (l.getD j (0, 0)) ∧ ∀ k, k < j → ¬ overR (l.getD j (0, 0)) (l.getD k (0, 0)) ∧ ¬ overR (l.getD k (0, 0)) (l.getD j (0, 0))
def validL (fr to : Int) (l : List (Int × Int)) : Prop := validK fr to l l.length
instance (fr to : Int) (l : List (Int × Int)) (i : Nat) : Decidable (validK fr to l i) := by unfold validK; infer_instance
instance (fr to : Int) (l : List (Int × Int)) : Decidable (validL fr to l) := by unfold validL; infer_instance

theorem validK_mono {fr to : Int} {l : List (Int × Int)} {i j : Nat} (h : validK fr to l j) (hi : i ≤ j) : validK fr to l i := fun k hk => h k (by omega)
theorem validK_succ {fr to : Int} {l : List (Int × Int)} {i : Nat} (h : validK fr to l i) (h1 : fitR fr to (l.getD i (0, 0))) (h2 : ∀ k, k < i → ¬ overR (l.getD i (0, 0)) (l.getD k (0, 0)) ∧ ¬ overR (l.getD k (0, 0)) (l.getD i (0, 0))) : validK fr to l (i + 1) := fun j hj => by
  by_cases e : j = i
  · subst e; exact ⟨h1, h2⟩
  · exact h j (by omega)

theorem RunsOk.valid {f : Nat → Bool} {n : Nat} {l : List (Int × Int)} (h : RunsOk f n l) (fr to : Int) (hin : ∀ k, k < n → f k = true → fr ≤ (k : Int) ∧ (k : Int) < to) : validL fr to l := by
  intro j hj
  have hm : l[j] ∈ l := List.getElem_mem hj
  have hjd : l.getD j (0, 0) = l[j] := by rw [List.getD_eq_getElem?_getD, List.getElem?_eq_getElem hj]; rfl
  rw [hjd]
  have hn := h.nat _ hm
  refine ⟨?_, fun k hk => ?_⟩
  · have h1 := h.mem hm l[j].1.toNat (by omega) (by omega)
    have h2 := h.mem hm (l[j].1 + l[j].2 - 1).toNat (by omega) (by omega)
    have h3 := hin _ h1.1 h1.2
    have h4 := hin _ h2.1 h2.2
    unfold fitR
    omega
  · have hkl : k < l.length := by omega
    have hkd : l.getD k (0, 0) = l[k] := by rw [List.getD_eq_getElem?_getD, List.getElem?_eq_getElem hkl]; rfl
    rw [hkd]
    have hg := List.pairwise_iff_getElem.1 h.gap k j hkl hj hk
    have hnk := h.nat _ (List.getElem_mem hkl)
    unfold overR
    omega

theorem runsA_valid (f : Nat → Bool) (fr to : Int) (hin : ∀ k, k < mxS → f k = true → fr ≤ (k : Int) ∧ (k : Int) < to) : validL fr to (runsA f) := (runsF_ok f mxS).valid fr to hin

/-- Ints of the machine. -/
def wfR (l : List (Int × Int)) : Prop := ∀ r ∈ l, (-9223372036854775808 ≤ r.1 ∧ r.1 ≤ 9223372036854775807) ∧ (-9223372036854775808 ≤ r.2 ∧ r.2 ≤ 9223372036854775807)
theorem runsA_wf (f : Nat → Bool) : wfR (runsA f) := fun r hr => by
  have h := (runsF_ok f mxS).nat r hr
  have e : ((mxS : Nat) : Int) = 8192 := rfl
  rw [e] at h
  omega
theorem wfR_append {a b : List (Int × Int)} (ha : wfR a) (hb : wfR b) : wfR (a ++ b) := fun r hr => (List.mem_append.1 hr).elim (ha r) (hb r)
theorem wfR_take {a : List (Int × Int)} (ha : wfR a) (n : Nat) : wfR (a.take n) := fun r hr => ha r (List.mem_of_mem_take hr)
theorem wfR_nil : wfR [] := fun r hr => (by cases hr)

end Go.Proofs.Ytkdodffnakdckaa
