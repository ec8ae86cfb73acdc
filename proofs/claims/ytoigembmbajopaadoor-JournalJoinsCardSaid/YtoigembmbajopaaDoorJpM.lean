/- Records read as the landed journal reads them, and as the document says: the mathematics, of no program. -/
import Derived.Test.YtoigembmbajopaaDoorGA
namespace Go.Proofs.YtoigembmbajopaaDoor

def runsL : Nat → RdSt → List (Int × Int) → List (Int × Int) × RdSt
  | 0, s, acc => (acc, s)
  | k + 1, s, acc => runsL k (numR (numR s 2).2 2).2 (acc ++ [(((numR s 2).1 : Int), ((numR (numR s 2).2 2).1 : Int))])
/-- Runs: at most one too many. -/
def runsLd (s : RdSt) : List (Int × Int) × RdSt := runsL (min (numR s 2).1 17) (numR s 2).2 []
def oneBL (k : Int) (s : RdSt) : (Int × List (Int × Int)) × RdSt := if blobK k = true then (((numR s 4).1, (runsLd (numR s 4).2).1), (runsLd (numR s 4).2).2) else ((0, []), s)
def oneL (s : RdSt) : Rc × RdSt := (⟨(numR s 1).1, (oneI s).1, (oneN s).1, (oneBL (numR s 1).1 (oneN s).2).1.1, (oneBL (numR s 1).1 (oneN s).2).1.2⟩, (oneBL (numR s 1).1 (oneN s).2).2)
def recsL : Nat → RdSt → List Rc → Option (List Rc × RdSt)
  | 0, s, acc => some (acc, s)
  | k + 1, s, acc => if mayR (oneL s).1 then recsL k (oneL s).2 (acc ++ [(oneL s).1]) else none
def recordsL (t : List UInt8) : Option (List Rc) :=
  if (numR (t, 0) 2).1 < 1 ∨ 8192 < (numR (t, 0) 2).1 then none else
  match recsL (numR (t, 0) 2).1 (numR (t, 0) 2).2 [] with
  | none => none
  | some (l, s) => if shutR s = 0 then some l else none

theorem numR_stick {s : RdSt} {k : Nat} (h : (numR s k).2.2 = 0) : s.2 = 0 := (numR_ok (s := s) (k := k) (n := (numR s k).1) (l := (numR s k).2.1) (by rw [← h])).1
theorem runsL_len : ∀ (k : Nat) (s : RdSt) (acc : List (Int × Int)), (runsL k s acc).1.length = acc.length + k
  | 0, _, _ => rfl
  | k + 1, s, acc => by
    unfold runsL
    rw [runsL_len k, List.length_append, List.length_cons, List.length_nil]
    omega
theorem runsL_ok : ∀ (k : Nat) (s : RdSt) (acc : List (Int × Int)), (runsL k s acc).2.2 = 0 → s.2 = 0 ∧ runsR k s acc = runsL k s acc
  | 0, _, _, h => ⟨h, rfl⟩
  | k + 1, s, acc, h => by
    unfold runsL at h ⊢
    obtain ⟨h1, h2⟩ := runsL_ok k _ _ h
    have h3 := numR_stick (numR_stick h1)
    refine ⟨h3, ?_⟩
    rw [runsR, if_neg (fun x => x h3)]
    exact h2
theorem runsR_toL : ∀ (k : Nat) (s : RdSt) (acc : List (Int × Int)), (runsR k s acc).2.2 = 0 → runsL k s acc = runsR k s acc
  | 0, _, _, _ => rfl
  | k + 1, s, acc, h => by
    rw [runsR] at h ⊢
    by_cases h0 : s.2 = 0
    · rw [if_neg (fun x => x h0)] at h ⊢
      exact runsR_toL k _ _ h
    · rw [if_pos h0] at h
      exact absurd h h0
theorem mayR_few {r : Rc} (h : mayR r) : r.runs.length ≤ 16 := by
  rcases h.2.2.2.2.2 with ⟨_, _, x, _⟩ | ⟨_, _, x⟩
  · exact x
  · omega
theorem oneL_R {s : RdSt} (hm : mayR (oneL s).1) (h0 : (oneL s).2.2 = 0) : oneR s = oneL s := by
  have h16 := mayR_few hm
  unfold oneL at h0 h16 ⊢
  unfold oneR
  simp only at h0 h16
  have e : oneB ((numR s 1).1 : Nat) (oneN s).2 = oneBL ((numR s 1).1 : Nat) (oneN s).2 := by
    unfold oneB oneBL at *
    split
    · rename_i hb
      rw [if_pos hb] at h0 h16
      simp only at h0 h16
      unfold runsLd at h0 h16 ⊢
      rw [runsL_len, List.length_nil] at h16
      have e2 : min (numR (numR (oneN s).2 4).2 2).1 17 = (numR (numR (oneN s).2 4).2 2).1 := by omega
      rw [e2] at h0 ⊢
      rw [(runsL_ok _ _ _ h0).2]
    · rfl
  rw [e]
theorem oneR_L {s : RdSt} (hm : mayR (oneR s).1) (h0 : (oneR s).2.2 = 0) : oneL s = oneR s := by
  have h16 := mayR_few hm
  unfold oneR at h0 h16 ⊢
  unfold oneL
  simp only at h0 h16
  have e : oneBL ((numR s 1).1 : Nat) (oneN s).2 = oneB ((numR s 1).1 : Nat) (oneN s).2 := by
    unfold oneB oneBL at *
    split
    · rename_i hb
      rw [if_pos hb] at h0 h16
      simp only at h0 h16
      unfold runsLd
      have e1 := runsR_toL _ _ _ h0
      rw [← e1, runsL_len, List.length_nil] at h16
      have e2 : min (numR (numR (oneN s).2 4).2 2).1 17 = (numR (numR (oneN s).2 4).2 2).1 := by omega
      rw [e2, e1]
    · rfl
  rw [e]
theorem oneL_stick {s : RdSt} (hm : mayR (oneL s).1) (h0 : (oneL s).2.2 = 0) : s.2 = 0 := by
  have e := oneL_R hm h0
  exact (oneR_ok (s := s) (x := (oneL s).1) (R := (oneL s).2.1) (by rw [e, ← h0]) hm).1
theorem recsL_stick : ∀ (k : Nat) (s : RdSt) (acc out : List Rc) (s' : RdSt), recsL k s acc = some (out, s') → s'.2 = 0 → s.2 = 0
  | 0, s, acc, out, s', h, h0 => by
    unfold recsL at h
    have := (Prod.mk.inj (Option.some.inj h)).2
    rw [this]; exact h0
  | k + 1, s, acc, out, s', h, h0 => by
    unfold recsL at h
    split at h
    · rename_i hm
      exact oneL_stick hm (recsL_stick k _ _ _ _ h h0)
    · cases h
theorem recsL_R : ∀ (k : Nat) (s : RdSt) (acc out : List Rc) (s' : RdSt), recsL k s acc = some (out, s') → s'.2 = 0 → recsR k s acc = some (out, s')
  | 0, s, acc, out, s', h, _ => h
  | k + 1, s, acc, out, s', h, h0 => by
    have hs := recsL_stick _ _ _ _ _ h h0
    unfold recsL at h
    split at h
    · rename_i hm
      have h1 := recsL_stick _ _ _ _ _ h h0
      have e := oneL_R hm h1
      rw [recsR, if_neg (fun x => x hs), e, if_pos hm]
      exact recsL_R k _ _ _ _ h h0
    · cases h
theorem recsR_L : ∀ (k : Nat) (s : RdSt) (acc out : List Rc) (s' : RdSt), recsR k s acc = some (out, s') → s'.2 = 0 → recsL k s acc = some (out, s')
  | 0, s, acc, out, s', h, _ => h
  | k + 1, s, acc, out, s', h, h0 => by
    rw [recsR] at h
    by_cases hs : s.2 = 0
    · rw [if_neg (fun x => x hs)] at h
      split at h
      · rename_i hm
        have h1 : (oneR s).2.2 = 0 := by
          by_cases he : (oneR s).2.2 = 0
          · exact he
          · cases k with
            | zero =>
              have := (Prod.mk.inj (Option.some.inj h)).2
              rw [this]; exact h0
            | succ k =>
              rw [recsR, if_pos he] at h
              have := (Prod.mk.inj (Option.some.inj h)).2
              rw [this]; exact h0
        have e := oneR_L hm h1
        rw [recsL, e, if_pos hm]
        exact recsR_L k _ _ _ _ h h0
      · cases h
    · rw [if_pos hs] at h
      have := (Prod.mk.inj (Option.some.inj h)).2
      exact absurd (by rw [this]; exact h0) hs
theorem shutR_zero {s : RdSt} (h : shutR s = 0) : s.2 = 0 := by
  unfold shutR at h
  split at h
  · omega
  · exact h
theorem recordsL_eq (t : List UInt8) : recordsL t = recordsR t := by
  have key : ∀ l, recordsL t = some l ↔ recordsR t = some l := fun l => by
    unfold recordsL recordsR
    obtain ⟨n, hn⟩ : ∃ n, n = (numR (t, 0) 2).1 := ⟨_, rfl⟩
    obtain ⟨s0, hs0⟩ : ∃ s, s = (numR (t, 0) 2).2 := ⟨_, rfl⟩
    rw [← hn, ← hs0]
    constructor
    · intro h
      split at h
      · cases h
      · rename_i hb
        cases e : recsL n s0 [] with
        | none => rw [e] at h; cases h
        | some p =>
          obtain ⟨out, s'⟩ := p
          rw [e] at h
          simp only at h
          by_cases hz : shutR s' = 0
          · rw [if_pos hz] at h
            rw [recsL_R _ _ _ _ _ e (shutR_zero hz)]
            simp only
            rw [if_pos ⟨hz, by omega, by omega⟩]
            exact h
          · rw [if_neg hz] at h; cases h
    · intro h
      cases e : recsR n s0 [] with
      | none => rw [e] at h; cases h
      | some p =>
        obtain ⟨out, s'⟩ := p
        rw [e] at h
        simp only at h
        by_cases hz : shutR s' = 0 ∧ 1 ≤ n ∧ n ≤ 8192
        · rw [if_pos hz] at h
          rw [if_neg (by omega), recsR_L _ _ _ _ _ e (shutR_zero hz.1)]
          simp only
          rw [if_pos hz.1]
          exact h
        · rw [if_neg hz] at h; cases h
  cases e : recordsL t with
  | some l => exact ((key l).1 e).symm
  | none =>
    cases e2 : recordsR t with
    | none => rfl
    | some l => rw [(key l).2 e2] at e; cases e

end Go.Proofs.YtoigembmbajopaaDoor
