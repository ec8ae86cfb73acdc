/- Lists that stand while a map changes; what is taken and given back; the law ExtentBack out of the contracts. -/
import Derived.Test.YtkdodffnakdckaaExB
namespace Go.Proofs.Ytkdodffnakdckaa
open Go.RowKit

/-! ### Taken, and given back -/
theorem takeL_facts {s : Mp} (n : Int) (h : takeE s n = 0) : 0 ≤ n ∧ cntA (hasR (takeL s n)) = n.toNat ∧ (∀ k, k < 8192 → hasR (takeL s n) k = lowF (freeF s) n.toNat k) := by
  have hz := lowE_zero h
  have hh : ∀ k, k < 8192 → hasR (takeL s n) k = lowF (freeF s) n.toNat k := fun k hk => by rw [takeL_ok s n h, runsA_has _ k hk]
  refine ⟨hz.1, ?_, hh⟩
  rw [cntA_congr hh]
  show cntF (lowF (freeF s) n.toNat) mxS = n.toNat
  rw [lowF_cnt]
  have := hz.2
  show min (cntA (freeF s)) n.toNat = _
  omega
theorem takeL_valid {s : Mp} (n : Int) (h : takeE s n = 0) : validL s.fr s.to_ (takeL s n) := by
  rw [takeL_ok s n h]
  refine runsA_valid _ _ _ (fun k hk hl => ?_)
  have h2 := lowF_sub _ _ _ hl
  unfold freeF at h2
  simp only [Bool.and_eq_true, decide_eq_true_eq] at h2
  omega
/-- The same, as far as there are sectors. -/
structure Mp.same (s t : Mp) : Prop where
  fr : s.fr = t.fr
  to_ : s.to_ = t.to_
  tk : ∀ k, k < 8192 → s.tk k = t.tk k
theorem Mp.same.free {s t : Mp} (h : s.same t) : runsA (freeF s) = runsA (freeF t) ∧ cntA (freeF s) = cntA (freeF t) := by
  have e : ∀ k, k < 8192 → freeF s k = freeF t k := fun k hk => by unfold freeF; rw [h.fr, h.to_, h.tk k hk]
  exact ⟨runsA_congr e, cntA_congr e⟩
theorem Mp.same.refl (s : Mp) : s.same s := ⟨rfl, rfl, fun _ _ => rfl⟩
/-- What was taken is given back. -/
theorem back_fine {s t : Mp} (n : Int) (h : takeE s n = 0) (ht : t.same (takeS s n)) : giveE t (takeL s n) = 0 ∧ (giveS t (takeL s n)).same s := by
  have hS : takeS s n = ⟨s.fr, s.to_, fun k => s.tk k || lowF (freeF s) n.toNat k⟩ := by unfold takeS; rw [if_pos h]
  rw [hS] at ht
  have hf := (takeL_facts n h).2.2
  have hg : giveE t (takeL s n) = 0 := by
    unfold giveE
    have e1 : t.fr = s.fr := ht.fr
    have e2 : t.to_ = s.to_ := ht.to_
    have hv : validL t.fr t.to_ (takeL s n) := by rw [e1, e2]; exact takeL_valid n h
    rw [if_neg (fun x => x hv), if_neg]
    have hz : ∀ N, N ≤ 8192 → cntF (fun k => hasR (takeL s n) k && !t.tk k) N = 0 := fun N hN => cntF_none (fun k hk => by
      rw [hf k (by omega), ht.tk k (by omega)]
      show (lowF (freeF s) n.toNat k && !(s.tk k || lowF (freeF s) n.toNat k)) = false
      generalize lowF (freeF s) n.toNat k = x
      generalize s.tk k = y
      cases x <;> cases y <;> rfl)
    unfold cntA
    rw [hz mxS (Nat.le_refl _)]
    exact Nat.lt_irrefl 0
  refine ⟨hg, ?_⟩
  unfold giveS
  rw [if_pos hg]
  refine ⟨ht.fr, ht.to_, fun k hk => ?_⟩
  show (t.tk k && !hasR (takeL s n) k) = s.tk k
  rw [hf k hk, ht.tk k hk]
  show ((s.tk k || lowF (freeF s) n.toNat k) && !lowF (freeF s) n.toNat k) = s.tk k
  cases h2 : lowF (freeF s) n.toNat k with
  | false => simp
  | true =>
    have h3 := lowF_sub _ _ _ h2
    unfold freeF at h3
    simp only [Bool.and_eq_true, Bool.not_eq_true'] at h3
    rw [h3.2]; rfl
theorem takeS_no {s : Mp} (n : Int) (h : ¬ takeE s n = 0) : takeS s n = s := by unfold takeS; rw [if_neg h]
/-- Taken one behind the other, they have no sector in common. -/
theorem take_apart {s : Mp} (n k : Int) (h1 : takeE s n = 0) (h2 : takeE (takeS s n) k = 0) : runsA (fun j => hasR (takeL s n) j && hasR (takeL (takeS s n) k) j) = [] := by
  refine runsA_none (fun j hj => ?_)
  rw [(takeL_facts n h1).2.2 j hj, (takeL_facts k h2).2.2 j hj]
  have hS : takeS s n = ⟨s.fr, s.to_, fun k => s.tk k || lowF (freeF s) n.toNat k⟩ := by unfold takeS; rw [if_pos h1]
  cases h3 : lowF (freeF s) n.toNat j with
  | false => rfl
  | true =>
    cases h4 : lowF (freeF (takeS s n)) k.toNat j with
    | false => rfl
    | true =>
      have h5 := lowF_sub _ _ _ h4
      unfold freeF at h5
      rw [hS] at h5
      simp only [Bool.and_eq_true, Bool.not_eq_true', Bool.or_eq_false_iff] at h5
      rw [h3] at h5
      simp at h5

end Go.Proofs.Ytkdodffnakdckaa
