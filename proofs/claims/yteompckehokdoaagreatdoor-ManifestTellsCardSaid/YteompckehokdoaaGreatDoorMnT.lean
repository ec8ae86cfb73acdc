/- The document's Turn. -/
import Derived.Test.YteompckehokdoaaGreatDoorGJ
namespace Go.Proofs.YteompckehokdoaaGreatDoor
open Go.RowKit

theorem hitsL_snoc (mv : List Mv) (l : List En) (e : En) : ((l ++ [e]).filter (hitE mv)).length = (l.filter (hitE mv)).length + (if hitE mv e then 1 else 0) := by
  rw [List.filter_append, List.length_append]
  by_cases h : hitE mv e = true
  · simp [h]
  · have h' : hitE mv e = false := by simpa using h
    simp [h']
/-- The first k moves are from elsewhere. -/
def notYet (mv : List Mv) (x : Pl) (k : Nat) : Prop := ∀ j (hj : j < mv.length), j < k → mv[j].1 ≠ x
theorem notYet_end {mv : List Mv} {x : Pl} (h : notYet mv x mv.length) : findV mv x = none := by
  unfold findV
  rw [List.find?_eq_none]
  intro v hv
  obtain ⟨j, hj, rfl⟩ := List.getElem_of_mem hv
  simpa using h j hj hj
theorem notYet_hit {mv : List Mv} {x : Pl} {k : Nat} (hk : k < mv.length) (h : notYet mv x k) (he : mv[k].1 = x) : findV mv x = some mv[k] := by
  unfold findV
  rw [List.find?_eq_some_iff_getElem]
  refine ⟨by simpa using he, k, hk, rfl, fun j hj => ?_⟩
  simp only [Bool.not_eq_true', decide_eq_false_iff_not]
  exact h j (by omega) hj
theorem notYet_next {mv : List Mv} {x : Pl} {k : Nat} (hk : k < mv.length) (h : notYet mv x k) (he : mv[k].1 ≠ x) : notYet mv x (k + 1) := fun j hj hlt => by
  by_cases e : j = k
  · subst e; exact he
  · exact h j hj (by omega)
theorem turnE_wf {mv : List Mv} {e : En} (h : wfE e) (hm : ∀ v ∈ mv, wfV v) : wfE (turnE mv e) := by
  unfold turnE
  split
  · rename_i v hv
    have hw := (hm v (by unfold findV at hv; exact List.mem_of_find?_eq_some hv)).2
    exact ⟨h.1, h.2.1, hw.1, hw.2⟩
  · exact h

end Go.Proofs.YteompckehokdoaaGreatDoor
