/- Rows of their own, written and grown; the marks that law SegOwn writes. -/
import Derived.Test.YtlmccnelhpnneaaSegT
namespace Go.Proofs.Ytlmccnelhpnneaa
open Go.RowKit

section
variable {B : Nat} {E : List Ent} {v : Value} {w : World}

/-- A fingerprint written into a row. -/
theorem OwnSegs.write (h : OwnSegs B E v w) (i : Nat) (hi : i < E.length) (k : Nat) (hk : k < E[i].ls.length) (x : List UInt8) (hx : x.length = 32) (rest : List Value) (hr : RowAt E[i].g E[i].ls rest w)
    (hc : E[i].ls.length ≤ E[i].cap ∧ E[i].cap ≤ maxLen ∧ E[i].ls.length * 32 + rest.length = E[i].cap * 32) (w' : World) (hw : w' = w.setRow E[i].g (laidOver (rowA E[i].ls rest) (k * 32) (fpA x).toList)) :
    OwnSegs B (E.set i ⟨E[i].ls.set k x, E[i].g, E[i].cap⟩) v w' ∧ w.grownBy w' (some E[i].g) := by
  have hg : w.grownBy w' (some E[i].g) := by
    rw [hw]
    exact ⟨rfl, rfl, rfl, by simp, fun j _ hj => setRow_other w E[i].g j _ (fun e => hj (by simp [e]))⟩
  have hval : (⟨E[i].ls.set k x, E[i].g, E[i].cap⟩ : Ent).val = E[i].val := by simp [Ent.val]
  have hrow : RowAt E[i].g (E[i].ls.set k x) rest w' := by
    refine ⟨all32_set hr.1 k x hx, ?_⟩
    rw [hw, setRow_heap w E[i].g _ _ _ _ hr.2, rowA_set E[i].ls rest hr.1 k hk x hx]
  have hno := OwnSegs.not_outer h.outer (h.each i hi)
  refine ⟨h.change i hi ?_ ?_ ?_ ?_, hg⟩
  · have e : (E.set i ⟨E[i].ls.set k x, E[i].g, E[i].cap⟩).map Ent.val = E.map Ent.val := by
      rw [List.map_set, hval]
      apply List.ext_getElem (by simp)
      intro j h1 h2
      rw [List.getElem_set]
      split
      · rename_i hij; subst hij; simp
      · rfl
    rw [e]
    exact h.outer.kept hg (Or.inr hno)
  · refine OwnFps.of_row (Ent.row (h.each i hi)).choose_spec.1 hrow ?_ hc.2.1 ?_
    · simp; exact hc.1
    · simp; exact hc.2.2
  · intro j hj hij
    exact hg.block _ (h.lt j hj).2 (fun e => h.apart j i hj hi hij (by simpa using e))
  · intro j hj hij
    exact h.apart j i hj hi hij

/-- A row that is appended to, put back into the outer row. -/
theorem OwnSegs.grow (h : OwnSegs B E v w) (i : Nat) (hi : i < E.length) (x : List UInt8) (v1 : Value) (w1 : World) (ho : OwnFps B (E[i].ls ++ [x]) v1 w1) (hg : w.grownBy w1 (some E[i].g)) (hw : v1.ownBlock = some E[i].g ∨ v1.ownBlock = some w.heap.size)
    (gp : Nat) (c : Nat) (hv : v = .slice (some ⟨gp, 0, none⟩) E.length c) :
    ∃ e : Ent, e.ls = E[i].ls ++ [x] ∧ v1 = .slice (some ⟨e.g, 0, none⟩) e.ls.length e.cap ∧ OwnSegs B (E.set i e) v (w1.setCell ⟨gp, i, none⟩ v1) ∧ w1.frozen? ⟨gp, i, none⟩ = false ∧ w1.cell? ⟨gp, i, none⟩ = some E[i].val ∧ v1.oneCell' = true ∧ B ≤ gp ∧ gp < w1.heap.size := by
  have hno := OwnSegs.not_outer h.outer (h.each i hi)
  obtain ⟨gq, cq, hvq, hBg, hcell⟩ := h.cell i hi
  rw [hv] at hvq
  simp only [Value.slice.injEq, Option.some.injEq, Addr.mk.injEq, and_true, true_and] at hvq
  obtain ⟨rfl, rfl⟩ := hvq
  rw [hv] at hno
  simp only [Value.ownBlock, ne_eq, Option.some.injEq] at hno
  have ho0 := h.outer
  rcases ho0.2 with ⟨h0, _⟩ | ⟨gq, cap, cur, hvq, hb, hgp, hnc, hcm, hcs, htake⟩
  · rw [hv] at h0; simp at h0
  rw [hv] at hvq
  simp only [Value.slice.injEq, Option.some.injEq, Addr.mk.injEq, and_true, true_and] at hvq
  obtain ⟨rfl, rfl⟩ := hvq
  have hgp1 : w1.heap[gp]? = some (.cells cur 22 (0, 0)) := by
    rw [hg.block gp (Array.getElem?_eq_some_iff.1 hgp).1 (fun e => hno (by simpa using e))]; exact hgp
  rcases ho.parts with ⟨_, h0⟩ | ⟨g', cap', rest, rfl, hB', hr', hc', hm', hs'⟩
  · simp at h0
  have hne' : g' ≠ gp := by
    intro e
    have := hr'.2
    rw [e, hgp1] at this
    simp at this
  simp only [Value.ownBlock, Option.some.injEq] at hw
  refine ⟨⟨E[i].ls ++ [x], g', cap'⟩, rfl, rfl, h.change i hi ?_ ?_ ?_ ?_, frozen_of_row _ _ _ _ _ hgp1, ?_, rfl, hBg, (Array.getElem?_eq_some_iff.1 hgp1).1⟩
  · refine ⟨by simp, Or.inr ⟨gp, c, cur.setIfInBounds i _, hv, hBg, heap_setCell_same _ _ _ _ _ _ hgp1, hnc, hcm, by rw [Array.size_setIfInBounds]; exact hcs, ?_⟩⟩
    rw [Array.toList_setIfInBounds, List.take_set, htake, List.map_set]
    rfl
  · exact (OwnFps.row_kept (e := ⟨E[i].ls ++ [x], g', cap'⟩) ho (heap_setCell_other _ _ _ _ hne'))
  · intro j hj hij
    have hnj := OwnSegs.not_outer h.outer (h.each j hj)
    rw [hv] at hnj
    simp only [Value.ownBlock, ne_eq, Option.some.injEq] at hnj
    rw [heap_setCell_other _ _ _ _ (fun e => hnj e.symm)]
    exact hg.block _ (h.lt j hj).2 (fun e => h.apart j i hj hi hij (by simpa using e))
  · intro j hj hij
    rcases hw with hw | hw
    · show E[j].g ≠ g'
      rw [hw]
      exact h.apart j i hj hi hij
    · show E[j].g ≠ g'
      have := (h.lt j hj).2
      omega
  · rw [cell_of_row _ _ _ _ _ _ hgp1, ← cell_of_row _ _ _ _ _ _ hgp]
    exact hcell
end

theorem OwnFps.slice {B : Nat} {ls : List (List UInt8)} {v : Value} {w : World} (h : OwnFps B ls v w) : ∃ p c, v = .slice p ls.length c ∧ ls.length ≤ c := by
  rcases h.parts with ⟨rfl, rfl⟩ | ⟨g, cap, rest, rfl, _, _, hc, _⟩
  · exact ⟨none, 0, rfl, Nat.le_refl _⟩
  · exact ⟨_, cap, rfl, hc⟩

theorem OwnSegs.slice {B : Nat} {E : List Ent} {v : Value} {w : World} (h : OwnSegs B E v w) : ∃ p c, v = .slice p E.length c := by
  rcases h.outer.2 with ⟨rfl, h0⟩ | ⟨g, cap, cur, rfl, _⟩
  · exact ⟨none, 0, by rw [h0]⟩
  · exact ⟨_, cap, rfl⟩

/-- The marks. -/
def mkL (i k : Nat) : List UInt8 := [9, UInt8.ofNat i, UInt8.ofNat k] ++ List.replicate 29 0
def sevL : List UInt8 := 7 :: List.replicate 31 0
theorem mkL_len (i k : Nat) : (mkL i k).length = 32 := by simp [mkL]
theorem sevL_len : sevL.length = 32 := rfl
def doneL (i n : Nat) : List (List UInt8) := (List.range n).map (mkL i) ++ [sevL]
theorem doneL_len (i n : Nat) : (doneL i n).length = n + 1 := by simp [doneL]
theorem doneL_get (i n k : Nat) (hk : k < n) : (doneL i n)[k]? = some (mkL i k) := by
  unfold doneL
  rw [List.getElem?_append_left (by simpa using hk)]
  simp [hk]

def Prg (sz : Nat → Nat) (N i : Nat) (E : List Ent) : Prop := E.length = N ∧ (∀ j (h : j < E.length), j < i → E[j].ls = doneL j (sz j)) ∧ (∀ j (h : j < E.length), i ≤ j → E[j].ls.length = sz j)
def PrgK (sz : Nat → Nat) (N i k : Nat) (E : List Ent) : Prop := Prg sz N i E ∧ ∀ (h : i < E.length) q, q < k → E[i].ls[q]? = some (mkL i q)

theorem prg_start (sz : Nat → Nat) (N i : Nat) (E : List Ent) (h : Prg sz N i E) : PrgK sz N i 0 E := ⟨h, fun _ q hq => by omega⟩

theorem prg_write (sz : Nat → Nat) (N i k : Nat) (E : List Ent) (h : PrgK sz N i k E) (hi : i < E.length) (hk : k < E[i].ls.length) (g c : Nat) : PrgK sz N i (k + 1) (E.set i ⟨E[i].ls.set k (mkL i k), g, c⟩) := by
  obtain ⟨⟨h1, h2, h3⟩, h4⟩ := h
  refine ⟨⟨by rw [List.length_set]; exact h1, fun j hj hij => ?_, fun j hj hij => ?_⟩, fun hh q hq => ?_⟩
  · rw [List.getElem_set_ne (by omega)]
    exact h2 j (by rw [List.length_set] at hj; exact hj) hij
  · rw [List.length_set] at hj
    rw [List.getElem_set]
    by_cases e : i = j
    · subst e
      rw [if_pos rfl]
      simp only [List.length_set]
      exact h3 i hi (Nat.le_refl _)
    · rw [if_neg e]
      exact h3 j hj hij
  · rw [List.getElem_set_self]
    show (E[i].ls.set k (mkL i k))[q]? = some (mkL i q)
    by_cases e : q = k
    · subst e
      rw [List.getElem?_set_self hk]
    · rw [List.getElem?_set_ne (fun x => e x.symm)]
      exact h4 hi q (by omega)

theorem prg_full (sz : Nat → Nat) (N i : Nat) (E : List Ent) (h : PrgK sz N i (sz i) E) (hi : i < E.length) : E[i].ls = (List.range (sz i)).map (mkL i) := by
  obtain ⟨⟨h1, h2, h3⟩, h4⟩ := h
  have hl := h3 i hi (Nat.le_refl _)
  apply List.ext_getElem (by simpa using hl)
  intro q hq1 hq2
  have := h4 hi q (by omega)
  rw [List.getElem?_eq_getElem hq1] at this
  simpa using this

theorem prg_grow (sz : Nat → Nat) (N i : Nat) (E : List Ent) (h : PrgK sz N i (sz i) E) (hi : i < E.length) (e : Ent) (he : e.ls = E[i].ls ++ [sevL]) : Prg sz N (i + 1) (E.set i e) := by
  have hf := prg_full sz N i E h hi
  obtain ⟨⟨h1, h2, h3⟩, h4⟩ := h
  refine ⟨by rw [List.length_set]; exact h1, fun j hj hij => ?_, fun j hj hij => ?_⟩
  · rw [List.length_set] at hj
    rw [List.getElem_set]
    by_cases e' : i = j
    · subst e'
      rw [if_pos rfl, he, hf]
      rfl
    · rw [if_neg e']
      exact h2 j hj (by omega)
  · rw [List.length_set] at hj
    rw [List.getElem_set_ne (by omega)]
    exact h3 j hj (by omega)

end Go.Proofs.Ytlmccnelhpnneaa
