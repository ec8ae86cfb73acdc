/- '[]byte(s)': a row of bytes of the call's own. -/
import Derived.Test.YtpnnlpmkgglgdaaGen
import Derived.Test.YtpnnlpmkgglgdaaRows
import Derived.Laws.IdiomStrings
namespace Go.Proofs.Ytpnnlpmkgglgdaa
open Go.RowKit

theorem cell_frozen_row (w : World) (g i : Nat) (cs : Array Value) (t : TypeId) (m : Nat) (h : w.heap[g]? = some (.cells cs t (m, m + 1))) (hi : i < m) : w.frozen? ⟨g, i, none⟩ = false := by
  simp [World.frozen?, h]
  omega

theorem setCell_row (w : World) (g i : Nat) (cs : Array Value) (t : TypeId) (fr : Nat × Nat) (v : Value) (h : w.heap[g]? = some (.cells cs t fr)) : (w.setCell ⟨g, i, none⟩ v).heap[g]? = some (.cells (cs.setIfInBounds i v) t fr) := by
  simp [World.setCell, Array.getElem?_modify, h]

/-- A row of bytes of the call's own, as '[]byte(s)' lays it. -/
def ByteRow (w wr : World) (n : Nat) (bs : List UInt8) : Prop :=
  ∃ (cs : Array Value) (m : Nat), wr.heap[w.heap.size]? = some (.cells cs 5 (m, m + 1)) ∧ n ≤ m ∧ bs.length = n ∧ (∀ i, i < n → cs[i]? = some (.int .u8 ((bs.getD i 0).toNat : Int))) ∧ Below w.heap.size w wr

theorem ByteRow.cell {w wr : World} {n : Nat} {bs : List UInt8} (h : ByteRow w wr n bs) (i : Nat) (hi : i < n) : wr.cell? ⟨w.heap.size, i, none⟩ = some (.int .u8 ((bs.getD i 0).toNat : Int)) := by
  obtain ⟨cs, m, h1, _, _, h4, _⟩ := h
  rw [cell_of_row _ _ i _ _ _ h1]
  exact h4 i hi

theorem ByteRow.froz {w wr : World} {n : Nat} {bs : List UInt8} (h : ByteRow w wr n bs) (i : Nat) (hi : i < n) : wr.frozen? ⟨w.heap.size, i, none⟩ = false := by
  obtain ⟨cs, m, h1, h2, _, _, _⟩ := h
  exact cell_frozen_row _ _ _ _ _ _ h1 (by omega)

theorem ByteRow.set {w wr : World} {n : Nat} {bs : List UInt8} (h : ByteRow w wr n bs) (i : Nat) (hi : i < n) (c : UInt8) : ByteRow w (wr.setCell ⟨w.heap.size, i, none⟩ (.int .u8 (c.toNat : Int))) n (bs.set i c) := by
  obtain ⟨cs, m, h1, h2, h3, h4, h5⟩ := h
  refine ⟨_, m, setCell_row _ _ _ _ _ _ _ h1, h2, by rw [List.length_set]; exact h3, ?_, h5.setCell (Nat.le_refl _) _⟩
  intro j hj
  rw [Array.getElem?_setIfInBounds, List.getD_eq_getElem?_getD, List.getElem?_set]
  have hcs : i < cs.size := (Array.getElem?_eq_some_iff.1 (h4 i hi)).1
  by_cases e : i = j
  · subst e
    rw [if_pos rfl, if_pos hcs, if_pos rfl, if_pos (by omega)]
    rfl
  · rw [if_neg e, if_neg e, h4 j hj, List.getD_eq_getElem?_getD]

theorem ByteRow.drew {w wr : World} {n : Nat} {bs : List UInt8} (h : ByteRow w wr n bs) : ByteRow w wr.drew n bs := by
  obtain ⟨cs, m, h1, h2, h3, h4, h5⟩ := h
  exact ⟨cs, m, h1, h2, h3, h4, h5.drew⟩

theorem bytes_row (s : ByteArray) (w : World) : ∃ c w', (convert 9 50 (.string s)).run Try.prog w = .ok (.slice (some ⟨w.heap.size, 0, none⟩) s.size c) w' ∧ ByteRow w w' s.size s.data.toList := by
  refine ⟨_, _, run_bytes_of_string w 9 50 5 s Try.underlying9 Try.underlying50 Try.underlying5, ?_⟩
  refine ⟨_, _, heap_alloc_last w.drew _, ?_, data_len s, ?_, ?_⟩
  · simp [bytesRow]
  · intro i hi
    rw [bytesRow_at s _ i hi]
    have hl : i < s.data.toList.length := by rw [data_len]; exact hi
    rw [List.getD_eq_getElem?_getD, List.getElem?_eq_getElem hl]
    rfl
  · exact (Below.refl _ _).drew.alloc (Nat.le_refl _) _

end Go.Proofs.Ytpnnlpmkgglgdaa
