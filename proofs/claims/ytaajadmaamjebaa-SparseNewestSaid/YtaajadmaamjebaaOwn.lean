/- What an append to an own row leaves. -/
import Derived.Test.YtaajadmaamjebaaFlat
import Derived.Test.YtaajadmaamjebaaGen
namespace Go.Proofs.Ytaajadmaamjebaa
open Go.RowKit

/-- Behind an append to an own row of w's, all that w had stands. -/
theorem append_keptX {w w3 w4 : World} {base n size : Nat} {e : TypeId} {v : Value} {xs : List Value} {o : Obj} (h : Kept w w3) (hB : w.heap.size ≤ base) (hown : w3.ownsRow base e size v n xs) (hg : (w3.alloc o).grownBy w4 v.ownBlock) : Kept w w4 := by
  refine ⟨hg.os.trans h.os, hg.tape.trans h.tape, hg.output.trans h.output, by have := hg.size; have := h.size; simp at *; omega, fun j hj => ?_⟩
  have hs := h.size
  rw [hg.block j (by simp; omega) (fun e => by have := (hown.lt j e.symm).1; omega), Below.heap_alloc _ _ _ (by omega)]
  exact h.block j hj

/-- W has the blocks that are new in w'. -/
def OnNew (w w' W : World) : Prop := ∀ j, w.heap.size ≤ j → j < w'.heap.size → W.heap[j]? = w'.heap[j]?

end Go.Proofs.Ytaajadmaamjebaa
