/- The walk of pack's reader's List. -/
import Derived.Test.YtdmbebafpamgfaaDoorRows
import Derived.Test.YtdmbebafpamgfaaDoorPlain
import Derived.Test.YtdmbebafpamgfaaDoorReader
import Derived.WalkKit
import Derived.WalkSpells
import Derived.WalkLawsBesides
import Derived.Deep.OwnRows
import Derived.Deep.LoopGhost
import Derived.Lib.Hide
import Derived.Lib.Builder
namespace Go.Proofs.YtdmbebafpamgfaaDoor
open Go.RowKit

theorem infoStr : (Tryd.prog.info? 9).map (fun i => (i.zero, i.size, i.bytes)) = some (some (.string ⟨#[]⟩), 1, 16) := by kernel_rfl

theorem lenR_le (s : RdSt) : (lenR s 65536).1 ≤ 65536 := by
  unfold lenR
  split
  · simp
  · omega

def ListPost (b : Nat) (s : RdSt) (w : World) (e : Ending) (w' : World) : Prop :=
  ∃ v, e = .returned v ∧ StrAt ((listR s).1.map str) v w' ∧ RdAt b (listR s).2 w' ∧ w.grownBy w' (some b)

/-- A row of the call's own that holds texts is a slice of them. -/
theorem strAt_own {w : World} {B : Nat} {v : Value} {acc : List (List UInt8)} (h : w.ownsRow B 9 1 v acc.length (acc.map fun l => Value.string (str l))) : StrAt (acc.map str) v w := by
  rcases h.2 with ⟨rfl, h0⟩ | ⟨g, cap, cur, rfl, _, hg, _, _, hcs, htake⟩
  · have : acc = [] := List.length_eq_zero_iff.1 h0
    subst this
    exact ⟨none, 0, rfl, Or.inl rfl⟩
  · refine ⟨some ⟨g, 0, none⟩, cap, by simp, Or.inr ⟨g, 0, rfl, fun i hi => ?_⟩⟩
    have hi' : i < acc.length := by simpa using hi
    have := h.cells (g := g) rfl i (.string (str acc[i])) (by simp [hi'])
    have e : (⟨g, 0, none⟩ : Addr).add i = ⟨g, 0 + i, none⟩ := by unfold Addr.add; split <;> simp_all
    rw [e] at this
    rw [this]; simp

/-- .. the list in new memory. -/
def ListOwn (b : Nat) (s : RdSt) (w : World) (e : Ending) (w' : World) : Prop :=
  ∃ v, e = .returned v ∧ w'.ownsRow w.heap.size 9 1 v (listR s).1.length ((listR s).1.map fun l => Value.string (str l)) ∧ RdAt b (listR s).2 w' ∧ w.grownBy w' (some b)

end Go.Proofs.YtdmbebafpamgfaaDoor
