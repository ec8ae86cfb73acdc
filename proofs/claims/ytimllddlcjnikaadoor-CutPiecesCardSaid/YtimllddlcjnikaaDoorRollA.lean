/- The walks of the document's Slide; of same, of All, and of the document's All. -/
import Derived.Test.YtimllddlcjnikaaDoorRollT
import Derived.Laws.AppendOwn
import Derived.StillTailTactics
import Derived.Outline
namespace Go.Proofs.YtimllddlcjnikaaDoor
open Go.RowKit

/-- The value v is a slice of the numbers zs in the world w. -/
def U32At (zs : List Nat) (v : Value) (w : World) : Prop :=
  ∃ p c, v = .slice p zs.length c ∧ (zs = [] ∨ ∃ b off, p = some ⟨b, off, none⟩ ∧ ∀ i, i < zs.length → w.cell? ⟨b, off + i, none⟩ = some (.int .u32 (zs.getD i 0 : Nat)))

theorem U32At.later {zs : List Nat} {v : Value} {w w' : World} (h : U32At zs v w) (hb : Below w.heap.size w w') : U32At zs v w' := by
  obtain ⟨p, c, rfl, h⟩ := h
  refine ⟨p, c, rfl, ?_⟩
  rcases h with h | ⟨b, off, hp, hc⟩
  · exact Or.inl h
  · exact Or.inr ⟨b, off, hp, fun i hi => (hb.cell (World.block_lt_of_cell? _ _ (hc i hi))).trans (hc i hi)⟩

end Go.Proofs.YtimllddlcjnikaaDoor
