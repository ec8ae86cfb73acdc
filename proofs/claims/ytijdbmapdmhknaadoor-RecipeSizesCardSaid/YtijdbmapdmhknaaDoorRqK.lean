/- Recipes in a block: read whole, written whole; a result that lies in a cell beside a second one in a slot. -/
import Derived.Test.YtijdbmapdmhknaaDoorGG
import Derived.Test.YtijdbmapdmhknaaDoorOwn
import Derived.Deep.RegionHeld
namespace Go.Proofs.YtijdbmapdmhknaaDoor
open Go.RowKit

theorem results_cell_tmp_rowQ {P : Program} {fn : Func} {p u : Tmp} {ty : TypeId} (h : fn.results = #[.cell p ty, .tmp u]) (tmps : Array Value) (w : World) (g : Nat) (t : TypeId) (cs : Array Value) (fr : Nat × Nat) (d : TypeDesc)
    (hp : tmps.getD p undef = .pointer (some ⟨g, 0, none⟩)) (hg : w.heap[g]? = some (.cells cs t fr))
    (hu : P.underlying ty = some d) (hd : (match d with | .struct _ | .array _ _ => true | _ => false) = true) (hi : (P.info? ty).map (·.size) = some cs.size) :
    (results fn tmps).run P w = .ok (.tuple #[.agg cs, tmps.getD u undef]) w := by
  rw [results_cell_tmp h, hp]
  simp [asAddr, run_loadVar_row w g t ty cs fr d hg hu hd hi, Result.andThen]
theorem set5_rowQ {w : World} {g : Nat} {T : TypeId} {x0 x1 x2 x3 x4 : Value} (h : w.heap[g]? = some (.cells #[x0, x1, x2, x3, x4] T (0, 0))) (y0 y1 y2 y3 y4 : Value) :
    (((((w.setCell ⟨g, 0, none⟩ y0).setCell ⟨g, 1, none⟩ y1).setCell ⟨g, 2, none⟩ y2).setCell ⟨g, 3, none⟩ y3).setCell ⟨g, 4, none⟩ y4).heap[g]? = some (.cells #[y0, y1, y2, y3, y4] T (0, 0)) :=
  heap_setCell_same _ _ _ _ _ _ (heap_setCell_same _ _ _ _ _ _ (heap_setCell_same _ _ _ _ _ _ (heap_setCell_same _ _ _ _ _ _ (heap_setCell_same _ _ _ _ _ _ h))))
theorem but_set5Q {w : World} {g : Nat} (y0 y1 y2 y3 y4 : Value) : ButBy (fun k => k = g) w (((((w.setCell ⟨g, 0, none⟩ y0).setCell ⟨g, 1, none⟩ y1).setCell ⟨g, 2, none⟩ y2).setCell ⟨g, 3, none⟩ y3).setCell ⟨g, 4, none⟩ y4) :=
  (((((but_refl (fun k => k = g) w).setCell g 0 y0 rfl).setCell g 1 y1 rfl).setCell g 2 y2 rfl).setCell g 3 y3 rfl).setCell g 4 y4 rfl
theorem below_set5Q {B : Nat} {w0 w : World} {g : Nat} (h : Below B w0 w) (hB : B ≤ w.heap.size) (hg : B ≤ g) (y0 y1 y2 y3 y4 : Value) : Below B w0 (((((w.setCell ⟨g, 0, none⟩ y0).setCell ⟨g, 1, none⟩ y1).setCell ⟨g, 2, none⟩ y2).setCell ⟨g, 3, none⟩ y3).setCell ⟨g, 4, none⟩ y4) :=
  ButBy.kept (Bs := fun k => k = g) (but_set5Q y0 y1 y2 y3 y4) (fun k hk => by rw [hk]; exact hg) h hB
/-- The zero recipe's cells. -/
def z5 : Array Value := #[.string ⟨#[]⟩, .int .i64 0, .int .i64 0, .int .i64 0, .slice none 0 0]
/-- The cells of a recipe's block, and that they may be written. -/
structure Row5 (g : Nat) (x0 x1 x2 x3 x4 : Value) (w : World) : Prop where
  row : w.heap[g]? = some (.cells #[x0, x1, x2, x3, x4] 24 (0, 0))
theorem Row5.c0 {g : Nat} {x0 x1 x2 x3 x4 : Value} {w : World} (h : Row5 g x0 x1 x2 x3 x4 w) : w.cell? ⟨g, 0, none⟩ = some x0 := by rw [cell_of_row _ _ _ _ _ _ h.row]; rfl
theorem Row5.c1 {g : Nat} {x0 x1 x2 x3 x4 : Value} {w : World} (h : Row5 g x0 x1 x2 x3 x4 w) : w.cell? ⟨g, 1, none⟩ = some x1 := by rw [cell_of_row _ _ _ _ _ _ h.row]; rfl
theorem Row5.c2 {g : Nat} {x0 x1 x2 x3 x4 : Value} {w : World} (h : Row5 g x0 x1 x2 x3 x4 w) : w.cell? ⟨g, 2, none⟩ = some x2 := by rw [cell_of_row _ _ _ _ _ _ h.row]; rfl
theorem Row5.c3 {g : Nat} {x0 x1 x2 x3 x4 : Value} {w : World} (h : Row5 g x0 x1 x2 x3 x4 w) : w.cell? ⟨g, 3, none⟩ = some x3 := by rw [cell_of_row _ _ _ _ _ _ h.row]; rfl
theorem Row5.c4 {g : Nat} {x0 x1 x2 x3 x4 : Value} {w : World} (h : Row5 g x0 x1 x2 x3 x4 w) : w.cell? ⟨g, 4, none⟩ = some x4 := by rw [cell_of_row _ _ _ _ _ _ h.row]; rfl
theorem Row5.fz {g : Nat} {x0 x1 x2 x3 x4 : Value} {w : World} (h : Row5 g x0 x1 x2 x3 x4 w) (i : Nat) : w.frozen? ⟨g, i, none⟩ = false := frozen_of_row w g i _ _ h.row
theorem Row5.later {g : Nat} {x0 x1 x2 x3 x4 : Value} {w w' : World} (h : Row5 g x0 x1 x2 x3 x4 w) (k : Kept w w') : Row5 g x0 x1 x2 x3 x4 w' := ⟨k.row h.row⟩

end Go.Proofs.YtijdbmapdmhknaaDoor
