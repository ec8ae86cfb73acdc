/- A weight as the document's struct; the walk of num. -/
import Derived.Test.YtmobkjdncfdokaaDoorScale
namespace Go.Proofs.YtmobkjdncfdokaaDoor
open Go.RowKit
open Ieee (Datum Format signed double)

/-- A weight as the document's own struct. -/
def wW (a b : Int) : Value := .agg #[.int .i64 a, .int .i64 b]

theorem infoW : (Tryd.prog.info? 27).map (·.size) = some 2 := by kernel_rfl

theorem num_any (a b : Int) (w : World) :
    Calls Tryd.prog 8 #[wW a b] w fun e w' => e = .returned (.complex .f64 (flt a) (flt b)) ∧ Below w.heap.size w w' := by
  unfold wW
  go_enter Tryd.func8, Tryd.ntmps8
  go_wp2
  go_ret
  refine ⟨rfl, ?_⟩
  exact (Below.refl _ _).alloc (Nat.le_refl _) _

end Go.Proofs.YtmobkjdncfdokaaDoor
