/- What the table of package crc holds when a call begins; and that the program's start meets it. -/
import Derived.Test.YtijdbmapdmhknaaDoorGC
import Derived.ProofKit
import Derived.LaidMore
import Derived.OpenShut
import Derived.Stop.Joined
namespace Go.Proofs.YtijdbmapdmhknaaDoor
open Go.ChangeShapes Go.WideShapes Go.ChangeAt Go.RowKit

theorem laidOwn : ownKnob Tryd.prog.godebug = none := by kernel_rfl
theorem gTab : Tryd.prog.globalNamed "sheaf/crc.fourSteps" = some 0 := by kernel_rfl
theorem tTab : (Tryd.prog.globals[0]?).map (·.type) = some 118 := by kernel_rfl

/-- The list of the rows' tables. -/
def laidTab {H : Type} : List (String × DataW H) := [("sheaf/crc.fourSteps", Rows.laid_sheaf_crc_fourSteps)]

theorem door_met (os : Os) (args : Array Value) : laidMetH Tryd.prog laidTab ((World.doorLaid Tryd.prog 400 os).forCall (fun _ _ => 0) ⟨#[], args, []⟩).memory :=
  laidMetH_of_parts3 (fuel := 8) (laidMet_of_run' 8 (by kernel_rfl) (by kernel_rfl)) (by kernel_rfl) (by kernel_rfl)

theorem of_laid {W : World} (h : laidMetH Tryd.prog laidTab W) : TabAt W := by
  rw [MakeChecks.laidMetH_plain _ _ _ (by kernel_rfl)] at h
  obtain ⟨ps, ⟨g0, t0, cs0, f0, p0, q0, hg0, ht0, hv0, hd0, _, _⟩, _, _⟩ := h
  obtain rfl := Option.some.inj (gTab.symm.trans hg0)
  obtain rfl := Option.some.inj (tTab.symm.trans ht0)
  obtain ⟨xs, m1, rfl, hx1, hlen, hn, hel⟩ := DataW.trod_array Tryd.underlying118 hd0
  have ce : Tryd.prog.cellsOf 53 = 1 := by kernel_rfl
  have cl : Tryd.prog.cellsOf 118 = 16 := by kernel_rfl
  rw [cl] at hlen
  rw [ce] at hel
  intro i hi
  rw [World.var?_cell hg0 hv0 i]
  have hi' : i < xs.length := by omega
  have h := hel i hi
  rw [List.getElem?_eq_getElem hi'] at h
  obtain ⟨k, e1, e2, _⟩ := DataW.trod_int Tryd.underlying53 h
  simp only [Prod.mk.injEq] at hx1
  have hk : (xs.map (·.1))[i]? = some (.lit (.int .u32 k)) := by
    rw [List.getElem?_map, List.getElem?_eq_getElem hi', e2]; rfl
  have hl : xs.map (·.1) = T16.map fun t : Nat => .lit (.int .u32 (t : Int)) := by
    have := hx1.1
    simp only [Rows.laid_sheaf_crc_fourSteps, DataW.agg.injEq] at this
    rw [← this]
    rfl
  rw [hl, List.getElem?_map] at hk
  have ht : T16[i]? = some (T16.getD i 0) := by
    rw [List.getD_eq_getElem?_getD, List.getElem?_eq_getElem (show i < T16.length from hi)]; rfl
  rw [ht] at hk
  simp only [Option.map_some, Option.some.injEq, DataW.lit.injEq, Lit.int.injEq, true_and] at hk
  rw [hk]
  have hc : cs0.toList[i]? = some (.int .u32 k) := by
    rw [Nat.mul_one] at e1
    have := congrArg (fun l => l[0]?) e1
    simpa [List.getElem?_take, List.getElem?_drop] using this
  simpa using hc

end Go.Proofs.YtijdbmapdmhknaaDoor
