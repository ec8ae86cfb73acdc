/- ManifestGets out of the contracts. ManifestPuts out of the contracts. -/
import Derived.Test.YteompckehokdoaaGreatDoorMnW
import Derived.Deep.RegionHeld
namespace Go.Proofs.YteompckehokdoaaGreatDoor
open Go.RowKit

theorem ManIs.cut {m : Mf} {v : Value} {w : World} (H : ManIs m v w) : ∃ p c, v = .agg #[.int .u32 (m.id : Nat), .slice p m.es.length c] := by
  obtain ⟨_, sv, rfl, h⟩ := H
  obtain ⟨p, c, rfl, -, -⟩ := h.out encE
  exact ⟨p, c, rfl⟩
theorem getM_few (t : List UInt8) : ((getM t).getD Mf.zero).es.length ≤ 256 := by
  cases h : getM t with
  | none => exact Nat.zero_le _
  | some m => exact (getM_ok h).1.2.1.2

end Go.Proofs.YteompckehokdoaaGreatDoor
namespace Go.Proofs.YteompckehokdoaaGreatDoor
open Go.RowKit

end Go.Proofs.YteompckehokdoaaGreatDoor
