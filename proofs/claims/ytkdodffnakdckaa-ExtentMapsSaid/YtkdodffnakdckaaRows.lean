/-
  No cell of these rows narrows 'for every input' (looked for: loops, veiled, ifaces, maps, wideKeys, modest, calm, conditions, laid).
  DERIVED. THE GIVEN ROWS OF THIS SEAT. 6 by the template 'for every input the law returns true; each argument reads behind the call as it read before'; 0 by the template 'total and deterministic' (their statements: YtkdodffnakdckaaTotals.lean).
  GIVEN WITH THE SEED: the statements are not yours to turn. If you find one false, say at which input.
  Laid BY PROGRAM, IN A SANDBOX (cutbox-rows.mjs): the forced cells as the released guide's own fill.sh prints them over the translation 4ea3cc39303cf220… (all of the seat's roots in one cut). By AI agents, Wed Nov 11 2026. No macro, syntax, notation, axiom, sorry.
-/
import Derived.Test.YtkdodffnakdckaaChecked
import GoSem.Claim
import GoSem.ClaimJoined
import GoSem.ClaimMapViews
import Derived.JoinedTies
import Derived.KernelRfl
namespace Go.Proofs.Ytkdodffnakdckaa
/- THE CELL 'sum', in the pinned program and in every row, IS THE sha256 OF THE DUMP (.gsa) THAT YtkdodffnakdckaaProg.lean LOADS. Nothing in Lean hashes anything: it is a label: what it is worth is what the hold of that sum in a sandbox is worth. -/
noncomputable def Try.pinned : Pinned := { name := "ytkdodffnakdckaa", sum := "4ea3cc39303cf22014637c9ef13b04d712eea0b2de233b70ce231972984dea8c", checked := Try.checked }
namespace Rows
def none {H : Type} : Left H := { results := [], args := [] }

/-- 'sheaflaw10.ExtentTells': WHATEVER THE INPUT: true; the input reads as it did. -/
def extentTellsSpec : ChangeSpec := { name := "extentTells", fn := fun _ => fun
  | [d1, d2, d3, d4] => { results := [.lit (.bool true)], args := [d1, d2, d3, d4] }
  | _ => none }
def extentTellsRow : OpenClaim := { program := "ytkdodffnakdckaa", sum := "4ea3cc39303cf22014637c9ef13b04d712eea0b2de233b70ce231972984dea8c", func := "sheaf/sheaflaw10.ExtentTells", spec := "extentTells", unfollowed := true, recurses := true, apart := false }
def ExtentTellsSaid : Prop := extentTellsRow.holds Try.pinned (OpenSpec.ofChange extentTellsSpec)

/-- ITS FALSE NEIGHBOUR: 'it returns false'. Refute it at one input. -/
def extentTellsWrong : ChangeSpec := { name := "extentTells", fn := fun _ => fun
  | [d1, d2, d3, d4] => { results := [.lit (.bool false)], args := [d1, d2, d3, d4] }
  | _ => none }
def ExtentTellsWrongFalsely : Prop := extentTellsRow.holds Try.pinned (OpenSpec.ofChange extentTellsWrong)

/-- 'sheaflaw10.ExtentSets': WHATEVER THE INPUT: true; the input reads as it did. -/
def extentSetsSpec : ChangeSpec := { name := "extentSets", fn := fun _ => fun
  | [d1, d2] => { results := [.lit (.bool true)], args := [d1, d2] }
  | _ => none }
def extentSetsRow : OpenClaim := { program := "ytkdodffnakdckaa", sum := "4ea3cc39303cf22014637c9ef13b04d712eea0b2de233b70ce231972984dea8c", func := "sheaf/sheaflaw10.ExtentSets", spec := "extentSets", unfollowed := true, recurses := true, apart := false }
def ExtentSetsSaid : Prop := extentSetsRow.holds Try.pinned (OpenSpec.ofChange extentSetsSpec)

/-- ITS FALSE NEIGHBOUR: 'it returns false'. Refute it at one input. -/
def extentSetsWrong : ChangeSpec := { name := "extentSets", fn := fun _ => fun
  | [d1, d2] => { results := [.lit (.bool false)], args := [d1, d2] }
  | _ => none }
def ExtentSetsWrongFalsely : Prop := extentSetsRow.holds Try.pinned (OpenSpec.ofChange extentSetsWrong)

/-- 'sheaflaw10.ExtentLowest': WHATEVER THE INPUT: true; the input reads as it did. -/
def extentLowestSpec : ChangeSpec := { name := "extentLowest", fn := fun _ => fun
  | [d1, d2] => { results := [.lit (.bool true)], args := [d1, d2] }
  | _ => none }
def extentLowestRow : OpenClaim := { program := "ytkdodffnakdckaa", sum := "4ea3cc39303cf22014637c9ef13b04d712eea0b2de233b70ce231972984dea8c", func := "sheaf/sheaflaw10.ExtentLowest", spec := "extentLowest", unfollowed := true, recurses := true, apart := false }
def ExtentLowestSaid : Prop := extentLowestRow.holds Try.pinned (OpenSpec.ofChange extentLowestSpec)

/-- ITS FALSE NEIGHBOUR: 'it returns false'. Refute it at one input. -/
def extentLowestWrong : ChangeSpec := { name := "extentLowest", fn := fun _ => fun
  | [d1, d2] => { results := [.lit (.bool false)], args := [d1, d2] }
  | _ => none }
def ExtentLowestWrongFalsely : Prop := extentLowestRow.holds Try.pinned (OpenSpec.ofChange extentLowestWrong)

/-- 'sheaflaw10.ExtentMaps': WHATEVER THE INPUT: true; the input reads as it did. -/
def extentMapsSpec : ChangeSpec := { name := "extentMaps", fn := fun _ => fun
  | [d1, d2, d3] => { results := [.lit (.bool true)], args := [d1, d2, d3] }
  | _ => none }
def extentMapsRow : OpenClaim := { program := "ytkdodffnakdckaa", sum := "4ea3cc39303cf22014637c9ef13b04d712eea0b2de233b70ce231972984dea8c", func := "sheaf/sheaflaw10.ExtentMaps", spec := "extentMaps", unfollowed := true, recurses := true, apart := false }
def ExtentMapsSaid : Prop := extentMapsRow.holds Try.pinned (OpenSpec.ofChange extentMapsSpec)

/-- ITS FALSE NEIGHBOUR: 'it returns false'. Refute it at one input. -/
def extentMapsWrong : ChangeSpec := { name := "extentMaps", fn := fun _ => fun
  | [d1, d2, d3] => { results := [.lit (.bool false)], args := [d1, d2, d3] }
  | _ => none }
def ExtentMapsWrongFalsely : Prop := extentMapsRow.holds Try.pinned (OpenSpec.ofChange extentMapsWrong)

/-- 'sheaflaw10.ExtentBack': WHATEVER THE INPUT: true; the input reads as it did. -/
def extentBackSpec : ChangeSpec := { name := "extentBack", fn := fun _ => fun
  | [d1, d2, d3, d4] => { results := [.lit (.bool true)], args := [d1, d2, d3, d4] }
  | _ => none }
def extentBackRow : OpenClaim := { program := "ytkdodffnakdckaa", sum := "4ea3cc39303cf22014637c9ef13b04d712eea0b2de233b70ce231972984dea8c", func := "sheaf/sheaflaw10.ExtentBack", spec := "extentBack", unfollowed := true, recurses := true, apart := false }
def ExtentBackSaid : Prop := extentBackRow.holds Try.pinned (OpenSpec.ofChange extentBackSpec)

/-- ITS FALSE NEIGHBOUR: 'it returns false'. Refute it at one input. -/
def extentBackWrong : ChangeSpec := { name := "extentBack", fn := fun _ => fun
  | [d1, d2, d3, d4] => { results := [.lit (.bool false)], args := [d1, d2, d3, d4] }
  | _ => none }
def ExtentBackWrongFalsely : Prop := extentBackRow.holds Try.pinned (OpenSpec.ofChange extentBackWrong)

/-- 'sheaflaw10.ExtentNobody': WHATEVER THE INPUT: true; the input reads as it did. -/
def extentNobodySpec : ChangeSpec := { name := "extentNobody", fn := fun _ => fun
  | [d1, d2] => { results := [.lit (.bool true)], args := [d1, d2] }
  | _ => none }
def extentNobodyRow : OpenClaim := { program := "ytkdodffnakdckaa", sum := "4ea3cc39303cf22014637c9ef13b04d712eea0b2de233b70ce231972984dea8c", func := "sheaf/sheaflaw10.ExtentNobody", spec := "extentNobody", unfollowed := true, recurses := true, apart := false }
def ExtentNobodySaid : Prop := extentNobodyRow.holds Try.pinned (OpenSpec.ofChange extentNobodySpec)

/-- ITS FALSE NEIGHBOUR: 'it returns false'. Refute it at one input. -/
def extentNobodyWrong : ChangeSpec := { name := "extentNobody", fn := fun _ => fun
  | [d1, d2] => { results := [.lit (.bool false)], args := [d1, d2] }
  | _ => none }
def ExtentNobodyWrongFalsely : Prop := extentNobodyRow.holds Try.pinned (OpenSpec.ofChange extentNobodyWrong)

/- THE SECOND FORM. 'bulk': how many values and letters a reading holds, each counted each time it is reached (what is shared counts as often as it is met; a slice's spare places count too). A statement '..UptoSaid' is the law's where the arguments, and the package variables that the reading takes, are together of bulk at most 1048576: NARROWER than '..Said'. Prove '..Said' where nothing that the law and all that it calls make is longer than what came in: it says more and counts as full. Else prove '..UptoSaid'. A law counts once. -/
mutual
def uptoBulk {H : Type} : DataW H → Nat
  | .lit (.string bytes) => bytes.length + 1
  | .lit _ => 1
  | .nil => 1
  | .ptr d => uptoBulk d + 1
  | .slice elems spare => uptoBulkAll elems + uptoBulkAll spare + 1
  | .agg parts => uptoBulkAll parts + 1
  | .iface _ d => uptoBulk d + 1
  | .map entries => uptoBulkEntries entries + 1
  | .held _ => 1
def uptoBulkAll {H : Type} : List (DataW H) → Nat
  | [] => 0
  | d :: r => uptoBulk d + uptoBulkAll r
def uptoBulkEntries {H : Type} : List (Lit × DataW H) → Nat
  | [] => 0
  | x :: r => uptoBulkEntry x + uptoBulkEntries r
def uptoBulkEntry {H : Type} : Lit × DataW H → Nat
  | (.string bytes, d) => bytes.length + uptoBulk d + 1
  | (_, d) => uptoBulk d + 1
 end
def uptoSmall : (H : Type) → List (DataW H) → Bool := fun _ ds => decide (uptoBulkAll ds ≤ 1048576)
def OpenSpec.upto (s : _root_.Go.ChangeSpec) : _root_.Go.OpenSpec := { _root_.Go.OpenSpec.ofChange s with cond := some uptoSmall }

/-- 'sheaflaw10.ExtentTells', WHERE WHAT IT READS IS OF BULK AT MOST 1048576: true; the input reads as it did. -/
def extentTellsUptoRow : OpenClaim := { program := "ytkdodffnakdckaa", sum := "4ea3cc39303cf22014637c9ef13b04d712eea0b2de233b70ce231972984dea8c", func := "sheaf/sheaflaw10.ExtentTells", spec := "extentTells", unfollowed := true, recurses := true, apart := false, narrowed := true }
def ExtentTellsUptoSaid : Prop := extentTellsUptoRow.holds Try.pinned (OpenSpec.upto extentTellsSpec)

/-- 'sheaflaw10.ExtentSets', WHERE WHAT IT READS IS OF BULK AT MOST 1048576: true; the input reads as it did. -/
def extentSetsUptoRow : OpenClaim := { program := "ytkdodffnakdckaa", sum := "4ea3cc39303cf22014637c9ef13b04d712eea0b2de233b70ce231972984dea8c", func := "sheaf/sheaflaw10.ExtentSets", spec := "extentSets", unfollowed := true, recurses := true, apart := false, narrowed := true }
def ExtentSetsUptoSaid : Prop := extentSetsUptoRow.holds Try.pinned (OpenSpec.upto extentSetsSpec)

/-- 'sheaflaw10.ExtentLowest', WHERE WHAT IT READS IS OF BULK AT MOST 1048576: true; the input reads as it did. -/
def extentLowestUptoRow : OpenClaim := { program := "ytkdodffnakdckaa", sum := "4ea3cc39303cf22014637c9ef13b04d712eea0b2de233b70ce231972984dea8c", func := "sheaf/sheaflaw10.ExtentLowest", spec := "extentLowest", unfollowed := true, recurses := true, apart := false, narrowed := true }
def ExtentLowestUptoSaid : Prop := extentLowestUptoRow.holds Try.pinned (OpenSpec.upto extentLowestSpec)

/-- 'sheaflaw10.ExtentMaps', WHERE WHAT IT READS IS OF BULK AT MOST 1048576: true; the input reads as it did. -/
def extentMapsUptoRow : OpenClaim := { program := "ytkdodffnakdckaa", sum := "4ea3cc39303cf22014637c9ef13b04d712eea0b2de233b70ce231972984dea8c", func := "sheaf/sheaflaw10.ExtentMaps", spec := "extentMaps", unfollowed := true, recurses := true, apart := false, narrowed := true }
def ExtentMapsUptoSaid : Prop := extentMapsUptoRow.holds Try.pinned (OpenSpec.upto extentMapsSpec)

/-- 'sheaflaw10.ExtentBack', WHERE WHAT IT READS IS OF BULK AT MOST 1048576: true; the input reads as it did. -/
def extentBackUptoRow : OpenClaim := { program := "ytkdodffnakdckaa", sum := "4ea3cc39303cf22014637c9ef13b04d712eea0b2de233b70ce231972984dea8c", func := "sheaf/sheaflaw10.ExtentBack", spec := "extentBack", unfollowed := true, recurses := true, apart := false, narrowed := true }
def ExtentBackUptoSaid : Prop := extentBackUptoRow.holds Try.pinned (OpenSpec.upto extentBackSpec)

/-- 'sheaflaw10.ExtentNobody', WHERE WHAT IT READS IS OF BULK AT MOST 1048576: true; the input reads as it did. -/
def extentNobodyUptoRow : OpenClaim := { program := "ytkdodffnakdckaa", sum := "4ea3cc39303cf22014637c9ef13b04d712eea0b2de233b70ce231972984dea8c", func := "sheaf/sheaflaw10.ExtentNobody", spec := "extentNobody", unfollowed := true, recurses := true, apart := false, narrowed := true }
def ExtentNobodyUptoSaid : Prop := extentNobodyUptoRow.holds Try.pinned (OpenSpec.upto extentNobodySpec)

end Rows
end Go.Proofs.Ytkdodffnakdckaa
