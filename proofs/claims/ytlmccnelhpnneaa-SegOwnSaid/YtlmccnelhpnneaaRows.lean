/-
  No cell of these rows narrows 'for every input' (looked for: loops, veiled, ifaces, maps, wideKeys, modest, calm, conditions, laid).
  DERIVED. THE GIVEN ROWS OF THIS SEAT. 5 by the template 'for every input the law returns true; each argument reads behind the call as it read before'; 0 by the template 'total and deterministic' (their statements: YtlmccnelhpnneaaTotals.lean).
  GIVEN WITH THE SEED: the statements are not yours to turn. If you find one false, say at which input.
  Laid BY PROGRAM, IN A SANDBOX (cutbox-rows.mjs): the forced cells as the released guide's own fill.sh prints them over the translation 229feaa6a769094a… (all of the seat's roots in one cut). By AI agents, Wed Nov 11 2026. No macro, syntax, notation, axiom, sorry.
-/
import Derived.Test.YtlmccnelhpnneaaChecked
import GoSem.Claim
import GoSem.ClaimJoined
import GoSem.ClaimMapViews
import Derived.JoinedTies
import Derived.KernelRfl
namespace Go.Proofs.Ytlmccnelhpnneaa
/- THE CELL 'sum', in the pinned program and in every row, IS THE sha256 OF THE DUMP (.gsa) THAT YtlmccnelhpnneaaProg.lean LOADS. Nothing in Lean hashes anything: it is a label: what it is worth is what the hold of that sum in a sandbox is worth. -/
noncomputable def Try.pinned : Pinned := { name := "ytlmccnelhpnneaa", sum := "229feaa6a769094a26318e731a8b561a247444578a6c7b78b2e5565b147e84c3", checked := Try.checked }
namespace Rows
def none {H : Type} : Left H := { results := [], args := [] }

/-- 'sheaflaw08.SegFirst': WHATEVER THE INPUT: true; the input reads as it did. -/
def segFirstSpec : ChangeSpec := { name := "segFirst", fn := fun _ => fun
  | [d1, d2] => { results := [.lit (.bool true)], args := [d1, d2] }
  | _ => none }
def segFirstRow : OpenClaim := { program := "ytlmccnelhpnneaa", sum := "229feaa6a769094a26318e731a8b561a247444578a6c7b78b2e5565b147e84c3", func := "sheaf/sheaflaw08.SegFirst", spec := "segFirst", unfollowed := true, recurses := true, apart := false }
def SegFirstSaid : Prop := segFirstRow.holds Try.pinned (OpenSpec.ofChange segFirstSpec)

/-- ITS FALSE NEIGHBOUR: 'it returns false'. Refute it at one input. -/
def segFirstWrong : ChangeSpec := { name := "segFirst", fn := fun _ => fun
  | [d1, d2] => { results := [.lit (.bool false)], args := [d1, d2] }
  | _ => none }
def SegFirstWrongFalsely : Prop := segFirstRow.holds Try.pinned (OpenSpec.ofChange segFirstWrong)

/-- 'sheaflaw08.SegAll': WHATEVER THE INPUT: true; the input reads as it did. -/
def segAllSpec : ChangeSpec := { name := "segAll", fn := fun _ => fun
  | [d1, d2] => { results := [.lit (.bool true)], args := [d1, d2] }
  | _ => none }
def segAllRow : OpenClaim := { program := "ytlmccnelhpnneaa", sum := "229feaa6a769094a26318e731a8b561a247444578a6c7b78b2e5565b147e84c3", func := "sheaf/sheaflaw08.SegAll", spec := "segAll", unfollowed := true, recurses := true, apart := false }
def SegAllSaid : Prop := segAllRow.holds Try.pinned (OpenSpec.ofChange segAllSpec)

/-- ITS FALSE NEIGHBOUR: 'it returns false'. Refute it at one input. -/
def segAllWrong : ChangeSpec := { name := "segAll", fn := fun _ => fun
  | [d1, d2] => { results := [.lit (.bool false)], args := [d1, d2] }
  | _ => none }
def SegAllWrongFalsely : Prop := segAllRow.holds Try.pinned (OpenSpec.ofChange segAllWrong)

/-- 'sheaflaw08.SegOwn': WHATEVER THE INPUT: true; the input reads as it did. -/
def segOwnSpec : ChangeSpec := { name := "segOwn", fn := fun _ => fun
  | [d1, d2] => { results := [.lit (.bool true)], args := [d1, d2] }
  | _ => none }
def segOwnRow : OpenClaim := { program := "ytlmccnelhpnneaa", sum := "229feaa6a769094a26318e731a8b561a247444578a6c7b78b2e5565b147e84c3", func := "sheaf/sheaflaw08.SegOwn", spec := "segOwn", unfollowed := true, recurses := true, apart := false }
def SegOwnSaid : Prop := segOwnRow.holds Try.pinned (OpenSpec.ofChange segOwnSpec)

/-- ITS FALSE NEIGHBOUR: 'it returns false'. Refute it at one input. -/
def segOwnWrong : ChangeSpec := { name := "segOwn", fn := fun _ => fun
  | [d1, d2] => { results := [.lit (.bool false)], args := [d1, d2] }
  | _ => none }
def SegOwnWrongFalsely : Prop := segOwnRow.holds Try.pinned (OpenSpec.ofChange segOwnWrong)

/-- 'sheaflaw08.SegPuts': WHATEVER THE INPUT: true; the input reads as it did. -/
def segPutsSpec : ChangeSpec := { name := "segPuts", fn := fun _ => fun
  | [d1, d2, d3] => { results := [.lit (.bool true)], args := [d1, d2, d3] }
  | _ => none }
def segPutsRow : OpenClaim := { program := "ytlmccnelhpnneaa", sum := "229feaa6a769094a26318e731a8b561a247444578a6c7b78b2e5565b147e84c3", func := "sheaf/sheaflaw08.SegPuts", spec := "segPuts", unfollowed := true, recurses := true, apart := false }
def SegPutsSaid : Prop := segPutsRow.holds Try.pinned (OpenSpec.ofChange segPutsSpec)

/-- ITS FALSE NEIGHBOUR: 'it returns false'. Refute it at one input. -/
def segPutsWrong : ChangeSpec := { name := "segPuts", fn := fun _ => fun
  | [d1, d2, d3] => { results := [.lit (.bool false)], args := [d1, d2, d3] }
  | _ => none }
def SegPutsWrongFalsely : Prop := segPutsRow.holds Try.pinned (OpenSpec.ofChange segPutsWrong)

/-- 'sheaflaw08.SegNobody': WHATEVER THE INPUT: true; the input reads as it did. -/
def segNobodySpec : ChangeSpec := { name := "segNobody", fn := fun _ => fun
  | [d] => { results := [.lit (.bool true)], args := [d] }
  | _ => none }
def segNobodyRow : OpenClaim := { program := "ytlmccnelhpnneaa", sum := "229feaa6a769094a26318e731a8b561a247444578a6c7b78b2e5565b147e84c3", func := "sheaf/sheaflaw08.SegNobody", spec := "segNobody", unfollowed := true, recurses := true, apart := false }
def SegNobodySaid : Prop := segNobodyRow.holds Try.pinned (OpenSpec.ofChange segNobodySpec)

/-- ITS FALSE NEIGHBOUR: 'it returns false'. Refute it at one input. -/
def segNobodyWrong : ChangeSpec := { name := "segNobody", fn := fun _ => fun
  | [d] => { results := [.lit (.bool false)], args := [d] }
  | _ => none }
def SegNobodyWrongFalsely : Prop := segNobodyRow.holds Try.pinned (OpenSpec.ofChange segNobodyWrong)

/- THE SECOND FORM. 'bulk': how many values and letters a reading holds, each counted each time it is reached (what is shared counts as often as it is met; a slice's spare places count too). A statement '..UptoSaid' is the law's where the arguments, and the package variables that the reading takes, are together of bulk at most 1048576: NARROWER than '..Said'. Prove '..Said' where nothing that the law and all that it calls make is longer than what came in: it says more and counts as full. Else prove '..UptoSaid'. A law counts once. -/
mutual
def uptoBulk {H : Type} : DataW H → Nat
  | .lit (.string bytes) => bytes.length + 1
  | .lit _ => 1
  | .nil => 1
  | .ptr d => uptoBulk d + 1
  | .slice elems spare => uptoBulkAll elems + uptoBulkAll spare + 1
  | .agg parts => uptoBulkAll parts + 1
  | .iface _ d => uptoBulk d + 1
  | .map entries => uptoBulkEntries entries + 1
  | .held _ => 1
def uptoBulkAll {H : Type} : List (DataW H) → Nat
  | [] => 0
  | d :: r => uptoBulk d + uptoBulkAll r
def uptoBulkEntries {H : Type} : List (Lit × DataW H) → Nat
  | [] => 0
  | x :: r => uptoBulkEntry x + uptoBulkEntries r
def uptoBulkEntry {H : Type} : Lit × DataW H → Nat
  | (.string bytes, d) => bytes.length + uptoBulk d + 1
  | (_, d) => uptoBulk d + 1
 end
def uptoSmall : (H : Type) → List (DataW H) → Bool := fun _ ds => decide (uptoBulkAll ds ≤ 1048576)
def OpenSpec.upto (s : _root_.Go.ChangeSpec) : _root_.Go.OpenSpec := { _root_.Go.OpenSpec.ofChange s with cond := some uptoSmall }

/-- 'sheaflaw08.SegFirst', WHERE WHAT IT READS IS OF BULK AT MOST 1048576: true; the input reads as it did. -/
def segFirstUptoRow : OpenClaim := { program := "ytlmccnelhpnneaa", sum := "229feaa6a769094a26318e731a8b561a247444578a6c7b78b2e5565b147e84c3", func := "sheaf/sheaflaw08.SegFirst", spec := "segFirst", unfollowed := true, recurses := true, apart := false, narrowed := true }
def SegFirstUptoSaid : Prop := segFirstUptoRow.holds Try.pinned (OpenSpec.upto segFirstSpec)

/-- 'sheaflaw08.SegAll', WHERE WHAT IT READS IS OF BULK AT MOST 1048576: true; the input reads as it did. -/
def segAllUptoRow : OpenClaim := { program := "ytlmccnelhpnneaa", sum := "229feaa6a769094a26318e731a8b561a247444578a6c7b78b2e5565b147e84c3", func := "sheaf/sheaflaw08.SegAll", spec := "segAll", unfollowed := true, recurses := true, apart := false, narrowed := true }
def SegAllUptoSaid : Prop := segAllUptoRow.holds Try.pinned (OpenSpec.upto segAllSpec)

/-- 'sheaflaw08.SegOwn', WHERE WHAT IT READS IS OF BULK AT MOST 1048576: true; the input reads as it did. -/
def segOwnUptoRow : OpenClaim := { program := "ytlmccnelhpnneaa", sum := "229feaa6a769094a26318e731a8b561a247444578a6c7b78b2e5565b147e84c3", func := "sheaf/sheaflaw08.SegOwn", spec := "segOwn", unfollowed := true, recurses := true, apart := false, narrowed := true }
def SegOwnUptoSaid : Prop := segOwnUptoRow.holds Try.pinned (OpenSpec.upto segOwnSpec)

/-- 'sheaflaw08.SegPuts', WHERE WHAT IT READS IS OF BULK AT MOST 1048576: true; the input reads as it did. -/
def segPutsUptoRow : OpenClaim := { program := "ytlmccnelhpnneaa", sum := "229feaa6a769094a26318e731a8b561a247444578a6c7b78b2e5565b147e84c3", func := "sheaf/sheaflaw08.SegPuts", spec := "segPuts", unfollowed := true, recurses := true, apart := false, narrowed := true }
def SegPutsUptoSaid : Prop := segPutsUptoRow.holds Try.pinned (OpenSpec.upto segPutsSpec)

/-- 'sheaflaw08.SegNobody', WHERE WHAT IT READS IS OF BULK AT MOST 1048576: true; the input reads as it did. -/
def segNobodyUptoRow : OpenClaim := { program := "ytlmccnelhpnneaa", sum := "229feaa6a769094a26318e731a8b561a247444578a6c7b78b2e5565b147e84c3", func := "sheaf/sheaflaw08.SegNobody", spec := "segNobody", unfollowed := true, recurses := true, apart := false, narrowed := true }
def SegNobodyUptoSaid : Prop := segNobodyUptoRow.holds Try.pinned (OpenSpec.upto segNobodySpec)

end Rows
end Go.Proofs.Ytlmccnelhpnneaa
