/-
  No cell of these rows narrows 'for every input' (looked for: loops, veiled, ifaces, maps, wideKeys, modest, calm, conditions, laid).
  DERIVED. THE GIVEN ROWS OF THIS SEAT. 3 by the template 'for every input the law returns true; each argument reads behind the call as it read before'; 0 by the template 'total and deterministic' (their statements: YtaajadmaamjebaaTotals.lean).
  GIVEN WITH THE SEED: the statements are not yours to turn. If you find one false, say at which input.
  Laid BY PROGRAM, IN A SANDBOX (cutbox-rows.mjs): the forced cells as the released guide's own fill.sh prints them over the translation 9877feb80b6b2091… (all of the seat's roots in one cut). By AI agents, Wed Nov 11 2026. No macro, syntax, notation, axiom, sorry.
-/
import Derived.Test.YtaajadmaamjebaaChecked
import GoSem.Claim
import GoSem.ClaimJoined
import GoSem.ClaimMapViews
import Derived.JoinedTies
import Derived.KernelRfl
namespace Go.Proofs.Ytaajadmaamjebaa
/- THE CELL 'sum', in the pinned program and in every row, IS THE sha256 OF THE DUMP (.gsa) THAT YtaajadmaamjebaaProg.lean LOADS. Nothing in Lean hashes anything: it is a label: what it is worth is what the hold of that sum in a sandbox is worth. -/
noncomputable def Try.pinned : Pinned := { name := "ytaajadmaamjebaa", sum := "9877feb80b6b2091852fb0ac790c54bc8e13f60ff01d493f32c66583fbe03195", checked := Try.checked }
namespace Rows
def none {H : Type} : Left H := { results := [], args := [] }

/-- 'sheaflaw17.SparseDoes': WHATEVER THE INPUT: true; the input reads as it did. -/
def sparseDoesSpec : ChangeSpec := { name := "sparseDoes", fn := fun _ => fun
  | [d1, d2, d3] => { results := [.lit (.bool true)], args := [d1, d2, d3] }
  | _ => none }
def sparseDoesRow : OpenClaim := { program := "ytaajadmaamjebaa", sum := "9877feb80b6b2091852fb0ac790c54bc8e13f60ff01d493f32c66583fbe03195", func := "sheaf/sheaflaw17.SparseDoes", spec := "sparseDoes", inPlace := ["internal/bytealg.Compare", "slices.overlaps[uint32]"], unfollowed := true, recurses := true, plainKeys := false, apart := false }
def SparseDoesSaid : Prop := sparseDoesRow.holds Try.pinned (OpenSpec.ofChange sparseDoesSpec)

/-- ITS FALSE NEIGHBOUR: 'it returns false'. Refute it at one input. -/
def sparseDoesWrong : ChangeSpec := { name := "sparseDoes", fn := fun _ => fun
  | [d1, d2, d3] => { results := [.lit (.bool false)], args := [d1, d2, d3] }
  | _ => none }
def SparseDoesWrongFalsely : Prop := sparseDoesRow.holds Try.pinned (OpenSpec.ofChange sparseDoesWrong)

/-- 'sheaflaw17.SparseNewest': WHATEVER THE INPUT: true; the input reads as it did. -/
def sparseNewestSpec : ChangeSpec := { name := "sparseNewest", fn := fun _ => fun
  | [d1, d2, d3, d4, d5] => { results := [.lit (.bool true)], args := [d1, d2, d3, d4, d5] }
  | _ => none }
def sparseNewestRow : OpenClaim := { program := "ytaajadmaamjebaa", sum := "9877feb80b6b2091852fb0ac790c54bc8e13f60ff01d493f32c66583fbe03195", func := "sheaf/sheaflaw17.SparseNewest", spec := "sparseNewest", inPlace := ["internal/bytealg.Compare", "slices.overlaps[uint32]"], unfollowed := true, recurses := true, plainKeys := false, apart := false }
def SparseNewestSaid : Prop := sparseNewestRow.holds Try.pinned (OpenSpec.ofChange sparseNewestSpec)

/-- ITS FALSE NEIGHBOUR: 'it returns false'. Refute it at one input. -/
def sparseNewestWrong : ChangeSpec := { name := "sparseNewest", fn := fun _ => fun
  | [d1, d2, d3, d4, d5] => { results := [.lit (.bool false)], args := [d1, d2, d3, d4, d5] }
  | _ => none }
def SparseNewestWrongFalsely : Prop := sparseNewestRow.holds Try.pinned (OpenSpec.ofChange sparseNewestWrong)

/-- 'sheaflaw17.SparseNobody': WHATEVER THE INPUT: true; the input reads as it did. -/
def sparseNobodySpec : ChangeSpec := { name := "sparseNobody", fn := fun _ => fun
  | [d1, d2] => { results := [.lit (.bool true)], args := [d1, d2] }
  | _ => none }
def sparseNobodyRow : OpenClaim := { program := "ytaajadmaamjebaa", sum := "9877feb80b6b2091852fb0ac790c54bc8e13f60ff01d493f32c66583fbe03195", func := "sheaf/sheaflaw17.SparseNobody", spec := "sparseNobody", inPlace := ["internal/bytealg.Compare", "slices.overlaps[uint32]"], unfollowed := true, recurses := true, plainKeys := false, apart := false }
def SparseNobodySaid : Prop := sparseNobodyRow.holds Try.pinned (OpenSpec.ofChange sparseNobodySpec)

/-- ITS FALSE NEIGHBOUR: 'it returns false'. Refute it at one input. -/
def sparseNobodyWrong : ChangeSpec := { name := "sparseNobody", fn := fun _ => fun
  | [d1, d2] => { results := [.lit (.bool false)], args := [d1, d2] }
  | _ => none }
def SparseNobodyWrongFalsely : Prop := sparseNobodyRow.holds Try.pinned (OpenSpec.ofChange sparseNobodyWrong)

/- THE SECOND FORM. 'bulk': how many values and letters a reading holds, each counted each time it is reached (what is shared counts as often as it is met; a slice's spare places count too). A statement '..UptoSaid' is the law's where the arguments, and the package variables that the reading takes, are together of bulk at most 1048576: NARROWER than '..Said'. Prove '..Said' where nothing that the law and all that it calls make is longer than what came in: it says more and counts as full. Else prove '..UptoSaid'. A law counts once. -/
mutual
def uptoBulk {H : Type} : DataW H → Nat
  | .lit (.string bytes) => bytes.length + 1
  | .lit _ => 1
  | .nil => 1
  | .ptr d => uptoBulk d + 1
  | .slice elems spare => uptoBulkAll elems + uptoBulkAll spare + 1
  | .agg parts => uptoBulkAll parts + 1
  | .iface _ d => uptoBulk d + 1
  | .map entries => uptoBulkEntries entries + 1
  | .held _ => 1
def uptoBulkAll {H : Type} : List (DataW H) → Nat
  | [] => 0
  | d :: r => uptoBulk d + uptoBulkAll r
def uptoBulkEntries {H : Type} : List (Lit × DataW H) → Nat
  | [] => 0
  | x :: r => uptoBulkEntry x + uptoBulkEntries r
def uptoBulkEntry {H : Type} : Lit × DataW H → Nat
  | (.string bytes, d) => bytes.length + uptoBulk d + 1
  | (_, d) => uptoBulk d + 1
 end
def uptoSmall : (H : Type) → List (DataW H) → Bool := fun _ ds => decide (uptoBulkAll ds ≤ 1048576)
def OpenSpec.upto (s : _root_.Go.ChangeSpec) : _root_.Go.OpenSpec := { _root_.Go.OpenSpec.ofChange s with cond := some uptoSmall }

/-- 'sheaflaw17.SparseDoes', WHERE WHAT IT READS IS OF BULK AT MOST 1048576: true; the input reads as it did. -/
def sparseDoesUptoRow : OpenClaim := { program := "ytaajadmaamjebaa", sum := "9877feb80b6b2091852fb0ac790c54bc8e13f60ff01d493f32c66583fbe03195", func := "sheaf/sheaflaw17.SparseDoes", spec := "sparseDoes", inPlace := ["internal/bytealg.Compare", "slices.overlaps[uint32]"], unfollowed := true, recurses := true, plainKeys := false, apart := false, narrowed := true }
def SparseDoesUptoSaid : Prop := sparseDoesUptoRow.holds Try.pinned (OpenSpec.upto sparseDoesSpec)

/-- 'sheaflaw17.SparseNewest', WHERE WHAT IT READS IS OF BULK AT MOST 1048576: true; the input reads as it did. -/
def sparseNewestUptoRow : OpenClaim := { program := "ytaajadmaamjebaa", sum := "9877feb80b6b2091852fb0ac790c54bc8e13f60ff01d493f32c66583fbe03195", func := "sheaf/sheaflaw17.SparseNewest", spec := "sparseNewest", inPlace := ["internal/bytealg.Compare", "slices.overlaps[uint32]"], unfollowed := true, recurses := true, plainKeys := false, apart := false, narrowed := true }
def SparseNewestUptoSaid : Prop := sparseNewestUptoRow.holds Try.pinned (OpenSpec.upto sparseNewestSpec)

/-- 'sheaflaw17.SparseNobody', WHERE WHAT IT READS IS OF BULK AT MOST 1048576: true; the input reads as it did. -/
def sparseNobodyUptoRow : OpenClaim := { program := "ytaajadmaamjebaa", sum := "9877feb80b6b2091852fb0ac790c54bc8e13f60ff01d493f32c66583fbe03195", func := "sheaf/sheaflaw17.SparseNobody", spec := "sparseNobody", inPlace := ["internal/bytealg.Compare", "slices.overlaps[uint32]"], unfollowed := true, recurses := true, plainKeys := false, apart := false, narrowed := true }
def SparseNobodyUptoSaid : Prop := sparseNobodyUptoRow.holds Try.pinned (OpenSpec.upto sparseNobodySpec)

end Rows
end Go.Proofs.Ytaajadmaamjebaa
