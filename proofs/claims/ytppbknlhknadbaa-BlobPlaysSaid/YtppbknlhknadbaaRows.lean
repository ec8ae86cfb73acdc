/-
  No cell of these rows narrows 'for every input' (looked for: loops, veiled, ifaces, maps, wideKeys, modest, calm, conditions, laid).
  DERIVED. THE GIVEN ROWS OF THIS SEAT. 4 by the template 'for every input the law returns true; each argument reads behind the call as it read before'; 0 by the template 'total and deterministic' (their statements: YtppbknlhknadbaaTotals.lean).
  GIVEN WITH THE SEED: the statements are not yours to turn. If you find one false, say at which input.
  Laid BY PROGRAM, IN A SANDBOX (cutbox-rows.mjs): the forced cells as the released guide's own fill.sh prints them over the translation eed308d7f3050483… (all of the seat's roots in one cut). By AI agents, Wed Nov 11 2026. No macro, syntax, notation, axiom, sorry.
-/
import Derived.Test.YtppbknlhknadbaaChecked
import GoSem.Claim
import GoSem.ClaimJoined
import GoSem.ClaimMapViews
import Derived.JoinedTies
import Derived.KernelRfl
namespace Go.Proofs.Ytppbknlhknadbaa
/- THE CELL 'sum', in the pinned program and in every row, IS THE sha256 OF THE DUMP (.gsa) THAT YtppbknlhknadbaaProg.lean LOADS. Nothing in Lean hashes anything: it is a label: what it is worth is what the hold of that sum in a sandbox is worth. -/
noncomputable def Try.pinned : Pinned := { name := "ytppbknlhknadbaa", sum := "eed308d7f3050483b9b3b229fa7a0e3f6cd3c62a16cef4349ac42238383f2ad9", checked := Try.checked }
namespace Rows
def none {H : Type} : Left H := { results := [], args := [] }

/-- 'sheaflaw12.BlobFits': WHATEVER THE INPUT: true; the input reads as it did. -/
def blobFitsSpec : ChangeSpec := { name := "blobFits", fn := fun _ => fun
  | [d1, d2, d3, d4] => { results := [.lit (.bool true)], args := [d1, d2, d3, d4] }
  | _ => none }
def blobFitsRow : OpenClaim := { program := "ytppbknlhknadbaa", sum := "eed308d7f3050483b9b3b229fa7a0e3f6cd3c62a16cef4349ac42238383f2ad9", func := "sheaf/sheaflaw12.BlobFits", spec := "blobFits", unfollowed := true, recurses := true, apart := false }
def BlobFitsSaid : Prop := blobFitsRow.holds Try.pinned (OpenSpec.ofChange blobFitsSpec)

/-- ITS FALSE NEIGHBOUR: 'it returns false'. Refute it at one input. -/
def blobFitsWrong : ChangeSpec := { name := "blobFits", fn := fun _ => fun
  | [d1, d2, d3, d4] => { results := [.lit (.bool false)], args := [d1, d2, d3, d4] }
  | _ => none }
def BlobFitsWrongFalsely : Prop := blobFitsRow.holds Try.pinned (OpenSpec.ofChange blobFitsWrong)

/-- 'sheaflaw12.BlobPlays': WHATEVER THE INPUT: true; the input reads as it did. -/
def blobPlaysSpec : ChangeSpec := { name := "blobPlays", fn := fun _ => fun
  | [d1, d2] => { results := [.lit (.bool true)], args := [d1, d2] }
  | _ => none }
def blobPlaysRow : OpenClaim := { program := "ytppbknlhknadbaa", sum := "eed308d7f3050483b9b3b229fa7a0e3f6cd3c62a16cef4349ac42238383f2ad9", func := "sheaf/sheaflaw12.BlobPlays", spec := "blobPlays", unfollowed := true, recurses := true, apart := false }
def BlobPlaysSaid : Prop := blobPlaysRow.holds Try.pinned (OpenSpec.ofChange blobPlaysSpec)

/-- ITS FALSE NEIGHBOUR: 'it returns false'. Refute it at one input. -/
def blobPlaysWrong : ChangeSpec := { name := "blobPlays", fn := fun _ => fun
  | [d1, d2] => { results := [.lit (.bool false)], args := [d1, d2] }
  | _ => none }
def BlobPlaysWrongFalsely : Prop := blobPlaysRow.holds Try.pinned (OpenSpec.ofChange blobPlaysWrong)

/-- 'sheaflaw12.BlobBack': WHATEVER THE INPUT: true; the input reads as it did. -/
def blobBackSpec : ChangeSpec := { name := "blobBack", fn := fun _ => fun
  | [d1, d2, d3, d4] => { results := [.lit (.bool true)], args := [d1, d2, d3, d4] }
  | _ => none }
def blobBackRow : OpenClaim := { program := "ytppbknlhknadbaa", sum := "eed308d7f3050483b9b3b229fa7a0e3f6cd3c62a16cef4349ac42238383f2ad9", func := "sheaf/sheaflaw12.BlobBack", spec := "blobBack", unfollowed := true, recurses := true, apart := false }
def BlobBackSaid : Prop := blobBackRow.holds Try.pinned (OpenSpec.ofChange blobBackSpec)

/-- ITS FALSE NEIGHBOUR: 'it returns false'. Refute it at one input. -/
def blobBackWrong : ChangeSpec := { name := "blobBack", fn := fun _ => fun
  | [d1, d2, d3, d4] => { results := [.lit (.bool false)], args := [d1, d2, d3, d4] }
  | _ => none }
def BlobBackWrongFalsely : Prop := blobBackRow.holds Try.pinned (OpenSpec.ofChange blobBackWrong)

/-- 'sheaflaw12.BlobNobody': WHATEVER THE INPUT: true; the input reads as it did. -/
def blobNobodySpec : ChangeSpec := { name := "blobNobody", fn := fun _ => fun
  | [d1, d2] => { results := [.lit (.bool true)], args := [d1, d2] }
  | _ => none }
def blobNobodyRow : OpenClaim := { program := "ytppbknlhknadbaa", sum := "eed308d7f3050483b9b3b229fa7a0e3f6cd3c62a16cef4349ac42238383f2ad9", func := "sheaf/sheaflaw12.BlobNobody", spec := "blobNobody", unfollowed := true, recurses := true, apart := false }
def BlobNobodySaid : Prop := blobNobodyRow.holds Try.pinned (OpenSpec.ofChange blobNobodySpec)

/-- ITS FALSE NEIGHBOUR: 'it returns false'. Refute it at one input. -/
def blobNobodyWrong : ChangeSpec := { name := "blobNobody", fn := fun _ => fun
  | [d1, d2] => { results := [.lit (.bool false)], args := [d1, d2] }
  | _ => none }
def BlobNobodyWrongFalsely : Prop := blobNobodyRow.holds Try.pinned (OpenSpec.ofChange blobNobodyWrong)

/- THE SECOND FORM. 'bulk': how many values and letters a reading holds, each counted each time it is reached (what is shared counts as often as it is met; a slice's spare places count too). A statement '..UptoSaid' is the law's where the arguments, and the package variables that the reading takes, are together of bulk at most 1048576: NARROWER than '..Said'. Prove '..Said' where nothing that the law and all that it calls make is longer than what came in: it says more and counts as full. Else prove '..UptoSaid'. A law counts once. -/
mutual
def uptoBulk {H : Type} : DataW H → Nat
  | .lit (.string bytes) => bytes.length + 1
  | .lit _ => 1
  | .nil => 1
  | .ptr d => uptoBulk d + 1
  | .slice elems spare => uptoBulkAll elems + uptoBulkAll spare + 1
  | .agg parts => uptoBulkAll parts + 1
  | .iface _ d => uptoBulk d + 1
  | .map entries => uptoBulkEntries entries + 1
  | .held _ => 1
def uptoBulkAll {H : Type} : List (DataW H) → Nat
  | [] => 0
  | d :: r => uptoBulk d + uptoBulkAll r
def uptoBulkEntries {H : Type} : List (Lit × DataW H) → Nat
  | [] => 0
  | x :: r => uptoBulkEntry x + uptoBulkEntries r
def uptoBulkEntry {H : Type} : Lit × DataW H → Nat
  | (.string bytes, d) => bytes.length + uptoBulk d + 1
  | (_, d) => uptoBulk d + 1
 end
def uptoSmall : (H : Type) → List (DataW H) → Bool := fun _ ds => decide (uptoBulkAll ds ≤ 1048576)
def OpenSpec.upto (s : _root_.Go.ChangeSpec) : _root_.Go.OpenSpec := { _root_.Go.OpenSpec.ofChange s with cond := some uptoSmall }

/-- 'sheaflaw12.BlobFits', WHERE WHAT IT READS IS OF BULK AT MOST 1048576: true; the input reads as it did. -/
def blobFitsUptoRow : OpenClaim := { program := "ytppbknlhknadbaa", sum := "eed308d7f3050483b9b3b229fa7a0e3f6cd3c62a16cef4349ac42238383f2ad9", func := "sheaf/sheaflaw12.BlobFits", spec := "blobFits", unfollowed := true, recurses := true, apart := false, narrowed := true }
def BlobFitsUptoSaid : Prop := blobFitsUptoRow.holds Try.pinned (OpenSpec.upto blobFitsSpec)

/-- 'sheaflaw12.BlobPlays', WHERE WHAT IT READS IS OF BULK AT MOST 1048576: true; the input reads as it did. -/
def blobPlaysUptoRow : OpenClaim := { program := "ytppbknlhknadbaa", sum := "eed308d7f3050483b9b3b229fa7a0e3f6cd3c62a16cef4349ac42238383f2ad9", func := "sheaf/sheaflaw12.BlobPlays", spec := "blobPlays", unfollowed := true, recurses := true, apart := false, narrowed := true }
def BlobPlaysUptoSaid : Prop := blobPlaysUptoRow.holds Try.pinned (OpenSpec.upto blobPlaysSpec)

/-- 'sheaflaw12.BlobBack', WHERE WHAT IT READS IS OF BULK AT MOST 1048576: true; the input reads as it did. -/
def blobBackUptoRow : OpenClaim := { program := "ytppbknlhknadbaa", sum := "eed308d7f3050483b9b3b229fa7a0e3f6cd3c62a16cef4349ac42238383f2ad9", func := "sheaf/sheaflaw12.BlobBack", spec := "blobBack", unfollowed := true, recurses := true, apart := false, narrowed := true }
def BlobBackUptoSaid : Prop := blobBackUptoRow.holds Try.pinned (OpenSpec.upto blobBackSpec)

/-- 'sheaflaw12.BlobNobody', WHERE WHAT IT READS IS OF BULK AT MOST 1048576: true; the input reads as it did. -/
def blobNobodyUptoRow : OpenClaim := { program := "ytppbknlhknadbaa", sum := "eed308d7f3050483b9b3b229fa7a0e3f6cd3c62a16cef4349ac42238383f2ad9", func := "sheaf/sheaflaw12.BlobNobody", spec := "blobNobody", unfollowed := true, recurses := true, apart := false, narrowed := true }
def BlobNobodyUptoSaid : Prop := blobNobodyUptoRow.holds Try.pinned (OpenSpec.upto blobNobodySpec)

end Rows
end Go.Proofs.Ytppbknlhknadbaa
