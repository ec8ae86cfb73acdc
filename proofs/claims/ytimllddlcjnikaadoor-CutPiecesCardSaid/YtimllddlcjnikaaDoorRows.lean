/-
  NARROWER THAN 'FOR EVERY INPUT', by the rows' own cells (each row's printed sentence says how): CutFirst: laid · CutAll: laid · CutPieces: laid · CutBehind: laid · CutNobody: laid.
  DERIVED. THE GIVEN ROWS OF THIS SEAT. 5 by the template 'for every input the law returns true; each argument reads behind the call as it read before'; 0 by the template 'total and deterministic' (their statements: YtimllddlcjnikaaDoorTotals.lean).
  GIVEN WITH THE SEED: the statements are not yours to turn. If you find one false, say at which input.
  Laid BY PROGRAM, IN A SANDBOX (cutbox-rows.mjs): the forced cells as the released guide's own fill.sh prints them over the translation 72d4d853840bf157… (all of the seat's roots in one cut). By AI agents, Wed Nov 11 2026. No macro, syntax, notation, axiom, sorry.
-/
import Derived.Test.YtimllddlcjnikaaDoorChecked
import GoSem.Claim
import GoSem.ClaimJoined
import GoSem.ClaimMapViews
import Derived.JoinedTies
import Derived.KernelRfl
namespace Go.Proofs.YtimllddlcjnikaaDoor
/- THE CELL 'sum', in the pinned program and in every row, IS THE sha256 OF THE DUMP (.gsa) THAT YtimllddlcjnikaaDoorProg.lean LOADS. Nothing in Lean hashes anything: it is a label: what it is worth is what the hold of that sum in a sandbox is worth. -/
noncomputable def Tryd.pinned : Pinned := { name := "ytimllddlcjnikaadoor", sum := "72d4d853840bf157e6c57d4ab73017b7ef1a4208017aa676e62d2e667b24855a", checked := Tryd.checked }
namespace Rows
def none {H : Type} : Left H := { results := [], args := [] }

/- WHAT THE LISTED PACKAGE-LEVEL VARIABLES READ AS WHEN THE CALL BEGINS. Each datum BY PROGRAM (the guide's laid-datum.mjs) off the statement by which the dump's own 'gosem.cut.vars' lays the variable. In a bare row this is a premise. The card (YtimllddlcjnikaaDoorCards.lean) ties it to the program's text. -/
def laid_sheaf_roll_powers {H : Type} : DataW H := .agg [.lit (.int .u32 1), .lit (.int .u32 257), .lit (.int .u32 66049), .lit (.int .u32 16974593), .lit (.int .u32 67503107), .lit (.int .u32 168429323), .lit (.int .u32 336663071), .lit (.int .u32 623063367), .lit (.int .u32 1213495441), .lit (.int .u32 483199522), .lit (.int .u32 1775709275), .lit (.int .u32 1090750511), .lit (.int .u32 1150007217), .lit (.int .u32 1346595130), .lit (.int .u32 330081243), .lit (.int .u32 1079017218)]

/-- 'sheaflaw06.CutFirst': WHATEVER THE INPUT: true; the input reads as it did. -/
def cutFirstSpec : ChangeSpec := { name := "cutFirst", fn := fun _ => fun
  | [d1, d2] => { results := [.lit (.bool true)], args := [d1, d2] }
  | _ => none }
def cutFirstRow : OpenClaim := { program := "ytimllddlcjnikaadoor", sum := "72d4d853840bf157e6c57d4ab73017b7ef1a4208017aa676e62d2e667b24855a", func := "sheaf/sheaflaw06.CutFirst", spec := "cutFirst", named := ["sheaf/roll.powers"], apart := false, laid := [("sheaf/roll.powers", laid_sheaf_roll_powers)] }
def CutFirstSaid : Prop := cutFirstRow.holds Tryd.pinned (OpenSpec.ofChange cutFirstSpec)

/-- ITS FALSE NEIGHBOUR: 'it returns false'. Refute it at one input. -/
def cutFirstWrong : ChangeSpec := { name := "cutFirst", fn := fun _ => fun
  | [d1, d2] => { results := [.lit (.bool false)], args := [d1, d2] }
  | _ => none }
def CutFirstWrongFalsely : Prop := cutFirstRow.holds Tryd.pinned (OpenSpec.ofChange cutFirstWrong)

/-- 'sheaflaw06.CutAll': WHATEVER THE INPUT: true; the input reads as it did. -/
def cutAllSpec : ChangeSpec := { name := "cutAll", fn := fun _ => fun
  | [d1, d2] => { results := [.lit (.bool true)], args := [d1, d2] }
  | _ => none }
def cutAllRow : OpenClaim := { program := "ytimllddlcjnikaadoor", sum := "72d4d853840bf157e6c57d4ab73017b7ef1a4208017aa676e62d2e667b24855a", func := "sheaf/sheaflaw06.CutAll", spec := "cutAll", named := ["sheaf/roll.powers"], apart := false, laid := [("sheaf/roll.powers", laid_sheaf_roll_powers)] }
def CutAllSaid : Prop := cutAllRow.holds Tryd.pinned (OpenSpec.ofChange cutAllSpec)

/-- ITS FALSE NEIGHBOUR: 'it returns false'. Refute it at one input. -/
def cutAllWrong : ChangeSpec := { name := "cutAll", fn := fun _ => fun
  | [d1, d2] => { results := [.lit (.bool false)], args := [d1, d2] }
  | _ => none }
def CutAllWrongFalsely : Prop := cutAllRow.holds Tryd.pinned (OpenSpec.ofChange cutAllWrong)

/-- 'sheaflaw06.CutPieces': WHATEVER THE INPUT: true; the input reads as it did. -/
def cutPiecesSpec : ChangeSpec := { name := "cutPieces", fn := fun _ => fun
  | [d1, d2] => { results := [.lit (.bool true)], args := [d1, d2] }
  | _ => none }
def cutPiecesRow : OpenClaim := { program := "ytimllddlcjnikaadoor", sum := "72d4d853840bf157e6c57d4ab73017b7ef1a4208017aa676e62d2e667b24855a", func := "sheaf/sheaflaw06.CutPieces", spec := "cutPieces", inPlace := ["internal/abi.NoEscape"], named := ["sheaf/roll.powers"], apart := false, laid := [("sheaf/roll.powers", laid_sheaf_roll_powers)] }
def CutPiecesSaid : Prop := cutPiecesRow.holds Tryd.pinned (OpenSpec.ofChange cutPiecesSpec)

/-- ITS FALSE NEIGHBOUR: 'it returns false'. Refute it at one input. -/
def cutPiecesWrong : ChangeSpec := { name := "cutPieces", fn := fun _ => fun
  | [d1, d2] => { results := [.lit (.bool false)], args := [d1, d2] }
  | _ => none }
def CutPiecesWrongFalsely : Prop := cutPiecesRow.holds Tryd.pinned (OpenSpec.ofChange cutPiecesWrong)

/-- 'sheaflaw06.CutBehind': WHATEVER THE INPUT: true; the input reads as it did. -/
def cutBehindSpec : ChangeSpec := { name := "cutBehind", fn := fun _ => fun
  | [d1, d2, d3] => { results := [.lit (.bool true)], args := [d1, d2, d3] }
  | _ => none }
def cutBehindRow : OpenClaim := { program := "ytimllddlcjnikaadoor", sum := "72d4d853840bf157e6c57d4ab73017b7ef1a4208017aa676e62d2e667b24855a", func := "sheaf/sheaflaw06.CutBehind", spec := "cutBehind", named := ["sheaf/roll.powers"], apart := false, laid := [("sheaf/roll.powers", laid_sheaf_roll_powers)] }
def CutBehindSaid : Prop := cutBehindRow.holds Tryd.pinned (OpenSpec.ofChange cutBehindSpec)

/-- ITS FALSE NEIGHBOUR: 'it returns false'. Refute it at one input. -/
def cutBehindWrong : ChangeSpec := { name := "cutBehind", fn := fun _ => fun
  | [d1, d2, d3] => { results := [.lit (.bool false)], args := [d1, d2, d3] }
  | _ => none }
def CutBehindWrongFalsely : Prop := cutBehindRow.holds Tryd.pinned (OpenSpec.ofChange cutBehindWrong)

/-- 'sheaflaw06.CutNobody': WHATEVER THE INPUT: true; the input reads as it did. -/
def cutNobodySpec : ChangeSpec := { name := "cutNobody", fn := fun _ => fun
  | [d] => { results := [.lit (.bool true)], args := [d] }
  | _ => none }
def cutNobodyRow : OpenClaim := { program := "ytimllddlcjnikaadoor", sum := "72d4d853840bf157e6c57d4ab73017b7ef1a4208017aa676e62d2e667b24855a", func := "sheaf/sheaflaw06.CutNobody", spec := "cutNobody", inPlace := ["internal/abi.NoEscape"], named := ["sheaf/roll.powers"], apart := false, laid := [("sheaf/roll.powers", laid_sheaf_roll_powers)] }
def CutNobodySaid : Prop := cutNobodyRow.holds Tryd.pinned (OpenSpec.ofChange cutNobodySpec)

/-- ITS FALSE NEIGHBOUR: 'it returns false'. Refute it at one input. -/
def cutNobodyWrong : ChangeSpec := { name := "cutNobody", fn := fun _ => fun
  | [d] => { results := [.lit (.bool false)], args := [d] }
  | _ => none }
def CutNobodyWrongFalsely : Prop := cutNobodyRow.holds Tryd.pinned (OpenSpec.ofChange cutNobodyWrong)

/- THE SECOND FORM. 'bulk': how many values and letters a reading holds, each counted each time it is reached (what is shared counts as often as it is met; a slice's spare places count too). A statement '..UptoSaid' is the law's where the arguments, and the package variables that the reading takes, are together of bulk at most 1048576: NARROWER than '..Said'. Prove '..Said' where nothing that the law and all that it calls make is longer than what came in: it says more and counts as full. Else prove '..UptoSaid'. A law counts once. -/
mutual
def uptoBulk {H : Type} : DataW H → Nat
  | .lit (.string bytes) => bytes.length + 1
  | .lit _ => 1
  | .nil => 1
  | .ptr d => uptoBulk d + 1
  | .slice elems spare => uptoBulkAll elems + uptoBulkAll spare + 1
  | .agg parts => uptoBulkAll parts + 1
  | .iface _ d => uptoBulk d + 1
  | .map entries => uptoBulkEntries entries + 1
  | .held _ => 1
def uptoBulkAll {H : Type} : List (DataW H) → Nat
  | [] => 0
  | d :: r => uptoBulk d + uptoBulkAll r
def uptoBulkEntries {H : Type} : List (Lit × DataW H) → Nat
  | [] => 0
  | x :: r => uptoBulkEntry x + uptoBulkEntries r
def uptoBulkEntry {H : Type} : Lit × DataW H → Nat
  | (.string bytes, d) => bytes.length + uptoBulk d + 1
  | (_, d) => uptoBulk d + 1
 end
def uptoSmall : (H : Type) → List (DataW H) → Bool := fun _ ds => decide (uptoBulkAll ds ≤ 1048576)
def OpenSpec.upto (s : _root_.Go.ChangeSpec) : _root_.Go.OpenSpec := { _root_.Go.OpenSpec.ofChange s with cond := some uptoSmall }

/-- 'sheaflaw06.CutFirst', WHERE WHAT IT READS IS OF BULK AT MOST 1048576: true; the input reads as it did. -/
def cutFirstUptoRow : OpenClaim := { program := "ytimllddlcjnikaadoor", sum := "72d4d853840bf157e6c57d4ab73017b7ef1a4208017aa676e62d2e667b24855a", func := "sheaf/sheaflaw06.CutFirst", spec := "cutFirst", named := ["sheaf/roll.powers"], apart := false, laid := [("sheaf/roll.powers", laid_sheaf_roll_powers)], narrowed := true }
def CutFirstUptoSaid : Prop := cutFirstUptoRow.holds Tryd.pinned (OpenSpec.upto cutFirstSpec)

/-- 'sheaflaw06.CutAll', WHERE WHAT IT READS IS OF BULK AT MOST 1048576: true; the input reads as it did. -/
def cutAllUptoRow : OpenClaim := { program := "ytimllddlcjnikaadoor", sum := "72d4d853840bf157e6c57d4ab73017b7ef1a4208017aa676e62d2e667b24855a", func := "sheaf/sheaflaw06.CutAll", spec := "cutAll", named := ["sheaf/roll.powers"], apart := false, laid := [("sheaf/roll.powers", laid_sheaf_roll_powers)], narrowed := true }
def CutAllUptoSaid : Prop := cutAllUptoRow.holds Tryd.pinned (OpenSpec.upto cutAllSpec)

/-- 'sheaflaw06.CutPieces', WHERE WHAT IT READS IS OF BULK AT MOST 1048576: true; the input reads as it did. -/
def cutPiecesUptoRow : OpenClaim := { program := "ytimllddlcjnikaadoor", sum := "72d4d853840bf157e6c57d4ab73017b7ef1a4208017aa676e62d2e667b24855a", func := "sheaf/sheaflaw06.CutPieces", spec := "cutPieces", inPlace := ["internal/abi.NoEscape"], named := ["sheaf/roll.powers"], apart := false, laid := [("sheaf/roll.powers", laid_sheaf_roll_powers)], narrowed := true }
def CutPiecesUptoSaid : Prop := cutPiecesUptoRow.holds Tryd.pinned (OpenSpec.upto cutPiecesSpec)

/-- 'sheaflaw06.CutBehind', WHERE WHAT IT READS IS OF BULK AT MOST 1048576: true; the input reads as it did. -/
def cutBehindUptoRow : OpenClaim := { program := "ytimllddlcjnikaadoor", sum := "72d4d853840bf157e6c57d4ab73017b7ef1a4208017aa676e62d2e667b24855a", func := "sheaf/sheaflaw06.CutBehind", spec := "cutBehind", named := ["sheaf/roll.powers"], apart := false, laid := [("sheaf/roll.powers", laid_sheaf_roll_powers)], narrowed := true }
def CutBehindUptoSaid : Prop := cutBehindUptoRow.holds Tryd.pinned (OpenSpec.upto cutBehindSpec)

/-- 'sheaflaw06.CutNobody', WHERE WHAT IT READS IS OF BULK AT MOST 1048576: true; the input reads as it did. -/
def cutNobodyUptoRow : OpenClaim := { program := "ytimllddlcjnikaadoor", sum := "72d4d853840bf157e6c57d4ab73017b7ef1a4208017aa676e62d2e667b24855a", func := "sheaf/sheaflaw06.CutNobody", spec := "cutNobody", inPlace := ["internal/abi.NoEscape"], named := ["sheaf/roll.powers"], apart := false, laid := [("sheaf/roll.powers", laid_sheaf_roll_powers)], narrowed := true }
def CutNobodyUptoSaid : Prop := cutNobodyUptoRow.holds Tryd.pinned (OpenSpec.upto cutNobodySpec)

end Rows
end Go.Proofs.YtimllddlcjnikaaDoor
