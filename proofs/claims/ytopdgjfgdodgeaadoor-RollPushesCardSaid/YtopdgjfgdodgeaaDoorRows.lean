/-
  NARROWER THAN 'FOR EVERY INPUT', by the rows' own cells (each row's printed sentence says how): RollSums: laid · RollSlides: laid · RollPlaces: laid · RollPushes: laid · RollForgets: laid.
  DERIVED. THE GIVEN ROWS OF THIS SEAT. 5 by the template 'for every input the law returns true; each argument reads behind the call as it read before'; 0 by the template 'total and deterministic' (their statements: YtopdgjfgdodgeaaDoorTotals.lean).
  GIVEN WITH THE SEED: the statements are not yours to turn. If you find one false, say at which input.
  Laid BY PROGRAM, IN A SANDBOX (cutbox-rows.mjs): the forced cells as the released guide's own fill.sh prints them over the translation 81afcb1ef3a7be7c… (all of the seat's roots in one cut). By AI agents, Wed Nov 11 2026. No macro, syntax, notation, axiom, sorry.
-/
import Derived.Test.YtopdgjfgdodgeaaDoorChecked
import GoSem.Claim
import GoSem.ClaimJoined
import GoSem.ClaimMapViews
import Derived.JoinedTies
import Derived.KernelRfl
namespace Go.Proofs.YtopdgjfgdodgeaaDoor
/- THE CELL 'sum', in the pinned program and in every row, IS THE sha256 OF THE DUMP (.gsa) THAT YtopdgjfgdodgeaaDoorProg.lean LOADS. Nothing in Lean hashes anything: it is a label: what it is worth is what the hold of that sum in a sandbox is worth. -/
noncomputable def Tryd.pinned : Pinned := { name := "ytopdgjfgdodgeaadoor", sum := "81afcb1ef3a7be7cabf8c36b23dfc8fb741ed54abf1855ab046f6c6fb22d0601", checked := Tryd.checked }
namespace Rows
def none {H : Type} : Left H := { results := [], args := [] }

/- WHAT THE LISTED PACKAGE-LEVEL VARIABLES READ AS WHEN THE CALL BEGINS. Each datum BY PROGRAM (the guide's laid-datum.mjs) off the statement by which the dump's own 'gosem.cut.vars' lays the variable. In a bare row this is a premise. The card (YtopdgjfgdodgeaaDoorCards.lean) ties it to the program's text. -/
def laid_sheaf_roll_powers {H : Type} : DataW H := .agg [.lit (.int .u32 1), .lit (.int .u32 257), .lit (.int .u32 66049), .lit (.int .u32 16974593), .lit (.int .u32 67503107), .lit (.int .u32 168429323), .lit (.int .u32 336663071), .lit (.int .u32 623063367), .lit (.int .u32 1213495441), .lit (.int .u32 483199522), .lit (.int .u32 1775709275), .lit (.int .u32 1090750511), .lit (.int .u32 1150007217), .lit (.int .u32 1346595130), .lit (.int .u32 330081243), .lit (.int .u32 1079017218)]

/-- 'sheaflaw05.RollSums': WHATEVER THE INPUT: true; the input reads as it did. -/
def rollSumsSpec : ChangeSpec := { name := "rollSums", fn := fun _ => fun
  | [d] => { results := [.lit (.bool true)], args := [d] }
  | _ => none }
def rollSumsRow : OpenClaim := { program := "ytopdgjfgdodgeaadoor", sum := "81afcb1ef3a7be7cabf8c36b23dfc8fb741ed54abf1855ab046f6c6fb22d0601", func := "sheaf/sheaflaw05.RollSums", spec := "rollSums", named := ["sheaf/roll.powers"], apart := false, laid := [("sheaf/roll.powers", laid_sheaf_roll_powers)] }
def RollSumsSaid : Prop := rollSumsRow.holds Tryd.pinned (OpenSpec.ofChange rollSumsSpec)

/-- ITS FALSE NEIGHBOUR: 'it returns false'. Refute it at one input. -/
def rollSumsWrong : ChangeSpec := { name := "rollSums", fn := fun _ => fun
  | [d] => { results := [.lit (.bool false)], args := [d] }
  | _ => none }
def RollSumsWrongFalsely : Prop := rollSumsRow.holds Tryd.pinned (OpenSpec.ofChange rollSumsWrong)

/-- 'sheaflaw05.RollSlides': WHATEVER THE INPUT: true; the input reads as it did. -/
def rollSlidesSpec : ChangeSpec := { name := "rollSlides", fn := fun _ => fun
  | [d1, d2, d3, d4] => { results := [.lit (.bool true)], args := [d1, d2, d3, d4] }
  | _ => none }
def rollSlidesRow : OpenClaim := { program := "ytopdgjfgdodgeaadoor", sum := "81afcb1ef3a7be7cabf8c36b23dfc8fb741ed54abf1855ab046f6c6fb22d0601", func := "sheaf/sheaflaw05.RollSlides", spec := "rollSlides", named := ["sheaf/roll.powers"], apart := false, laid := [("sheaf/roll.powers", laid_sheaf_roll_powers)] }
def RollSlidesSaid : Prop := rollSlidesRow.holds Tryd.pinned (OpenSpec.ofChange rollSlidesSpec)

/-- ITS FALSE NEIGHBOUR: 'it returns false'. Refute it at one input. -/
def rollSlidesWrong : ChangeSpec := { name := "rollSlides", fn := fun _ => fun
  | [d1, d2, d3, d4] => { results := [.lit (.bool false)], args := [d1, d2, d3, d4] }
  | _ => none }
def RollSlidesWrongFalsely : Prop := rollSlidesRow.holds Tryd.pinned (OpenSpec.ofChange rollSlidesWrong)

/-- 'sheaflaw05.RollPlaces': WHATEVER THE INPUT: true; the input reads as it did. -/
def rollPlacesSpec : ChangeSpec := { name := "rollPlaces", fn := fun _ => fun
  | [d1, d2] => { results := [.lit (.bool true)], args := [d1, d2] }
  | _ => none }
def rollPlacesRow : OpenClaim := { program := "ytopdgjfgdodgeaadoor", sum := "81afcb1ef3a7be7cabf8c36b23dfc8fb741ed54abf1855ab046f6c6fb22d0601", func := "sheaf/sheaflaw05.RollPlaces", spec := "rollPlaces", named := ["sheaf/roll.powers"], apart := false, laid := [("sheaf/roll.powers", laid_sheaf_roll_powers)] }
def RollPlacesSaid : Prop := rollPlacesRow.holds Tryd.pinned (OpenSpec.ofChange rollPlacesSpec)

/-- ITS FALSE NEIGHBOUR: 'it returns false'. Refute it at one input. -/
def rollPlacesWrong : ChangeSpec := { name := "rollPlaces", fn := fun _ => fun
  | [d1, d2] => { results := [.lit (.bool false)], args := [d1, d2] }
  | _ => none }
def RollPlacesWrongFalsely : Prop := rollPlacesRow.holds Tryd.pinned (OpenSpec.ofChange rollPlacesWrong)

/-- 'sheaflaw05.RollPushes': WHATEVER THE INPUT: true; the input reads as it did. -/
def rollPushesSpec : ChangeSpec := { name := "rollPushes", fn := fun _ => fun
  | [d1, d2] => { results := [.lit (.bool true)], args := [d1, d2] }
  | _ => none }
def rollPushesRow : OpenClaim := { program := "ytopdgjfgdodgeaadoor", sum := "81afcb1ef3a7be7cabf8c36b23dfc8fb741ed54abf1855ab046f6c6fb22d0601", func := "sheaf/sheaflaw05.RollPushes", spec := "rollPushes", named := ["sheaf/roll.powers"], apart := false, laid := [("sheaf/roll.powers", laid_sheaf_roll_powers)] }
def RollPushesSaid : Prop := rollPushesRow.holds Tryd.pinned (OpenSpec.ofChange rollPushesSpec)

/-- ITS FALSE NEIGHBOUR: 'it returns false'. Refute it at one input. -/
def rollPushesWrong : ChangeSpec := { name := "rollPushes", fn := fun _ => fun
  | [d1, d2] => { results := [.lit (.bool false)], args := [d1, d2] }
  | _ => none }
def RollPushesWrongFalsely : Prop := rollPushesRow.holds Tryd.pinned (OpenSpec.ofChange rollPushesWrong)

/-- 'sheaflaw05.RollForgets': WHATEVER THE INPUT: true; the input reads as it did. -/
def rollForgetsSpec : ChangeSpec := { name := "rollForgets", fn := fun _ => fun
  | [d1, d2, d3] => { results := [.lit (.bool true)], args := [d1, d2, d3] }
  | _ => none }
def rollForgetsRow : OpenClaim := { program := "ytopdgjfgdodgeaadoor", sum := "81afcb1ef3a7be7cabf8c36b23dfc8fb741ed54abf1855ab046f6c6fb22d0601", func := "sheaf/sheaflaw05.RollForgets", spec := "rollForgets", named := ["sheaf/roll.powers"], apart := false, laid := [("sheaf/roll.powers", laid_sheaf_roll_powers)] }
def RollForgetsSaid : Prop := rollForgetsRow.holds Tryd.pinned (OpenSpec.ofChange rollForgetsSpec)

/-- ITS FALSE NEIGHBOUR: 'it returns false'. Refute it at one input. -/
def rollForgetsWrong : ChangeSpec := { name := "rollForgets", fn := fun _ => fun
  | [d1, d2, d3] => { results := [.lit (.bool false)], args := [d1, d2, d3] }
  | _ => none }
def RollForgetsWrongFalsely : Prop := rollForgetsRow.holds Tryd.pinned (OpenSpec.ofChange rollForgetsWrong)

/- THE SECOND FORM. 'bulk': how many values and letters a reading holds, each counted each time it is reached (what is shared counts as often as it is met; a slice's spare places count too). A statement '..UptoSaid' is the law's where the arguments, and the package variables that the reading takes, are together of bulk at most 1048576: NARROWER than '..Said'. Prove '..Said' where nothing that the law and all that it calls make is longer than what came in: it says more and counts as full. Else prove '..UptoSaid'. A law counts once. -/
mutual
def uptoBulk {H : Type} : DataW H → Nat
  | .lit (.string bytes) => bytes.length + 1
  | .lit _ => 1
  | .nil => 1
  | .ptr d => uptoBulk d + 1
  | .slice elems spare => uptoBulkAll elems + uptoBulkAll spare + 1
  | .agg parts => uptoBulkAll parts + 1
  | .iface _ d => uptoBulk d + 1
  | .map entries => uptoBulkEntries entries + 1
  | .held _ => 1
def uptoBulkAll {H : Type} : List (DataW H) → Nat
  | [] => 0
  | d :: r => uptoBulk d + uptoBulkAll r
def uptoBulkEntries {H : Type} : List (Lit × DataW H) → Nat
  | [] => 0
  | x :: r => uptoBulkEntry x + uptoBulkEntries r
def uptoBulkEntry {H : Type} : Lit × DataW H → Nat
  | (.string bytes, d) => bytes.length + uptoBulk d + 1
  | (_, d) => uptoBulk d + 1
 end
def uptoSmall : (H : Type) → List (DataW H) → Bool := fun _ ds => decide (uptoBulkAll ds ≤ 1048576)
def OpenSpec.upto (s : _root_.Go.ChangeSpec) : _root_.Go.OpenSpec := { _root_.Go.OpenSpec.ofChange s with cond := some uptoSmall }

/-- 'sheaflaw05.RollSums', WHERE WHAT IT READS IS OF BULK AT MOST 1048576: true; the input reads as it did. -/
def rollSumsUptoRow : OpenClaim := { program := "ytopdgjfgdodgeaadoor", sum := "81afcb1ef3a7be7cabf8c36b23dfc8fb741ed54abf1855ab046f6c6fb22d0601", func := "sheaf/sheaflaw05.RollSums", spec := "rollSums", named := ["sheaf/roll.powers"], apart := false, laid := [("sheaf/roll.powers", laid_sheaf_roll_powers)], narrowed := true }
def RollSumsUptoSaid : Prop := rollSumsUptoRow.holds Tryd.pinned (OpenSpec.upto rollSumsSpec)

/-- 'sheaflaw05.RollSlides', WHERE WHAT IT READS IS OF BULK AT MOST 1048576: true; the input reads as it did. -/
def rollSlidesUptoRow : OpenClaim := { program := "ytopdgjfgdodgeaadoor", sum := "81afcb1ef3a7be7cabf8c36b23dfc8fb741ed54abf1855ab046f6c6fb22d0601", func := "sheaf/sheaflaw05.RollSlides", spec := "rollSlides", named := ["sheaf/roll.powers"], apart := false, laid := [("sheaf/roll.powers", laid_sheaf_roll_powers)], narrowed := true }
def RollSlidesUptoSaid : Prop := rollSlidesUptoRow.holds Tryd.pinned (OpenSpec.upto rollSlidesSpec)

/-- 'sheaflaw05.RollPlaces', WHERE WHAT IT READS IS OF BULK AT MOST 1048576: true; the input reads as it did. -/
def rollPlacesUptoRow : OpenClaim := { program := "ytopdgjfgdodgeaadoor", sum := "81afcb1ef3a7be7cabf8c36b23dfc8fb741ed54abf1855ab046f6c6fb22d0601", func := "sheaf/sheaflaw05.RollPlaces", spec := "rollPlaces", named := ["sheaf/roll.powers"], apart := false, laid := [("sheaf/roll.powers", laid_sheaf_roll_powers)], narrowed := true }
def RollPlacesUptoSaid : Prop := rollPlacesUptoRow.holds Tryd.pinned (OpenSpec.upto rollPlacesSpec)

/-- 'sheaflaw05.RollPushes', WHERE WHAT IT READS IS OF BULK AT MOST 1048576: true; the input reads as it did. -/
def rollPushesUptoRow : OpenClaim := { program := "ytopdgjfgdodgeaadoor", sum := "81afcb1ef3a7be7cabf8c36b23dfc8fb741ed54abf1855ab046f6c6fb22d0601", func := "sheaf/sheaflaw05.RollPushes", spec := "rollPushes", named := ["sheaf/roll.powers"], apart := false, laid := [("sheaf/roll.powers", laid_sheaf_roll_powers)], narrowed := true }
def RollPushesUptoSaid : Prop := rollPushesUptoRow.holds Tryd.pinned (OpenSpec.upto rollPushesSpec)

/-- 'sheaflaw05.RollForgets', WHERE WHAT IT READS IS OF BULK AT MOST 1048576: true; the input reads as it did. -/
def rollForgetsUptoRow : OpenClaim := { program := "ytopdgjfgdodgeaadoor", sum := "81afcb1ef3a7be7cabf8c36b23dfc8fb741ed54abf1855ab046f6c6fb22d0601", func := "sheaf/sheaflaw05.RollForgets", spec := "rollForgets", named := ["sheaf/roll.powers"], apart := false, laid := [("sheaf/roll.powers", laid_sheaf_roll_powers)], narrowed := true }
def RollForgetsUptoSaid : Prop := rollForgetsUptoRow.holds Tryd.pinned (OpenSpec.upto rollForgetsSpec)

end Rows
end Go.Proofs.YtopdgjfgdodgeaaDoor
