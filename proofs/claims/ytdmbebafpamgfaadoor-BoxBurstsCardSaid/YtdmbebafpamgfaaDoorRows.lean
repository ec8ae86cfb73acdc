/-
  NARROWER THAN 'FOR EVERY INPUT', by the rows' own cells (each row's printed sentence says how): BoxBuilds: laid · BoxHeads: laid · BoxOnce: laid · BoxBuilders: laid · BoxBursts: laid · BoxNobody: laid.
  DERIVED. THE GIVEN ROWS OF THIS SEAT. 6 by the template 'for every input the law returns true; each argument reads behind the call as it read before'; 0 by the template 'total and deterministic' (their statements: YtdmbebafpamgfaaDoorTotals.lean).
  GIVEN WITH THE SEED: the statements are not yours to turn. If you find one false, say at which input.
  Laid BY PROGRAM, IN A SANDBOX (cutbox-rows.mjs): the forced cells as the released guide's own fill.sh prints them over the translation 901b84c3d9a604b3… (all of the seat's roots in one cut). By AI agents, Wed Nov 11 2026. No macro, syntax, notation, axiom, sorry.
-/
import Derived.Test.YtdmbebafpamgfaaDoorChecked
import GoSem.Claim
import GoSem.ClaimJoined
import GoSem.ClaimMapViews
import Derived.JoinedTies
import Derived.KernelRfl
namespace Go.Proofs.YtdmbebafpamgfaaDoor
/- THE CELL 'sum', in the pinned program and in every row, IS THE sha256 OF THE DUMP (.gsa) THAT YtdmbebafpamgfaaDoorProg.lean LOADS. Nothing in Lean hashes anything: it is a label: what it is worth is what the hold of that sum in a sandbox is worth. -/
noncomputable def Tryd.pinned : Pinned := { name := "ytdmbebafpamgfaadoor", sum := "901b84c3d9a604b3ced3269292ebf7c4b4a317bc507706a48e8fec2266d47d8c", checked := Tryd.checked }
namespace Rows
def none {H : Type} : Left H := { results := [], args := [] }

/- WHAT THE LISTED PACKAGE-LEVEL VARIABLES READ AS WHEN THE CALL BEGINS. Each datum BY PROGRAM (the guide's laid-datum.mjs) off the statement by which the dump's own 'gosem.cut.vars' lays the variable. In a bare row this is a premise. The card (YtdmbebafpamgfaaDoorCards.lean) ties it to the program's text. -/
def laid_sheaf_crc_fourSteps {H : Type} : DataW H := .agg [.lit (.int .u32 0), .lit (.int .u32 498536548), .lit (.int .u32 997073096), .lit (.int .u32 651767980), .lit (.int .u32 1994146192), .lit (.int .u32 1802195444), .lit (.int .u32 1303535960), .lit (.int .u32 1342533948), .lit (.int .u32 3988292384), .lit (.int .u32 4027552580), .lit (.int .u32 3604390888), .lit (.int .u32 3412177804), .lit (.int .u32 2607071920), .lit (.int .u32 2262029012), .lit (.int .u32 2685067896), .lit (.int .u32 3183342108)]

/-- 'sheaflaw14.BoxBuilds': WHATEVER THE INPUT: true; the input reads as it did. -/
def boxBuildsSpec : ChangeSpec := { name := "boxBuilds", fn := fun _ => fun
  | [d1, d2] => { results := [.lit (.bool true)], args := [d1, d2] }
  | _ => none }
def boxBuildsRow : OpenClaim := { program := "ytdmbebafpamgfaadoor", sum := "901b84c3d9a604b3ced3269292ebf7c4b4a317bc507706a48e8fec2266d47d8c", func := "sheaf/sheaflaw14.BoxBuilds", spec := "boxBuilds", inPlace := ["internal/abi.NoEscape", "internal/bytealg.MakeNoZero"], recurses := true, named := ["sheaf/crc.fourSteps"], apart := false, laid := [("sheaf/crc.fourSteps", laid_sheaf_crc_fourSteps)] }
def BoxBuildsSaid : Prop := boxBuildsRow.holds Tryd.pinned (OpenSpec.ofChange boxBuildsSpec)

/-- ITS FALSE NEIGHBOUR: 'it returns false'. Refute it at one input. -/
def boxBuildsWrong : ChangeSpec := { name := "boxBuilds", fn := fun _ => fun
  | [d1, d2] => { results := [.lit (.bool false)], args := [d1, d2] }
  | _ => none }
def BoxBuildsWrongFalsely : Prop := boxBuildsRow.holds Tryd.pinned (OpenSpec.ofChange boxBuildsWrong)

/-- 'sheaflaw14.BoxHeads': WHATEVER THE INPUT: true; the input reads as it did. -/
def boxHeadsSpec : ChangeSpec := { name := "boxHeads", fn := fun _ => fun
  | [d1, d2] => { results := [.lit (.bool true)], args := [d1, d2] }
  | _ => none }
def boxHeadsRow : OpenClaim := { program := "ytdmbebafpamgfaadoor", sum := "901b84c3d9a604b3ced3269292ebf7c4b4a317bc507706a48e8fec2266d47d8c", func := "sheaf/sheaflaw14.BoxHeads", spec := "boxHeads", inPlace := ["internal/abi.NoEscape", "internal/bytealg.MakeNoZero"], recurses := true, named := ["sheaf/crc.fourSteps"], apart := false, laid := [("sheaf/crc.fourSteps", laid_sheaf_crc_fourSteps)] }
def BoxHeadsSaid : Prop := boxHeadsRow.holds Tryd.pinned (OpenSpec.ofChange boxHeadsSpec)

/-- ITS FALSE NEIGHBOUR: 'it returns false'. Refute it at one input. -/
def boxHeadsWrong : ChangeSpec := { name := "boxHeads", fn := fun _ => fun
  | [d1, d2] => { results := [.lit (.bool false)], args := [d1, d2] }
  | _ => none }
def BoxHeadsWrongFalsely : Prop := boxHeadsRow.holds Tryd.pinned (OpenSpec.ofChange boxHeadsWrong)

/-- 'sheaflaw14.BoxOnce': WHATEVER THE INPUT: true; the input reads as it did. -/
def boxOnceSpec : ChangeSpec := { name := "boxOnce", fn := fun _ => fun
  | [d] => { results := [.lit (.bool true)], args := [d] }
  | _ => none }
def boxOnceRow : OpenClaim := { program := "ytdmbebafpamgfaadoor", sum := "901b84c3d9a604b3ced3269292ebf7c4b4a317bc507706a48e8fec2266d47d8c", func := "sheaf/sheaflaw14.BoxOnce", spec := "boxOnce", inPlace := ["internal/abi.NoEscape", "internal/bytealg.MakeNoZero"], named := ["sheaf/crc.fourSteps"], apart := false, laid := [("sheaf/crc.fourSteps", laid_sheaf_crc_fourSteps)] }
def BoxOnceSaid : Prop := boxOnceRow.holds Tryd.pinned (OpenSpec.ofChange boxOnceSpec)

/-- ITS FALSE NEIGHBOUR: 'it returns false'. Refute it at one input. -/
def boxOnceWrong : ChangeSpec := { name := "boxOnce", fn := fun _ => fun
  | [d] => { results := [.lit (.bool false)], args := [d] }
  | _ => none }
def BoxOnceWrongFalsely : Prop := boxOnceRow.holds Tryd.pinned (OpenSpec.ofChange boxOnceWrong)

/-- 'sheaflaw14.BoxBuilders': WHATEVER THE INPUT: true; the input reads as it did. -/
def boxBuildersSpec : ChangeSpec := { name := "boxBuilders", fn := fun _ => fun
  | [d1, d2, d3, d4, d5] => { results := [.lit (.bool true)], args := [d1, d2, d3, d4, d5] }
  | _ => none }
def boxBuildersRow : OpenClaim := { program := "ytdmbebafpamgfaadoor", sum := "901b84c3d9a604b3ced3269292ebf7c4b4a317bc507706a48e8fec2266d47d8c", func := "sheaf/sheaflaw14.BoxBuilders", spec := "boxBuilders", inPlace := ["internal/abi.NoEscape", "internal/bytealg.MakeNoZero"], recurses := true, named := ["sheaf/crc.fourSteps"], apart := false, laid := [("sheaf/crc.fourSteps", laid_sheaf_crc_fourSteps)] }
def BoxBuildersSaid : Prop := boxBuildersRow.holds Tryd.pinned (OpenSpec.ofChange boxBuildersSpec)

/-- ITS FALSE NEIGHBOUR: 'it returns false'. Refute it at one input. -/
def boxBuildersWrong : ChangeSpec := { name := "boxBuilders", fn := fun _ => fun
  | [d1, d2, d3, d4, d5] => { results := [.lit (.bool false)], args := [d1, d2, d3, d4, d5] }
  | _ => none }
def BoxBuildersWrongFalsely : Prop := boxBuildersRow.holds Tryd.pinned (OpenSpec.ofChange boxBuildersWrong)

/-- 'sheaflaw14.BoxBursts': WHATEVER THE INPUT: true; the input reads as it did. -/
def boxBurstsSpec : ChangeSpec := { name := "boxBursts", fn := fun _ => fun
  | [d1, d2, d3, d4, d5] => { results := [.lit (.bool true)], args := [d1, d2, d3, d4, d5] }
  | _ => none }
def boxBurstsRow : OpenClaim := { program := "ytdmbebafpamgfaadoor", sum := "901b84c3d9a604b3ced3269292ebf7c4b4a317bc507706a48e8fec2266d47d8c", func := "sheaf/sheaflaw14.BoxBursts", spec := "boxBursts", inPlace := ["internal/abi.NoEscape", "internal/bytealg.MakeNoZero"], recurses := true, named := ["sheaf/crc.fourSteps"], apart := false, laid := [("sheaf/crc.fourSteps", laid_sheaf_crc_fourSteps)] }
def BoxBurstsSaid : Prop := boxBurstsRow.holds Tryd.pinned (OpenSpec.ofChange boxBurstsSpec)

/-- ITS FALSE NEIGHBOUR: 'it returns false'. Refute it at one input. -/
def boxBurstsWrong : ChangeSpec := { name := "boxBursts", fn := fun _ => fun
  | [d1, d2, d3, d4, d5] => { results := [.lit (.bool false)], args := [d1, d2, d3, d4, d5] }
  | _ => none }
def BoxBurstsWrongFalsely : Prop := boxBurstsRow.holds Tryd.pinned (OpenSpec.ofChange boxBurstsWrong)

/-- 'sheaflaw14.BoxNobody': WHATEVER THE INPUT: true; the input reads as it did. -/
def boxNobodySpec : ChangeSpec := { name := "boxNobody", fn := fun _ => fun
  | [d1, d2] => { results := [.lit (.bool true)], args := [d1, d2] }
  | _ => none }
def boxNobodyRow : OpenClaim := { program := "ytdmbebafpamgfaadoor", sum := "901b84c3d9a604b3ced3269292ebf7c4b4a317bc507706a48e8fec2266d47d8c", func := "sheaf/sheaflaw14.BoxNobody", spec := "boxNobody", inPlace := ["internal/abi.NoEscape", "internal/bytealg.MakeNoZero"], named := ["sheaf/crc.fourSteps"], apart := false, laid := [("sheaf/crc.fourSteps", laid_sheaf_crc_fourSteps)] }
def BoxNobodySaid : Prop := boxNobodyRow.holds Tryd.pinned (OpenSpec.ofChange boxNobodySpec)

/-- ITS FALSE NEIGHBOUR: 'it returns false'. Refute it at one input. -/
def boxNobodyWrong : ChangeSpec := { name := "boxNobody", fn := fun _ => fun
  | [d1, d2] => { results := [.lit (.bool false)], args := [d1, d2] }
  | _ => none }
def BoxNobodyWrongFalsely : Prop := boxNobodyRow.holds Tryd.pinned (OpenSpec.ofChange boxNobodyWrong)

/- THE SECOND FORM. 'bulk': how many values and letters a reading holds, each counted each time it is reached (what is shared counts as often as it is met; a slice's spare places count too). A statement '..UptoSaid' is the law's where the arguments, and the package variables that the reading takes, are together of bulk at most 1048576: NARROWER than '..Said'. Prove '..Said' where nothing that the law and all that it calls make is longer than what came in: it says more and counts as full. Else prove '..UptoSaid'. A law counts once. -/
mutual
def uptoBulk {H : Type} : DataW H → Nat
  | .lit (.string bytes) => bytes.length + 1
  | .lit _ => 1
  | .nil => 1
  | .ptr d => uptoBulk d + 1
  | .slice elems spare => uptoBulkAll elems + uptoBulkAll spare + 1
  | .agg parts => uptoBulkAll parts + 1
  | .iface _ d => uptoBulk d + 1
  | .map entries => uptoBulkEntries entries + 1
  | .held _ => 1
def uptoBulkAll {H : Type} : List (DataW H) → Nat
  | [] => 0
  | d :: r => uptoBulk d + uptoBulkAll r
def uptoBulkEntries {H : Type} : List (Lit × DataW H) → Nat
  | [] => 0
  | x :: r => uptoBulkEntry x + uptoBulkEntries r
def uptoBulkEntry {H : Type} : Lit × DataW H → Nat
  | (.string bytes, d) => bytes.length + uptoBulk d + 1
  | (_, d) => uptoBulk d + 1
 end
def uptoSmall : (H : Type) → List (DataW H) → Bool := fun _ ds => decide (uptoBulkAll ds ≤ 1048576)
def OpenSpec.upto (s : _root_.Go.ChangeSpec) : _root_.Go.OpenSpec := { _root_.Go.OpenSpec.ofChange s with cond := some uptoSmall }

/-- 'sheaflaw14.BoxBuilds', WHERE WHAT IT READS IS OF BULK AT MOST 1048576: true; the input reads as it did. -/
def boxBuildsUptoRow : OpenClaim := { program := "ytdmbebafpamgfaadoor", sum := "901b84c3d9a604b3ced3269292ebf7c4b4a317bc507706a48e8fec2266d47d8c", func := "sheaf/sheaflaw14.BoxBuilds", spec := "boxBuilds", inPlace := ["internal/abi.NoEscape", "internal/bytealg.MakeNoZero"], recurses := true, named := ["sheaf/crc.fourSteps"], apart := false, laid := [("sheaf/crc.fourSteps", laid_sheaf_crc_fourSteps)], narrowed := true }
def BoxBuildsUptoSaid : Prop := boxBuildsUptoRow.holds Tryd.pinned (OpenSpec.upto boxBuildsSpec)

/-- 'sheaflaw14.BoxHeads', WHERE WHAT IT READS IS OF BULK AT MOST 1048576: true; the input reads as it did. -/
def boxHeadsUptoRow : OpenClaim := { program := "ytdmbebafpamgfaadoor", sum := "901b84c3d9a604b3ced3269292ebf7c4b4a317bc507706a48e8fec2266d47d8c", func := "sheaf/sheaflaw14.BoxHeads", spec := "boxHeads", inPlace := ["internal/abi.NoEscape", "internal/bytealg.MakeNoZero"], recurses := true, named := ["sheaf/crc.fourSteps"], apart := false, laid := [("sheaf/crc.fourSteps", laid_sheaf_crc_fourSteps)], narrowed := true }
def BoxHeadsUptoSaid : Prop := boxHeadsUptoRow.holds Tryd.pinned (OpenSpec.upto boxHeadsSpec)

/-- 'sheaflaw14.BoxOnce', WHERE WHAT IT READS IS OF BULK AT MOST 1048576: true; the input reads as it did. -/
def boxOnceUptoRow : OpenClaim := { program := "ytdmbebafpamgfaadoor", sum := "901b84c3d9a604b3ced3269292ebf7c4b4a317bc507706a48e8fec2266d47d8c", func := "sheaf/sheaflaw14.BoxOnce", spec := "boxOnce", inPlace := ["internal/abi.NoEscape", "internal/bytealg.MakeNoZero"], named := ["sheaf/crc.fourSteps"], apart := false, laid := [("sheaf/crc.fourSteps", laid_sheaf_crc_fourSteps)], narrowed := true }
def BoxOnceUptoSaid : Prop := boxOnceUptoRow.holds Tryd.pinned (OpenSpec.upto boxOnceSpec)

/-- 'sheaflaw14.BoxBuilders', WHERE WHAT IT READS IS OF BULK AT MOST 1048576: true; the input reads as it did. -/
def boxBuildersUptoRow : OpenClaim := { program := "ytdmbebafpamgfaadoor", sum := "901b84c3d9a604b3ced3269292ebf7c4b4a317bc507706a48e8fec2266d47d8c", func := "sheaf/sheaflaw14.BoxBuilders", spec := "boxBuilders", inPlace := ["internal/abi.NoEscape", "internal/bytealg.MakeNoZero"], recurses := true, named := ["sheaf/crc.fourSteps"], apart := false, laid := [("sheaf/crc.fourSteps", laid_sheaf_crc_fourSteps)], narrowed := true }
def BoxBuildersUptoSaid : Prop := boxBuildersUptoRow.holds Tryd.pinned (OpenSpec.upto boxBuildersSpec)

/-- 'sheaflaw14.BoxBursts', WHERE WHAT IT READS IS OF BULK AT MOST 1048576: true; the input reads as it did. -/
def boxBurstsUptoRow : OpenClaim := { program := "ytdmbebafpamgfaadoor", sum := "901b84c3d9a604b3ced3269292ebf7c4b4a317bc507706a48e8fec2266d47d8c", func := "sheaf/sheaflaw14.BoxBursts", spec := "boxBursts", inPlace := ["internal/abi.NoEscape", "internal/bytealg.MakeNoZero"], recurses := true, named := ["sheaf/crc.fourSteps"], apart := false, laid := [("sheaf/crc.fourSteps", laid_sheaf_crc_fourSteps)], narrowed := true }
def BoxBurstsUptoSaid : Prop := boxBurstsUptoRow.holds Tryd.pinned (OpenSpec.upto boxBurstsSpec)

/-- 'sheaflaw14.BoxNobody', WHERE WHAT IT READS IS OF BULK AT MOST 1048576: true; the input reads as it did. -/
def boxNobodyUptoRow : OpenClaim := { program := "ytdmbebafpamgfaadoor", sum := "901b84c3d9a604b3ced3269292ebf7c4b4a317bc507706a48e8fec2266d47d8c", func := "sheaf/sheaflaw14.BoxNobody", spec := "boxNobody", inPlace := ["internal/abi.NoEscape", "internal/bytealg.MakeNoZero"], named := ["sheaf/crc.fourSteps"], apart := false, laid := [("sheaf/crc.fourSteps", laid_sheaf_crc_fourSteps)], narrowed := true }
def BoxNobodyUptoSaid : Prop := boxNobodyUptoRow.holds Tryd.pinned (OpenSpec.upto boxNobodySpec)

end Rows
end Go.Proofs.YtdmbebafpamgfaaDoor
