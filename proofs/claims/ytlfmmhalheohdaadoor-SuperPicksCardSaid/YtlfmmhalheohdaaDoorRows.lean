/-
  NARROWER THAN 'FOR EVERY INPUT', by the rows' own cells (each row's printed sentence says how): SuperPuts: laid · SuperGets: laid · SuperPicks: laid · SuperNewer: laid · SuperNeeds: laid.
  DERIVED. THE GIVEN ROWS OF THIS SEAT. 5 by the template 'for every input the law returns true; each argument reads behind the call as it read before'; 0 by the template 'total and deterministic' (their statements: YtlfmmhalheohdaaDoorTotals.lean).
  GIVEN WITH THE SEED: the statements are not yours to turn. If you find one false, say at which input.
  Laid BY PROGRAM, IN A SANDBOX (cutbox-rows.mjs): the forced cells as the released guide's own fill.sh prints them over the translation a7f0ae972ed67932… (all of the seat's roots in one cut). By AI agents, Wed Nov 11 2026. No macro, syntax, notation, axiom, sorry.
-/
import Derived.Test.YtlfmmhalheohdaaDoorChecked
import GoSem.Claim
import GoSem.ClaimJoined
import GoSem.ClaimMapViews
import Derived.JoinedTies
import Derived.KernelRfl
namespace Go.Proofs.YtlfmmhalheohdaaDoor
/- THE CELL 'sum', in the pinned program and in every row, IS THE sha256 OF THE DUMP (.gsa) THAT YtlfmmhalheohdaaDoorProg.lean LOADS. Nothing in Lean hashes anything: it is a label: what it is worth is what the hold of that sum in a sandbox is worth. -/
noncomputable def Tryd.pinned : Pinned := { name := "ytlfmmhalheohdaadoor", sum := "a7f0ae972ed679321f53353d3854fdef4b2bc20c32d58a136ab1550a070ab90b", checked := Tryd.checked }
namespace Rows
def none {H : Type} : Left H := { results := [], args := [] }

/- WHAT THE LISTED PACKAGE-LEVEL VARIABLES READ AS WHEN THE CALL BEGINS. Each datum BY PROGRAM (the guide's laid-datum.mjs) off the statement by which the dump's own 'gosem.cut.vars' lays the variable. In a bare row this is a premise. The card (YtlfmmhalheohdaaDoorCards.lean) ties it to the program's text. -/
def laid_sheaf_crc_fourSteps {H : Type} : DataW H := .agg [.lit (.int .u32 0), .lit (.int .u32 498536548), .lit (.int .u32 997073096), .lit (.int .u32 651767980), .lit (.int .u32 1994146192), .lit (.int .u32 1802195444), .lit (.int .u32 1303535960), .lit (.int .u32 1342533948), .lit (.int .u32 3988292384), .lit (.int .u32 4027552580), .lit (.int .u32 3604390888), .lit (.int .u32 3412177804), .lit (.int .u32 2607071920), .lit (.int .u32 2262029012), .lit (.int .u32 2685067896), .lit (.int .u32 3183342108)]

/-- 'sheaflaw11.SuperPuts': WHATEVER THE INPUT: true; the input reads as it did. -/
def superPutsSpec : ChangeSpec := { name := "superPuts", fn := fun _ => fun
  | [d1, d2] => { results := [.lit (.bool true)], args := [d1, d2] }
  | _ => none }
def superPutsRow : OpenClaim := { program := "ytlfmmhalheohdaadoor", sum := "a7f0ae972ed679321f53353d3854fdef4b2bc20c32d58a136ab1550a070ab90b", func := "sheaf/sheaflaw11.SuperPuts", spec := "superPuts", inPlace := ["internal/abi.NoEscape", "internal/bytealg.MakeNoZero"], unfollowed := true, recurses := true, named := ["sheaf/crc.fourSteps"], apart := false, laid := [("sheaf/crc.fourSteps", laid_sheaf_crc_fourSteps)] }
def SuperPutsSaid : Prop := superPutsRow.holds Tryd.pinned (OpenSpec.ofChange superPutsSpec)

/-- ITS FALSE NEIGHBOUR: 'it returns false'. Refute it at one input. -/
def superPutsWrong : ChangeSpec := { name := "superPuts", fn := fun _ => fun
  | [d1, d2] => { results := [.lit (.bool false)], args := [d1, d2] }
  | _ => none }
def SuperPutsWrongFalsely : Prop := superPutsRow.holds Tryd.pinned (OpenSpec.ofChange superPutsWrong)

/-- 'sheaflaw11.SuperGets': WHATEVER THE INPUT: true; the input reads as it did. -/
def superGetsSpec : ChangeSpec := { name := "superGets", fn := fun _ => fun
  | [d] => { results := [.lit (.bool true)], args := [d] }
  | _ => none }
def superGetsRow : OpenClaim := { program := "ytlfmmhalheohdaadoor", sum := "a7f0ae972ed679321f53353d3854fdef4b2bc20c32d58a136ab1550a070ab90b", func := "sheaf/sheaflaw11.SuperGets", spec := "superGets", inPlace := ["internal/abi.NoEscape", "internal/bytealg.MakeNoZero"], unfollowed := true, recurses := true, named := ["sheaf/crc.fourSteps"], apart := false, laid := [("sheaf/crc.fourSteps", laid_sheaf_crc_fourSteps)] }
def SuperGetsSaid : Prop := superGetsRow.holds Tryd.pinned (OpenSpec.ofChange superGetsSpec)

/-- ITS FALSE NEIGHBOUR: 'it returns false'. Refute it at one input. -/
def superGetsWrong : ChangeSpec := { name := "superGets", fn := fun _ => fun
  | [d] => { results := [.lit (.bool false)], args := [d] }
  | _ => none }
def SuperGetsWrongFalsely : Prop := superGetsRow.holds Tryd.pinned (OpenSpec.ofChange superGetsWrong)

/-- 'sheaflaw11.SuperPicks': WHATEVER THE INPUT: true; the input reads as it did. -/
def superPicksSpec : ChangeSpec := { name := "superPicks", fn := fun _ => fun
  | [d1, d2] => { results := [.lit (.bool true)], args := [d1, d2] }
  | _ => none }
def superPicksRow : OpenClaim := { program := "ytlfmmhalheohdaadoor", sum := "a7f0ae972ed679321f53353d3854fdef4b2bc20c32d58a136ab1550a070ab90b", func := "sheaf/sheaflaw11.SuperPicks", spec := "superPicks", inPlace := ["internal/abi.NoEscape", "internal/bytealg.MakeNoZero"], unfollowed := true, recurses := true, named := ["sheaf/crc.fourSteps"], apart := false, laid := [("sheaf/crc.fourSteps", laid_sheaf_crc_fourSteps)] }
def SuperPicksSaid : Prop := superPicksRow.holds Tryd.pinned (OpenSpec.ofChange superPicksSpec)

/-- ITS FALSE NEIGHBOUR: 'it returns false'. Refute it at one input. -/
def superPicksWrong : ChangeSpec := { name := "superPicks", fn := fun _ => fun
  | [d1, d2] => { results := [.lit (.bool false)], args := [d1, d2] }
  | _ => none }
def SuperPicksWrongFalsely : Prop := superPicksRow.holds Tryd.pinned (OpenSpec.ofChange superPicksWrong)

/-- 'sheaflaw11.SuperNewer': WHATEVER THE INPUT: true; the input reads as it did. -/
def superNewerSpec : ChangeSpec := { name := "superNewer", fn := fun _ => fun
  | [d1, d2, d3] => { results := [.lit (.bool true)], args := [d1, d2, d3] }
  | _ => none }
def superNewerRow : OpenClaim := { program := "ytlfmmhalheohdaadoor", sum := "a7f0ae972ed679321f53353d3854fdef4b2bc20c32d58a136ab1550a070ab90b", func := "sheaf/sheaflaw11.SuperNewer", spec := "superNewer", inPlace := ["internal/abi.NoEscape", "internal/bytealg.MakeNoZero"], unfollowed := true, recurses := true, named := ["sheaf/crc.fourSteps"], apart := false, laid := [("sheaf/crc.fourSteps", laid_sheaf_crc_fourSteps)] }
def SuperNewerSaid : Prop := superNewerRow.holds Tryd.pinned (OpenSpec.ofChange superNewerSpec)

/-- ITS FALSE NEIGHBOUR: 'it returns false'. Refute it at one input. -/
def superNewerWrong : ChangeSpec := { name := "superNewer", fn := fun _ => fun
  | [d1, d2, d3] => { results := [.lit (.bool false)], args := [d1, d2, d3] }
  | _ => none }
def SuperNewerWrongFalsely : Prop := superNewerRow.holds Tryd.pinned (OpenSpec.ofChange superNewerWrong)

/-- 'sheaflaw11.SuperNeeds': WHATEVER THE INPUT: true; the input reads as it did. -/
def superNeedsSpec : ChangeSpec := { name := "superNeeds", fn := fun _ => fun
  | [d1, d2] => { results := [.lit (.bool true)], args := [d1, d2] }
  | _ => none }
def superNeedsRow : OpenClaim := { program := "ytlfmmhalheohdaadoor", sum := "a7f0ae972ed679321f53353d3854fdef4b2bc20c32d58a136ab1550a070ab90b", func := "sheaf/sheaflaw11.SuperNeeds", spec := "superNeeds", inPlace := ["internal/abi.NoEscape", "internal/bytealg.MakeNoZero"], unfollowed := true, recurses := true, named := ["sheaf/crc.fourSteps"], apart := false, laid := [("sheaf/crc.fourSteps", laid_sheaf_crc_fourSteps)] }
def SuperNeedsSaid : Prop := superNeedsRow.holds Tryd.pinned (OpenSpec.ofChange superNeedsSpec)

/-- ITS FALSE NEIGHBOUR: 'it returns false'. Refute it at one input. -/
def superNeedsWrong : ChangeSpec := { name := "superNeeds", fn := fun _ => fun
  | [d1, d2] => { results := [.lit (.bool false)], args := [d1, d2] }
  | _ => none }
def SuperNeedsWrongFalsely : Prop := superNeedsRow.holds Tryd.pinned (OpenSpec.ofChange superNeedsWrong)

/- THE SECOND FORM. 'bulk': how many values and letters a reading holds, each counted each time it is reached (what is shared counts as often as it is met; a slice's spare places count too). A statement '..UptoSaid' is the law's where the arguments, and the package variables that the reading takes, are together of bulk at most 1048576: NARROWER than '..Said'. Prove '..Said' where nothing that the law and all that it calls make is longer than what came in: it says more and counts as full. Else prove '..UptoSaid'. A law counts once. -/
mutual
def uptoBulk {H : Type} : DataW H → Nat
  | .lit (.string bytes) => bytes.length + 1
  | .lit _ => 1
  | .nil => 1
  | .ptr d => uptoBulk d + 1
  | .slice elems spare => uptoBulkAll elems + uptoBulkAll spare + 1
  | .agg parts => uptoBulkAll parts + 1
  | .iface _ d => uptoBulk d + 1
  | .map entries => uptoBulkEntries entries + 1
  | .held _ => 1
def uptoBulkAll {H : Type} : List (DataW H) → Nat
  | [] => 0
  | d :: r => uptoBulk d + uptoBulkAll r
def uptoBulkEntries {H : Type} : List (Lit × DataW H) → Nat
  | [] => 0
  | x :: r => uptoBulkEntry x + uptoBulkEntries r
def uptoBulkEntry {H : Type} : Lit × DataW H → Nat
  | (.string bytes, d) => bytes.length + uptoBulk d + 1
  | (_, d) => uptoBulk d + 1
 end
def uptoSmall : (H : Type) → List (DataW H) → Bool := fun _ ds => decide (uptoBulkAll ds ≤ 1048576)
def OpenSpec.upto (s : _root_.Go.ChangeSpec) : _root_.Go.OpenSpec := { _root_.Go.OpenSpec.ofChange s with cond := some uptoSmall }

/-- 'sheaflaw11.SuperPuts', WHERE WHAT IT READS IS OF BULK AT MOST 1048576: true; the input reads as it did. -/
def superPutsUptoRow : OpenClaim := { program := "ytlfmmhalheohdaadoor", sum := "a7f0ae972ed679321f53353d3854fdef4b2bc20c32d58a136ab1550a070ab90b", func := "sheaf/sheaflaw11.SuperPuts", spec := "superPuts", inPlace := ["internal/abi.NoEscape", "internal/bytealg.MakeNoZero"], unfollowed := true, recurses := true, named := ["sheaf/crc.fourSteps"], apart := false, laid := [("sheaf/crc.fourSteps", laid_sheaf_crc_fourSteps)], narrowed := true }
def SuperPutsUptoSaid : Prop := superPutsUptoRow.holds Tryd.pinned (OpenSpec.upto superPutsSpec)

/-- 'sheaflaw11.SuperGets', WHERE WHAT IT READS IS OF BULK AT MOST 1048576: true; the input reads as it did. -/
def superGetsUptoRow : OpenClaim := { program := "ytlfmmhalheohdaadoor", sum := "a7f0ae972ed679321f53353d3854fdef4b2bc20c32d58a136ab1550a070ab90b", func := "sheaf/sheaflaw11.SuperGets", spec := "superGets", inPlace := ["internal/abi.NoEscape", "internal/bytealg.MakeNoZero"], unfollowed := true, recurses := true, named := ["sheaf/crc.fourSteps"], apart := false, laid := [("sheaf/crc.fourSteps", laid_sheaf_crc_fourSteps)], narrowed := true }
def SuperGetsUptoSaid : Prop := superGetsUptoRow.holds Tryd.pinned (OpenSpec.upto superGetsSpec)

/-- 'sheaflaw11.SuperPicks', WHERE WHAT IT READS IS OF BULK AT MOST 1048576: true; the input reads as it did. -/
def superPicksUptoRow : OpenClaim := { program := "ytlfmmhalheohdaadoor", sum := "a7f0ae972ed679321f53353d3854fdef4b2bc20c32d58a136ab1550a070ab90b", func := "sheaf/sheaflaw11.SuperPicks", spec := "superPicks", inPlace := ["internal/abi.NoEscape", "internal/bytealg.MakeNoZero"], unfollowed := true, recurses := true, named := ["sheaf/crc.fourSteps"], apart := false, laid := [("sheaf/crc.fourSteps", laid_sheaf_crc_fourSteps)], narrowed := true }
def SuperPicksUptoSaid : Prop := superPicksUptoRow.holds Tryd.pinned (OpenSpec.upto superPicksSpec)

/-- 'sheaflaw11.SuperNewer', WHERE WHAT IT READS IS OF BULK AT MOST 1048576: true; the input reads as it did. -/
def superNewerUptoRow : OpenClaim := { program := "ytlfmmhalheohdaadoor", sum := "a7f0ae972ed679321f53353d3854fdef4b2bc20c32d58a136ab1550a070ab90b", func := "sheaf/sheaflaw11.SuperNewer", spec := "superNewer", inPlace := ["internal/abi.NoEscape", "internal/bytealg.MakeNoZero"], unfollowed := true, recurses := true, named := ["sheaf/crc.fourSteps"], apart := false, laid := [("sheaf/crc.fourSteps", laid_sheaf_crc_fourSteps)], narrowed := true }
def SuperNewerUptoSaid : Prop := superNewerUptoRow.holds Tryd.pinned (OpenSpec.upto superNewerSpec)

/-- 'sheaflaw11.SuperNeeds', WHERE WHAT IT READS IS OF BULK AT MOST 1048576: true; the input reads as it did. -/
def superNeedsUptoRow : OpenClaim := { program := "ytlfmmhalheohdaadoor", sum := "a7f0ae972ed679321f53353d3854fdef4b2bc20c32d58a136ab1550a070ab90b", func := "sheaf/sheaflaw11.SuperNeeds", spec := "superNeeds", inPlace := ["internal/abi.NoEscape", "internal/bytealg.MakeNoZero"], unfollowed := true, recurses := true, named := ["sheaf/crc.fourSteps"], apart := false, laid := [("sheaf/crc.fourSteps", laid_sheaf_crc_fourSteps)], narrowed := true }
def SuperNeedsUptoSaid : Prop := superNeedsUptoRow.holds Tryd.pinned (OpenSpec.upto superNeedsSpec)

end Rows
end Go.Proofs.YtlfmmhalheohdaaDoor
