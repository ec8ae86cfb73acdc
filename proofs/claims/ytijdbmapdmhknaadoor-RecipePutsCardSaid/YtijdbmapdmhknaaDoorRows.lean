/-
  NARROWER THAN 'FOR EVERY INPUT', by the rows' own cells (each row's printed sentence says how): RecipePuts: laid · RecipeGets: laid · RecipeSizes: laid · RecipeFits: laid · RecipeJoins: laid.
  DERIVED. THE GIVEN ROWS OF THIS SEAT. 5 by the template 'for every input the law returns true; each argument reads behind the call as it read before'; 0 by the template 'total and deterministic' (their statements: YtijdbmapdmhknaaDoorTotals.lean).
  GIVEN WITH THE SEED: the statements are not yours to turn. If you find one false, say at which input.
  Laid BY PROGRAM, IN A SANDBOX (cutbox-rows.mjs): the forced cells as the released guide's own fill.sh prints them over the translation db497312bd7b9166… (all of the seat's roots in one cut). By AI agents, Wed Nov 11 2026. No macro, syntax, notation, axiom, sorry.
-/
import Derived.Test.YtijdbmapdmhknaaDoorChecked
import GoSem.Claim
import GoSem.ClaimJoined
import GoSem.ClaimMapViews
import Derived.JoinedTies
import Derived.KernelRfl
namespace Go.Proofs.YtijdbmapdmhknaaDoor
/- THE CELL 'sum', in the pinned program and in every row, IS THE sha256 OF THE DUMP (.gsa) THAT YtijdbmapdmhknaaDoorProg.lean LOADS. Nothing in Lean hashes anything: it is a label: what it is worth is what the hold of that sum in a sandbox is worth. -/
noncomputable def Tryd.pinned : Pinned := { name := "ytijdbmapdmhknaadoor", sum := "db497312bd7b91666985cdbe7b83f69cca3686e658ab16fb4164ec1c3289089c", checked := Tryd.checked }
namespace Rows
def none {H : Type} : Left H := { results := [], args := [] }

/- WHAT THE LISTED PACKAGE-LEVEL VARIABLES READ AS WHEN THE CALL BEGINS. Each datum BY PROGRAM (the guide's laid-datum.mjs) off the statement by which the dump's own 'gosem.cut.vars' lays the variable. In a bare row this is a premise. The card (YtijdbmapdmhknaaDoorCards.lean) ties it to the program's text. -/
def laid_sheaf_crc_fourSteps {H : Type} : DataW H := .agg [.lit (.int .u32 0), .lit (.int .u32 498536548), .lit (.int .u32 997073096), .lit (.int .u32 651767980), .lit (.int .u32 1994146192), .lit (.int .u32 1802195444), .lit (.int .u32 1303535960), .lit (.int .u32 1342533948), .lit (.int .u32 3988292384), .lit (.int .u32 4027552580), .lit (.int .u32 3604390888), .lit (.int .u32 3412177804), .lit (.int .u32 2607071920), .lit (.int .u32 2262029012), .lit (.int .u32 2685067896), .lit (.int .u32 3183342108)]

/-- 'sheaflaw16.RecipePuts': WHATEVER THE INPUT: true; the input reads as it did. -/
def recipePutsSpec : ChangeSpec := { name := "recipePuts", fn := fun _ => fun
  | [d1, d2] => { results := [.lit (.bool true)], args := [d1, d2] }
  | _ => none }
def recipePutsRow : OpenClaim := { program := "ytijdbmapdmhknaadoor", sum := "db497312bd7b91666985cdbe7b83f69cca3686e658ab16fb4164ec1c3289089c", func := "sheaf/sheaflaw16.RecipePuts", spec := "recipePuts", inPlace := ["internal/abi.NoEscape", "math.archTrunc", "math.Float64bits", "math.Float64frombits"], recurses := true, named := ["sheaf/crc.fourSteps"], apart := false, laid := [("sheaf/crc.fourSteps", laid_sheaf_crc_fourSteps)] }
def RecipePutsSaid : Prop := recipePutsRow.holds Tryd.pinned (OpenSpec.ofChange recipePutsSpec)

/-- ITS FALSE NEIGHBOUR: 'it returns false'. Refute it at one input. -/
def recipePutsWrong : ChangeSpec := { name := "recipePuts", fn := fun _ => fun
  | [d1, d2] => { results := [.lit (.bool false)], args := [d1, d2] }
  | _ => none }
def RecipePutsWrongFalsely : Prop := recipePutsRow.holds Tryd.pinned (OpenSpec.ofChange recipePutsWrong)

/-- 'sheaflaw16.RecipeGets': WHATEVER THE INPUT: true; the input reads as it did. -/
def recipeGetsSpec : ChangeSpec := { name := "recipeGets", fn := fun _ => fun
  | [d] => { results := [.lit (.bool true)], args := [d] }
  | _ => none }
def recipeGetsRow : OpenClaim := { program := "ytijdbmapdmhknaadoor", sum := "db497312bd7b91666985cdbe7b83f69cca3686e658ab16fb4164ec1c3289089c", func := "sheaf/sheaflaw16.RecipeGets", spec := "recipeGets", inPlace := ["internal/abi.NoEscape", "math.archTrunc", "math.Float64bits", "math.Float64frombits"], recurses := true, named := ["sheaf/crc.fourSteps"], apart := false, laid := [("sheaf/crc.fourSteps", laid_sheaf_crc_fourSteps)] }
def RecipeGetsSaid : Prop := recipeGetsRow.holds Tryd.pinned (OpenSpec.ofChange recipeGetsSpec)

/-- ITS FALSE NEIGHBOUR: 'it returns false'. Refute it at one input. -/
def recipeGetsWrong : ChangeSpec := { name := "recipeGets", fn := fun _ => fun
  | [d] => { results := [.lit (.bool false)], args := [d] }
  | _ => none }
def RecipeGetsWrongFalsely : Prop := recipeGetsRow.holds Tryd.pinned (OpenSpec.ofChange recipeGetsWrong)

/-- 'sheaflaw16.RecipeSizes': WHATEVER THE INPUT: true; the input reads as it did. -/
def recipeSizesSpec : ChangeSpec := { name := "recipeSizes", fn := fun _ => fun
  | [d1, d2] => { results := [.lit (.bool true)], args := [d1, d2] }
  | _ => none }
def recipeSizesRow : OpenClaim := { program := "ytijdbmapdmhknaadoor", sum := "db497312bd7b91666985cdbe7b83f69cca3686e658ab16fb4164ec1c3289089c", func := "sheaf/sheaflaw16.RecipeSizes", spec := "recipeSizes", inPlace := ["math.archTrunc", "math.Float64bits", "math.Float64frombits", "internal/abi.NoEscape"], named := ["sheaf/crc.fourSteps"], apart := false, laid := [("sheaf/crc.fourSteps", laid_sheaf_crc_fourSteps)] }
def RecipeSizesSaid : Prop := recipeSizesRow.holds Tryd.pinned (OpenSpec.ofChange recipeSizesSpec)

/-- ITS FALSE NEIGHBOUR: 'it returns false'. Refute it at one input. -/
def recipeSizesWrong : ChangeSpec := { name := "recipeSizes", fn := fun _ => fun
  | [d1, d2] => { results := [.lit (.bool false)], args := [d1, d2] }
  | _ => none }
def RecipeSizesWrongFalsely : Prop := recipeSizesRow.holds Tryd.pinned (OpenSpec.ofChange recipeSizesWrong)

/-- 'sheaflaw16.RecipeFits': WHATEVER THE INPUT: true; the input reads as it did. -/
def recipeFitsSpec : ChangeSpec := { name := "recipeFits", fn := fun _ => fun
  | [d1, d2, d3, d4] => { results := [.lit (.bool true)], args := [d1, d2, d3, d4] }
  | _ => none }
def recipeFitsRow : OpenClaim := { program := "ytijdbmapdmhknaadoor", sum := "db497312bd7b91666985cdbe7b83f69cca3686e658ab16fb4164ec1c3289089c", func := "sheaf/sheaflaw16.RecipeFits", spec := "recipeFits", inPlace := ["math.archTrunc", "math.Float64bits", "math.Float64frombits", "internal/abi.NoEscape"], named := ["sheaf/crc.fourSteps"], apart := false, laid := [("sheaf/crc.fourSteps", laid_sheaf_crc_fourSteps)] }
def RecipeFitsSaid : Prop := recipeFitsRow.holds Tryd.pinned (OpenSpec.ofChange recipeFitsSpec)

/-- ITS FALSE NEIGHBOUR: 'it returns false'. Refute it at one input. -/
def recipeFitsWrong : ChangeSpec := { name := "recipeFits", fn := fun _ => fun
  | [d1, d2, d3, d4] => { results := [.lit (.bool false)], args := [d1, d2, d3, d4] }
  | _ => none }
def RecipeFitsWrongFalsely : Prop := recipeFitsRow.holds Tryd.pinned (OpenSpec.ofChange recipeFitsWrong)

/-- 'sheaflaw16.RecipeJoins': WHATEVER THE INPUT: true; the input reads as it did. -/
def recipeJoinsSpec : ChangeSpec := { name := "recipeJoins", fn := fun _ => fun
  | [d1, d2, d3] => { results := [.lit (.bool true)], args := [d1, d2, d3] }
  | _ => none }
def recipeJoinsRow : OpenClaim := { program := "ytijdbmapdmhknaadoor", sum := "db497312bd7b91666985cdbe7b83f69cca3686e658ab16fb4164ec1c3289089c", func := "sheaf/sheaflaw16.RecipeJoins", spec := "recipeJoins", inPlace := ["math.archTrunc", "math.Float64bits", "math.Float64frombits", "internal/abi.NoEscape"], named := ["sheaf/crc.fourSteps"], apart := false, laid := [("sheaf/crc.fourSteps", laid_sheaf_crc_fourSteps)] }
def RecipeJoinsSaid : Prop := recipeJoinsRow.holds Tryd.pinned (OpenSpec.ofChange recipeJoinsSpec)

/-- ITS FALSE NEIGHBOUR: 'it returns false'. Refute it at one input. -/
def recipeJoinsWrong : ChangeSpec := { name := "recipeJoins", fn := fun _ => fun
  | [d1, d2, d3] => { results := [.lit (.bool false)], args := [d1, d2, d3] }
  | _ => none }
def RecipeJoinsWrongFalsely : Prop := recipeJoinsRow.holds Tryd.pinned (OpenSpec.ofChange recipeJoinsWrong)

/- THE SECOND FORM. 'bulk': how many values and letters a reading holds, each counted each time it is reached (what is shared counts as often as it is met; a slice's spare places count too). A statement '..UptoSaid' is the law's where the arguments, and the package variables that the reading takes, are together of bulk at most 1048576: NARROWER than '..Said'. Prove '..Said' where nothing that the law and all that it calls make is longer than what came in: it says more and counts as full. Else prove '..UptoSaid'. A law counts once. -/
mutual
def uptoBulk {H : Type} : DataW H → Nat
  | .lit (.string bytes) => bytes.length + 1
  | .lit _ => 1
  | .nil => 1
  | .ptr d => uptoBulk d + 1
  | .slice elems spare => uptoBulkAll elems + uptoBulkAll spare + 1
  | .agg parts => uptoBulkAll parts + 1
  | .iface _ d => uptoBulk d + 1
  | .map entries => uptoBulkEntries entries + 1
  | .held _ => 1
def uptoBulkAll {H : Type} : List (DataW H) → Nat
  | [] => 0
  | d :: r => uptoBulk d + uptoBulkAll r
def uptoBulkEntries {H : Type} : List (Lit × DataW H) → Nat
  | [] => 0
  | x :: r => uptoBulkEntry x + uptoBulkEntries r
def uptoBulkEntry {H : Type} : Lit × DataW H → Nat
  | (.string bytes, d) => bytes.length + uptoBulk d + 1
  | (_, d) => uptoBulk d + 1
 end
def uptoSmall : (H : Type) → List (DataW H) → Bool := fun _ ds => decide (uptoBulkAll ds ≤ 1048576)
def OpenSpec.upto (s : _root_.Go.ChangeSpec) : _root_.Go.OpenSpec := { _root_.Go.OpenSpec.ofChange s with cond := some uptoSmall }

/-- 'sheaflaw16.RecipePuts', WHERE WHAT IT READS IS OF BULK AT MOST 1048576: true; the input reads as it did. -/
def recipePutsUptoRow : OpenClaim := { program := "ytijdbmapdmhknaadoor", sum := "db497312bd7b91666985cdbe7b83f69cca3686e658ab16fb4164ec1c3289089c", func := "sheaf/sheaflaw16.RecipePuts", spec := "recipePuts", inPlace := ["internal/abi.NoEscape", "math.archTrunc", "math.Float64bits", "math.Float64frombits"], recurses := true, named := ["sheaf/crc.fourSteps"], apart := false, laid := [("sheaf/crc.fourSteps", laid_sheaf_crc_fourSteps)], narrowed := true }
def RecipePutsUptoSaid : Prop := recipePutsUptoRow.holds Tryd.pinned (OpenSpec.upto recipePutsSpec)

/-- 'sheaflaw16.RecipeGets', WHERE WHAT IT READS IS OF BULK AT MOST 1048576: true; the input reads as it did. -/
def recipeGetsUptoRow : OpenClaim := { program := "ytijdbmapdmhknaadoor", sum := "db497312bd7b91666985cdbe7b83f69cca3686e658ab16fb4164ec1c3289089c", func := "sheaf/sheaflaw16.RecipeGets", spec := "recipeGets", inPlace := ["internal/abi.NoEscape", "math.archTrunc", "math.Float64bits", "math.Float64frombits"], recurses := true, named := ["sheaf/crc.fourSteps"], apart := false, laid := [("sheaf/crc.fourSteps", laid_sheaf_crc_fourSteps)], narrowed := true }
def RecipeGetsUptoSaid : Prop := recipeGetsUptoRow.holds Tryd.pinned (OpenSpec.upto recipeGetsSpec)

/-- 'sheaflaw16.RecipeSizes', WHERE WHAT IT READS IS OF BULK AT MOST 1048576: true; the input reads as it did. -/
def recipeSizesUptoRow : OpenClaim := { program := "ytijdbmapdmhknaadoor", sum := "db497312bd7b91666985cdbe7b83f69cca3686e658ab16fb4164ec1c3289089c", func := "sheaf/sheaflaw16.RecipeSizes", spec := "recipeSizes", inPlace := ["math.archTrunc", "math.Float64bits", "math.Float64frombits", "internal/abi.NoEscape"], named := ["sheaf/crc.fourSteps"], apart := false, laid := [("sheaf/crc.fourSteps", laid_sheaf_crc_fourSteps)], narrowed := true }
def RecipeSizesUptoSaid : Prop := recipeSizesUptoRow.holds Tryd.pinned (OpenSpec.upto recipeSizesSpec)

/-- 'sheaflaw16.RecipeFits', WHERE WHAT IT READS IS OF BULK AT MOST 1048576: true; the input reads as it did. -/
def recipeFitsUptoRow : OpenClaim := { program := "ytijdbmapdmhknaadoor", sum := "db497312bd7b91666985cdbe7b83f69cca3686e658ab16fb4164ec1c3289089c", func := "sheaf/sheaflaw16.RecipeFits", spec := "recipeFits", inPlace := ["math.archTrunc", "math.Float64bits", "math.Float64frombits", "internal/abi.NoEscape"], named := ["sheaf/crc.fourSteps"], apart := false, laid := [("sheaf/crc.fourSteps", laid_sheaf_crc_fourSteps)], narrowed := true }
def RecipeFitsUptoSaid : Prop := recipeFitsUptoRow.holds Tryd.pinned (OpenSpec.upto recipeFitsSpec)

/-- 'sheaflaw16.RecipeJoins', WHERE WHAT IT READS IS OF BULK AT MOST 1048576: true; the input reads as it did. -/
def recipeJoinsUptoRow : OpenClaim := { program := "ytijdbmapdmhknaadoor", sum := "db497312bd7b91666985cdbe7b83f69cca3686e658ab16fb4164ec1c3289089c", func := "sheaf/sheaflaw16.RecipeJoins", spec := "recipeJoins", inPlace := ["math.archTrunc", "math.Float64bits", "math.Float64frombits", "internal/abi.NoEscape"], named := ["sheaf/crc.fourSteps"], apart := false, laid := [("sheaf/crc.fourSteps", laid_sheaf_crc_fourSteps)], narrowed := true }
def RecipeJoinsUptoSaid : Prop := recipeJoinsUptoRow.holds Tryd.pinned (OpenSpec.upto recipeJoinsSpec)

end Rows
end Go.Proofs.YtijdbmapdmhknaaDoor
