/-
  DERIVED. GIVEN WITH THE SEED: THE CARDS: each row of YtijdbmapdmhknaaDoorRows.lean that lists a variable, with what it lists TIED to the program's text (the seventh form; the later family's looks); each row that meets fmt, with fmt's text TOLD by the authors' own Lean function (tested against real Go, not proved from fmt's source: count such statements apart). THE CARD IS WHAT COUNTS. Prove the row's statement (the work); the ties are given (YtijdbmapdmhknaaDoorTie.lean); close each card by the builder's one call (the guide's Derived/Test/ToyasCard.lean, 'card_holds'). Laid BY PROGRAM, IN A SANDBOX (cutbox-door.mjs). By AI agents, Wed Nov 11 2026. No macro, syntax, notation, axiom, sorry.
-/
import Derived.Test.YtijdbmapdmhknaaDoorRows
import GoSem.ClaimSeven
namespace Go.Proofs.YtijdbmapdmhknaaDoor
namespace Rows

/-- THE TIED CARD OF 'sheaflaw16.RecipePuts'. -/
def recipePutsCard : Claim7 := { stood := { row := recipePutsRow, standIns := [], harness := (true, "5becec29d0dd8c179f41a0a2aa79c17b1c41083f474cbcda1dd6770c73dea755"), looks := false }, kinds := [], alts := [], laidByText := true, laidKinds := [.data], laidTests := true, laidLooks := .later }
def RecipePutsCardSaid : Prop := Claim7.holds Tryd.pinned (.plain (OpenSpec.ofChange recipePutsSpec)) recipePutsCard

/-- THE TIED CARD OF 'sheaflaw16.RecipeGets'. -/
def recipeGetsCard : Claim7 := { stood := { row := recipeGetsRow, standIns := [], harness := (true, "5becec29d0dd8c179f41a0a2aa79c17b1c41083f474cbcda1dd6770c73dea755"), looks := false }, kinds := [], alts := [], laidByText := true, laidKinds := [.data], laidTests := true, laidLooks := .later }
def RecipeGetsCardSaid : Prop := Claim7.holds Tryd.pinned (.plain (OpenSpec.ofChange recipeGetsSpec)) recipeGetsCard

/-- THE TIED CARD OF 'sheaflaw16.RecipeSizes'. -/
def recipeSizesCard : Claim7 := { stood := { row := recipeSizesRow, standIns := [], harness := (true, "5becec29d0dd8c179f41a0a2aa79c17b1c41083f474cbcda1dd6770c73dea755"), looks := false }, kinds := [], alts := [], laidByText := true, laidKinds := [.data], laidTests := true, laidLooks := .later }
def RecipeSizesCardSaid : Prop := Claim7.holds Tryd.pinned (.plain (OpenSpec.ofChange recipeSizesSpec)) recipeSizesCard

/-- THE TIED CARD OF 'sheaflaw16.RecipeFits'. -/
def recipeFitsCard : Claim7 := { stood := { row := recipeFitsRow, standIns := [], harness := (true, "5becec29d0dd8c179f41a0a2aa79c17b1c41083f474cbcda1dd6770c73dea755"), looks := false }, kinds := [], alts := [], laidByText := true, laidKinds := [.data], laidTests := true, laidLooks := .later }
def RecipeFitsCardSaid : Prop := Claim7.holds Tryd.pinned (.plain (OpenSpec.ofChange recipeFitsSpec)) recipeFitsCard

/-- THE TIED CARD OF 'sheaflaw16.RecipeJoins'. -/
def recipeJoinsCard : Claim7 := { stood := { row := recipeJoinsRow, standIns := [], harness := (true, "5becec29d0dd8c179f41a0a2aa79c17b1c41083f474cbcda1dd6770c73dea755"), looks := false }, kinds := [], alts := [], laidByText := true, laidKinds := [.data], laidTests := true, laidLooks := .later }
def RecipeJoinsCardSaid : Prop := Claim7.holds Tryd.pinned (.plain (OpenSpec.ofChange recipeJoinsSpec)) recipeJoinsCard

/-- THE SECOND FORM's CARD OF 'sheaflaw16.RecipePuts'. -/
def recipePutsUptoCard : Claim7 := { stood := { row := recipePutsUptoRow, standIns := [], harness := (true, "5becec29d0dd8c179f41a0a2aa79c17b1c41083f474cbcda1dd6770c73dea755"), looks := false }, kinds := [], alts := [], laidByText := true, laidKinds := [.data], laidTests := true, laidLooks := .later }
def RecipePutsUptoCardSaid : Prop := Claim7.holds Tryd.pinned (.plain (OpenSpec.upto recipePutsSpec)) recipePutsUptoCard

/-- THE SECOND FORM's CARD OF 'sheaflaw16.RecipeGets'. -/
def recipeGetsUptoCard : Claim7 := { stood := { row := recipeGetsUptoRow, standIns := [], harness := (true, "5becec29d0dd8c179f41a0a2aa79c17b1c41083f474cbcda1dd6770c73dea755"), looks := false }, kinds := [], alts := [], laidByText := true, laidKinds := [.data], laidTests := true, laidLooks := .later }
def RecipeGetsUptoCardSaid : Prop := Claim7.holds Tryd.pinned (.plain (OpenSpec.upto recipeGetsSpec)) recipeGetsUptoCard

/-- THE SECOND FORM's CARD OF 'sheaflaw16.RecipeSizes'. -/
def recipeSizesUptoCard : Claim7 := { stood := { row := recipeSizesUptoRow, standIns := [], harness := (true, "5becec29d0dd8c179f41a0a2aa79c17b1c41083f474cbcda1dd6770c73dea755"), looks := false }, kinds := [], alts := [], laidByText := true, laidKinds := [.data], laidTests := true, laidLooks := .later }
def RecipeSizesUptoCardSaid : Prop := Claim7.holds Tryd.pinned (.plain (OpenSpec.upto recipeSizesSpec)) recipeSizesUptoCard

/-- THE SECOND FORM's CARD OF 'sheaflaw16.RecipeFits'. -/
def recipeFitsUptoCard : Claim7 := { stood := { row := recipeFitsUptoRow, standIns := [], harness := (true, "5becec29d0dd8c179f41a0a2aa79c17b1c41083f474cbcda1dd6770c73dea755"), looks := false }, kinds := [], alts := [], laidByText := true, laidKinds := [.data], laidTests := true, laidLooks := .later }
def RecipeFitsUptoCardSaid : Prop := Claim7.holds Tryd.pinned (.plain (OpenSpec.upto recipeFitsSpec)) recipeFitsUptoCard

/-- THE SECOND FORM's CARD OF 'sheaflaw16.RecipeJoins'. -/
def recipeJoinsUptoCard : Claim7 := { stood := { row := recipeJoinsUptoRow, standIns := [], harness := (true, "5becec29d0dd8c179f41a0a2aa79c17b1c41083f474cbcda1dd6770c73dea755"), looks := false }, kinds := [], alts := [], laidByText := true, laidKinds := [.data], laidTests := true, laidLooks := .later }
def RecipeJoinsUptoCardSaid : Prop := Claim7.holds Tryd.pinned (.plain (OpenSpec.upto recipeJoinsSpec)) recipeJoinsUptoCard
end Rows
end Go.Proofs.YtijdbmapdmhknaaDoor
