/-
  DERIVED. GIVEN WITH THE SEED: THE CARDS: each row of YtopdgjfgdodgeaaDoorRows.lean that lists a variable, with what it lists TIED to the program's text (the seventh form; the later family's looks); each row that meets fmt, with fmt's text TOLD by the authors' own Lean function (tested against real Go, not proved from fmt's source: count such statements apart). THE CARD IS WHAT COUNTS. Prove the row's statement (the work); the ties are given (YtopdgjfgdodgeaaDoorTie.lean); close each card by the builder's one call (the guide's Derived/Test/ToyasCard.lean, 'card_holds'). Laid BY PROGRAM, IN A SANDBOX (cutbox-door.mjs). By AI agents, Wed Nov 11 2026. No macro, syntax, notation, axiom, sorry.
-/
import Derived.Test.YtopdgjfgdodgeaaDoorRows
import GoSem.ClaimSeven
namespace Go.Proofs.YtopdgjfgdodgeaaDoor
namespace Rows

/-- THE TIED CARD OF 'sheaflaw05.RollSums'. -/
def rollSumsCard : Claim7 := { stood := { row := rollSumsRow, standIns := [], harness := (true, "35d818dda11fec0759369fc6d52a52a0e20043f8b16f86b0427c36542223891f"), looks := false }, kinds := [], alts := [], laidByText := true, laidKinds := [.data], laidTests := true, laidLooks := .later }
def RollSumsCardSaid : Prop := Claim7.holds Tryd.pinned (.plain (OpenSpec.ofChange rollSumsSpec)) rollSumsCard

/-- THE TIED CARD OF 'sheaflaw05.RollSlides'. -/
def rollSlidesCard : Claim7 := { stood := { row := rollSlidesRow, standIns := [], harness := (true, "35d818dda11fec0759369fc6d52a52a0e20043f8b16f86b0427c36542223891f"), looks := false }, kinds := [], alts := [], laidByText := true, laidKinds := [.data], laidTests := true, laidLooks := .later }
def RollSlidesCardSaid : Prop := Claim7.holds Tryd.pinned (.plain (OpenSpec.ofChange rollSlidesSpec)) rollSlidesCard

/-- THE TIED CARD OF 'sheaflaw05.RollPlaces'. -/
def rollPlacesCard : Claim7 := { stood := { row := rollPlacesRow, standIns := [], harness := (true, "35d818dda11fec0759369fc6d52a52a0e20043f8b16f86b0427c36542223891f"), looks := false }, kinds := [], alts := [], laidByText := true, laidKinds := [.data], laidTests := true, laidLooks := .later }
def RollPlacesCardSaid : Prop := Claim7.holds Tryd.pinned (.plain (OpenSpec.ofChange rollPlacesSpec)) rollPlacesCard

/-- THE TIED CARD OF 'sheaflaw05.RollPushes'. -/
def rollPushesCard : Claim7 := { stood := { row := rollPushesRow, standIns := [], harness := (true, "35d818dda11fec0759369fc6d52a52a0e20043f8b16f86b0427c36542223891f"), looks := false }, kinds := [], alts := [], laidByText := true, laidKinds := [.data], laidTests := true, laidLooks := .later }
def RollPushesCardSaid : Prop := Claim7.holds Tryd.pinned (.plain (OpenSpec.ofChange rollPushesSpec)) rollPushesCard

/-- THE TIED CARD OF 'sheaflaw05.RollForgets'. -/
def rollForgetsCard : Claim7 := { stood := { row := rollForgetsRow, standIns := [], harness := (true, "35d818dda11fec0759369fc6d52a52a0e20043f8b16f86b0427c36542223891f"), looks := false }, kinds := [], alts := [], laidByText := true, laidKinds := [.data], laidTests := true, laidLooks := .later }
def RollForgetsCardSaid : Prop := Claim7.holds Tryd.pinned (.plain (OpenSpec.ofChange rollForgetsSpec)) rollForgetsCard

/-- THE SECOND FORM's CARD OF 'sheaflaw05.RollSums'. -/
def rollSumsUptoCard : Claim7 := { stood := { row := rollSumsUptoRow, standIns := [], harness := (true, "35d818dda11fec0759369fc6d52a52a0e20043f8b16f86b0427c36542223891f"), looks := false }, kinds := [], alts := [], laidByText := true, laidKinds := [.data], laidTests := true, laidLooks := .later }
def RollSumsUptoCardSaid : Prop := Claim7.holds Tryd.pinned (.plain (OpenSpec.upto rollSumsSpec)) rollSumsUptoCard

/-- THE SECOND FORM's CARD OF 'sheaflaw05.RollSlides'. -/
def rollSlidesUptoCard : Claim7 := { stood := { row := rollSlidesUptoRow, standIns := [], harness := (true, "35d818dda11fec0759369fc6d52a52a0e20043f8b16f86b0427c36542223891f"), looks := false }, kinds := [], alts := [], laidByText := true, laidKinds := [.data], laidTests := true, laidLooks := .later }
def RollSlidesUptoCardSaid : Prop := Claim7.holds Tryd.pinned (.plain (OpenSpec.upto rollSlidesSpec)) rollSlidesUptoCard

/-- THE SECOND FORM's CARD OF 'sheaflaw05.RollPlaces'. -/
def rollPlacesUptoCard : Claim7 := { stood := { row := rollPlacesUptoRow, standIns := [], harness := (true, "35d818dda11fec0759369fc6d52a52a0e20043f8b16f86b0427c36542223891f"), looks := false }, kinds := [], alts := [], laidByText := true, laidKinds := [.data], laidTests := true, laidLooks := .later }
def RollPlacesUptoCardSaid : Prop := Claim7.holds Tryd.pinned (.plain (OpenSpec.upto rollPlacesSpec)) rollPlacesUptoCard

/-- THE SECOND FORM's CARD OF 'sheaflaw05.RollPushes'. -/
def rollPushesUptoCard : Claim7 := { stood := { row := rollPushesUptoRow, standIns := [], harness := (true, "35d818dda11fec0759369fc6d52a52a0e20043f8b16f86b0427c36542223891f"), looks := false }, kinds := [], alts := [], laidByText := true, laidKinds := [.data], laidTests := true, laidLooks := .later }
def RollPushesUptoCardSaid : Prop := Claim7.holds Tryd.pinned (.plain (OpenSpec.upto rollPushesSpec)) rollPushesUptoCard

/-- THE SECOND FORM's CARD OF 'sheaflaw05.RollForgets'. -/
def rollForgetsUptoCard : Claim7 := { stood := { row := rollForgetsUptoRow, standIns := [], harness := (true, "35d818dda11fec0759369fc6d52a52a0e20043f8b16f86b0427c36542223891f"), looks := false }, kinds := [], alts := [], laidByText := true, laidKinds := [.data], laidTests := true, laidLooks := .later }
def RollForgetsUptoCardSaid : Prop := Claim7.holds Tryd.pinned (.plain (OpenSpec.upto rollForgetsSpec)) rollForgetsUptoCard
end Rows
end Go.Proofs.YtopdgjfgdodgeaaDoor
