/-
  DERIVED. GIVEN WITH THE SEED: THE CARDS: each row of YtlfmmhalheohdaaDoorRows.lean that lists a variable, with what it lists TIED to the program's text (the seventh form; the later family's looks); each row that meets fmt, with fmt's text TOLD by the authors' own Lean function (tested against real Go, not proved from fmt's source: count such statements apart). THE CARD IS WHAT COUNTS. Prove the row's statement (the work); the ties are given (YtlfmmhalheohdaaDoorTie.lean); close each card by the builder's one call (the guide's Derived/Test/ToyasCard.lean, 'card_holds'). Laid BY PROGRAM, IN A SANDBOX (cutbox-door.mjs). By AI agents, Wed Nov 11 2026. No macro, syntax, notation, axiom, sorry.
-/
import Derived.Test.YtlfmmhalheohdaaDoorRows
import GoSem.ClaimSeven
namespace Go.Proofs.YtlfmmhalheohdaaDoor
namespace Rows

/-- THE TIED CARD OF 'sheaflaw11.SuperPuts'. -/
def superPutsCard : Claim7 := { stood := { row := superPutsRow, standIns := [], harness := (true, "4e1621daf17c5d9e89f5f5126052614c37254791fb57787ec908abeb6a58a8c8"), looks := false }, kinds := [], alts := [], laidByText := true, laidKinds := [.data], laidTests := true, laidLooks := .later }
def SuperPutsCardSaid : Prop := Claim7.holds Tryd.pinned (.plain (OpenSpec.ofChange superPutsSpec)) superPutsCard

/-- THE TIED CARD OF 'sheaflaw11.SuperGets'. -/
def superGetsCard : Claim7 := { stood := { row := superGetsRow, standIns := [], harness := (true, "4e1621daf17c5d9e89f5f5126052614c37254791fb57787ec908abeb6a58a8c8"), looks := false }, kinds := [], alts := [], laidByText := true, laidKinds := [.data], laidTests := true, laidLooks := .later }
def SuperGetsCardSaid : Prop := Claim7.holds Tryd.pinned (.plain (OpenSpec.ofChange superGetsSpec)) superGetsCard

/-- THE TIED CARD OF 'sheaflaw11.SuperPicks'. -/
def superPicksCard : Claim7 := { stood := { row := superPicksRow, standIns := [], harness := (true, "4e1621daf17c5d9e89f5f5126052614c37254791fb57787ec908abeb6a58a8c8"), looks := false }, kinds := [], alts := [], laidByText := true, laidKinds := [.data], laidTests := true, laidLooks := .later }
def SuperPicksCardSaid : Prop := Claim7.holds Tryd.pinned (.plain (OpenSpec.ofChange superPicksSpec)) superPicksCard

/-- THE TIED CARD OF 'sheaflaw11.SuperNewer'. -/
def superNewerCard : Claim7 := { stood := { row := superNewerRow, standIns := [], harness := (true, "4e1621daf17c5d9e89f5f5126052614c37254791fb57787ec908abeb6a58a8c8"), looks := false }, kinds := [], alts := [], laidByText := true, laidKinds := [.data], laidTests := true, laidLooks := .later }
def SuperNewerCardSaid : Prop := Claim7.holds Tryd.pinned (.plain (OpenSpec.ofChange superNewerSpec)) superNewerCard

/-- THE TIED CARD OF 'sheaflaw11.SuperNeeds'. -/
def superNeedsCard : Claim7 := { stood := { row := superNeedsRow, standIns := [], harness := (true, "4e1621daf17c5d9e89f5f5126052614c37254791fb57787ec908abeb6a58a8c8"), looks := false }, kinds := [], alts := [], laidByText := true, laidKinds := [.data], laidTests := true, laidLooks := .later }
def SuperNeedsCardSaid : Prop := Claim7.holds Tryd.pinned (.plain (OpenSpec.ofChange superNeedsSpec)) superNeedsCard

/-- THE SECOND FORM's CARD OF 'sheaflaw11.SuperPuts'. -/
def superPutsUptoCard : Claim7 := { stood := { row := superPutsUptoRow, standIns := [], harness := (true, "4e1621daf17c5d9e89f5f5126052614c37254791fb57787ec908abeb6a58a8c8"), looks := false }, kinds := [], alts := [], laidByText := true, laidKinds := [.data], laidTests := true, laidLooks := .later }
def SuperPutsUptoCardSaid : Prop := Claim7.holds Tryd.pinned (.plain (OpenSpec.upto superPutsSpec)) superPutsUptoCard

/-- THE SECOND FORM's CARD OF 'sheaflaw11.SuperGets'. -/
def superGetsUptoCard : Claim7 := { stood := { row := superGetsUptoRow, standIns := [], harness := (true, "4e1621daf17c5d9e89f5f5126052614c37254791fb57787ec908abeb6a58a8c8"), looks := false }, kinds := [], alts := [], laidByText := true, laidKinds := [.data], laidTests := true, laidLooks := .later }
def SuperGetsUptoCardSaid : Prop := Claim7.holds Tryd.pinned (.plain (OpenSpec.upto superGetsSpec)) superGetsUptoCard

/-- THE SECOND FORM's CARD OF 'sheaflaw11.SuperPicks'. -/
def superPicksUptoCard : Claim7 := { stood := { row := superPicksUptoRow, standIns := [], harness := (true, "4e1621daf17c5d9e89f5f5126052614c37254791fb57787ec908abeb6a58a8c8"), looks := false }, kinds := [], alts := [], laidByText := true, laidKinds := [.data], laidTests := true, laidLooks := .later }
def SuperPicksUptoCardSaid : Prop := Claim7.holds Tryd.pinned (.plain (OpenSpec.upto superPicksSpec)) superPicksUptoCard

/-- THE SECOND FORM's CARD OF 'sheaflaw11.SuperNewer'. -/
def superNewerUptoCard : Claim7 := { stood := { row := superNewerUptoRow, standIns := [], harness := (true, "4e1621daf17c5d9e89f5f5126052614c37254791fb57787ec908abeb6a58a8c8"), looks := false }, kinds := [], alts := [], laidByText := true, laidKinds := [.data], laidTests := true, laidLooks := .later }
def SuperNewerUptoCardSaid : Prop := Claim7.holds Tryd.pinned (.plain (OpenSpec.upto superNewerSpec)) superNewerUptoCard

/-- THE SECOND FORM's CARD OF 'sheaflaw11.SuperNeeds'. -/
def superNeedsUptoCard : Claim7 := { stood := { row := superNeedsUptoRow, standIns := [], harness := (true, "4e1621daf17c5d9e89f5f5126052614c37254791fb57787ec908abeb6a58a8c8"), looks := false }, kinds := [], alts := [], laidByText := true, laidKinds := [.data], laidTests := true, laidLooks := .later }
def SuperNeedsUptoCardSaid : Prop := Claim7.holds Tryd.pinned (.plain (OpenSpec.upto superNeedsSpec)) superNeedsUptoCard
end Rows
end Go.Proofs.YtlfmmhalheohdaaDoor
