/-
  DERIVED. GIVEN WITH THE SEED: THE CARDS: each row of YtdmbebafpamgfaaDoorRows.lean that lists a variable, with what it lists TIED to the program's text (the seventh form; the later family's looks); each row that meets fmt, with fmt's text TOLD by the authors' own Lean function (tested against real Go, not proved from fmt's source: count such statements apart). THE CARD IS WHAT COUNTS. Prove the row's statement (the work); the ties are given (YtdmbebafpamgfaaDoorTie.lean); close each card by the builder's one call (the guide's Derived/Test/ToyasCard.lean, 'card_holds'). Laid BY PROGRAM, IN A SANDBOX (cutbox-door.mjs). By AI agents, Wed Nov 11 2026. No macro, syntax, notation, axiom, sorry.
-/
import Derived.Test.YtdmbebafpamgfaaDoorRows
import GoSem.ClaimSeven
namespace Go.Proofs.YtdmbebafpamgfaaDoor
namespace Rows

/-- THE TIED CARD OF 'sheaflaw14.BoxBuilds'. -/
def boxBuildsCard : Claim7 := { stood := { row := boxBuildsRow, standIns := [], harness := (true, "3c1620d96e0403c5e740c7e072ca229274b1222fe64165a8938a5139076708fd"), looks := false }, kinds := [], alts := [], laidByText := true, laidKinds := [.data], laidTests := true, laidLooks := .later }
def BoxBuildsCardSaid : Prop := Claim7.holds Tryd.pinned (.plain (OpenSpec.ofChange boxBuildsSpec)) boxBuildsCard

/-- THE TIED CARD OF 'sheaflaw14.BoxHeads'. -/
def boxHeadsCard : Claim7 := { stood := { row := boxHeadsRow, standIns := [], harness := (true, "3c1620d96e0403c5e740c7e072ca229274b1222fe64165a8938a5139076708fd"), looks := false }, kinds := [], alts := [], laidByText := true, laidKinds := [.data], laidTests := true, laidLooks := .later }
def BoxHeadsCardSaid : Prop := Claim7.holds Tryd.pinned (.plain (OpenSpec.ofChange boxHeadsSpec)) boxHeadsCard

/-- THE TIED CARD OF 'sheaflaw14.BoxOnce'. -/
def boxOnceCard : Claim7 := { stood := { row := boxOnceRow, standIns := [], harness := (true, "3c1620d96e0403c5e740c7e072ca229274b1222fe64165a8938a5139076708fd"), looks := false }, kinds := [], alts := [], laidByText := true, laidKinds := [.data], laidTests := true, laidLooks := .later }
def BoxOnceCardSaid : Prop := Claim7.holds Tryd.pinned (.plain (OpenSpec.ofChange boxOnceSpec)) boxOnceCard

/-- THE TIED CARD OF 'sheaflaw14.BoxBuilders'. -/
def boxBuildersCard : Claim7 := { stood := { row := boxBuildersRow, standIns := [], harness := (true, "3c1620d96e0403c5e740c7e072ca229274b1222fe64165a8938a5139076708fd"), looks := false }, kinds := [], alts := [], laidByText := true, laidKinds := [.data], laidTests := true, laidLooks := .later }
def BoxBuildersCardSaid : Prop := Claim7.holds Tryd.pinned (.plain (OpenSpec.ofChange boxBuildersSpec)) boxBuildersCard

/-- THE TIED CARD OF 'sheaflaw14.BoxBursts'. -/
def boxBurstsCard : Claim7 := { stood := { row := boxBurstsRow, standIns := [], harness := (true, "3c1620d96e0403c5e740c7e072ca229274b1222fe64165a8938a5139076708fd"), looks := false }, kinds := [], alts := [], laidByText := true, laidKinds := [.data], laidTests := true, laidLooks := .later }
def BoxBurstsCardSaid : Prop := Claim7.holds Tryd.pinned (.plain (OpenSpec.ofChange boxBurstsSpec)) boxBurstsCard

/-- THE TIED CARD OF 'sheaflaw14.BoxNobody'. -/
def boxNobodyCard : Claim7 := { stood := { row := boxNobodyRow, standIns := [], harness := (true, "3c1620d96e0403c5e740c7e072ca229274b1222fe64165a8938a5139076708fd"), looks := false }, kinds := [], alts := [], laidByText := true, laidKinds := [.data], laidTests := true, laidLooks := .later }
def BoxNobodyCardSaid : Prop := Claim7.holds Tryd.pinned (.plain (OpenSpec.ofChange boxNobodySpec)) boxNobodyCard

/-- THE SECOND FORM's CARD OF 'sheaflaw14.BoxBuilds'. -/
def boxBuildsUptoCard : Claim7 := { stood := { row := boxBuildsUptoRow, standIns := [], harness := (true, "3c1620d96e0403c5e740c7e072ca229274b1222fe64165a8938a5139076708fd"), looks := false }, kinds := [], alts := [], laidByText := true, laidKinds := [.data], laidTests := true, laidLooks := .later }
def BoxBuildsUptoCardSaid : Prop := Claim7.holds Tryd.pinned (.plain (OpenSpec.upto boxBuildsSpec)) boxBuildsUptoCard

/-- THE SECOND FORM's CARD OF 'sheaflaw14.BoxHeads'. -/
def boxHeadsUptoCard : Claim7 := { stood := { row := boxHeadsUptoRow, standIns := [], harness := (true, "3c1620d96e0403c5e740c7e072ca229274b1222fe64165a8938a5139076708fd"), looks := false }, kinds := [], alts := [], laidByText := true, laidKinds := [.data], laidTests := true, laidLooks := .later }
def BoxHeadsUptoCardSaid : Prop := Claim7.holds Tryd.pinned (.plain (OpenSpec.upto boxHeadsSpec)) boxHeadsUptoCard

/-- THE SECOND FORM's CARD OF 'sheaflaw14.BoxOnce'. -/
def boxOnceUptoCard : Claim7 := { stood := { row := boxOnceUptoRow, standIns := [], harness := (true, "3c1620d96e0403c5e740c7e072ca229274b1222fe64165a8938a5139076708fd"), looks := false }, kinds := [], alts := [], laidByText := true, laidKinds := [.data], laidTests := true, laidLooks := .later }
def BoxOnceUptoCardSaid : Prop := Claim7.holds Tryd.pinned (.plain (OpenSpec.upto boxOnceSpec)) boxOnceUptoCard

/-- THE SECOND FORM's CARD OF 'sheaflaw14.BoxBuilders'. -/
def boxBuildersUptoCard : Claim7 := { stood := { row := boxBuildersUptoRow, standIns := [], harness := (true, "3c1620d96e0403c5e740c7e072ca229274b1222fe64165a8938a5139076708fd"), looks := false }, kinds := [], alts := [], laidByText := true, laidKinds := [.data], laidTests := true, laidLooks := .later }
def BoxBuildersUptoCardSaid : Prop := Claim7.holds Tryd.pinned (.plain (OpenSpec.upto boxBuildersSpec)) boxBuildersUptoCard

/-- THE SECOND FORM's CARD OF 'sheaflaw14.BoxBursts'. -/
def boxBurstsUptoCard : Claim7 := { stood := { row := boxBurstsUptoRow, standIns := [], harness := (true, "3c1620d96e0403c5e740c7e072ca229274b1222fe64165a8938a5139076708fd"), looks := false }, kinds := [], alts := [], laidByText := true, laidKinds := [.data], laidTests := true, laidLooks := .later }
def BoxBurstsUptoCardSaid : Prop := Claim7.holds Tryd.pinned (.plain (OpenSpec.upto boxBurstsSpec)) boxBurstsUptoCard

/-- THE SECOND FORM's CARD OF 'sheaflaw14.BoxNobody'. -/
def boxNobodyUptoCard : Claim7 := { stood := { row := boxNobodyUptoRow, standIns := [], harness := (true, "3c1620d96e0403c5e740c7e072ca229274b1222fe64165a8938a5139076708fd"), looks := false }, kinds := [], alts := [], laidByText := true, laidKinds := [.data], laidTests := true, laidLooks := .later }
def BoxNobodyUptoCardSaid : Prop := Claim7.holds Tryd.pinned (.plain (OpenSpec.upto boxNobodySpec)) boxNobodyUptoCard
end Rows
end Go.Proofs.YtdmbebafpamgfaaDoor
