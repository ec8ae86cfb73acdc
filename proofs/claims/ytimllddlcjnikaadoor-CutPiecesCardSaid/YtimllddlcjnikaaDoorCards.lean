/-
  DERIVED. GIVEN WITH THE SEED: THE CARDS: each row of YtimllddlcjnikaaDoorRows.lean that lists a variable, with what it lists TIED to the program's text (the seventh form; the later family's looks); each row that meets fmt, with fmt's text TOLD by the authors' own Lean function (tested against real Go, not proved from fmt's source: count such statements apart). THE CARD IS WHAT COUNTS. Prove the row's statement (the work); the ties are given (YtimllddlcjnikaaDoorTie.lean); close each card by the builder's one call (the guide's Derived/Test/ToyasCard.lean, 'card_holds'). Laid BY PROGRAM, IN A SANDBOX (cutbox-door.mjs). By AI agents, Wed Nov 11 2026. No macro, syntax, notation, axiom, sorry.
-/
import Derived.Test.YtimllddlcjnikaaDoorRows
import GoSem.ClaimSeven
namespace Go.Proofs.YtimllddlcjnikaaDoor
namespace Rows

/-- THE TIED CARD OF 'sheaflaw06.CutFirst'. -/
def cutFirstCard : Claim7 := { stood := { row := cutFirstRow, standIns := [], harness := (true, "3c0c99e93db32f51cab728760ee3bf5140e22eb3cd12f552bd76ecfcd04910e9"), looks := false }, kinds := [], alts := [], laidByText := true, laidKinds := [.data], laidTests := true, laidLooks := .later }
def CutFirstCardSaid : Prop := Claim7.holds Tryd.pinned (.plain (OpenSpec.ofChange cutFirstSpec)) cutFirstCard

/-- THE TIED CARD OF 'sheaflaw06.CutAll'. -/
def cutAllCard : Claim7 := { stood := { row := cutAllRow, standIns := [], harness := (true, "3c0c99e93db32f51cab728760ee3bf5140e22eb3cd12f552bd76ecfcd04910e9"), looks := false }, kinds := [], alts := [], laidByText := true, laidKinds := [.data], laidTests := true, laidLooks := .later }
def CutAllCardSaid : Prop := Claim7.holds Tryd.pinned (.plain (OpenSpec.ofChange cutAllSpec)) cutAllCard

/-- THE TIED CARD OF 'sheaflaw06.CutPieces'. -/
def cutPiecesCard : Claim7 := { stood := { row := cutPiecesRow, standIns := [], harness := (true, "3c0c99e93db32f51cab728760ee3bf5140e22eb3cd12f552bd76ecfcd04910e9"), looks := false }, kinds := [], alts := [], laidByText := true, laidKinds := [.data], laidTests := true, laidLooks := .later }
def CutPiecesCardSaid : Prop := Claim7.holds Tryd.pinned (.plain (OpenSpec.ofChange cutPiecesSpec)) cutPiecesCard

/-- THE TIED CARD OF 'sheaflaw06.CutBehind'. -/
def cutBehindCard : Claim7 := { stood := { row := cutBehindRow, standIns := [], harness := (true, "3c0c99e93db32f51cab728760ee3bf5140e22eb3cd12f552bd76ecfcd04910e9"), looks := false }, kinds := [], alts := [], laidByText := true, laidKinds := [.data], laidTests := true, laidLooks := .later }
def CutBehindCardSaid : Prop := Claim7.holds Tryd.pinned (.plain (OpenSpec.ofChange cutBehindSpec)) cutBehindCard

/-- THE TIED CARD OF 'sheaflaw06.CutNobody'. -/
def cutNobodyCard : Claim7 := { stood := { row := cutNobodyRow, standIns := [], harness := (true, "3c0c99e93db32f51cab728760ee3bf5140e22eb3cd12f552bd76ecfcd04910e9"), looks := false }, kinds := [], alts := [], laidByText := true, laidKinds := [.data], laidTests := true, laidLooks := .later }
def CutNobodyCardSaid : Prop := Claim7.holds Tryd.pinned (.plain (OpenSpec.ofChange cutNobodySpec)) cutNobodyCard

/-- THE SECOND FORM's CARD OF 'sheaflaw06.CutFirst'. -/
def cutFirstUptoCard : Claim7 := { stood := { row := cutFirstUptoRow, standIns := [], harness := (true, "3c0c99e93db32f51cab728760ee3bf5140e22eb3cd12f552bd76ecfcd04910e9"), looks := false }, kinds := [], alts := [], laidByText := true, laidKinds := [.data], laidTests := true, laidLooks := .later }
def CutFirstUptoCardSaid : Prop := Claim7.holds Tryd.pinned (.plain (OpenSpec.upto cutFirstSpec)) cutFirstUptoCard

/-- THE SECOND FORM's CARD OF 'sheaflaw06.CutAll'. -/
def cutAllUptoCard : Claim7 := { stood := { row := cutAllUptoRow, standIns := [], harness := (true, "3c0c99e93db32f51cab728760ee3bf5140e22eb3cd12f552bd76ecfcd04910e9"), looks := false }, kinds := [], alts := [], laidByText := true, laidKinds := [.data], laidTests := true, laidLooks := .later }
def CutAllUptoCardSaid : Prop := Claim7.holds Tryd.pinned (.plain (OpenSpec.upto cutAllSpec)) cutAllUptoCard

/-- THE SECOND FORM's CARD OF 'sheaflaw06.CutPieces'. -/
def cutPiecesUptoCard : Claim7 := { stood := { row := cutPiecesUptoRow, standIns := [], harness := (true, "3c0c99e93db32f51cab728760ee3bf5140e22eb3cd12f552bd76ecfcd04910e9"), looks := false }, kinds := [], alts := [], laidByText := true, laidKinds := [.data], laidTests := true, laidLooks := .later }
def CutPiecesUptoCardSaid : Prop := Claim7.holds Tryd.pinned (.plain (OpenSpec.upto cutPiecesSpec)) cutPiecesUptoCard

/-- THE SECOND FORM's CARD OF 'sheaflaw06.CutBehind'. -/
def cutBehindUptoCard : Claim7 := { stood := { row := cutBehindUptoRow, standIns := [], harness := (true, "3c0c99e93db32f51cab728760ee3bf5140e22eb3cd12f552bd76ecfcd04910e9"), looks := false }, kinds := [], alts := [], laidByText := true, laidKinds := [.data], laidTests := true, laidLooks := .later }
def CutBehindUptoCardSaid : Prop := Claim7.holds Tryd.pinned (.plain (OpenSpec.upto cutBehindSpec)) cutBehindUptoCard

/-- THE SECOND FORM's CARD OF 'sheaflaw06.CutNobody'. -/
def cutNobodyUptoCard : Claim7 := { stood := { row := cutNobodyUptoRow, standIns := [], harness := (true, "3c0c99e93db32f51cab728760ee3bf5140e22eb3cd12f552bd76ecfcd04910e9"), looks := false }, kinds := [], alts := [], laidByText := true, laidKinds := [.data], laidTests := true, laidLooks := .later }
def CutNobodyUptoCardSaid : Prop := Claim7.holds Tryd.pinned (.plain (OpenSpec.upto cutNobodySpec)) cutNobodyUptoCard
end Rows
end Go.Proofs.YtimllddlcjnikaaDoor
