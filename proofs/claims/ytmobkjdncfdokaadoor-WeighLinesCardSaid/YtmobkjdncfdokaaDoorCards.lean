/-
  DERIVED. GIVEN WITH THE SEED: THE CARDS: each row of YtmobkjdncfdokaaDoorRows.lean that lists a variable, with what it lists TIED to the program's text (the seventh form; the later family's looks); each row that meets fmt, with fmt's text TOLD by the authors' own Lean function (tested against real Go, not proved from fmt's source: count such statements apart). THE CARD IS WHAT COUNTS. Prove the row's statement (the work); the ties are given (YtmobkjdncfdokaaDoorTie.lean); close each card by the builder's one call (the guide's Derived/Test/ToyasCard.lean, 'card_holds'). Laid BY PROGRAM, IN A SANDBOX (cutbox-door.mjs). By AI agents, Wed Nov 11 2026. No macro, syntax, notation, axiom, sorry.
-/
import Derived.Test.YtmobkjdncfdokaaDoorRows
import GoSem.ClaimSeven
namespace Go.Proofs.YtmobkjdncfdokaaDoor
namespace Rows

/-- THE TIED CARD OF 'sheaflaw04.WeighLines'. -/
def weighLinesCard : Claim7 := { stood := { row := weighLinesRow, standIns := [], harness := (true, "299c6df91b8a2e0642962f0df90dd437a838da321497f79d694fa67fc4978736"), looks := true }, kinds := [], alts := [], laidByText := true, laidKinds := [.data, .data, .data, .data, .sentinel, .sentinel, .pinned], laidTests := true, laidLooks := .later }
def WeighLinesCardSaid : Prop := Claim7.holds Tryd.pinned (.plain (OpenSpec.ofChange weighLinesSpec)) weighLinesCard

/-- THE SECOND FORM's CARD OF 'sheaflaw04.WeighLines'. -/
def weighLinesUptoCard : Claim7 := { stood := { row := weighLinesUptoRow, standIns := [], harness := (true, "299c6df91b8a2e0642962f0df90dd437a838da321497f79d694fa67fc4978736"), looks := true }, kinds := [], alts := [], laidByText := true, laidKinds := [.data, .data, .data, .data, .sentinel, .sentinel, .pinned], laidTests := true, laidLooks := .later }
def WeighLinesUptoCardSaid : Prop := Claim7.holds Tryd.pinned (.plain (OpenSpec.upto weighLinesSpec)) weighLinesUptoCard
end Rows
end Go.Proofs.YtmobkjdncfdokaaDoor
