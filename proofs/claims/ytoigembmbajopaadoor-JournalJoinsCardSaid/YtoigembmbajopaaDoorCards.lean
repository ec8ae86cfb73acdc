/-
  DERIVED. GIVEN WITH THE SEED: THE CARDS: each row of YtoigembmbajopaaDoorRows.lean that lists a variable, with what it lists TIED to the program's text (the seventh form; the later family's looks); each row that meets fmt, with fmt's text TOLD by the authors' own Lean function (tested against real Go, not proved from fmt's source: count such statements apart). THE CARD IS WHAT COUNTS. Prove the row's statement (the work); the ties are given (YtoigembmbajopaaDoorTie.lean); close each card by the builder's one call (the guide's Derived/Test/ToyasCard.lean, 'card_holds'). Laid BY PROGRAM, IN A SANDBOX (cutbox-door.mjs). By AI agents, Wed Nov 11 2026. No macro, syntax, notation, axiom, sorry.
-/
import Derived.Test.YtoigembmbajopaaDoorRows
import GoSem.ClaimSeven
namespace Go.Proofs.YtoigembmbajopaaDoor
namespace Rows

/-- THE TIED CARD OF 'sheaflaw13.JournalRecs'. -/
def journalRecsCard : Claim7 := { stood := { row := journalRecsRow, standIns := [], harness := (true, "8deb62655042a2cdd5189c5e7a0799252fad013bbdf0a336176c7d6b76894d81"), looks := false }, kinds := [], alts := [], laidByText := true, laidKinds := [.data], laidTests := true, laidLooks := .later }
def JournalRecsCardSaid : Prop := Claim7.holds Tryd.pinned (.plain (OpenSpec.ofChange journalRecsSpec)) journalRecsCard

/-- THE TIED CARD OF 'sheaflaw13.JournalReads'. -/
def journalReadsCard : Claim7 := { stood := { row := journalReadsRow, standIns := [], harness := (true, "8deb62655042a2cdd5189c5e7a0799252fad013bbdf0a336176c7d6b76894d81"), looks := false }, kinds := [], alts := [], laidByText := true, laidKinds := [.data], laidTests := true, laidLooks := .later }
def JournalReadsCardSaid : Prop := Claim7.holds Tryd.pinned (.plain (OpenSpec.ofChange journalReadsSpec)) journalReadsCard

/-- THE TIED CARD OF 'sheaflaw13.JournalJoins'. -/
def journalJoinsCard : Claim7 := { stood := { row := journalJoinsRow, standIns := [], harness := (true, "8deb62655042a2cdd5189c5e7a0799252fad013bbdf0a336176c7d6b76894d81"), looks := false }, kinds := [], alts := [], laidByText := true, laidKinds := [.data], laidTests := true, laidLooks := .later }
def JournalJoinsCardSaid : Prop := Claim7.holds Tryd.pinned (.plain (OpenSpec.ofChange journalJoinsSpec)) journalJoinsCard

/-- THE TIED CARD OF 'sheaflaw13.JournalAppends'. -/
def journalAppendsCard : Claim7 := { stood := { row := journalAppendsRow, standIns := [], harness := (true, "8deb62655042a2cdd5189c5e7a0799252fad013bbdf0a336176c7d6b76894d81"), looks := false }, kinds := [], alts := [], laidByText := true, laidKinds := [.data], laidTests := true, laidLooks := .later }
def JournalAppendsCardSaid : Prop := Claim7.holds Tryd.pinned (.plain (OpenSpec.ofChange journalAppendsSpec)) journalAppendsCard

/-- THE TIED CARD OF 'sheaflaw13.JournalAhead'. -/
def journalAheadCard : Claim7 := { stood := { row := journalAheadRow, standIns := [], harness := (true, "8deb62655042a2cdd5189c5e7a0799252fad013bbdf0a336176c7d6b76894d81"), looks := false }, kinds := [], alts := [], laidByText := true, laidKinds := [.data], laidTests := true, laidLooks := .later }
def JournalAheadCardSaid : Prop := Claim7.holds Tryd.pinned (.plain (OpenSpec.ofChange journalAheadSpec)) journalAheadCard

/-- THE TIED CARD OF 'sheaflaw13.JournalNobody'. -/
def journalNobodyCard : Claim7 := { stood := { row := journalNobodyRow, standIns := [], harness := (true, "8deb62655042a2cdd5189c5e7a0799252fad013bbdf0a336176c7d6b76894d81"), looks := false }, kinds := [], alts := [], laidByText := true, laidKinds := [.data], laidTests := true, laidLooks := .later }
def JournalNobodyCardSaid : Prop := Claim7.holds Tryd.pinned (.plain (OpenSpec.ofChange journalNobodySpec)) journalNobodyCard

/-- THE SECOND FORM's CARD OF 'sheaflaw13.JournalRecs'. -/
def journalRecsUptoCard : Claim7 := { stood := { row := journalRecsUptoRow, standIns := [], harness := (true, "8deb62655042a2cdd5189c5e7a0799252fad013bbdf0a336176c7d6b76894d81"), looks := false }, kinds := [], alts := [], laidByText := true, laidKinds := [.data], laidTests := true, laidLooks := .later }
def JournalRecsUptoCardSaid : Prop := Claim7.holds Tryd.pinned (.plain (OpenSpec.upto journalRecsSpec)) journalRecsUptoCard

/-- THE SECOND FORM's CARD OF 'sheaflaw13.JournalReads'. -/
def journalReadsUptoCard : Claim7 := { stood := { row := journalReadsUptoRow, standIns := [], harness := (true, "8deb62655042a2cdd5189c5e7a0799252fad013bbdf0a336176c7d6b76894d81"), looks := false }, kinds := [], alts := [], laidByText := true, laidKinds := [.data], laidTests := true, laidLooks := .later }
def JournalReadsUptoCardSaid : Prop := Claim7.holds Tryd.pinned (.plain (OpenSpec.upto journalReadsSpec)) journalReadsUptoCard

/-- THE SECOND FORM's CARD OF 'sheaflaw13.JournalJoins'. -/
def journalJoinsUptoCard : Claim7 := { stood := { row := journalJoinsUptoRow, standIns := [], harness := (true, "8deb62655042a2cdd5189c5e7a0799252fad013bbdf0a336176c7d6b76894d81"), looks := false }, kinds := [], alts := [], laidByText := true, laidKinds := [.data], laidTests := true, laidLooks := .later }
def JournalJoinsUptoCardSaid : Prop := Claim7.holds Tryd.pinned (.plain (OpenSpec.upto journalJoinsSpec)) journalJoinsUptoCard

/-- THE SECOND FORM's CARD OF 'sheaflaw13.JournalAppends'. -/
def journalAppendsUptoCard : Claim7 := { stood := { row := journalAppendsUptoRow, standIns := [], harness := (true, "8deb62655042a2cdd5189c5e7a0799252fad013bbdf0a336176c7d6b76894d81"), looks := false }, kinds := [], alts := [], laidByText := true, laidKinds := [.data], laidTests := true, laidLooks := .later }
def JournalAppendsUptoCardSaid : Prop := Claim7.holds Tryd.pinned (.plain (OpenSpec.upto journalAppendsSpec)) journalAppendsUptoCard

/-- THE SECOND FORM's CARD OF 'sheaflaw13.JournalAhead'. -/
def journalAheadUptoCard : Claim7 := { stood := { row := journalAheadUptoRow, standIns := [], harness := (true, "8deb62655042a2cdd5189c5e7a0799252fad013bbdf0a336176c7d6b76894d81"), looks := false }, kinds := [], alts := [], laidByText := true, laidKinds := [.data], laidTests := true, laidLooks := .later }
def JournalAheadUptoCardSaid : Prop := Claim7.holds Tryd.pinned (.plain (OpenSpec.upto journalAheadSpec)) journalAheadUptoCard

/-- THE SECOND FORM's CARD OF 'sheaflaw13.JournalNobody'. -/
def journalNobodyUptoCard : Claim7 := { stood := { row := journalNobodyUptoRow, standIns := [], harness := (true, "8deb62655042a2cdd5189c5e7a0799252fad013bbdf0a336176c7d6b76894d81"), looks := false }, kinds := [], alts := [], laidByText := true, laidKinds := [.data], laidTests := true, laidLooks := .later }
def JournalNobodyUptoCardSaid : Prop := Claim7.holds Tryd.pinned (.plain (OpenSpec.upto journalNobodySpec)) journalNobodyUptoCard
end Rows
end Go.Proofs.YtoigembmbajopaaDoor
