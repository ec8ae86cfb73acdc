/-
  NARROWER THAN 'FOR EVERY INPUT', by the rows' own cells (each row's printed sentence says how): JournalRecs: laid · JournalReads: laid · JournalJoins: laid · JournalAppends: laid · JournalAhead: laid · JournalNobody: laid.
  DERIVED. THE GIVEN ROWS OF THIS SEAT. 6 by the template 'for every input the law returns true; each argument reads behind the call as it read before'; 0 by the template 'total and deterministic' (their statements: YtoigembmbajopaaDoorTotals.lean).
  GIVEN WITH THE SEED: the statements are not yours to turn. If you find one false, say at which input.
  Laid BY PROGRAM, IN A SANDBOX (cutbox-rows.mjs): the forced cells as the released guide's own fill.sh prints them over the translation 050dfd5f783ad10d… (all of the seat's roots in one cut). By AI agents, Wed Nov 11 2026. No macro, syntax, notation, axiom, sorry.
-/
import Derived.Test.YtoigembmbajopaaDoorChecked
import GoSem.Claim
import GoSem.ClaimJoined
import GoSem.ClaimMapViews
import Derived.JoinedTies
import Derived.KernelRfl
namespace Go.Proofs.YtoigembmbajopaaDoor
/- THE CELL 'sum', in the pinned program and in every row, IS THE sha256 OF THE DUMP (.gsa) THAT YtoigembmbajopaaDoorProg.lean LOADS. Nothing in Lean hashes anything: it is a label: what it is worth is what the hold of that sum in a sandbox is worth. -/
noncomputable def Tryd.pinned : Pinned := { name := "ytoigembmbajopaadoor", sum := "050dfd5f783ad10d6149459f48b507778643a6d61dcf390311deffe3925f091f", checked := Tryd.checked }
namespace Rows
def none {H : Type} : Left H := { results := [], args := [] }

/- WHAT THE LISTED PACKAGE-LEVEL VARIABLES READ AS WHEN THE CALL BEGINS. Each datum BY PROGRAM (the guide's laid-datum.mjs) off the statement by which the dump's own 'gosem.cut.vars' lays the variable. In a bare row this is a premise. The card (YtoigembmbajopaaDoorCards.lean) ties it to the program's text. -/
def laid_sheaf_crc_fourSteps {H : Type} : DataW H := .agg [.lit (.int .u32 0), .lit (.int .u32 498536548), .lit (.int .u32 997073096), .lit (.int .u32 651767980), .lit (.int .u32 1994146192), .lit (.int .u32 1802195444), .lit (.int .u32 1303535960), .lit (.int .u32 1342533948), .lit (.int .u32 3988292384), .lit (.int .u32 4027552580), .lit (.int .u32 3604390888), .lit (.int .u32 3412177804), .lit (.int .u32 2607071920), .lit (.int .u32 2262029012), .lit (.int .u32 2685067896), .lit (.int .u32 3183342108)]

/-- 'sheaflaw13.JournalRecs': WHATEVER THE INPUT: true; the input reads as it did. -/
def journalRecsSpec : ChangeSpec := { name := "journalRecs", fn := fun _ => fun
  | [d] => { results := [.lit (.bool true)], args := [d] }
  | _ => none }
def journalRecsRow : OpenClaim := { program := "ytoigembmbajopaadoor", sum := "050dfd5f783ad10d6149459f48b507778643a6d61dcf390311deffe3925f091f", func := "sheaf/sheaflaw13.JournalRecs", spec := "journalRecs", inPlace := ["internal/abi.NoEscape", "internal/bytealg.MakeNoZero"], unfollowed := true, recurses := true, named := ["sheaf/crc.fourSteps"], apart := false, laid := [("sheaf/crc.fourSteps", laid_sheaf_crc_fourSteps)] }
def JournalRecsSaid : Prop := journalRecsRow.holds Tryd.pinned (OpenSpec.ofChange journalRecsSpec)

/-- ITS FALSE NEIGHBOUR: 'it returns false'. Refute it at one input. -/
def journalRecsWrong : ChangeSpec := { name := "journalRecs", fn := fun _ => fun
  | [d] => { results := [.lit (.bool false)], args := [d] }
  | _ => none }
def JournalRecsWrongFalsely : Prop := journalRecsRow.holds Tryd.pinned (OpenSpec.ofChange journalRecsWrong)

/-- 'sheaflaw13.JournalReads': WHATEVER THE INPUT: true; the input reads as it did. -/
def journalReadsSpec : ChangeSpec := { name := "journalReads", fn := fun _ => fun
  | [d] => { results := [.lit (.bool true)], args := [d] }
  | _ => none }
def journalReadsRow : OpenClaim := { program := "ytoigembmbajopaadoor", sum := "050dfd5f783ad10d6149459f48b507778643a6d61dcf390311deffe3925f091f", func := "sheaf/sheaflaw13.JournalReads", spec := "journalReads", inPlace := ["internal/abi.NoEscape", "internal/bytealg.MakeNoZero"], unfollowed := true, recurses := true, named := ["sheaf/crc.fourSteps"], apart := false, laid := [("sheaf/crc.fourSteps", laid_sheaf_crc_fourSteps)] }
def JournalReadsSaid : Prop := journalReadsRow.holds Tryd.pinned (OpenSpec.ofChange journalReadsSpec)

/-- ITS FALSE NEIGHBOUR: 'it returns false'. Refute it at one input. -/
def journalReadsWrong : ChangeSpec := { name := "journalReads", fn := fun _ => fun
  | [d] => { results := [.lit (.bool false)], args := [d] }
  | _ => none }
def JournalReadsWrongFalsely : Prop := journalReadsRow.holds Tryd.pinned (OpenSpec.ofChange journalReadsWrong)

/-- 'sheaflaw13.JournalJoins': WHATEVER THE INPUT: true; the input reads as it did. -/
def journalJoinsSpec : ChangeSpec := { name := "journalJoins", fn := fun _ => fun
  | [d] => { results := [.lit (.bool true)], args := [d] }
  | _ => none }
def journalJoinsRow : OpenClaim := { program := "ytoigembmbajopaadoor", sum := "050dfd5f783ad10d6149459f48b507778643a6d61dcf390311deffe3925f091f", func := "sheaf/sheaflaw13.JournalJoins", spec := "journalJoins", inPlace := ["internal/abi.NoEscape", "internal/bytealg.MakeNoZero"], unfollowed := true, recurses := true, named := ["sheaf/crc.fourSteps"], apart := false, laid := [("sheaf/crc.fourSteps", laid_sheaf_crc_fourSteps)] }
def JournalJoinsSaid : Prop := journalJoinsRow.holds Tryd.pinned (OpenSpec.ofChange journalJoinsSpec)

/-- ITS FALSE NEIGHBOUR: 'it returns false'. Refute it at one input. -/
def journalJoinsWrong : ChangeSpec := { name := "journalJoins", fn := fun _ => fun
  | [d] => { results := [.lit (.bool false)], args := [d] }
  | _ => none }
def JournalJoinsWrongFalsely : Prop := journalJoinsRow.holds Tryd.pinned (OpenSpec.ofChange journalJoinsWrong)

/-- 'sheaflaw13.JournalAppends': WHATEVER THE INPUT: true; the input reads as it did. -/
def journalAppendsSpec : ChangeSpec := { name := "journalAppends", fn := fun _ => fun
  | [d] => { results := [.lit (.bool true)], args := [d] }
  | _ => none }
def journalAppendsRow : OpenClaim := { program := "ytoigembmbajopaadoor", sum := "050dfd5f783ad10d6149459f48b507778643a6d61dcf390311deffe3925f091f", func := "sheaf/sheaflaw13.JournalAppends", spec := "journalAppends", inPlace := ["internal/abi.NoEscape", "internal/bytealg.MakeNoZero"], unfollowed := true, recurses := true, named := ["sheaf/crc.fourSteps"], apart := false, laid := [("sheaf/crc.fourSteps", laid_sheaf_crc_fourSteps)] }
def JournalAppendsSaid : Prop := journalAppendsRow.holds Tryd.pinned (OpenSpec.ofChange journalAppendsSpec)

/-- ITS FALSE NEIGHBOUR: 'it returns false'. Refute it at one input. -/
def journalAppendsWrong : ChangeSpec := { name := "journalAppends", fn := fun _ => fun
  | [d] => { results := [.lit (.bool false)], args := [d] }
  | _ => none }
def JournalAppendsWrongFalsely : Prop := journalAppendsRow.holds Tryd.pinned (OpenSpec.ofChange journalAppendsWrong)

/-- 'sheaflaw13.JournalAhead': WHATEVER THE INPUT: true; the input reads as it did. -/
def journalAheadSpec : ChangeSpec := { name := "journalAhead", fn := fun _ => fun
  | [d] => { results := [.lit (.bool true)], args := [d] }
  | _ => none }
def journalAheadRow : OpenClaim := { program := "ytoigembmbajopaadoor", sum := "050dfd5f783ad10d6149459f48b507778643a6d61dcf390311deffe3925f091f", func := "sheaf/sheaflaw13.JournalAhead", spec := "journalAhead", inPlace := ["internal/abi.NoEscape", "internal/bytealg.MakeNoZero"], unfollowed := true, recurses := true, named := ["sheaf/crc.fourSteps"], apart := false, laid := [("sheaf/crc.fourSteps", laid_sheaf_crc_fourSteps)] }
def JournalAheadSaid : Prop := journalAheadRow.holds Tryd.pinned (OpenSpec.ofChange journalAheadSpec)

/-- ITS FALSE NEIGHBOUR: 'it returns false'. Refute it at one input. -/
def journalAheadWrong : ChangeSpec := { name := "journalAhead", fn := fun _ => fun
  | [d] => { results := [.lit (.bool false)], args := [d] }
  | _ => none }
def JournalAheadWrongFalsely : Prop := journalAheadRow.holds Tryd.pinned (OpenSpec.ofChange journalAheadWrong)

/-- 'sheaflaw13.JournalNobody': WHATEVER THE INPUT: true; the input reads as it did. -/
def journalNobodySpec : ChangeSpec := { name := "journalNobody", fn := fun _ => fun
  | [d] => { results := [.lit (.bool true)], args := [d] }
  | _ => none }
def journalNobodyRow : OpenClaim := { program := "ytoigembmbajopaadoor", sum := "050dfd5f783ad10d6149459f48b507778643a6d61dcf390311deffe3925f091f", func := "sheaf/sheaflaw13.JournalNobody", spec := "journalNobody", inPlace := ["internal/abi.NoEscape", "internal/bytealg.MakeNoZero"], unfollowed := true, recurses := true, named := ["sheaf/crc.fourSteps"], apart := false, laid := [("sheaf/crc.fourSteps", laid_sheaf_crc_fourSteps)] }
def JournalNobodySaid : Prop := journalNobodyRow.holds Tryd.pinned (OpenSpec.ofChange journalNobodySpec)

/-- ITS FALSE NEIGHBOUR: 'it returns false'. Refute it at one input. -/
def journalNobodyWrong : ChangeSpec := { name := "journalNobody", fn := fun _ => fun
  | [d] => { results := [.lit (.bool false)], args := [d] }
  | _ => none }
def JournalNobodyWrongFalsely : Prop := journalNobodyRow.holds Tryd.pinned (OpenSpec.ofChange journalNobodyWrong)

/- THE SECOND FORM. 'bulk': how many values and letters a reading holds, each counted each time it is reached (what is shared counts as often as it is met; a slice's spare places count too). A statement '..UptoSaid' is the law's where the arguments, and the package variables that the reading takes, are together of bulk at most 1048576: NARROWER than '..Said'. Prove '..Said' where nothing that the law and all that it calls make is longer than what came in: it says more and counts as full. Else prove '..UptoSaid'. A law counts once. -/
mutual
def uptoBulk {H : Type} : DataW H → Nat
  | .lit (.string bytes) => bytes.length + 1
  | .lit _ => 1
  | .nil => 1
  | .ptr d => uptoBulk d + 1
  | .slice elems spare => uptoBulkAll elems + uptoBulkAll spare + 1
  | .agg parts => uptoBulkAll parts + 1
  | .iface _ d => uptoBulk d + 1
  | .map entries => uptoBulkEntries entries + 1
  | .held _ => 1
def uptoBulkAll {H : Type} : List (DataW H) → Nat
  | [] => 0
  | d :: r => uptoBulk d + uptoBulkAll r
def uptoBulkEntries {H : Type} : List (Lit × DataW H) → Nat
  | [] => 0
  | x :: r => uptoBulkEntry x + uptoBulkEntries r
def uptoBulkEntry {H : Type} : Lit × DataW H → Nat
  | (.string bytes, d) => bytes.length + uptoBulk d + 1
  | (_, d) => uptoBulk d + 1
 end
def uptoSmall : (H : Type) → List (DataW H) → Bool := fun _ ds => decide (uptoBulkAll ds ≤ 1048576)
def OpenSpec.upto (s : _root_.Go.ChangeSpec) : _root_.Go.OpenSpec := { _root_.Go.OpenSpec.ofChange s with cond := some uptoSmall }

/-- 'sheaflaw13.JournalRecs', WHERE WHAT IT READS IS OF BULK AT MOST 1048576: true; the input reads as it did. -/
def journalRecsUptoRow : OpenClaim := { program := "ytoigembmbajopaadoor", sum := "050dfd5f783ad10d6149459f48b507778643a6d61dcf390311deffe3925f091f", func := "sheaf/sheaflaw13.JournalRecs", spec := "journalRecs", inPlace := ["internal/abi.NoEscape", "internal/bytealg.MakeNoZero"], unfollowed := true, recurses := true, named := ["sheaf/crc.fourSteps"], apart := false, laid := [("sheaf/crc.fourSteps", laid_sheaf_crc_fourSteps)], narrowed := true }
def JournalRecsUptoSaid : Prop := journalRecsUptoRow.holds Tryd.pinned (OpenSpec.upto journalRecsSpec)

/-- 'sheaflaw13.JournalReads', WHERE WHAT IT READS IS OF BULK AT MOST 1048576: true; the input reads as it did. -/
def journalReadsUptoRow : OpenClaim := { program := "ytoigembmbajopaadoor", sum := "050dfd5f783ad10d6149459f48b507778643a6d61dcf390311deffe3925f091f", func := "sheaf/sheaflaw13.JournalReads", spec := "journalReads", inPlace := ["internal/abi.NoEscape", "internal/bytealg.MakeNoZero"], unfollowed := true, recurses := true, named := ["sheaf/crc.fourSteps"], apart := false, laid := [("sheaf/crc.fourSteps", laid_sheaf_crc_fourSteps)], narrowed := true }
def JournalReadsUptoSaid : Prop := journalReadsUptoRow.holds Tryd.pinned (OpenSpec.upto journalReadsSpec)

/-- 'sheaflaw13.JournalJoins', WHERE WHAT IT READS IS OF BULK AT MOST 1048576: true; the input reads as it did. -/
def journalJoinsUptoRow : OpenClaim := { program := "ytoigembmbajopaadoor", sum := "050dfd5f783ad10d6149459f48b507778643a6d61dcf390311deffe3925f091f", func := "sheaf/sheaflaw13.JournalJoins", spec := "journalJoins", inPlace := ["internal/abi.NoEscape", "internal/bytealg.MakeNoZero"], unfollowed := true, recurses := true, named := ["sheaf/crc.fourSteps"], apart := false, laid := [("sheaf/crc.fourSteps", laid_sheaf_crc_fourSteps)], narrowed := true }
def JournalJoinsUptoSaid : Prop := journalJoinsUptoRow.holds Tryd.pinned (OpenSpec.upto journalJoinsSpec)

/-- 'sheaflaw13.JournalAppends', WHERE WHAT IT READS IS OF BULK AT MOST 1048576: true; the input reads as it did. -/
def journalAppendsUptoRow : OpenClaim := { program := "ytoigembmbajopaadoor", sum := "050dfd5f783ad10d6149459f48b507778643a6d61dcf390311deffe3925f091f", func := "sheaf/sheaflaw13.JournalAppends", spec := "journalAppends", inPlace := ["internal/abi.NoEscape", "internal/bytealg.MakeNoZero"], unfollowed := true, recurses := true, named := ["sheaf/crc.fourSteps"], apart := false, laid := [("sheaf/crc.fourSteps", laid_sheaf_crc_fourSteps)], narrowed := true }
def JournalAppendsUptoSaid : Prop := journalAppendsUptoRow.holds Tryd.pinned (OpenSpec.upto journalAppendsSpec)

/-- 'sheaflaw13.JournalAhead', WHERE WHAT IT READS IS OF BULK AT MOST 1048576: true; the input reads as it did. -/
def journalAheadUptoRow : OpenClaim := { program := "ytoigembmbajopaadoor", sum := "050dfd5f783ad10d6149459f48b507778643a6d61dcf390311deffe3925f091f", func := "sheaf/sheaflaw13.JournalAhead", spec := "journalAhead", inPlace := ["internal/abi.NoEscape", "internal/bytealg.MakeNoZero"], unfollowed := true, recurses := true, named := ["sheaf/crc.fourSteps"], apart := false, laid := [("sheaf/crc.fourSteps", laid_sheaf_crc_fourSteps)], narrowed := true }
def JournalAheadUptoSaid : Prop := journalAheadUptoRow.holds Tryd.pinned (OpenSpec.upto journalAheadSpec)

/-- 'sheaflaw13.JournalNobody', WHERE WHAT IT READS IS OF BULK AT MOST 1048576: true; the input reads as it did. -/
def journalNobodyUptoRow : OpenClaim := { program := "ytoigembmbajopaadoor", sum := "050dfd5f783ad10d6149459f48b507778643a6d61dcf390311deffe3925f091f", func := "sheaf/sheaflaw13.JournalNobody", spec := "journalNobody", inPlace := ["internal/abi.NoEscape", "internal/bytealg.MakeNoZero"], unfollowed := true, recurses := true, named := ["sheaf/crc.fourSteps"], apart := false, laid := [("sheaf/crc.fourSteps", laid_sheaf_crc_fourSteps)], narrowed := true }
def JournalNobodyUptoSaid : Prop := journalNobodyUptoRow.holds Tryd.pinned (OpenSpec.upto journalNobodySpec)

end Rows
end Go.Proofs.YtoigembmbajopaaDoor
