/-
  DERIVED. GIVEN WITH THE SEED: THE CARDS: each row of YtjijhefmbmdbeaaGreatDoorRows.lean that lists a variable, with what it lists TIED to the program's text (the seventh form; the later family's looks); each row that meets fmt, with fmt's text TOLD by the authors' own Lean function (tested against real Go, not proved from fmt's source: count such statements apart). THE CARD IS WHAT COUNTS. Prove the row's statement (the work); the ties are given (YtjijhefmbmdbeaaGreatDoorTie.lean); close each card by the builder's one call (the guide's Derived/Test/ToyasCard.lean, 'card_holds'). Laid BY PROGRAM, IN A SANDBOX (cutbox-door.mjs). By AI agents, Wed Nov 11 2026. No macro, syntax, notation, axiom, sorry.
-/
import Derived.Test.YtjijhefmbmdbeaaGreatDoorRows
import GoSem.ClaimSeven
namespace Go.Proofs.YtjijhefmbmdbeaaGreatDoor
namespace Rows

/-- THE TIED CARD OF 'weaverlaw13.NfaSteps'. -/
def nfaStepsCard : Claim7 := { stood := { row := nfaStepsRow, standIns := [], harness := (true, "fec12966103c92fac6e8168bfca733a3af5f69296190d9cf574f3e97b3f02a27"), looks := true }, kinds := [], alts := [], laidByText := true, laidKinds := [.data, .data, .data, .sentinel, .sentinel, .data, .data], laidTests := true, laidLooks := .later }
def NfaStepsCardSaid : Prop := Claim7.holds Tryz.pinned (.plain (OpenSpec.ofChange nfaStepsSpec)) nfaStepsCard

/-- THE TIED CARD OF 'weaverlaw13.NfaNodes'. -/
def nfaNodesCard : Claim7 := { stood := { row := nfaNodesRow, standIns := [], harness := (true, "fec12966103c92fac6e8168bfca733a3af5f69296190d9cf574f3e97b3f02a27"), looks := true }, kinds := [], alts := [], laidByText := true, laidKinds := [.data, .data, .data, .sentinel, .sentinel, .data, .data, .data], laidTests := true, laidLooks := .later }
def NfaNodesCardSaid : Prop := Claim7.holds Tryz.pinned (.plain (OpenSpec.ofChange nfaNodesSpec)) nfaNodesCard

/-- THE TIED CARD OF 'weaverlaw13.NfaReaches'. -/
def nfaReachesCard : Claim7 := { stood := { row := nfaReachesRow, standIns := [], harness := (true, "fec12966103c92fac6e8168bfca733a3af5f69296190d9cf574f3e97b3f02a27"), looks := true }, kinds := [], alts := [], laidByText := true, laidKinds := [.data, .data, .data, .sentinel, .sentinel, .data, .data, .data], laidTests := true, laidLooks := .later }
def NfaReachesCardSaid : Prop := Claim7.holds Tryz.pinned (.plain (OpenSpec.ofChange nfaReachesSpec)) nfaReachesCard

/-- THE TIED CARD OF 'weaverlaw12.PatternChecks'. -/
def patternChecksCard : Claim7 := { stood := { row := patternChecksRow, standIns := [], harness := (true, "fec12966103c92fac6e8168bfca733a3af5f69296190d9cf574f3e97b3f02a27"), looks := true }, kinds := [], alts := [], laidByText := true, laidKinds := [.data, .data, .data, .sentinel, .sentinel, .data, .data, .data], laidTests := true, laidLooks := .later }
def PatternChecksCardSaid : Prop := Claim7.holds Tryz.pinned (.plain (OpenSpec.ofChange patternChecksSpec)) patternChecksCard

/-- THE SECOND FORM's CARD OF 'weaverlaw13.NfaSteps'. -/
def nfaStepsUptoCard : Claim7 := { stood := { row := nfaStepsUptoRow, standIns := [], harness := (true, "fec12966103c92fac6e8168bfca733a3af5f69296190d9cf574f3e97b3f02a27"), looks := true }, kinds := [], alts := [], laidByText := true, laidKinds := [.data, .data, .data, .sentinel, .sentinel, .data, .data], laidTests := true, laidLooks := .later }
def NfaStepsUptoCardSaid : Prop := Claim7.holds Tryz.pinned (.plain (OpenSpec.upto nfaStepsSpec)) nfaStepsUptoCard

/-- THE SECOND FORM's CARD OF 'weaverlaw13.NfaNodes'. -/
def nfaNodesUptoCard : Claim7 := { stood := { row := nfaNodesUptoRow, standIns := [], harness := (true, "fec12966103c92fac6e8168bfca733a3af5f69296190d9cf574f3e97b3f02a27"), looks := true }, kinds := [], alts := [], laidByText := true, laidKinds := [.data, .data, .data, .sentinel, .sentinel, .data, .data, .data], laidTests := true, laidLooks := .later }
def NfaNodesUptoCardSaid : Prop := Claim7.holds Tryz.pinned (.plain (OpenSpec.upto nfaNodesSpec)) nfaNodesUptoCard

/-- THE SECOND FORM's CARD OF 'weaverlaw13.NfaReaches'. -/
def nfaReachesUptoCard : Claim7 := { stood := { row := nfaReachesUptoRow, standIns := [], harness := (true, "fec12966103c92fac6e8168bfca733a3af5f69296190d9cf574f3e97b3f02a27"), looks := true }, kinds := [], alts := [], laidByText := true, laidKinds := [.data, .data, .data, .sentinel, .sentinel, .data, .data, .data], laidTests := true, laidLooks := .later }
def NfaReachesUptoCardSaid : Prop := Claim7.holds Tryz.pinned (.plain (OpenSpec.upto nfaReachesSpec)) nfaReachesUptoCard

/-- THE SECOND FORM's CARD OF 'weaverlaw12.PatternChecks'. -/
def patternChecksUptoCard : Claim7 := { stood := { row := patternChecksUptoRow, standIns := [], harness := (true, "fec12966103c92fac6e8168bfca733a3af5f69296190d9cf574f3e97b3f02a27"), looks := true }, kinds := [], alts := [], laidByText := true, laidKinds := [.data, .data, .data, .sentinel, .sentinel, .data, .data, .data], laidTests := true, laidLooks := .later }
def PatternChecksUptoCardSaid : Prop := Claim7.holds Tryz.pinned (.plain (OpenSpec.upto patternChecksSpec)) patternChecksUptoCard
end Rows
end Go.Proofs.YtjijhefmbmdbeaaGreatDoor
