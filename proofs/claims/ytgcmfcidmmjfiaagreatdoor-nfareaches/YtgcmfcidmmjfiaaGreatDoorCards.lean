/-
  DERIVED. GIVEN WITH THE SEED: THE CARDS: each row of YtgcmfcidmmjfiaaGreatDoorRows.lean that lists a variable, with what it lists TIED to the program's text (the seventh form; the later family's looks); each row that meets fmt, with fmt's text TOLD by the authors' own Lean function (tested against real Go, not proved from fmt's source: count such statements apart). THE CARD IS WHAT COUNTS. Prove the row's statement (the work); the ties are given (YtgcmfcidmmjfiaaGreatDoorTie.lean); close each card by the builder's one call (the guide's Derived/Test/ToyasCard.lean, 'card_holds'). Laid BY PROGRAM, IN A SANDBOX (cutbox-door.mjs). By AI agents, Wed Nov 11 2026. No macro, syntax, notation, axiom, sorry.
-/
import Derived.Test.YtgcmfcidmmjfiaaGreatDoorRows
import GoSem.ClaimSeven
namespace Go.Proofs.YtgcmfcidmmjfiaaGreatDoor
namespace Rows

/-- THE TIED CARD OF 'weaverlaw13.NfaSteps'. -/
def nfaStepsCard : Claim7 := { stood := { row := nfaStepsRow, standIns := [], harness := (true, "a95e7e01447bc1398bc777a9da0144b80e71bf2095b2b85340a42817d9628f55"), looks := true }, kinds := [], alts := [], laidByText := true, laidKinds := [.data, .data, .data, .sentinel, .sentinel, .data, .data], laidTests := true, laidLooks := .later }
def NfaStepsCardSaid : Prop := Claim7.holds Tryz.pinned (.plain (OpenSpec.ofChange nfaStepsSpec)) nfaStepsCard

/-- THE TIED CARD OF 'weaverlaw13.NfaNodes'. -/
def nfaNodesCard : Claim7 := { stood := { row := nfaNodesRow, standIns := [], harness := (true, "a95e7e01447bc1398bc777a9da0144b80e71bf2095b2b85340a42817d9628f55"), looks := true }, kinds := [], alts := [], laidByText := true, laidKinds := [.data, .data, .data, .sentinel, .sentinel, .data, .data, .data], laidTests := true, laidLooks := .later }
def NfaNodesCardSaid : Prop := Claim7.holds Tryz.pinned (.plain (OpenSpec.ofChange nfaNodesSpec)) nfaNodesCard

/-- THE TIED CARD OF 'weaverlaw13.NfaShuts'. -/
def nfaShutsCard : Claim7 := { stood := { row := nfaShutsRow, standIns := [], harness := (true, "a95e7e01447bc1398bc777a9da0144b80e71bf2095b2b85340a42817d9628f55"), looks := true }, kinds := [], alts := [], laidByText := true, laidKinds := [.data, .data, .data, .sentinel, .sentinel, .data, .data], laidTests := true, laidLooks := .later }
def NfaShutsCardSaid : Prop := Claim7.holds Tryz.pinned (.plain (OpenSpec.ofChange nfaShutsSpec)) nfaShutsCard

/-- THE TIED CARD OF 'weaverlaw13.NfaReaches'. -/
def nfaReachesCard : Claim7 := { stood := { row := nfaReachesRow, standIns := [], harness := (true, "a95e7e01447bc1398bc777a9da0144b80e71bf2095b2b85340a42817d9628f55"), looks := true }, kinds := [], alts := [], laidByText := true, laidKinds := [.data, .data, .data, .sentinel, .sentinel, .data, .data, .data], laidTests := true, laidLooks := .later }
def NfaReachesCardSaid : Prop := Claim7.holds Tryz.pinned (.plain (OpenSpec.ofChange nfaReachesSpec)) nfaReachesCard

/-- THE TIED CARD OF 'weaverlaw13.NfaTakes'. -/
def nfaTakesCard : Claim7 := { stood := { row := nfaTakesRow, standIns := [], harness := (true, "a95e7e01447bc1398bc777a9da0144b80e71bf2095b2b85340a42817d9628f55"), looks := true }, kinds := [], alts := [], laidByText := true, laidKinds := [.data, .data, .data, .sentinel, .sentinel, .data, .data], laidTests := true, laidLooks := .later }
def NfaTakesCardSaid : Prop := Claim7.holds Tryz.pinned (.plain (OpenSpec.ofChange nfaTakesSpec)) nfaTakesCard

/-- THE TIED CARD OF 'weaverlaw12.PatternChecks'. -/
def patternChecksCard : Claim7 := { stood := { row := patternChecksRow, standIns := [], harness := (true, "a95e7e01447bc1398bc777a9da0144b80e71bf2095b2b85340a42817d9628f55"), looks := true }, kinds := [], alts := [], laidByText := true, laidKinds := [.data, .data, .data, .sentinel, .sentinel, .data, .data, .data], laidTests := true, laidLooks := .later }
def PatternChecksCardSaid : Prop := Claim7.holds Tryz.pinned (.plain (OpenSpec.ofChange patternChecksSpec)) patternChecksCard

/-- THE SECOND FORM's CARD OF 'weaverlaw13.NfaSteps'. -/
def nfaStepsUptoCard : Claim7 := { stood := { row := nfaStepsUptoRow, standIns := [], harness := (true, "a95e7e01447bc1398bc777a9da0144b80e71bf2095b2b85340a42817d9628f55"), looks := true }, kinds := [], alts := [], laidByText := true, laidKinds := [.data, .data, .data, .sentinel, .sentinel, .data, .data], laidTests := true, laidLooks := .later }
def NfaStepsUptoCardSaid : Prop := Claim7.holds Tryz.pinned (.plain (OpenSpec.upto nfaStepsSpec)) nfaStepsUptoCard

/-- THE SECOND FORM's CARD OF 'weaverlaw13.NfaNodes'. -/
def nfaNodesUptoCard : Claim7 := { stood := { row := nfaNodesUptoRow, standIns := [], harness := (true, "a95e7e01447bc1398bc777a9da0144b80e71bf2095b2b85340a42817d9628f55"), looks := true }, kinds := [], alts := [], laidByText := true, laidKinds := [.data, .data, .data, .sentinel, .sentinel, .data, .data, .data], laidTests := true, laidLooks := .later }
def NfaNodesUptoCardSaid : Prop := Claim7.holds Tryz.pinned (.plain (OpenSpec.upto nfaNodesSpec)) nfaNodesUptoCard

/-- THE SECOND FORM's CARD OF 'weaverlaw13.NfaShuts'. -/
def nfaShutsUptoCard : Claim7 := { stood := { row := nfaShutsUptoRow, standIns := [], harness := (true, "a95e7e01447bc1398bc777a9da0144b80e71bf2095b2b85340a42817d9628f55"), looks := true }, kinds := [], alts := [], laidByText := true, laidKinds := [.data, .data, .data, .sentinel, .sentinel, .data, .data], laidTests := true, laidLooks := .later }
def NfaShutsUptoCardSaid : Prop := Claim7.holds Tryz.pinned (.plain (OpenSpec.upto nfaShutsSpec)) nfaShutsUptoCard

/-- THE SECOND FORM's CARD OF 'weaverlaw13.NfaReaches'. -/
def nfaReachesUptoCard : Claim7 := { stood := { row := nfaReachesUptoRow, standIns := [], harness := (true, "a95e7e01447bc1398bc777a9da0144b80e71bf2095b2b85340a42817d9628f55"), looks := true }, kinds := [], alts := [], laidByText := true, laidKinds := [.data, .data, .data, .sentinel, .sentinel, .data, .data, .data], laidTests := true, laidLooks := .later }
def NfaReachesUptoCardSaid : Prop := Claim7.holds Tryz.pinned (.plain (OpenSpec.upto nfaReachesSpec)) nfaReachesUptoCard

/-- THE SECOND FORM's CARD OF 'weaverlaw13.NfaTakes'. -/
def nfaTakesUptoCard : Claim7 := { stood := { row := nfaTakesUptoRow, standIns := [], harness := (true, "a95e7e01447bc1398bc777a9da0144b80e71bf2095b2b85340a42817d9628f55"), looks := true }, kinds := [], alts := [], laidByText := true, laidKinds := [.data, .data, .data, .sentinel, .sentinel, .data, .data], laidTests := true, laidLooks := .later }
def NfaTakesUptoCardSaid : Prop := Claim7.holds Tryz.pinned (.plain (OpenSpec.upto nfaTakesSpec)) nfaTakesUptoCard

/-- THE SECOND FORM's CARD OF 'weaverlaw12.PatternChecks'. -/
def patternChecksUptoCard : Claim7 := { stood := { row := patternChecksUptoRow, standIns := [], harness := (true, "a95e7e01447bc1398bc777a9da0144b80e71bf2095b2b85340a42817d9628f55"), looks := true }, kinds := [], alts := [], laidByText := true, laidKinds := [.data, .data, .data, .sentinel, .sentinel, .data, .data, .data], laidTests := true, laidLooks := .later }
def PatternChecksUptoCardSaid : Prop := Claim7.holds Tryz.pinned (.plain (OpenSpec.upto patternChecksSpec)) patternChecksUptoCard
end Rows
end Go.Proofs.YtgcmfcidmmjfiaaGreatDoor
