/-
  DERIVED. GIVEN WITH THE SEED: THE CARDS: each row of YtdmckgcbmbhmmaaGreatDoorRows.lean that lists a variable, with what it lists TIED to the program's text (the seventh form; the later family's looks); each row that meets fmt, with fmt's text TOLD by the authors' own Lean function (tested against real Go, not proved from fmt's source: count such statements apart). THE CARD IS WHAT COUNTS. Prove the row's statement (the work); the ties are given (YtdmckgcbmbhmmaaGreatDoorTie.lean); close each card by the builder's one call (the guide's Derived/Test/ToyasCard.lean, 'card_holds'). Laid BY PROGRAM, IN A SANDBOX (cutbox-door.mjs). By AI agents, Wed Nov 11 2026. No macro, syntax, notation, axiom, sorry.
-/
import Derived.Test.YtdmckgcbmbhmmaaGreatDoorRows
import GoSem.ClaimSeven
namespace Go.Proofs.YtdmckgcbmbhmmaaGreatDoor
namespace Rows

/-- THE TIED CARD OF 'weaverlaw22.SnapPlays'. -/
def snapPlaysCard : Claim7 := { stood := { row := snapPlaysRow, standIns := [], harness := (true, "afc8b3bb92007c7f54aafbb475764aea9ecb9ba0f52f0c52b463980dbfccdb3b"), looks := true }, kinds := [], alts := [], laidByText := true, laidKinds := [.data, .data, .data, .data], laidTests := true, laidLooks := .later }
def SnapPlaysCardSaid : Prop := Claim7.holds Tryz.pinned (.plain (OpenSpec.ofChange snapPlaysSpec)) snapPlaysCard

/-- THE TIED CARD OF 'weaverlaw22.SnapWhole'. -/
def snapWholeCard : Claim7 := { stood := { row := snapWholeRow, standIns := [], harness := (true, "afc8b3bb92007c7f54aafbb475764aea9ecb9ba0f52f0c52b463980dbfccdb3b"), looks := true }, kinds := [], alts := [], laidByText := true, laidKinds := [.data, .data, .data, .data], laidTests := true, laidLooks := .later }
def SnapWholeCardSaid : Prop := Claim7.holds Tryz.pinned (.plain (OpenSpec.ofChange snapWholeSpec)) snapWholeCard

/-- THE TIED CARD OF 'weaverlaw22.SnapFew'. -/
def snapFewCard : Claim7 := { stood := { row := snapFewRow, standIns := [], harness := (true, "afc8b3bb92007c7f54aafbb475764aea9ecb9ba0f52f0c52b463980dbfccdb3b"), looks := true }, kinds := [], alts := [], laidByText := true, laidKinds := [.data, .data, .data, .data], laidTests := true, laidLooks := .later }
def SnapFewCardSaid : Prop := Claim7.holds Tryz.pinned (.plain (OpenSpec.ofChange snapFewSpec)) snapFewCard

/-- THE TIED CARD OF 'weaverlaw22.SnapRises'. -/
def snapRisesCard : Claim7 := { stood := { row := snapRisesRow, standIns := [], harness := (true, "afc8b3bb92007c7f54aafbb475764aea9ecb9ba0f52f0c52b463980dbfccdb3b"), looks := true }, kinds := [], alts := [], laidByText := true, laidKinds := [.data, .data, .data, .data], laidTests := true, laidLooks := .later }
def SnapRisesCardSaid : Prop := Claim7.holds Tryz.pinned (.plain (OpenSpec.ofChange snapRisesSpec)) snapRisesCard

/-- THE SECOND FORM's CARD OF 'weaverlaw22.SnapPlays'. -/
def snapPlaysUptoCard : Claim7 := { stood := { row := snapPlaysUptoRow, standIns := [], harness := (true, "afc8b3bb92007c7f54aafbb475764aea9ecb9ba0f52f0c52b463980dbfccdb3b"), looks := true }, kinds := [], alts := [], laidByText := true, laidKinds := [.data, .data, .data, .data], laidTests := true, laidLooks := .later }
def SnapPlaysUptoCardSaid : Prop := Claim7.holds Tryz.pinned (.plain (OpenSpec.upto snapPlaysSpec)) snapPlaysUptoCard

/-- THE SECOND FORM's CARD OF 'weaverlaw22.SnapWhole'. -/
def snapWholeUptoCard : Claim7 := { stood := { row := snapWholeUptoRow, standIns := [], harness := (true, "afc8b3bb92007c7f54aafbb475764aea9ecb9ba0f52f0c52b463980dbfccdb3b"), looks := true }, kinds := [], alts := [], laidByText := true, laidKinds := [.data, .data, .data, .data], laidTests := true, laidLooks := .later }
def SnapWholeUptoCardSaid : Prop := Claim7.holds Tryz.pinned (.plain (OpenSpec.upto snapWholeSpec)) snapWholeUptoCard

/-- THE SECOND FORM's CARD OF 'weaverlaw22.SnapFew'. -/
def snapFewUptoCard : Claim7 := { stood := { row := snapFewUptoRow, standIns := [], harness := (true, "afc8b3bb92007c7f54aafbb475764aea9ecb9ba0f52f0c52b463980dbfccdb3b"), looks := true }, kinds := [], alts := [], laidByText := true, laidKinds := [.data, .data, .data, .data], laidTests := true, laidLooks := .later }
def SnapFewUptoCardSaid : Prop := Claim7.holds Tryz.pinned (.plain (OpenSpec.upto snapFewSpec)) snapFewUptoCard

/-- THE SECOND FORM's CARD OF 'weaverlaw22.SnapRises'. -/
def snapRisesUptoCard : Claim7 := { stood := { row := snapRisesUptoRow, standIns := [], harness := (true, "afc8b3bb92007c7f54aafbb475764aea9ecb9ba0f52f0c52b463980dbfccdb3b"), looks := true }, kinds := [], alts := [], laidByText := true, laidKinds := [.data, .data, .data, .data], laidTests := true, laidLooks := .later }
def SnapRisesUptoCardSaid : Prop := Claim7.holds Tryz.pinned (.plain (OpenSpec.upto snapRisesSpec)) snapRisesUptoCard
end Rows
end Go.Proofs.YtdmckgcbmbhmmaaGreatDoor
