/-
  DERIVED. GIVEN WITH THE SEED: THE CARDS: each row of YtllkkflolijpaaaDoorRows.lean that lists a variable, with what it lists TIED to the program's text (the seventh form; the later family's looks); each row that meets fmt, with fmt's text TOLD by the authors' own Lean function (tested against real Go, not proved from fmt's source: count such statements apart). THE CARD IS WHAT COUNTS. Prove the row's statement (the work); the ties are given (YtllkkflolijpaaaDoorTie.lean); close each card by the builder's one call (the guide's Derived/Test/ToyasCard.lean, 'card_holds'). Laid BY PROGRAM, IN A SANDBOX (cutbox-door.mjs). By AI agents, Wed Nov 11 2026. No macro, syntax, notation, axiom, sorry.
-/
import Derived.Test.YtllkkflolijpaaaDoorRows
import GoSem.ClaimSeven
namespace Go.Proofs.YtllkkflolijpaaaDoor
namespace Rows

/-- THE TIED CARD OF 'weaverlaw04.TapeBegins'. -/
def tapeBeginsCard : Claim7 := { stood := { row := tapeBeginsRow, standIns := [], harness := (true, "c32a593b49b25571fd5c4b0e504ef348bfa23d31b50fb3c0ec18897f16fe26a3"), looks := true }, kinds := [], alts := [], laidByText := true, laidKinds := [.data], laidTests := true, laidLooks := .later }
def TapeBeginsCardSaid : Prop := Claim7.holds Tryd.pinned (.plain (OpenSpec.ofChange tapeBeginsSpec)) tapeBeginsCard

/-- THE TIED CARD OF 'weaverlaw04.TapeRots'. -/
def tapeRotsCard : Claim7 := { stood := { row := tapeRotsRow, standIns := [], harness := (true, "c32a593b49b25571fd5c4b0e504ef348bfa23d31b50fb3c0ec18897f16fe26a3"), looks := true }, kinds := [], alts := [], laidByText := true, laidKinds := [.data], laidTests := true, laidLooks := .later }
def TapeRotsCardSaid : Prop := Claim7.holds Tryd.pinned (.plain (OpenSpec.ofChange tapeRotsSpec)) tapeRotsCard

/-- THE TIED CARD OF 'weaverlaw04.TapeApart'. -/
def tapeApartCard : Claim7 := { stood := { row := tapeApartRow, standIns := [], harness := (true, "c32a593b49b25571fd5c4b0e504ef348bfa23d31b50fb3c0ec18897f16fe26a3"), looks := true }, kinds := [], alts := [], laidByText := true, laidKinds := [.data], laidTests := true, laidLooks := .later }
def TapeApartCardSaid : Prop := Claim7.holds Tryd.pinned (.plain (OpenSpec.ofChange tapeApartSpec)) tapeApartCard

/-- THE SECOND FORM's CARD OF 'weaverlaw04.TapeBegins'. -/
def tapeBeginsUptoCard : Claim7 := { stood := { row := tapeBeginsUptoRow, standIns := [], harness := (true, "c32a593b49b25571fd5c4b0e504ef348bfa23d31b50fb3c0ec18897f16fe26a3"), looks := true }, kinds := [], alts := [], laidByText := true, laidKinds := [.data], laidTests := true, laidLooks := .later }
def TapeBeginsUptoCardSaid : Prop := Claim7.holds Tryd.pinned (.plain (OpenSpec.upto tapeBeginsSpec)) tapeBeginsUptoCard

/-- THE SECOND FORM's CARD OF 'weaverlaw04.TapeRots'. -/
def tapeRotsUptoCard : Claim7 := { stood := { row := tapeRotsUptoRow, standIns := [], harness := (true, "c32a593b49b25571fd5c4b0e504ef348bfa23d31b50fb3c0ec18897f16fe26a3"), looks := true }, kinds := [], alts := [], laidByText := true, laidKinds := [.data], laidTests := true, laidLooks := .later }
def TapeRotsUptoCardSaid : Prop := Claim7.holds Tryd.pinned (.plain (OpenSpec.upto tapeRotsSpec)) tapeRotsUptoCard

/-- THE SECOND FORM's CARD OF 'weaverlaw04.TapeApart'. -/
def tapeApartUptoCard : Claim7 := { stood := { row := tapeApartUptoRow, standIns := [], harness := (true, "c32a593b49b25571fd5c4b0e504ef348bfa23d31b50fb3c0ec18897f16fe26a3"), looks := true }, kinds := [], alts := [], laidByText := true, laidKinds := [.data], laidTests := true, laidLooks := .later }
def TapeApartUptoCardSaid : Prop := Claim7.holds Tryd.pinned (.plain (OpenSpec.upto tapeApartSpec)) tapeApartUptoCard
end Rows
end Go.Proofs.YtllkkflolijpaaaDoor
