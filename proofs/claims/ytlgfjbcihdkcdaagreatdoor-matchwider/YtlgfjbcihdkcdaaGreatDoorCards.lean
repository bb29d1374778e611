/-
  DERIVED. GIVEN WITH THE SEED: THE CARDS: each row of YtlgfjbcihdkcdaaGreatDoorRows.lean that lists a variable, with what it lists TIED to the program's text (the seventh form; the later family's looks); each row that meets fmt, with fmt's text TOLD by the authors' own Lean function (tested against real Go, not proved from fmt's source: count such statements apart). THE CARD IS WHAT COUNTS. Prove the row's statement (the work); the ties are given (YtlgfjbcihdkcdaaGreatDoorTie.lean); close each card by the builder's one call (the guide's Derived/Test/ToyasCard.lean, 'card_holds'). Laid BY PROGRAM, IN A SANDBOX (cutbox-door.mjs). By AI agents, Wed Nov 11 2026. No macro, syntax, notation, axiom, sorry.
-/
import Derived.Test.YtlgfjbcihdkcdaaGreatDoorRows
import GoSem.ClaimSeven
namespace Go.Proofs.YtlgfjbcihdkcdaaGreatDoor
namespace Rows

/-- THE TIED CARD OF 'weaverlaw14.MatchWider'. -/
def matchWiderCard : Claim7 := { stood := { row := matchWiderRow, standIns := [], harness := (true, "98ae1c8ee707bc4d7f87ccbc17cf4ff2ad868744fc8cb57327c9e97b78f2d52a"), looks := true }, kinds := [], alts := [], laidByText := true, laidKinds := [.data, .data, .data, .sentinel, .sentinel, .data, .data], laidTests := true, laidLooks := .later }
def MatchWiderCardSaid : Prop := Claim7.holds Tryz.pinned (.plain (OpenSpec.ofChange matchWiderSpec)) matchWiderCard

/-- THE SECOND FORM's CARD OF 'weaverlaw14.MatchWider'. -/
def matchWiderUptoCard : Claim7 := { stood := { row := matchWiderUptoRow, standIns := [], harness := (true, "98ae1c8ee707bc4d7f87ccbc17cf4ff2ad868744fc8cb57327c9e97b78f2d52a"), looks := true }, kinds := [], alts := [], laidByText := true, laidKinds := [.data, .data, .data, .sentinel, .sentinel, .data, .data], laidTests := true, laidLooks := .later }
def MatchWiderUptoCardSaid : Prop := Claim7.holds Tryz.pinned (.plain (OpenSpec.upto matchWiderSpec)) matchWiderUptoCard
end Rows
end Go.Proofs.YtlgfjbcihdkcdaaGreatDoor
