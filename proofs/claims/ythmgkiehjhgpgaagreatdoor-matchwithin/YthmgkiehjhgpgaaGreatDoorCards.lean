/-
  DERIVED. GIVEN WITH THE SEED: THE CARDS: each row of YthmgkiehjhgpgaaGreatDoorRows.lean that lists a variable, with what it lists TIED to the program's text (the seventh form; the later family's looks); each row that meets fmt, with fmt's text TOLD by the authors' own Lean function (tested against real Go, not proved from fmt's source: count such statements apart). THE CARD IS WHAT COUNTS. Prove the row's statement (the work); the ties are given (YthmgkiehjhgpgaaGreatDoorTie.lean); close each card by the builder's one call (the guide's Derived/Test/ToyasCard.lean, 'card_holds'). Laid BY PROGRAM, IN A SANDBOX (cutbox-door.mjs). By AI agents, Wed Nov 11 2026. No macro, syntax, notation, axiom, sorry.
-/
import Derived.Test.YthmgkiehjhgpgaaGreatDoorRows
import GoSem.ClaimSeven
namespace Go.Proofs.YthmgkiehjhgpgaaGreatDoor
namespace Rows

/-- THE TIED CARD OF 'weaverlaw14.MatchWithin'. -/
def matchWithinCard : Claim7 := { stood := { row := matchWithinRow, standIns := [], harness := (true, "9f71bdafe486e097358b77f5309a78c49ee3b5136be5595ad86e7736eca465b8"), looks := true }, kinds := [], alts := [], laidByText := true, laidKinds := [.data, .data, .data, .sentinel, .sentinel, .data, .data], laidTests := true, laidLooks := .later }
def MatchWithinCardSaid : Prop := Claim7.holds Tryz.pinned (.plain (OpenSpec.ofChange matchWithinSpec)) matchWithinCard

/-- THE SECOND FORM's CARD OF 'weaverlaw14.MatchWithin'. -/
def matchWithinUptoCard : Claim7 := { stood := { row := matchWithinUptoRow, standIns := [], harness := (true, "9f71bdafe486e097358b77f5309a78c49ee3b5136be5595ad86e7736eca465b8"), looks := true }, kinds := [], alts := [], laidByText := true, laidKinds := [.data, .data, .data, .sentinel, .sentinel, .data, .data], laidTests := true, laidLooks := .later }
def MatchWithinUptoCardSaid : Prop := Claim7.holds Tryz.pinned (.plain (OpenSpec.upto matchWithinSpec)) matchWithinUptoCard
end Rows
end Go.Proofs.YthmgkiehjhgpgaaGreatDoor
