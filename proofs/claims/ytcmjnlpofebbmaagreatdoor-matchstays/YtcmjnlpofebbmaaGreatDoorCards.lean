/-
  DERIVED. GIVEN WITH THE SEED: THE CARDS: each row of YtcmjnlpofebbmaaGreatDoorRows.lean that lists a variable, with what it lists TIED to the program's text (the seventh form; the later family's looks); each row that meets fmt, with fmt's text TOLD by the authors' own Lean function (tested against real Go, not proved from fmt's source: count such statements apart). THE CARD IS WHAT COUNTS. Prove the row's statement (the work); the ties are given (YtcmjnlpofebbmaaGreatDoorTie.lean); close each card by the builder's one call (the guide's Derived/Test/ToyasCard.lean, 'card_holds'). Laid BY PROGRAM, IN A SANDBOX (cutbox-door.mjs). By AI agents, Wed Nov 11 2026. No macro, syntax, notation, axiom, sorry.
-/
import Derived.Test.YtcmjnlpofebbmaaGreatDoorRows
import GoSem.ClaimSeven
namespace Go.Proofs.YtcmjnlpofebbmaaGreatDoor
namespace Rows

/-- THE TIED CARD OF 'weaverlaw14.MatchStays'. -/
def matchStaysCard : Claim7 := { stood := { row := matchStaysRow, standIns := [], harness := (true, "c9c9151c1c038af41a74903e13b8e8dd2ed5e27068bcb1ba5d6ce766c28d739a"), looks := true }, kinds := [], alts := [], laidByText := true, laidKinds := [.data, .data, .data, .sentinel, .sentinel, .data, .data], laidTests := true, laidLooks := .later }
def MatchStaysCardSaid : Prop := Claim7.holds Tryz.pinned (.plain (OpenSpec.ofChange matchStaysSpec)) matchStaysCard

/-- THE SECOND FORM's CARD OF 'weaverlaw14.MatchStays'. -/
def matchStaysUptoCard : Claim7 := { stood := { row := matchStaysUptoRow, standIns := [], harness := (true, "c9c9151c1c038af41a74903e13b8e8dd2ed5e27068bcb1ba5d6ce766c28d739a"), looks := true }, kinds := [], alts := [], laidByText := true, laidKinds := [.data, .data, .data, .sentinel, .sentinel, .data, .data], laidTests := true, laidLooks := .later }
def MatchStaysUptoCardSaid : Prop := Claim7.holds Tryz.pinned (.plain (OpenSpec.upto matchStaysSpec)) matchStaysUptoCard
end Rows
end Go.Proofs.YtcmjnlpofebbmaaGreatDoor
