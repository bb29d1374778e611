/-
  DERIVED. GIVEN WITH THE SEED: THE CARDS: each row of YtaklhcidojhnfaaGreatDoorRows.lean that lists a variable, with what it lists TIED to the program's text (the seventh form; the later family's looks); each row that meets fmt, with fmt's text TOLD by the authors' own Lean function (tested against real Go, not proved from fmt's source: count such statements apart). THE CARD IS WHAT COUNTS. Prove the row's statement (the work); the ties are given (YtaklhcidojhnfaaGreatDoorTie.lean); close each card by the builder's one call (the guide's Derived/Test/ToyasCard.lean, 'card_holds'). Laid BY PROGRAM, IN A SANDBOX (cutbox-door.mjs). By AI agents, Wed Nov 11 2026. No macro, syntax, notation, axiom, sorry.
-/
import Derived.Test.YtaklhcidojhnfaaGreatDoorRows
import GoSem.ClaimSeven
namespace Go.Proofs.YtaklhcidojhnfaaGreatDoor
namespace Rows

/-- THE TIED CARD OF 'weaverlaw14.MatchOnes'. -/
def matchOnesCard : Claim7 := { stood := { row := matchOnesRow, standIns := [], harness := (true, "daf2621d8769ce67106d9c517fdb0086714fb0b65ad81d28a9726dc2d18abbb2"), looks := true }, kinds := [], alts := [], laidByText := true, laidKinds := [.data, .data, .data, .sentinel, .sentinel, .data, .data], laidTests := true, laidLooks := .later }
def MatchOnesCardSaid : Prop := Claim7.holds Tryz.pinned (.plain (OpenSpec.ofChange matchOnesSpec)) matchOnesCard

/-- THE SECOND FORM's CARD OF 'weaverlaw14.MatchOnes'. -/
def matchOnesUptoCard : Claim7 := { stood := { row := matchOnesUptoRow, standIns := [], harness := (true, "daf2621d8769ce67106d9c517fdb0086714fb0b65ad81d28a9726dc2d18abbb2"), looks := true }, kinds := [], alts := [], laidByText := true, laidKinds := [.data, .data, .data, .sentinel, .sentinel, .data, .data], laidTests := true, laidLooks := .later }
def MatchOnesUptoCardSaid : Prop := Claim7.holds Tryz.pinned (.plain (OpenSpec.upto matchOnesSpec)) matchOnesUptoCard
end Rows
end Go.Proofs.YtaklhcidojhnfaaGreatDoor
