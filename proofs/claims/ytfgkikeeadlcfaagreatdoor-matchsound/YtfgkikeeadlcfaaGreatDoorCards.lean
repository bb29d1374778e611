/-
  DERIVED. GIVEN WITH THE SEED: THE CARDS: each row of YtfgkikeeadlcfaaGreatDoorRows.lean that lists a variable, with what it lists TIED to the program's text (the seventh form; the later family's looks); each row that meets fmt, with fmt's text TOLD by the authors' own Lean function (tested against real Go, not proved from fmt's source: count such statements apart). THE CARD IS WHAT COUNTS. Prove the row's statement (the work); the ties are given (YtfgkikeeadlcfaaGreatDoorTie.lean); close each card by the builder's one call (the guide's Derived/Test/ToyasCard.lean, 'card_holds'). Laid BY PROGRAM, IN A SANDBOX (cutbox-door.mjs). By AI agents, Wed Nov 11 2026. No macro, syntax, notation, axiom, sorry.
-/
import Derived.Test.YtfgkikeeadlcfaaGreatDoorRows
import GoSem.ClaimSeven
namespace Go.Proofs.YtfgkikeeadlcfaaGreatDoor
namespace Rows

/-- THE TIED CARD OF 'weaverlaw14.MatchSound'. -/
def matchSoundCard : Claim7 := { stood := { row := matchSoundRow, standIns := [], harness := (true, "133067ef4c7e3b73bf8e6c88f5d483316e2061411d6a30fed01f76fb00aeeb99"), looks := true }, kinds := [], alts := [], laidByText := true, laidKinds := [.data, .data, .data, .sentinel, .sentinel, .data, .data], laidTests := true, laidLooks := .later }
def MatchSoundCardSaid : Prop := Claim7.holds Tryz.pinned (.plain (OpenSpec.ofChange matchSoundSpec)) matchSoundCard

/-- THE SECOND FORM's CARD OF 'weaverlaw14.MatchSound'. -/
def matchSoundUptoCard : Claim7 := { stood := { row := matchSoundUptoRow, standIns := [], harness := (true, "133067ef4c7e3b73bf8e6c88f5d483316e2061411d6a30fed01f76fb00aeeb99"), looks := true }, kinds := [], alts := [], laidByText := true, laidKinds := [.data, .data, .data, .sentinel, .sentinel, .data, .data], laidTests := true, laidLooks := .later }
def MatchSoundUptoCardSaid : Prop := Claim7.holds Tryz.pinned (.plain (OpenSpec.upto matchSoundSpec)) matchSoundUptoCard
end Rows
end Go.Proofs.YtfgkikeeadlcfaaGreatDoor
