/-
  DERIVED. GIVEN WITH THE SEED: THE CARDS: each row of YtogklmljllocbabGreatDoorRows.lean that lists a variable, with what it lists TIED to the program's text (the seventh form; the later family's looks); each row that meets fmt, with fmt's text TOLD by the authors' own Lean function (tested against real Go, not proved from fmt's source: count such statements apart). THE CARD IS WHAT COUNTS. Prove the row's statement (the work); the ties are given (YtogklmljllocbabGreatDoorTie.lean); close each card by the builder's one call (the guide's Derived/Test/ToyasCard.lean, 'card_holds'). Laid BY PROGRAM, IN A SANDBOX (cutbox-door.mjs). By AI agents, Wed Nov 11 2026. No macro, syntax, notation, axiom, sorry.
-/
import Derived.Test.YtogklmljllocbabGreatDoorRows
import GoSem.ClaimSeven
namespace Go.Proofs.YtogklmljllocbabGreatDoor
namespace Rows

/-- THE TIED CARD OF 'weaverlaw14.MatchOnes'. -/
def matchOnesCard : Claim7 := { stood := { row := matchOnesRow, standIns := [], harness := (true, "91c92dd80c89af4542f93597b34669ade46bcce37b88265ac48c011ee20d59b2"), looks := true }, kinds := [], alts := [], laidByText := true, laidKinds := [.data, .data, .data, .sentinel, .sentinel, .data, .data], laidTests := true, laidLooks := .later }
def MatchOnesCardSaid : Prop := Claim7.holds Tryz.pinned (.plain (OpenSpec.ofChange matchOnesSpec)) matchOnesCard

/-- THE TIED CARD OF 'weaverlaw12.PatternReads'. -/
def patternReadsCard : Claim7 := { stood := { row := patternReadsRow, standIns := [], harness := (true, "91c92dd80c89af4542f93597b34669ade46bcce37b88265ac48c011ee20d59b2"), looks := true }, kinds := [], alts := [], laidByText := true, laidKinds := [.data, .data, .data, .sentinel, .sentinel, .data, .data, .data], laidTests := true, laidLooks := .later }
def PatternReadsCardSaid : Prop := Claim7.holds Tryz.pinned (.plain (OpenSpec.ofChange patternReadsSpec)) patternReadsCard

/-- THE TIED CARD OF 'weaverlaw11.ExprNeeds'. -/
def exprNeedsCard : Claim7 := { stood := { row := exprNeedsRow, standIns := [], harness := (true, "91c92dd80c89af4542f93597b34669ade46bcce37b88265ac48c011ee20d59b2"), looks := true }, kinds := [], alts := [], laidByText := true, laidKinds := [.data, .data, .data, .sentinel, .sentinel, .data, .data], laidTests := true, laidLooks := .later }
def ExprNeedsCardSaid : Prop := Claim7.holds Tryz.pinned (.plain (OpenSpec.ofChange exprNeedsSpec)) exprNeedsCard

/-- THE SECOND FORM's CARD OF 'weaverlaw14.MatchOnes'. -/
def matchOnesUptoCard : Claim7 := { stood := { row := matchOnesUptoRow, standIns := [], harness := (true, "91c92dd80c89af4542f93597b34669ade46bcce37b88265ac48c011ee20d59b2"), looks := true }, kinds := [], alts := [], laidByText := true, laidKinds := [.data, .data, .data, .sentinel, .sentinel, .data, .data], laidTests := true, laidLooks := .later }
def MatchOnesUptoCardSaid : Prop := Claim7.holds Tryz.pinned (.plain (OpenSpec.upto matchOnesSpec)) matchOnesUptoCard

/-- THE SECOND FORM's CARD OF 'weaverlaw12.PatternReads'. -/
def patternReadsUptoCard : Claim7 := { stood := { row := patternReadsUptoRow, standIns := [], harness := (true, "91c92dd80c89af4542f93597b34669ade46bcce37b88265ac48c011ee20d59b2"), looks := true }, kinds := [], alts := [], laidByText := true, laidKinds := [.data, .data, .data, .sentinel, .sentinel, .data, .data, .data], laidTests := true, laidLooks := .later }
def PatternReadsUptoCardSaid : Prop := Claim7.holds Tryz.pinned (.plain (OpenSpec.upto patternReadsSpec)) patternReadsUptoCard

/-- THE SECOND FORM's CARD OF 'weaverlaw11.ExprNeeds'. -/
def exprNeedsUptoCard : Claim7 := { stood := { row := exprNeedsUptoRow, standIns := [], harness := (true, "91c92dd80c89af4542f93597b34669ade46bcce37b88265ac48c011ee20d59b2"), looks := true }, kinds := [], alts := [], laidByText := true, laidKinds := [.data, .data, .data, .sentinel, .sentinel, .data, .data], laidTests := true, laidLooks := .later }
def ExprNeedsUptoCardSaid : Prop := Claim7.holds Tryz.pinned (.plain (OpenSpec.upto exprNeedsSpec)) exprNeedsUptoCard
end Rows
end Go.Proofs.YtogklmljllocbabGreatDoor
