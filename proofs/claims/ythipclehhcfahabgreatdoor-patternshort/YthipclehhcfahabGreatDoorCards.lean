/-
  DERIVED. GIVEN WITH THE SEED: THE CARDS: each row of YthipclehhcfahabGreatDoorRows.lean that lists a variable, with what it lists TIED to the program's text (the seventh form; the later family's looks); each row that meets fmt, with fmt's text TOLD by the authors' own Lean function (tested against real Go, not proved from fmt's source: count such statements apart). THE CARD IS WHAT COUNTS. Prove the row's statement (the work); the ties are given (YthipclehhcfahabGreatDoorTie.lean); close each card by the builder's one call (the guide's Derived/Test/ToyasCard.lean, 'card_holds'). Laid BY PROGRAM, IN A SANDBOX (cutbox-door.mjs). By AI agents, Wed Nov 11 2026. No macro, syntax, notation, axiom, sorry.
-/
import Derived.Test.YthipclehhcfahabGreatDoorRows
import GoSem.ClaimSeven
namespace Go.Proofs.YthipclehhcfahabGreatDoor
namespace Rows

/-- THE TIED CARD OF 'weaverlaw11.ExprBinds'. -/
def exprBindsCard : Claim7 := { stood := { row := exprBindsRow, standIns := [], harness := (true, "5c555a78f251fb0e3f162ccaa9535a37f07d9a08eb5bfc2677f353283bd35554"), looks := true }, kinds := [], alts := [], laidByText := true, laidKinds := [.data, .data, .data, .sentinel, .sentinel, .data, .data], laidTests := true, laidLooks := .later }
def ExprBindsCardSaid : Prop := Claim7.holds Tryz.pinned (.plain (OpenSpec.ofChange exprBindsSpec)) exprBindsCard

/-- THE TIED CARD OF 'weaverlaw12.PatternReads'. -/
def patternReadsCard : Claim7 := { stood := { row := patternReadsRow, standIns := [], harness := (true, "5c555a78f251fb0e3f162ccaa9535a37f07d9a08eb5bfc2677f353283bd35554"), looks := true }, kinds := [], alts := [], laidByText := true, laidKinds := [.data, .data, .data, .sentinel, .sentinel, .data, .data, .data], laidTests := true, laidLooks := .later }
def PatternReadsCardSaid : Prop := Claim7.holds Tryz.pinned (.plain (OpenSpec.ofChange patternReadsSpec)) patternReadsCard

/-- THE TIED CARD OF 'weaverlaw12.PatternChecks'. -/
def patternChecksCard : Claim7 := { stood := { row := patternChecksRow, standIns := [], harness := (true, "5c555a78f251fb0e3f162ccaa9535a37f07d9a08eb5bfc2677f353283bd35554"), looks := true }, kinds := [], alts := [], laidByText := true, laidKinds := [.data, .data, .data, .sentinel, .sentinel, .data, .data, .data], laidTests := true, laidLooks := .later }
def PatternChecksCardSaid : Prop := Claim7.holds Tryz.pinned (.plain (OpenSpec.ofChange patternChecksSpec)) patternChecksCard

/-- THE TIED CARD OF 'weaverlaw12.PatternBack'. -/
def patternBackCard : Claim7 := { stood := { row := patternBackRow, standIns := [], harness := (true, "5c555a78f251fb0e3f162ccaa9535a37f07d9a08eb5bfc2677f353283bd35554"), looks := true }, kinds := [], alts := [], laidByText := true, laidKinds := [.data, .data, .data, .sentinel, .sentinel, .data, .data, .data], laidTests := true, laidLooks := .later }
def PatternBackCardSaid : Prop := Claim7.holds Tryz.pinned (.plain (OpenSpec.ofChange patternBackSpec)) patternBackCard

/-- THE TIED CARD OF 'weaverlaw12.PatternAsks'. -/
def patternAsksCard : Claim7 := { stood := { row := patternAsksRow, standIns := [], harness := (true, "5c555a78f251fb0e3f162ccaa9535a37f07d9a08eb5bfc2677f353283bd35554"), looks := true }, kinds := [], alts := [], laidByText := true, laidKinds := [.data, .data, .data, .sentinel, .sentinel, .data, .data, .data], laidTests := true, laidLooks := .later }
def PatternAsksCardSaid : Prop := Claim7.holds Tryz.pinned (.plain (OpenSpec.ofChange patternAsksSpec)) patternAsksCard

/-- THE TIED CARD OF 'weaverlaw12.PatternShort'. -/
def patternShortCard : Claim7 := { stood := { row := patternShortRow, standIns := [], harness := (true, "5c555a78f251fb0e3f162ccaa9535a37f07d9a08eb5bfc2677f353283bd35554"), looks := true }, kinds := [], alts := [], laidByText := true, laidKinds := [.data, .data, .data, .sentinel, .sentinel, .data, .data, .data], laidTests := true, laidLooks := .later }
def PatternShortCardSaid : Prop := Claim7.holds Tryz.pinned (.plain (OpenSpec.ofChange patternShortSpec)) patternShortCard

/-- THE SECOND FORM's CARD OF 'weaverlaw11.ExprBinds'. -/
def exprBindsUptoCard : Claim7 := { stood := { row := exprBindsUptoRow, standIns := [], harness := (true, "5c555a78f251fb0e3f162ccaa9535a37f07d9a08eb5bfc2677f353283bd35554"), looks := true }, kinds := [], alts := [], laidByText := true, laidKinds := [.data, .data, .data, .sentinel, .sentinel, .data, .data], laidTests := true, laidLooks := .later }
def ExprBindsUptoCardSaid : Prop := Claim7.holds Tryz.pinned (.plain (OpenSpec.upto exprBindsSpec)) exprBindsUptoCard

/-- THE SECOND FORM's CARD OF 'weaverlaw12.PatternReads'. -/
def patternReadsUptoCard : Claim7 := { stood := { row := patternReadsUptoRow, standIns := [], harness := (true, "5c555a78f251fb0e3f162ccaa9535a37f07d9a08eb5bfc2677f353283bd35554"), looks := true }, kinds := [], alts := [], laidByText := true, laidKinds := [.data, .data, .data, .sentinel, .sentinel, .data, .data, .data], laidTests := true, laidLooks := .later }
def PatternReadsUptoCardSaid : Prop := Claim7.holds Tryz.pinned (.plain (OpenSpec.upto patternReadsSpec)) patternReadsUptoCard

/-- THE SECOND FORM's CARD OF 'weaverlaw12.PatternChecks'. -/
def patternChecksUptoCard : Claim7 := { stood := { row := patternChecksUptoRow, standIns := [], harness := (true, "5c555a78f251fb0e3f162ccaa9535a37f07d9a08eb5bfc2677f353283bd35554"), looks := true }, kinds := [], alts := [], laidByText := true, laidKinds := [.data, .data, .data, .sentinel, .sentinel, .data, .data, .data], laidTests := true, laidLooks := .later }
def PatternChecksUptoCardSaid : Prop := Claim7.holds Tryz.pinned (.plain (OpenSpec.upto patternChecksSpec)) patternChecksUptoCard

/-- THE SECOND FORM's CARD OF 'weaverlaw12.PatternBack'. -/
def patternBackUptoCard : Claim7 := { stood := { row := patternBackUptoRow, standIns := [], harness := (true, "5c555a78f251fb0e3f162ccaa9535a37f07d9a08eb5bfc2677f353283bd35554"), looks := true }, kinds := [], alts := [], laidByText := true, laidKinds := [.data, .data, .data, .sentinel, .sentinel, .data, .data, .data], laidTests := true, laidLooks := .later }
def PatternBackUptoCardSaid : Prop := Claim7.holds Tryz.pinned (.plain (OpenSpec.upto patternBackSpec)) patternBackUptoCard

/-- THE SECOND FORM's CARD OF 'weaverlaw12.PatternAsks'. -/
def patternAsksUptoCard : Claim7 := { stood := { row := patternAsksUptoRow, standIns := [], harness := (true, "5c555a78f251fb0e3f162ccaa9535a37f07d9a08eb5bfc2677f353283bd35554"), looks := true }, kinds := [], alts := [], laidByText := true, laidKinds := [.data, .data, .data, .sentinel, .sentinel, .data, .data, .data], laidTests := true, laidLooks := .later }
def PatternAsksUptoCardSaid : Prop := Claim7.holds Tryz.pinned (.plain (OpenSpec.upto patternAsksSpec)) patternAsksUptoCard

/-- THE SECOND FORM's CARD OF 'weaverlaw12.PatternShort'. -/
def patternShortUptoCard : Claim7 := { stood := { row := patternShortUptoRow, standIns := [], harness := (true, "5c555a78f251fb0e3f162ccaa9535a37f07d9a08eb5bfc2677f353283bd35554"), looks := true }, kinds := [], alts := [], laidByText := true, laidKinds := [.data, .data, .data, .sentinel, .sentinel, .data, .data, .data], laidTests := true, laidLooks := .later }
def PatternShortUptoCardSaid : Prop := Claim7.holds Tryz.pinned (.plain (OpenSpec.upto patternShortSpec)) patternShortUptoCard
end Rows
end Go.Proofs.YthipclehhcfahabGreatDoor
