/-
  DERIVED. GIVEN WITH THE SEED: THE CARDS: each row of YtijckimjcogfjaaDoorRows.lean that lists a variable, with what it lists TIED to the program's text (the seventh form; the later family's looks); each row that meets fmt, with fmt's text TOLD by the authors' own Lean function (tested against real Go, not proved from fmt's source: count such statements apart). THE CARD IS WHAT COUNTS. Prove the row's statement (the work); the ties are given (YtijckimjcogfjaaDoorTie.lean); close each card by the builder's one call (the guide's Derived/Test/ToyasCard.lean, 'card_holds'). Laid BY PROGRAM, IN A SANDBOX (cutbox-door.mjs). By AI agents, Wed Nov 11 2026. No macro, syntax, notation, axiom, sorry.
-/
import Derived.Test.YtijckimjcogfjaaDoorRows
import GoSem.ClaimSeven
namespace Go.Proofs.YtijckimjcogfjaaDoor
namespace Rows

/-- THE TIED CARD OF 'weaverlaw01.PackLists'. -/
def packListsCard : Claim7 := { stood := { row := packListsRow, standIns := [], harness := (true, "5af4361f16181685d5b0df9b64a843e9323b7b39a3ace624455f5df2860dbf36"), looks := false }, kinds := [], alts := [], laidByText := true, laidKinds := [.data], laidTests := true, laidLooks := .later }
def PackListsCardSaid : Prop := Claim7.holds Tryd.pinned (.plain (OpenSpec.ofChange packListsSpec)) packListsCard

/-- THE SECOND FORM's CARD OF 'weaverlaw01.PackLists'. -/
def packListsUptoCard : Claim7 := { stood := { row := packListsUptoRow, standIns := [], harness := (true, "5af4361f16181685d5b0df9b64a843e9323b7b39a3ace624455f5df2860dbf36"), looks := false }, kinds := [], alts := [], laidByText := true, laidKinds := [.data], laidTests := true, laidLooks := .later }
def PackListsUptoCardSaid : Prop := Claim7.holds Tryd.pinned (.plain (OpenSpec.upto packListsSpec)) packListsUptoCard
end Rows
end Go.Proofs.YtijckimjcogfjaaDoor
