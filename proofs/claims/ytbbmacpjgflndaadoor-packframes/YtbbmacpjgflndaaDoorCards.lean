/-
  DERIVED. GIVEN WITH THE SEED: THE CARDS: each row of YtbbmacpjgflndaaDoorRows.lean that lists a variable, with what it lists TIED to the program's text (the seventh form; the later family's looks); each row that meets fmt, with fmt's text TOLD by the authors' own Lean function (tested against real Go, not proved from fmt's source: count such statements apart). THE CARD IS WHAT COUNTS. Prove the row's statement (the work); the ties are given (YtbbmacpjgflndaaDoorTie.lean); close each card by the builder's one call (the guide's Derived/Test/ToyasCard.lean, 'card_holds'). Laid BY PROGRAM, IN A SANDBOX (cutbox-door.mjs). By AI agents, Wed Nov 11 2026. No macro, syntax, notation, axiom, sorry.
-/
import Derived.Test.YtbbmacpjgflndaaDoorRows
import GoSem.ClaimSeven
namespace Go.Proofs.YtbbmacpjgflndaaDoor
namespace Rows

/-- THE TIED CARD OF 'weaverlaw01.PackLists'. -/
def packListsCard : Claim7 := { stood := { row := packListsRow, standIns := [], harness := (true, "b96f447e837d1b05364be012db2263a531e9e9f7ba3e9d0045df7a72908a0d6b"), looks := false }, kinds := [], alts := [], laidByText := true, laidKinds := [.data], laidTests := true, laidLooks := .later }
def PackListsCardSaid : Prop := Claim7.holds Tryd.pinned (.plain (OpenSpec.ofChange packListsSpec)) packListsCard

/-- THE TIED CARD OF 'weaverlaw01.PackFrames'. -/
def packFramesCard : Claim7 := { stood := { row := packFramesRow, standIns := [], harness := (true, "b96f447e837d1b05364be012db2263a531e9e9f7ba3e9d0045df7a72908a0d6b"), looks := false }, kinds := [], alts := [], laidByText := true, laidKinds := [.data], laidTests := true, laidLooks := .later }
def PackFramesCardSaid : Prop := Claim7.holds Tryd.pinned (.plain (OpenSpec.ofChange packFramesSpec)) packFramesCard

/-- THE TIED CARD OF 'weaverlaw01.PackBack'. -/
def packBackCard : Claim7 := { stood := { row := packBackRow, standIns := [], harness := (true, "b96f447e837d1b05364be012db2263a531e9e9f7ba3e9d0045df7a72908a0d6b"), looks := false }, kinds := [], alts := [], laidByText := true, laidKinds := [.data], laidTests := true, laidLooks := .later }
def PackBackCardSaid : Prop := Claim7.holds Tryd.pinned (.plain (OpenSpec.ofChange packBackSpec)) packBackCard

/-- THE TIED CARD OF 'weaverlaw01.PackJoins'. -/
def packJoinsCard : Claim7 := { stood := { row := packJoinsRow, standIns := [], harness := (true, "b96f447e837d1b05364be012db2263a531e9e9f7ba3e9d0045df7a72908a0d6b"), looks := false }, kinds := [], alts := [], laidByText := true, laidKinds := [.data], laidTests := true, laidLooks := .later }
def PackJoinsCardSaid : Prop := Claim7.holds Tryd.pinned (.plain (OpenSpec.ofChange packJoinsSpec)) packJoinsCard

/-- THE TIED CARD OF 'weaverlaw01.PackFound'. -/
def packFoundCard : Claim7 := { stood := { row := packFoundRow, standIns := [], harness := (true, "b96f447e837d1b05364be012db2263a531e9e9f7ba3e9d0045df7a72908a0d6b"), looks := false }, kinds := [], alts := [], laidByText := true, laidKinds := [.data], laidTests := true, laidLooks := .later }
def PackFoundCardSaid : Prop := Claim7.holds Tryd.pinned (.plain (OpenSpec.ofChange packFoundSpec)) packFoundCard

/-- THE TIED CARD OF 'weaverlaw01.PackTorn'. -/
def packTornCard : Claim7 := { stood := { row := packTornRow, standIns := [], harness := (true, "b96f447e837d1b05364be012db2263a531e9e9f7ba3e9d0045df7a72908a0d6b"), looks := false }, kinds := [], alts := [], laidByText := true, laidKinds := [.data], laidTests := true, laidLooks := .later }
def PackTornCardSaid : Prop := Claim7.holds Tryd.pinned (.plain (OpenSpec.ofChange packTornSpec)) packTornCard

/-- THE SECOND FORM's CARD OF 'weaverlaw01.PackLists'. -/
def packListsUptoCard : Claim7 := { stood := { row := packListsUptoRow, standIns := [], harness := (true, "b96f447e837d1b05364be012db2263a531e9e9f7ba3e9d0045df7a72908a0d6b"), looks := false }, kinds := [], alts := [], laidByText := true, laidKinds := [.data], laidTests := true, laidLooks := .later }
def PackListsUptoCardSaid : Prop := Claim7.holds Tryd.pinned (.plain (OpenSpec.upto packListsSpec)) packListsUptoCard

/-- THE SECOND FORM's CARD OF 'weaverlaw01.PackFrames'. -/
def packFramesUptoCard : Claim7 := { stood := { row := packFramesUptoRow, standIns := [], harness := (true, "b96f447e837d1b05364be012db2263a531e9e9f7ba3e9d0045df7a72908a0d6b"), looks := false }, kinds := [], alts := [], laidByText := true, laidKinds := [.data], laidTests := true, laidLooks := .later }
def PackFramesUptoCardSaid : Prop := Claim7.holds Tryd.pinned (.plain (OpenSpec.upto packFramesSpec)) packFramesUptoCard

/-- THE SECOND FORM's CARD OF 'weaverlaw01.PackBack'. -/
def packBackUptoCard : Claim7 := { stood := { row := packBackUptoRow, standIns := [], harness := (true, "b96f447e837d1b05364be012db2263a531e9e9f7ba3e9d0045df7a72908a0d6b"), looks := false }, kinds := [], alts := [], laidByText := true, laidKinds := [.data], laidTests := true, laidLooks := .later }
def PackBackUptoCardSaid : Prop := Claim7.holds Tryd.pinned (.plain (OpenSpec.upto packBackSpec)) packBackUptoCard

/-- THE SECOND FORM's CARD OF 'weaverlaw01.PackJoins'. -/
def packJoinsUptoCard : Claim7 := { stood := { row := packJoinsUptoRow, standIns := [], harness := (true, "b96f447e837d1b05364be012db2263a531e9e9f7ba3e9d0045df7a72908a0d6b"), looks := false }, kinds := [], alts := [], laidByText := true, laidKinds := [.data], laidTests := true, laidLooks := .later }
def PackJoinsUptoCardSaid : Prop := Claim7.holds Tryd.pinned (.plain (OpenSpec.upto packJoinsSpec)) packJoinsUptoCard

/-- THE SECOND FORM's CARD OF 'weaverlaw01.PackFound'. -/
def packFoundUptoCard : Claim7 := { stood := { row := packFoundUptoRow, standIns := [], harness := (true, "b96f447e837d1b05364be012db2263a531e9e9f7ba3e9d0045df7a72908a0d6b"), looks := false }, kinds := [], alts := [], laidByText := true, laidKinds := [.data], laidTests := true, laidLooks := .later }
def PackFoundUptoCardSaid : Prop := Claim7.holds Tryd.pinned (.plain (OpenSpec.upto packFoundSpec)) packFoundUptoCard

/-- THE SECOND FORM's CARD OF 'weaverlaw01.PackTorn'. -/
def packTornUptoCard : Claim7 := { stood := { row := packTornUptoRow, standIns := [], harness := (true, "b96f447e837d1b05364be012db2263a531e9e9f7ba3e9d0045df7a72908a0d6b"), looks := false }, kinds := [], alts := [], laidByText := true, laidKinds := [.data], laidTests := true, laidLooks := .later }
def PackTornUptoCardSaid : Prop := Claim7.holds Tryd.pinned (.plain (OpenSpec.upto packTornSpec)) packTornUptoCard
end Rows
end Go.Proofs.YtbbmacpjgflndaaDoor
