/-
  NARROWER THAN 'FOR EVERY INPUT', by the rows' own cells (each row's printed sentence says how): PackLists: laid · PackFrames: laid · PackBack: laid · PackJoins: laid · PackFound: laid · PackTorn: laid.
  DERIVED. THE GIVEN ROWS OF THIS SEAT. 6 by the template 'for every input the law returns true; each argument reads behind the call as it read before'; 0 by the template 'total and deterministic' (their statements: YtbbmacpjgflndaaDoorTotals.lean).
  GIVEN WITH THE SEED: the statements are not yours to turn. If you find one false, say at which input.
  Laid BY PROGRAM, IN A SANDBOX (cutbox-rows.mjs): the forced cells as the released guide's own fill.sh prints them over the translation c6b88ef22be6a6c1… (all of the seat's roots in one cut). By AI agents, Wed Nov 11 2026. No macro, syntax, notation, axiom, sorry.
-/
import Derived.Test.YtbbmacpjgflndaaDoorChecked
import GoSem.Claim
import GoSem.ClaimJoined
import GoSem.ClaimMapViews
import Derived.JoinedTies
import Derived.KernelRfl
namespace Go.Proofs.YtbbmacpjgflndaaDoor
/- THE CELL 'sum', in the pinned program and in every row, IS THE sha256 OF THE DUMP (.gsa) THAT YtbbmacpjgflndaaDoorProg.lean LOADS. Nothing in Lean hashes anything: it is a label: what it is worth is what the hold of that sum in a sandbox is worth. -/
noncomputable def Tryd.pinned : Pinned := { name := "ytbbmacpjgflndaadoor", sum := "c6b88ef22be6a6c1427c7a9a80557560df4fb5a1cf14db52eee89d7189c7bf72", checked := Tryd.checked }
namespace Rows
def none {H : Type} : Left H := { results := [], args := [] }

/- WHAT THE LISTED PACKAGE-LEVEL VARIABLES READ AS WHEN THE CALL BEGINS. Each datum BY PROGRAM (the guide's laid-datum.mjs) off the statement by which the dump's own 'gosem.cut.vars' lays the variable. In a bare row this is a premise. The card (YtbbmacpjgflndaaDoorCards.lean) ties it to the program's text. -/
def laid_weaver_pack_sumNibbles {H : Type} : DataW H := .agg [.lit (.int .u32 0), .lit (.int .u32 274646895), .lit (.int .u32 549293790), .lit (.int .u32 820201905), .lit (.int .u32 1098587580), .lit (.int .u32 1361435347), .lit (.int .u32 1640403810), .lit (.int .u32 1905808397), .lit (.int .u32 2197175160), .lit (.int .u32 2460548119), .lit (.int .u32 2722870694), .lit (.int .u32 2987750089), .lit (.int .u32 3280807620), .lit (.int .u32 3553878443), .lit (.int .u32 3811616794), .lit (.int .u32 4084100981)]

/-- 'weaverlaw01.PackLists': WHATEVER THE INPUT: true; the input reads as it did. -/
def packListsSpec : ChangeSpec := { name := "packLists", fn := fun _ => fun
  | [d1, d2] => { results := [.lit (.bool true)], args := [d1, d2] }
  | _ => none }
def packListsRow : OpenClaim := { program := "ytbbmacpjgflndaadoor", sum := "c6b88ef22be6a6c1427c7a9a80557560df4fb5a1cf14db52eee89d7189c7bf72", func := "weaver/weaverlaw01.PackLists", spec := "packLists", named := ["weaver/pack.sumNibbles"], apart := false, laid := [("weaver/pack.sumNibbles", laid_weaver_pack_sumNibbles)] }
def PackListsSaid : Prop := packListsRow.holds Tryd.pinned (OpenSpec.ofChange packListsSpec)

/-- ITS FALSE NEIGHBOUR: 'it returns false'. Refute it at one input. -/
def packListsWrong : ChangeSpec := { name := "packLists", fn := fun _ => fun
  | [d1, d2] => { results := [.lit (.bool false)], args := [d1, d2] }
  | _ => none }
def PackListsWrongFalsely : Prop := packListsRow.holds Tryd.pinned (OpenSpec.ofChange packListsWrong)

/-- 'weaverlaw01.PackFrames': WHATEVER THE INPUT: true; the input reads as it did. -/
def packFramesSpec : ChangeSpec := { name := "packFrames", fn := fun _ => fun
  | [d1, d2] => { results := [.lit (.bool true)], args := [d1, d2] }
  | _ => none }
def packFramesRow : OpenClaim := { program := "ytbbmacpjgflndaadoor", sum := "c6b88ef22be6a6c1427c7a9a80557560df4fb5a1cf14db52eee89d7189c7bf72", func := "weaver/weaverlaw01.PackFrames", spec := "packFrames", named := ["weaver/pack.sumNibbles"], apart := false, laid := [("weaver/pack.sumNibbles", laid_weaver_pack_sumNibbles)] }
def PackFramesSaid : Prop := packFramesRow.holds Tryd.pinned (OpenSpec.ofChange packFramesSpec)

/-- ITS FALSE NEIGHBOUR: 'it returns false'. Refute it at one input. -/
def packFramesWrong : ChangeSpec := { name := "packFrames", fn := fun _ => fun
  | [d1, d2] => { results := [.lit (.bool false)], args := [d1, d2] }
  | _ => none }
def PackFramesWrongFalsely : Prop := packFramesRow.holds Tryd.pinned (OpenSpec.ofChange packFramesWrong)

/-- 'weaverlaw01.PackBack': WHATEVER THE INPUT: true; the input reads as it did. -/
def packBackSpec : ChangeSpec := { name := "packBack", fn := fun _ => fun
  | [d1, d2] => { results := [.lit (.bool true)], args := [d1, d2] }
  | _ => none }
def packBackRow : OpenClaim := { program := "ytbbmacpjgflndaadoor", sum := "c6b88ef22be6a6c1427c7a9a80557560df4fb5a1cf14db52eee89d7189c7bf72", func := "weaver/weaverlaw01.PackBack", spec := "packBack", named := ["weaver/pack.sumNibbles"], apart := false, laid := [("weaver/pack.sumNibbles", laid_weaver_pack_sumNibbles)] }
def PackBackSaid : Prop := packBackRow.holds Tryd.pinned (OpenSpec.ofChange packBackSpec)

/-- ITS FALSE NEIGHBOUR: 'it returns false'. Refute it at one input. -/
def packBackWrong : ChangeSpec := { name := "packBack", fn := fun _ => fun
  | [d1, d2] => { results := [.lit (.bool false)], args := [d1, d2] }
  | _ => none }
def PackBackWrongFalsely : Prop := packBackRow.holds Tryd.pinned (OpenSpec.ofChange packBackWrong)

/-- 'weaverlaw01.PackJoins': WHATEVER THE INPUT: true; the input reads as it did. -/
def packJoinsSpec : ChangeSpec := { name := "packJoins", fn := fun _ => fun
  | [d1, d2, d3] => { results := [.lit (.bool true)], args := [d1, d2, d3] }
  | _ => none }
def packJoinsRow : OpenClaim := { program := "ytbbmacpjgflndaadoor", sum := "c6b88ef22be6a6c1427c7a9a80557560df4fb5a1cf14db52eee89d7189c7bf72", func := "weaver/weaverlaw01.PackJoins", spec := "packJoins", named := ["weaver/pack.sumNibbles"], apart := false, laid := [("weaver/pack.sumNibbles", laid_weaver_pack_sumNibbles)] }
def PackJoinsSaid : Prop := packJoinsRow.holds Tryd.pinned (OpenSpec.ofChange packJoinsSpec)

/-- ITS FALSE NEIGHBOUR: 'it returns false'. Refute it at one input. -/
def packJoinsWrong : ChangeSpec := { name := "packJoins", fn := fun _ => fun
  | [d1, d2, d3] => { results := [.lit (.bool false)], args := [d1, d2, d3] }
  | _ => none }
def PackJoinsWrongFalsely : Prop := packJoinsRow.holds Tryd.pinned (OpenSpec.ofChange packJoinsWrong)

/-- 'weaverlaw01.PackFound': WHATEVER THE INPUT: true; the input reads as it did. -/
def packFoundSpec : ChangeSpec := { name := "packFound", fn := fun _ => fun
  | [d1, d2, d3] => { results := [.lit (.bool true)], args := [d1, d2, d3] }
  | _ => none }
def packFoundRow : OpenClaim := { program := "ytbbmacpjgflndaadoor", sum := "c6b88ef22be6a6c1427c7a9a80557560df4fb5a1cf14db52eee89d7189c7bf72", func := "weaver/weaverlaw01.PackFound", spec := "packFound", named := ["weaver/pack.sumNibbles"], apart := false, laid := [("weaver/pack.sumNibbles", laid_weaver_pack_sumNibbles)] }
def PackFoundSaid : Prop := packFoundRow.holds Tryd.pinned (OpenSpec.ofChange packFoundSpec)

/-- ITS FALSE NEIGHBOUR: 'it returns false'. Refute it at one input. -/
def packFoundWrong : ChangeSpec := { name := "packFound", fn := fun _ => fun
  | [d1, d2, d3] => { results := [.lit (.bool false)], args := [d1, d2, d3] }
  | _ => none }
def PackFoundWrongFalsely : Prop := packFoundRow.holds Tryd.pinned (OpenSpec.ofChange packFoundWrong)

/-- 'weaverlaw01.PackTorn': WHATEVER THE INPUT: true; the input reads as it did. -/
def packTornSpec : ChangeSpec := { name := "packTorn", fn := fun _ => fun
  | [d1, d2, d3] => { results := [.lit (.bool true)], args := [d1, d2, d3] }
  | _ => none }
def packTornRow : OpenClaim := { program := "ytbbmacpjgflndaadoor", sum := "c6b88ef22be6a6c1427c7a9a80557560df4fb5a1cf14db52eee89d7189c7bf72", func := "weaver/weaverlaw01.PackTorn", spec := "packTorn", named := ["weaver/pack.sumNibbles"], apart := false, laid := [("weaver/pack.sumNibbles", laid_weaver_pack_sumNibbles)] }
def PackTornSaid : Prop := packTornRow.holds Tryd.pinned (OpenSpec.ofChange packTornSpec)

/-- ITS FALSE NEIGHBOUR: 'it returns false'. Refute it at one input. -/
def packTornWrong : ChangeSpec := { name := "packTorn", fn := fun _ => fun
  | [d1, d2, d3] => { results := [.lit (.bool false)], args := [d1, d2, d3] }
  | _ => none }
def PackTornWrongFalsely : Prop := packTornRow.holds Tryd.pinned (OpenSpec.ofChange packTornWrong)

/- THE SECOND FORM. 'bulk': how many values and letters a reading holds, each counted each time it is reached (what is shared counts as often as it is met; a slice's spare places count too). A statement '..UptoSaid' is the law's where the arguments, and the package variables that the reading takes, are together of bulk at most 1048576: NARROWER than '..Said'. Prove '..Said' where nothing that the law and all that it calls make is longer than what came in: it says more and counts as full. Else prove '..UptoSaid'. A law counts once. -/
mutual
def uptoBulk {H : Type} : DataW H → Nat
  | .lit (.string bytes) => bytes.length + 1
  | .lit _ => 1
  | .nil => 1
  | .ptr d => uptoBulk d + 1
  | .slice elems spare => uptoBulkAll elems + uptoBulkAll spare + 1
  | .agg parts => uptoBulkAll parts + 1
  | .iface _ d => uptoBulk d + 1
  | .map entries => uptoBulkEntries entries + 1
  | .held _ => 1
def uptoBulkAll {H : Type} : List (DataW H) → Nat
  | [] => 0
  | d :: r => uptoBulk d + uptoBulkAll r
def uptoBulkEntries {H : Type} : List (Lit × DataW H) → Nat
  | [] => 0
  | x :: r => uptoBulkEntry x + uptoBulkEntries r
def uptoBulkEntry {H : Type} : Lit × DataW H → Nat
  | (.string bytes, d) => bytes.length + uptoBulk d + 1
  | (_, d) => uptoBulk d + 1
 end
def uptoSmall : (H : Type) → List (DataW H) → Bool := fun _ ds => decide (uptoBulkAll ds ≤ 1048576)
def OpenSpec.upto (s : _root_.Go.ChangeSpec) : _root_.Go.OpenSpec := { _root_.Go.OpenSpec.ofChange s with cond := some uptoSmall }

/-- 'weaverlaw01.PackLists', WHERE WHAT IT READS IS OF BULK AT MOST 1048576: true; the input reads as it did. -/
def packListsUptoRow : OpenClaim := { program := "ytbbmacpjgflndaadoor", sum := "c6b88ef22be6a6c1427c7a9a80557560df4fb5a1cf14db52eee89d7189c7bf72", func := "weaver/weaverlaw01.PackLists", spec := "packLists", named := ["weaver/pack.sumNibbles"], apart := false, laid := [("weaver/pack.sumNibbles", laid_weaver_pack_sumNibbles)], narrowed := true }
def PackListsUptoSaid : Prop := packListsUptoRow.holds Tryd.pinned (OpenSpec.upto packListsSpec)

/-- 'weaverlaw01.PackFrames', WHERE WHAT IT READS IS OF BULK AT MOST 1048576: true; the input reads as it did. -/
def packFramesUptoRow : OpenClaim := { program := "ytbbmacpjgflndaadoor", sum := "c6b88ef22be6a6c1427c7a9a80557560df4fb5a1cf14db52eee89d7189c7bf72", func := "weaver/weaverlaw01.PackFrames", spec := "packFrames", named := ["weaver/pack.sumNibbles"], apart := false, laid := [("weaver/pack.sumNibbles", laid_weaver_pack_sumNibbles)], narrowed := true }
def PackFramesUptoSaid : Prop := packFramesUptoRow.holds Tryd.pinned (OpenSpec.upto packFramesSpec)

/-- 'weaverlaw01.PackBack', WHERE WHAT IT READS IS OF BULK AT MOST 1048576: true; the input reads as it did. -/
def packBackUptoRow : OpenClaim := { program := "ytbbmacpjgflndaadoor", sum := "c6b88ef22be6a6c1427c7a9a80557560df4fb5a1cf14db52eee89d7189c7bf72", func := "weaver/weaverlaw01.PackBack", spec := "packBack", named := ["weaver/pack.sumNibbles"], apart := false, laid := [("weaver/pack.sumNibbles", laid_weaver_pack_sumNibbles)], narrowed := true }
def PackBackUptoSaid : Prop := packBackUptoRow.holds Tryd.pinned (OpenSpec.upto packBackSpec)

/-- 'weaverlaw01.PackJoins', WHERE WHAT IT READS IS OF BULK AT MOST 1048576: true; the input reads as it did. -/
def packJoinsUptoRow : OpenClaim := { program := "ytbbmacpjgflndaadoor", sum := "c6b88ef22be6a6c1427c7a9a80557560df4fb5a1cf14db52eee89d7189c7bf72", func := "weaver/weaverlaw01.PackJoins", spec := "packJoins", named := ["weaver/pack.sumNibbles"], apart := false, laid := [("weaver/pack.sumNibbles", laid_weaver_pack_sumNibbles)], narrowed := true }
def PackJoinsUptoSaid : Prop := packJoinsUptoRow.holds Tryd.pinned (OpenSpec.upto packJoinsSpec)

/-- 'weaverlaw01.PackFound', WHERE WHAT IT READS IS OF BULK AT MOST 1048576: true; the input reads as it did. -/
def packFoundUptoRow : OpenClaim := { program := "ytbbmacpjgflndaadoor", sum := "c6b88ef22be6a6c1427c7a9a80557560df4fb5a1cf14db52eee89d7189c7bf72", func := "weaver/weaverlaw01.PackFound", spec := "packFound", named := ["weaver/pack.sumNibbles"], apart := false, laid := [("weaver/pack.sumNibbles", laid_weaver_pack_sumNibbles)], narrowed := true }
def PackFoundUptoSaid : Prop := packFoundUptoRow.holds Tryd.pinned (OpenSpec.upto packFoundSpec)

/-- 'weaverlaw01.PackTorn', WHERE WHAT IT READS IS OF BULK AT MOST 1048576: true; the input reads as it did. -/
def packTornUptoRow : OpenClaim := { program := "ytbbmacpjgflndaadoor", sum := "c6b88ef22be6a6c1427c7a9a80557560df4fb5a1cf14db52eee89d7189c7bf72", func := "weaver/weaverlaw01.PackTorn", spec := "packTorn", named := ["weaver/pack.sumNibbles"], apart := false, laid := [("weaver/pack.sumNibbles", laid_weaver_pack_sumNibbles)], narrowed := true }
def PackTornUptoSaid : Prop := packTornUptoRow.holds Tryd.pinned (OpenSpec.upto packTornSpec)

end Rows
end Go.Proofs.YtbbmacpjgflndaaDoor
