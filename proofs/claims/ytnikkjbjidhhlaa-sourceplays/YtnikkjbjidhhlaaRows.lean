/-
  No cell of these rows narrows 'for every input' (looked for: loops, veiled, ifaces, maps, wideKeys, modest, calm, conditions, laid).
  DERIVED. THE GIVEN ROWS OF THIS SEAT. 6 by the template 'for every input the law returns true; each argument reads behind the call as it read before'; 0 by the template 'total and deterministic' (their statements: YtnikkjbjidhhlaaTotals.lean).
  GIVEN WITH THE SEED: the statements are not yours to turn. If you find one false, say at which input.
  Laid BY PROGRAM, IN A SANDBOX (cutbox-rows.mjs): the forced cells as the released guide's own fill.sh prints them over the translation e8141d8a3cd546c2… (all of the seat's roots in one cut). By AI agents, Wed Nov 11 2026. No macro, syntax, notation, axiom, sorry.
-/
import Derived.Test.YtnikkjbjidhhlaaChecked
import GoSem.Claim
import GoSem.ClaimJoined
import GoSem.ClaimMapViews
import Derived.JoinedTies
import Derived.KernelRfl
namespace Go.Proofs.Ytnikkjbjidhhlaa
/- THE CELL 'sum', in the pinned program and in every row, IS THE sha256 OF THE DUMP (.gsa) THAT YtnikkjbjidhhlaaProg.lean LOADS. Nothing in Lean hashes anything: it is a label: what it is worth is what the hold of that sum in a sandbox is worth. -/
noncomputable def Try.pinned : Pinned := { name := "ytnikkjbjidhhlaa", sum := "e8141d8a3cd546c23f22ad17264d944bfd6e4a54144806a6edb02b890bcbb076", checked := Try.checked }
namespace Rows
def none {H : Type} : Left H := { results := [], args := [] }

/-- 'weaverlaw02.EventSorts': WHATEVER THE INPUT: true; the input reads as it did. -/
def eventSortsSpec : ChangeSpec := { name := "eventSorts", fn := fun _ => fun
  | [d] => { results := [.lit (.bool true)], args := [d] }
  | _ => none }
def eventSortsRow : OpenClaim := { program := "ytnikkjbjidhhlaa", sum := "e8141d8a3cd546c23f22ad17264d944bfd6e4a54144806a6edb02b890bcbb076", func := "weaver/weaverlaw02.EventSorts", spec := "eventSorts", inPlace := ["internal/bytealg.abigen_runtime_cmpstring"], unfollowed := true, recurses := true, apart := false }
def EventSortsSaid : Prop := eventSortsRow.holds Try.pinned (OpenSpec.ofChange eventSortsSpec)

/-- ITS FALSE NEIGHBOUR: 'it returns false'. Refute it at one input. -/
def eventSortsWrong : ChangeSpec := { name := "eventSorts", fn := fun _ => fun
  | [d] => { results := [.lit (.bool false)], args := [d] }
  | _ => none }
def EventSortsWrongFalsely : Prop := eventSortsRow.holds Try.pinned (OpenSpec.ofChange eventSortsWrong)

/-- 'weaverlaw02.EventGrows': WHATEVER THE INPUT: true; the input reads as it did. -/
def eventGrowsSpec : ChangeSpec := { name := "eventGrows", fn := fun _ => fun
  | [d1, d2] => { results := [.lit (.bool true)], args := [d1, d2] }
  | _ => none }
def eventGrowsRow : OpenClaim := { program := "ytnikkjbjidhhlaa", sum := "e8141d8a3cd546c23f22ad17264d944bfd6e4a54144806a6edb02b890bcbb076", func := "weaver/weaverlaw02.EventGrows", spec := "eventGrows", inPlace := ["internal/bytealg.abigen_runtime_cmpstring"], unfollowed := true, recurses := true, apart := false }
def EventGrowsSaid : Prop := eventGrowsRow.holds Try.pinned (OpenSpec.ofChange eventGrowsSpec)

/-- ITS FALSE NEIGHBOUR: 'it returns false'. Refute it at one input. -/
def eventGrowsWrong : ChangeSpec := { name := "eventGrows", fn := fun _ => fun
  | [d1, d2] => { results := [.lit (.bool false)], args := [d1, d2] }
  | _ => none }
def EventGrowsWrongFalsely : Prop := eventGrowsRow.holds Try.pinned (OpenSpec.ofChange eventGrowsWrong)

/-- 'weaverlaw05.SourcePlays': WHATEVER THE INPUT: true; the input reads as it did. -/
def sourcePlaysSpec : ChangeSpec := { name := "sourcePlays", fn := fun _ => fun
  | [d1, d2] => { results := [.lit (.bool true)], args := [d1, d2] }
  | _ => none }
def sourcePlaysRow : OpenClaim := { program := "ytnikkjbjidhhlaa", sum := "e8141d8a3cd546c23f22ad17264d944bfd6e4a54144806a6edb02b890bcbb076", func := "weaver/weaverlaw05.SourcePlays", spec := "sourcePlays", apart := false }
def SourcePlaysSaid : Prop := sourcePlaysRow.holds Try.pinned (OpenSpec.ofChange sourcePlaysSpec)

/-- ITS FALSE NEIGHBOUR: 'it returns false'. Refute it at one input. -/
def sourcePlaysWrong : ChangeSpec := { name := "sourcePlays", fn := fun _ => fun
  | [d1, d2] => { results := [.lit (.bool false)], args := [d1, d2] }
  | _ => none }
def SourcePlaysWrongFalsely : Prop := sourcePlaysRow.holds Try.pinned (OpenSpec.ofChange sourcePlaysWrong)

/-- 'weaverlaw05.SourceStays': WHATEVER THE INPUT: true; the input reads as it did. -/
def sourceStaysSpec : ChangeSpec := { name := "sourceStays", fn := fun _ => fun
  | [d1, d2, d3] => { results := [.lit (.bool true)], args := [d1, d2, d3] }
  | _ => none }
def sourceStaysRow : OpenClaim := { program := "ytnikkjbjidhhlaa", sum := "e8141d8a3cd546c23f22ad17264d944bfd6e4a54144806a6edb02b890bcbb076", func := "weaver/weaverlaw05.SourceStays", spec := "sourceStays", apart := false }
def SourceStaysSaid : Prop := sourceStaysRow.holds Try.pinned (OpenSpec.ofChange sourceStaysSpec)

/-- ITS FALSE NEIGHBOUR: 'it returns false'. Refute it at one input. -/
def sourceStaysWrong : ChangeSpec := { name := "sourceStays", fn := fun _ => fun
  | [d1, d2, d3] => { results := [.lit (.bool false)], args := [d1, d2, d3] }
  | _ => none }
def SourceStaysWrongFalsely : Prop := sourceStaysRow.holds Try.pinned (OpenSpec.ofChange sourceStaysWrong)

/-- 'weaverlaw05.SourceKeys': WHATEVER THE INPUT: true; the input reads as it did. -/
def sourceKeysSpec : ChangeSpec := { name := "sourceKeys", fn := fun _ => fun
  | [d1, d2, d3] => { results := [.lit (.bool true)], args := [d1, d2, d3] }
  | _ => none }
def sourceKeysRow : OpenClaim := { program := "ytnikkjbjidhhlaa", sum := "e8141d8a3cd546c23f22ad17264d944bfd6e4a54144806a6edb02b890bcbb076", func := "weaver/weaverlaw05.SourceKeys", spec := "sourceKeys", apart := false }
def SourceKeysSaid : Prop := sourceKeysRow.holds Try.pinned (OpenSpec.ofChange sourceKeysSpec)

/-- ITS FALSE NEIGHBOUR: 'it returns false'. Refute it at one input. -/
def sourceKeysWrong : ChangeSpec := { name := "sourceKeys", fn := fun _ => fun
  | [d1, d2, d3] => { results := [.lit (.bool false)], args := [d1, d2, d3] }
  | _ => none }
def SourceKeysWrongFalsely : Prop := sourceKeysRow.holds Try.pinned (OpenSpec.ofChange sourceKeysWrong)

/-- 'weaverlaw05.SourceCounts': WHATEVER THE INPUT: true; the input reads as it did. -/
def sourceCountsSpec : ChangeSpec := { name := "sourceCounts", fn := fun _ => fun
  | [d1, d2] => { results := [.lit (.bool true)], args := [d1, d2] }
  | _ => none }
def sourceCountsRow : OpenClaim := { program := "ytnikkjbjidhhlaa", sum := "e8141d8a3cd546c23f22ad17264d944bfd6e4a54144806a6edb02b890bcbb076", func := "weaver/weaverlaw05.SourceCounts", spec := "sourceCounts", apart := false }
def SourceCountsSaid : Prop := sourceCountsRow.holds Try.pinned (OpenSpec.ofChange sourceCountsSpec)

/-- ITS FALSE NEIGHBOUR: 'it returns false'. Refute it at one input. -/
def sourceCountsWrong : ChangeSpec := { name := "sourceCounts", fn := fun _ => fun
  | [d1, d2] => { results := [.lit (.bool false)], args := [d1, d2] }
  | _ => none }
def SourceCountsWrongFalsely : Prop := sourceCountsRow.holds Try.pinned (OpenSpec.ofChange sourceCountsWrong)

/- THE SECOND FORM. 'bulk': how many values and letters a reading holds, each counted each time it is reached (what is shared counts as often as it is met; a slice's spare places count too). A statement '..UptoSaid' is the law's where the arguments, and the package variables that the reading takes, are together of bulk at most 1048576: NARROWER than '..Said'. Prove '..Said' where nothing that the law and all that it calls make is longer than what came in: it says more and counts as full. Else prove '..UptoSaid'. A law counts once. -/
mutual
def uptoBulk {H : Type} : DataW H → Nat
  | .lit (.string bytes) => bytes.length + 1
  | .lit _ => 1
  | .nil => 1
  | .ptr d => uptoBulk d + 1
  | .slice elems spare => uptoBulkAll elems + uptoBulkAll spare + 1
  | .agg parts => uptoBulkAll parts + 1
  | .iface _ d => uptoBulk d + 1
  | .map entries => uptoBulkEntries entries + 1
  | .held _ => 1
def uptoBulkAll {H : Type} : List (DataW H) → Nat
  | [] => 0
  | d :: r => uptoBulk d + uptoBulkAll r
def uptoBulkEntries {H : Type} : List (Lit × DataW H) → Nat
  | [] => 0
  | x :: r => uptoBulkEntry x + uptoBulkEntries r
def uptoBulkEntry {H : Type} : Lit × DataW H → Nat
  | (.string bytes, d) => bytes.length + uptoBulk d + 1
  | (_, d) => uptoBulk d + 1
 end
def uptoSmall : (H : Type) → List (DataW H) → Bool := fun _ ds => decide (uptoBulkAll ds ≤ 1048576)
def OpenSpec.upto (s : _root_.Go.ChangeSpec) : _root_.Go.OpenSpec := { _root_.Go.OpenSpec.ofChange s with cond := some uptoSmall }

/-- 'weaverlaw02.EventSorts', WHERE WHAT IT READS IS OF BULK AT MOST 1048576: true; the input reads as it did. -/
def eventSortsUptoRow : OpenClaim := { program := "ytnikkjbjidhhlaa", sum := "e8141d8a3cd546c23f22ad17264d944bfd6e4a54144806a6edb02b890bcbb076", func := "weaver/weaverlaw02.EventSorts", spec := "eventSorts", inPlace := ["internal/bytealg.abigen_runtime_cmpstring"], unfollowed := true, recurses := true, apart := false, narrowed := true }
def EventSortsUptoSaid : Prop := eventSortsUptoRow.holds Try.pinned (OpenSpec.upto eventSortsSpec)

/-- 'weaverlaw02.EventGrows', WHERE WHAT IT READS IS OF BULK AT MOST 1048576: true; the input reads as it did. -/
def eventGrowsUptoRow : OpenClaim := { program := "ytnikkjbjidhhlaa", sum := "e8141d8a3cd546c23f22ad17264d944bfd6e4a54144806a6edb02b890bcbb076", func := "weaver/weaverlaw02.EventGrows", spec := "eventGrows", inPlace := ["internal/bytealg.abigen_runtime_cmpstring"], unfollowed := true, recurses := true, apart := false, narrowed := true }
def EventGrowsUptoSaid : Prop := eventGrowsUptoRow.holds Try.pinned (OpenSpec.upto eventGrowsSpec)

/-- 'weaverlaw05.SourcePlays', WHERE WHAT IT READS IS OF BULK AT MOST 1048576: true; the input reads as it did. -/
def sourcePlaysUptoRow : OpenClaim := { program := "ytnikkjbjidhhlaa", sum := "e8141d8a3cd546c23f22ad17264d944bfd6e4a54144806a6edb02b890bcbb076", func := "weaver/weaverlaw05.SourcePlays", spec := "sourcePlays", apart := false, narrowed := true }
def SourcePlaysUptoSaid : Prop := sourcePlaysUptoRow.holds Try.pinned (OpenSpec.upto sourcePlaysSpec)

/-- 'weaverlaw05.SourceStays', WHERE WHAT IT READS IS OF BULK AT MOST 1048576: true; the input reads as it did. -/
def sourceStaysUptoRow : OpenClaim := { program := "ytnikkjbjidhhlaa", sum := "e8141d8a3cd546c23f22ad17264d944bfd6e4a54144806a6edb02b890bcbb076", func := "weaver/weaverlaw05.SourceStays", spec := "sourceStays", apart := false, narrowed := true }
def SourceStaysUptoSaid : Prop := sourceStaysUptoRow.holds Try.pinned (OpenSpec.upto sourceStaysSpec)

/-- 'weaverlaw05.SourceKeys', WHERE WHAT IT READS IS OF BULK AT MOST 1048576: true; the input reads as it did. -/
def sourceKeysUptoRow : OpenClaim := { program := "ytnikkjbjidhhlaa", sum := "e8141d8a3cd546c23f22ad17264d944bfd6e4a54144806a6edb02b890bcbb076", func := "weaver/weaverlaw05.SourceKeys", spec := "sourceKeys", apart := false, narrowed := true }
def SourceKeysUptoSaid : Prop := sourceKeysUptoRow.holds Try.pinned (OpenSpec.upto sourceKeysSpec)

/-- 'weaverlaw05.SourceCounts', WHERE WHAT IT READS IS OF BULK AT MOST 1048576: true; the input reads as it did. -/
def sourceCountsUptoRow : OpenClaim := { program := "ytnikkjbjidhhlaa", sum := "e8141d8a3cd546c23f22ad17264d944bfd6e4a54144806a6edb02b890bcbb076", func := "weaver/weaverlaw05.SourceCounts", spec := "sourceCounts", apart := false, narrowed := true }
def SourceCountsUptoSaid : Prop := sourceCountsUptoRow.holds Try.pinned (OpenSpec.upto sourceCountsSpec)

end Rows
end Go.Proofs.Ytnikkjbjidhhlaa
