/-
  No cell of these rows narrows 'for every input' (looked for: loops, veiled, ifaces, maps, wideKeys, modest, calm, conditions, laid).
  DERIVED. THE GIVEN ROWS OF THIS SEAT. 5 by the template 'for every input the law returns true; each argument reads behind the call as it read before'; 0 by the template 'total and deterministic' (their statements: YthdfaidjdddagaaTotals.lean).
  GIVEN WITH THE SEED: the statements are not yours to turn. If you find one false, say at which input.
  Laid BY PROGRAM, IN A SANDBOX (cutbox-rows.mjs): the forced cells as the released guide's own fill.sh prints them over the translation b3818e2607d32457… (all of the seat's roots in one cut). By AI agents, Wed Nov 11 2026. No macro, syntax, notation, axiom, sorry.
-/
import Derived.Test.YthdfaidjdddagaaChecked
import GoSem.Claim
import GoSem.ClaimJoined
import GoSem.ClaimMapViews
import Derived.JoinedTies
import Derived.KernelRfl
namespace Go.Proofs.Ythdfaidjdddagaa
/- THE CELL 'sum', in the pinned program and in every row, IS THE sha256 OF THE DUMP (.gsa) THAT YthdfaidjdddagaaProg.lean LOADS. Nothing in Lean hashes anything: it is a label: what it is worth is what the hold of that sum in a sandbox is worth. -/
noncomputable def Try.pinned : Pinned := { name := "ythdfaidjdddagaa", sum := "b3818e2607d324578d7e84e12e3c569d74f74fd9768b3660bd969eac06e3adc3", checked := Try.checked }
namespace Rows
def none {H : Type} : Left H := { results := [], args := [] }

/-- 'weaverlaw16.BufferPlays': WHATEVER THE INPUT: true; the input reads as it did. -/
def bufferPlaysSpec : ChangeSpec := { name := "bufferPlays", fn := fun _ => fun
  | [d] => { results := [.lit (.bool true)], args := [d] }
  | _ => none }
def bufferPlaysRow : OpenClaim := { program := "ythdfaidjdddagaa", sum := "b3818e2607d324578d7e84e12e3c569d74f74fd9768b3660bd969eac06e3adc3", func := "weaver/weaverlaw16.BufferPlays", spec := "bufferPlays", plainKeys := false, apart := false }
def BufferPlaysSaid : Prop := bufferPlaysRow.holds Try.pinned (OpenSpec.ofChange bufferPlaysSpec)

/-- ITS FALSE NEIGHBOUR: 'it returns false'. Refute it at one input. -/
def bufferPlaysWrong : ChangeSpec := { name := "bufferPlays", fn := fun _ => fun
  | [d] => { results := [.lit (.bool false)], args := [d] }
  | _ => none }
def BufferPlaysWrongFalsely : Prop := bufferPlaysRow.holds Try.pinned (OpenSpec.ofChange bufferPlaysWrong)

/-- 'weaverlaw16.BufferFull': WHATEVER THE INPUT: true; the input reads as it did. -/
def bufferFullSpec : ChangeSpec := { name := "bufferFull", fn := fun _ => fun
  | [d] => { results := [.lit (.bool true)], args := [d] }
  | _ => none }
def bufferFullRow : OpenClaim := { program := "ythdfaidjdddagaa", sum := "b3818e2607d324578d7e84e12e3c569d74f74fd9768b3660bd969eac06e3adc3", func := "weaver/weaverlaw16.BufferFull", spec := "bufferFull", plainKeys := false, apart := false }
def BufferFullSaid : Prop := bufferFullRow.holds Try.pinned (OpenSpec.ofChange bufferFullSpec)

/-- ITS FALSE NEIGHBOUR: 'it returns false'. Refute it at one input. -/
def bufferFullWrong : ChangeSpec := { name := "bufferFull", fn := fun _ => fun
  | [d] => { results := [.lit (.bool false)], args := [d] }
  | _ => none }
def BufferFullWrongFalsely : Prop := bufferFullRow.holds Try.pinned (OpenSpec.ofChange bufferFullWrong)

/-- 'weaverlaw16.BufferStays': WHATEVER THE INPUT: true; the input reads as it did. -/
def bufferStaysSpec : ChangeSpec := { name := "bufferStays", fn := fun _ => fun
  | [d] => { results := [.lit (.bool true)], args := [d] }
  | _ => none }
def bufferStaysRow : OpenClaim := { program := "ythdfaidjdddagaa", sum := "b3818e2607d324578d7e84e12e3c569d74f74fd9768b3660bd969eac06e3adc3", func := "weaver/weaverlaw16.BufferStays", spec := "bufferStays", plainKeys := false, apart := false }
def BufferStaysSaid : Prop := bufferStaysRow.holds Try.pinned (OpenSpec.ofChange bufferStaysSpec)

/-- ITS FALSE NEIGHBOUR: 'it returns false'. Refute it at one input. -/
def bufferStaysWrong : ChangeSpec := { name := "bufferStays", fn := fun _ => fun
  | [d] => { results := [.lit (.bool false)], args := [d] }
  | _ => none }
def BufferStaysWrongFalsely : Prop := bufferStaysRow.holds Try.pinned (OpenSpec.ofChange bufferStaysWrong)

/-- 'weaverlaw16.BufferShares': WHATEVER THE INPUT: true; the input reads as it did. -/
def bufferSharesSpec : ChangeSpec := { name := "bufferShares", fn := fun _ => fun
  | [d] => { results := [.lit (.bool true)], args := [d] }
  | _ => none }
def bufferSharesRow : OpenClaim := { program := "ythdfaidjdddagaa", sum := "b3818e2607d324578d7e84e12e3c569d74f74fd9768b3660bd969eac06e3adc3", func := "weaver/weaverlaw16.BufferShares", spec := "bufferShares", plainKeys := false, apart := false }
def BufferSharesSaid : Prop := bufferSharesRow.holds Try.pinned (OpenSpec.ofChange bufferSharesSpec)

/-- ITS FALSE NEIGHBOUR: 'it returns false'. Refute it at one input. -/
def bufferSharesWrong : ChangeSpec := { name := "bufferShares", fn := fun _ => fun
  | [d] => { results := [.lit (.bool false)], args := [d] }
  | _ => none }
def BufferSharesWrongFalsely : Prop := bufferSharesRow.holds Try.pinned (OpenSpec.ofChange bufferSharesWrong)

/-- 'weaverlaw16.BufferChains': WHATEVER THE INPUT: true; the input reads as it did. -/
def bufferChainsSpec : ChangeSpec := { name := "bufferChains", fn := fun _ => fun
  | [d1, d2] => { results := [.lit (.bool true)], args := [d1, d2] }
  | _ => none }
def bufferChainsRow : OpenClaim := { program := "ythdfaidjdddagaa", sum := "b3818e2607d324578d7e84e12e3c569d74f74fd9768b3660bd969eac06e3adc3", func := "weaver/weaverlaw16.BufferChains", spec := "bufferChains", plainKeys := false, apart := false }
def BufferChainsSaid : Prop := bufferChainsRow.holds Try.pinned (OpenSpec.ofChange bufferChainsSpec)

/-- ITS FALSE NEIGHBOUR: 'it returns false'. Refute it at one input. -/
def bufferChainsWrong : ChangeSpec := { name := "bufferChains", fn := fun _ => fun
  | [d1, d2] => { results := [.lit (.bool false)], args := [d1, d2] }
  | _ => none }
def BufferChainsWrongFalsely : Prop := bufferChainsRow.holds Try.pinned (OpenSpec.ofChange bufferChainsWrong)

/- THE SECOND FORM. 'bulk': how many values and letters a reading holds, each counted each time it is reached (what is shared counts as often as it is met; a slice's spare places count too). A statement '..UptoSaid' is the law's where the arguments, and the package variables that the reading takes, are together of bulk at most 1048576: NARROWER than '..Said'. Prove '..Said' where nothing that the law and all that it calls make is longer than what came in: it says more and counts as full. Else prove '..UptoSaid'. A law counts once. -/
mutual
def uptoBulk {H : Type} : DataW H → Nat
  | .lit (.string bytes) => bytes.length + 1
  | .lit _ => 1
  | .nil => 1
  | .ptr d => uptoBulk d + 1
  | .slice elems spare => uptoBulkAll elems + uptoBulkAll spare + 1
  | .agg parts => uptoBulkAll parts + 1
  | .iface _ d => uptoBulk d + 1
  | .map entries => uptoBulkEntries entries + 1
  | .held _ => 1
def uptoBulkAll {H : Type} : List (DataW H) → Nat
  | [] => 0
  | d :: r => uptoBulk d + uptoBulkAll r
def uptoBulkEntries {H : Type} : List (Lit × DataW H) → Nat
  | [] => 0
  | x :: r => uptoBulkEntry x + uptoBulkEntries r
def uptoBulkEntry {H : Type} : Lit × DataW H → Nat
  | (.string bytes, d) => bytes.length + uptoBulk d + 1
  | (_, d) => uptoBulk d + 1
 end
def uptoSmall : (H : Type) → List (DataW H) → Bool := fun _ ds => decide (uptoBulkAll ds ≤ 1048576)
def OpenSpec.upto (s : _root_.Go.ChangeSpec) : _root_.Go.OpenSpec := { _root_.Go.OpenSpec.ofChange s with cond := some uptoSmall }

/-- 'weaverlaw16.BufferPlays', WHERE WHAT IT READS IS OF BULK AT MOST 1048576: true; the input reads as it did. -/
def bufferPlaysUptoRow : OpenClaim := { program := "ythdfaidjdddagaa", sum := "b3818e2607d324578d7e84e12e3c569d74f74fd9768b3660bd969eac06e3adc3", func := "weaver/weaverlaw16.BufferPlays", spec := "bufferPlays", plainKeys := false, apart := false, narrowed := true }
def BufferPlaysUptoSaid : Prop := bufferPlaysUptoRow.holds Try.pinned (OpenSpec.upto bufferPlaysSpec)

/-- 'weaverlaw16.BufferFull', WHERE WHAT IT READS IS OF BULK AT MOST 1048576: true; the input reads as it did. -/
def bufferFullUptoRow : OpenClaim := { program := "ythdfaidjdddagaa", sum := "b3818e2607d324578d7e84e12e3c569d74f74fd9768b3660bd969eac06e3adc3", func := "weaver/weaverlaw16.BufferFull", spec := "bufferFull", plainKeys := false, apart := false, narrowed := true }
def BufferFullUptoSaid : Prop := bufferFullUptoRow.holds Try.pinned (OpenSpec.upto bufferFullSpec)

/-- 'weaverlaw16.BufferStays', WHERE WHAT IT READS IS OF BULK AT MOST 1048576: true; the input reads as it did. -/
def bufferStaysUptoRow : OpenClaim := { program := "ythdfaidjdddagaa", sum := "b3818e2607d324578d7e84e12e3c569d74f74fd9768b3660bd969eac06e3adc3", func := "weaver/weaverlaw16.BufferStays", spec := "bufferStays", plainKeys := false, apart := false, narrowed := true }
def BufferStaysUptoSaid : Prop := bufferStaysUptoRow.holds Try.pinned (OpenSpec.upto bufferStaysSpec)

/-- 'weaverlaw16.BufferShares', WHERE WHAT IT READS IS OF BULK AT MOST 1048576: true; the input reads as it did. -/
def bufferSharesUptoRow : OpenClaim := { program := "ythdfaidjdddagaa", sum := "b3818e2607d324578d7e84e12e3c569d74f74fd9768b3660bd969eac06e3adc3", func := "weaver/weaverlaw16.BufferShares", spec := "bufferShares", plainKeys := false, apart := false, narrowed := true }
def BufferSharesUptoSaid : Prop := bufferSharesUptoRow.holds Try.pinned (OpenSpec.upto bufferSharesSpec)

/-- 'weaverlaw16.BufferChains', WHERE WHAT IT READS IS OF BULK AT MOST 1048576: true; the input reads as it did. -/
def bufferChainsUptoRow : OpenClaim := { program := "ythdfaidjdddagaa", sum := "b3818e2607d324578d7e84e12e3c569d74f74fd9768b3660bd969eac06e3adc3", func := "weaver/weaverlaw16.BufferChains", spec := "bufferChains", plainKeys := false, apart := false, narrowed := true }
def BufferChainsUptoSaid : Prop := bufferChainsUptoRow.holds Try.pinned (OpenSpec.upto bufferChainsSpec)

end Rows
end Go.Proofs.Ythdfaidjdddagaa
