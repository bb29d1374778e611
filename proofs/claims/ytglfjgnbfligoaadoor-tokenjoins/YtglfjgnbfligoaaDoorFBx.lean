/-
  The cell of a Fault.
-/
import Derived.Test.YtglfjgnbfligoaaDoorRow0
namespace Go.Proofs.YtglfjgnbfligoaaDoor
open Go.RowKit

/-- The answer's fault lies there. -/
def FBox (k : Nat) (w : World) : Prop := w.heap[k]? = some (.cells #[.int .i64 0, .int .i64 0] 25 (0, 0))
theorem FBox.cells {k : Nat} {w : World} (h : FBox k w) : w.cell? ⟨k, 0, none⟩ = some (.int .i64 0) ∧ w.cell? ⟨k, 1, none⟩ = some (.int .i64 0) ∧ w.frozen? ⟨k, 0, none⟩ = false ∧ w.frozen? ⟨k, 1, none⟩ = false := by
  unfold FBox at h
  simp [World.cell?, World.frozen?, h]
theorem FBox.lt {k : Nat} {w : World} (h : FBox k w) : k < w.heap.size := by
  unfold FBox at h
  rcases Nat.lt_or_ge k w.heap.size with h1 | h1
  · exact h1
  · rw [Array.getElem?_eq_none h1] at h; cases h
theorem FBox.below {k B : Nat} {w w' : World} (h : FBox k w) (hb : Below B w w') (hB : k < B) : FBox k w' := by unfold FBox; rw [hb.block k hB]; exact h
end Go.Proofs.YtglfjgnbfligoaaDoor
