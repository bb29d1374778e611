/-
  Events, plainly: an event's cells, which may be, the box of one.
-/
import Derived.Test.YtnikkjbjidhhlaaEvCk
namespace Go.Proofs.Ytnikkjbjidhhlaa
open Go.RowKit

/-- An event. -/
structure Ev where
  k : ByteArray
  t : ByteArray
  n0 : Int
  n1 : Int
  n2 : Int
  n3 : Int
  x : ByteArray
def Ev.c (e : Ev) : Array Value := #[.string e.k, .string e.t, .int .i64 e.n0, .int .i64 e.n1, .int .i64 e.n2, .int .i64 e.n3, .string e.x]
def Ev.may (e : Ev) : Bool := mayE e.k e.t e.x
def Ev.chk (e : Ev) : Int := chkE e.k e.t e.x
def inI (n : Int) : Prop := -9223372036854775808 ≤ n ∧ n < 9223372036854775808
/-- An event that a Go program can hold. -/
def Ev.ok (e : Ev) : Prop := e.k.size ≤ 9223372036854775807 ∧ e.t.size ≤ 9223372036854775807 ∧ e.x.size ≤ 9223372036854775807 ∧ inI e.n0 ∧ inI e.n1 ∧ inI e.n2 ∧ inI e.n3
theorem mayE_sizes {k t x : ByteArray} (h : mayE k t x = true) : k.size ≤ 32 ∧ t.size ≤ 32 ∧ x.size ≤ 256 := by
  unfold mayE nameB at h
  simp only [Bool.and_eq_true, decide_eq_true_eq] at h
  omega
/-- The box of an event lies there. -/
def EBox (g : Nat) (e : Ev) (w : World) : Prop := w.heap[g]? = some (.cells e.c 45 (0, 0))
theorem EBox.cells {g : Nat} {e : Ev} {w : World} (h : EBox g e w) : w.cell? ⟨g, 0, none⟩ = some (.string e.k) ∧ w.cell? ⟨g, 1, none⟩ = some (.string e.t) ∧ w.cell? ⟨g, 2, none⟩ = some (.int .i64 e.n0) ∧ w.cell? ⟨g, 3, none⟩ = some (.int .i64 e.n1) ∧ w.cell? ⟨g, 4, none⟩ = some (.int .i64 e.n2) ∧ w.cell? ⟨g, 5, none⟩ = some (.int .i64 e.n3) ∧ w.cell? ⟨g, 6, none⟩ = some (.string e.x) := by
  unfold EBox Ev.c at h
  simp [World.cell?, h]
theorem EBox.lt {g : Nat} {e : Ev} {w : World} (h : EBox g e w) : g < w.heap.size := by
  unfold EBox at h
  rcases Nat.lt_or_ge g w.heap.size with h1 | h1
  · exact h1
  · rw [Array.getElem?_eq_none h1] at h; cases h
theorem EBox.below {g B : Nat} {e : Ev} {w w' : World} (h : EBox g e w) (hb : Below B w w') (hB : g < B) : EBox g e w' := by unfold EBox; rw [hb.block g hB]; exact h
theorem EBox.alloc {g : Nat} {e : Ev} {w : World} (h : EBox g e w) (o : Obj) : EBox g e (w.alloc o) := (Below.heap_alloc _ _ _ h.lt).trans h
end Go.Proofs.Ytnikkjbjidhhlaa
