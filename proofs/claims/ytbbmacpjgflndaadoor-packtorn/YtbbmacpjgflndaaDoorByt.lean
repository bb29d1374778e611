/-
  A string's bytes in a new row, one of them changed, and back.
-/
import Derived.Test.YtbbmacpjgflndaaDoorWorks
namespace Go.Proofs.YtbbmacpjgflndaaDoor
open Go.RowKit

/-- A string's bytes in a new row. -/
theorem bytes_of (b : ByteArray) (w : World) : ∃ (W : World) (cap : Nat), (convert 9 47 (.string b)).run Tryd.prog w = .ok (.slice (some ⟨w.heap.size, 0, none⟩) b.size cap) W ∧ b.size ≤ cap ∧ Below w.heap.size w W ∧ w.heap.size < W.heap.size ∧
    (∀ i (h : i < b.size), W.cell? ⟨w.heap.size, i, none⟩ = some (.int .u8 (b[i].toNat : Int))) ∧ (∀ i, i < b.size → W.frozen? ⟨w.heap.size, i, none⟩ = false) := by
  have h := run_bytes_of_string (P := Tryd.prog) w 9 47 5 b Tryd.underlying9 Tryd.underlying47 Tryd.underlying5
  have hcap := grownCap_ge w b.size 0 5
  generalize hC : grownCap w b.size 0 5 = cap at *
  refine ⟨_, cap, h, hcap, ((Below.refl _ w).drew.alloc (Nat.le_refl _) _), by simp, fun i hi => ?_, fun i hi => ?_⟩
  · have e : (w.drew.alloc (.cells (bytesRow b cap) 5 ((bytesRow b cap).size, (bytesRow b cap).size + 1))).heap[w.heap.size]? = some (.cells (bytesRow b cap) 5 ((bytesRow b cap).size, (bytesRow b cap).size + 1)) := heap_alloc_new w.drew _
    have e2 := bytesRow_at b cap i hi
    unfold World.cell?
    rw [e]
    exact e2
  · have e : (w.drew.alloc (.cells (bytesRow b cap) 5 ((bytesRow b cap).size, (bytesRow b cap).size + 1))).heap[w.heap.size]? = some (.cells (bytesRow b cap) 5 ((bytesRow b cap).size, (bytesRow b cap).size + 1)) := heap_alloc_new w.drew _
    have hs : b.size ≤ (bytesRow b cap).size := by unfold bytesRow; rw [Array.size_append, Array.size_map]; exact Nat.le_add_right _ _
    unfold World.frozen?
    rw [e]
    simp
    omega
/-- Bytes with one of them another one. -/
def setB (b : ByteArray) (J : Nat) (c : UInt8) : ByteArray := ⟨(b.data.toList.set J c).toArray⟩
theorem setB_size (b : ByteArray) (J : Nat) (c : UInt8) : (setB b J c).size = b.size := by
  unfold setB; show (List.toArray _).size = _; rw [List.size_toArray, List.length_set, Array.length_toList]; rfl
/-- A row of a string's bytes, one of them another one, as a string. -/
theorem setB_string (b : ByteArray) (J g cap : Nat) (c : UInt8) (W : World) (h : ∀ i (hi : i < b.size), W.cell? ⟨g, i, none⟩ = some (.int .u8 (if i = J then (c.toNat : Int) else (b[i].toNat : Int)))) :
    (convert 47 9 (.slice (some ⟨g, 0, none⟩) b.size cap)).run Tryd.prog W = .ok (.string (setB b J c)) W := by
  have k := run_convert_bytes_arg (P := Tryd.prog) W 47 5 Tryd.underlying47 Tryd.underlying5 g 0 b.size cap ((b.data.toList.set J c).map fun x => (x.toNat : Int)) (by rw [List.length_map, List.length_set, Array.length_toList]; rfl) (fun i hi => by
    rw [Nat.zero_add, h i hi]
    have hl : i < b.data.toList.length := by rw [Array.length_toList]; exact hi
    rw [List.getD_eq_getElem?_getD, List.getElem?_map, List.getElem?_set]
    by_cases e : J = i
    · subst e; rw [if_pos rfl, if_pos rfl, if_pos hl]; rfl
    · rw [if_neg (fun q => e q.symm), if_neg e, List.getElem?_eq_getElem hl]; rfl) 9 Tryd.underlying9
  rw [strOf_bytes] at k
  exact k
theorem wrapU (q : Int) : ∃ Q : Nat, Q < 18446744073709551616 ∧ IntKind.u64.wrap q = (Q : Int) :=
  ⟨(q % 18446744073709551616).toNat, by omega, by rw [IntKind.wrap_u64]; omega⟩
theorem u8_val (C : Nat) (h : C < 256) : (UInt8.ofNat C).toNat = C := by rw [UInt8.toNat_ofNat']; omega
theorem xor_byte (x y : Nat) (hx : x < 256) (hy : y < 256) (h0 : y ≠ 0) : ∃ C : Nat, C < 256 ∧ C ≠ x ∧ bits .xor .u8 (x : Int) (y : Int) = (C : Int) := by
  refine ⟨x ^^^ y, Nat.xor_lt_two_pow (n := 8) hx hy, fun h => h0 ?_, u8_xor_nat x y hx hy⟩
  have : x ^^^ y = x ^^^ 0 := by rw [h, Nat.xor_zero]
  exact xor_cancel_l this
end Go.Proofs.YtbbmacpjgflndaaDoor
