/-
  What a row of items of the call's own reads as.
-/
import Derived.Test.YtijckimjcogfjaaDec
namespace Go.Proofs.Ytijckimjcogfjaa
open Go.RowKit

theorem itemC_get (l : List It) (i : Nat) (h : i < l.length) : (itemC l)[i * 3]? = some (.bool l[i].t) ∧ (itemC l)[i * 3 + 1]? = some (.int .i64 l[i].n) ∧ (itemC l)[i * 3 + 2]? = some (.string l[i].s) := by
  induction l generalizing i with
  | nil => simp at h
  | cons x r ih =>
    have e : itemC (x :: r) = [.bool x.t, .int .i64 x.n, .string x.s] ++ itemC r := by unfold itemC; rw [List.flatMap_cons]
    cases i with
    | zero => rw [e]; simp
    | succ i =>
      have hi : i < r.length := by simpa using h
      obtain ⟨a, b, c⟩ := ih i hi
      rw [e]
      simp only [List.getElem_cons_succ]
      refine ⟨?_, ?_, ?_⟩
      · rw [List.getElem?_append_right (by simp; omega)]; rw [← a]; congr 1; simp; omega
      · rw [List.getElem?_append_right (by simp; omega)]; rw [← b]; congr 1; simp; omega
      · rw [List.getElem?_append_right (by simp; omega)]; rw [← c]; congr 1; simp; omega
theorem OwnsI.items {B : Nat} {w : World} {v : Value} {l : List It} (h : OwnsI B w v l) : ∃ ad cp, v = .slice ad l.length cp ∧ ItemsAt w ad l := by
  obtain ⟨_, ⟨rfl, h0⟩ | ⟨g, cp, cur, rfl, r⟩⟩ := id h
  · refine ⟨none, 0, by rw [h0], fun hne => ?_⟩
    exact absurd (List.eq_nil_of_length_eq_zero h0) hne
  · have hl := World.ownsRow.lt h g rfl
    refine ⟨_, _, rfl, fun _ => ⟨g, 0, rfl, hl.2, fun i hi => ?_⟩⟩
    obtain ⟨a, b, c⟩ := itemC_get l i hi
    simp only [Nat.zero_add]
    refine ⟨?_, ?_, ?_⟩
    · rw [World.ownsRow.cellAt h (i * 3) (by omega)]; exact a
    · rw [World.ownsRow.cellAt h (i * 3 + 1) (by omega)]; exact b
    · rw [World.ownsRow.cellAt h (i * 3 + 2) (by omega)]; exact c
end Go.Proofs.Ytijckimjcogfjaa
