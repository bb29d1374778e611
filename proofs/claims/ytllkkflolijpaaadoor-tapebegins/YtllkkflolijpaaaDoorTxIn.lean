/-
  A slice of strings that comes in as an argument: its texts lie where it says.
-/
import Derived.Test.YtllkkflolijpaaaDoorFrs0
import Derived.ProofKit
import Derived.OpenShut
import Derived.SliceStrings
namespace Go.Proofs.YtllkkflolijpaaaDoor
open Go.RowKit Go.ChangeShapes

theorem cellsOf_string : Tryd.prog.cellsOf 9 = 1 := by kernel_rfl
theorem open_texts {H : Type} {enc : TypeId × Value → H} {W : World} {fuel : Nat} {held : Bool} {v : Value} {x : DataW H × List MemPlace}
    (h : DataW.trod enc Tryd.prog W 0 (fun _ => true) held fuel 26 [v] = some x) :
    ∃ (ad : Option Addr) (cap : Nat) (l : List (List UInt8)), v = .slice ad l.length cap ∧ l.length ≤ 9223372036854775807 ∧ TextsAt W ad l ∧ ∀ y ∈ l, y.length ≤ 9223372036854775807 := by
  rcases open_strings Tryd.underlying26 Tryd.underlying9 cellsOf_string h with ⟨hcs, _⟩ | ⟨a, len, cap, ss, hcs, hb, hl, hm, hz, _, hcell, hws⟩
  · simp only [List.cons.injEq, and_true] at hcs
    subst hcs
    exact ⟨none, 0, [], rfl, by simp, fun hne => absurd rfl hne, by simp⟩
  · simp only [List.cons.injEq, and_true] at hcs
    subst hcs
    rw [if_pos rfl] at hz
    have hlen : ((ss.take len).map fun s => s.data.toList).length = len := by rw [List.length_map, List.length_take]; omega
    refine ⟨some a, cap, (ss.take len).map fun s => s.data.toList, by rw [hlen], by rw [hlen]; unfold maxLen at hm; omega, fun hne => ?_, fun y hy => ?_⟩
    · have h0 : 0 < len := by
        rcases Nat.eq_zero_or_pos len with e | e
        · subst e; simp at hne
        · exact e
      obtain ⟨b, off, spot⟩ := a
      have hc0 := hcell 0 (by omega)
      have hspot : spot = none := by simpa [Addr.add] using World.cell?_spot hc0
      subst hspot
      refine ⟨b, off, rfl, ?_, fun i hi => ?_⟩
      · rcases Nat.lt_or_ge b W.heap.size with hlt | hge
        · exact hlt
        · exfalso
          rw [Go.WideShapes.add_plain] at hc0
          simp [World.cell?, Array.getElem?_eq_none hge] at hc0
      · rw [hlen] at hi
        have c := hcell i (by omega)
        rw [Go.WideShapes.add_plain] at c
        rw [c]
        have hi2 : i < ss.length := by omega
        simp only [List.getElem_map, List.getElem_take]
        rw [List.getD_eq_getElem?_getD, List.getElem?_eq_getElem hi2]
        rfl
    · obtain ⟨s, hs, rfl⟩ := List.mem_map.1 hy
      have := hws s (List.mem_of_mem_take hs)
      unfold maxLen at this
      rw [Array.length_toList]
      show s.size ≤ _
      omega
end Go.Proofs.YtllkkflolijpaaaDoor
