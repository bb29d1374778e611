/-
  A slice of matches that comes in as an argument: its matches lie where it says.
-/
import Derived.Test.YtnikkjbjidhhlaaMtIn
import Derived.Test.YtnikkjbjidhhlaaEsC
namespace Go.Proofs.Ytnikkjbjidhhlaa
open Go.RowKit Go.Deep

theorem open_matches {H : Type} {enc : TypeId × Value → H} {W : World} {spare : Nat → Bool} {held : Bool} {fuel : Nat} {v : Value} {x : DataW H × List MemPlace}
    (h : DataW.trod enc Try.prog W 0 spare held fuel 22 [v] = some x) :
    ∃ (ad : Option Addr) (cap : Nat) (l : List Hd), v = .slice ad l.length cap ∧ l.length ≤ 9223372036854775807 ∧ MtsAt W ad l ∧ ∀ y ∈ l, y.lies W := by
  rcases open_slice Try.underlying22 h with ⟨hcs, _⟩ | ⟨a, len, cap, m, n, D, Pl, hcs, hb, hl, hm, hmm, _, hx⟩
  · simp only [List.cons.injEq, and_true] at hcs
    subst hcs
    exact ⟨none, 0, [], rfl, by simp, fun hne => absurd rfl hne, by simp⟩
  · simp only [List.cons.injEq, and_true] at hcs
    subst hcs
    have hlm : len ≤ m := by rw [hmm]; split <;> omega
    have each : ∀ i, i < len → ∃ y : Hd, (W.cell? (a.add (i * 2)) = some (.string y.k) ∧ W.cell? (a.add (i * 2 + 1)) = some (.slice y.a y.s.length y.c)) ∧ y.lies W := by
      intro i hi
      obtain ⟨cs', h1, h2⟩ := hx i (by omega)
      rw [cells_Match] at h1
      obtain ⟨_, hlen, hcell⟩ := World.cells?_some h1
      obtain ⟨k, ad, cp, ss, hy, hok, hst, _⟩ := open_match (cs := cs'.toArray) (by rw [cells_Match]; simpa using hlen) (by simpa using h2)
      have hcs : cs' = [.string k, .slice ad ss.length cp] := by
        have := congrArg Array.toList hy
        simpa using this
      subst hcs
      refine ⟨⟨k, ss, ad, cp⟩, ⟨?_, ?_⟩, hok, hst⟩
      · have e0 := hcell 0 (by omega)
        rw [Go.Deep.add_add] at e0
        simpa using e0
      · have e0 := hcell 1 (by omega)
        rw [Go.Deep.add_add] at e0
        simpa using e0
    have hinh : Inhabited Hd := ⟨⟨⟨#[]⟩, [], none, 0⟩⟩
    obtain ⟨q, hq⟩ := choose_lt each
    refine ⟨some a, cap, (List.range len).map q, by simp, by simp; unfold maxLen at hm; omega, fun hne => ?_, fun y hy => ?_⟩
    · have h0 : 0 < len := by
        rcases Nat.eq_zero_or_pos len with e | e
        · subst e; simp at hne
        · exact e
      obtain ⟨b, off, spot⟩ := a
      have hc0 := (hq 0 h0).1.1
      have hspot : spot = none := by simpa [Addr.add] using World.cell?_spot hc0
      subst hspot
      refine ⟨b, off, rfl, ?_, fun i hi => ?_⟩
      · rcases Nat.lt_or_ge b W.heap.size with hlt | hge
        · exact hlt
        · exfalso
          rw [Go.WideShapes.add_plain] at hc0
          simp [World.cell?, Array.getElem?_eq_none hge] at hc0
      · have hi' : i < len := by simpa using hi
        obtain ⟨c0, c1⟩ := (hq i hi').1
        rw [Go.WideShapes.add_plain] at c0 c1
        simp only [List.getElem_map, List.getElem_range]
        exact ⟨c0, c1⟩
    · obtain ⟨i, hi, rfl⟩ := List.mem_map.1 hy
      exact (hq i (List.mem_range.1 hi)).2
end Go.Proofs.Ytnikkjbjidhhlaa
