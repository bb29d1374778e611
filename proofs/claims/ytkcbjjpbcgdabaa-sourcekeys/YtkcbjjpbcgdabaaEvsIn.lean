/-
  A slice of events that comes in as an argument: its events lie where it says.
-/
import Derived.Test.YtkcbjjpbcgdabaaEvIn
import Derived.Test.YtkcbjjpbcgdabaaSoG
namespace Go.Proofs.Ytkcbjjpbcgdabaa
open Go.RowKit Go.Deep

theorem open_events {H : Type} {enc : TypeId × Value → H} {W : World} {spare : Nat → Bool} {held : Bool} {fuel : Nat} {v : Value} {x : DataW H × List MemPlace}
    (h : DataW.trod enc Try.prog W 0 spare held fuel 51 [v] = some x) :
    ∃ (ad : Option Addr) (cap : Nat) (l : List Ev), v = .slice ad l.length cap ∧ l.length ≤ 9223372036854775807 ∧ EvsAt W ad l ∧ ∀ y ∈ l, y.ok := by
  rcases open_slice Try.underlying51 h with ⟨hcs, _⟩ | ⟨a, len, cap, m, n, D, Pl, hcs, hb, hl, hm, hmm, _, hx⟩
  · simp only [List.cons.injEq, and_true] at hcs
    subst hcs
    exact ⟨none, 0, [], rfl, by simp, fun hne => absurd rfl hne, by simp⟩
  · simp only [List.cons.injEq, and_true] at hcs
    subst hcs
    have hlm : len ≤ m := by rw [hmm]; split <;> omega
    have each : ∀ i, i < len → ∃ y : Ev, (∀ (j : Nat) (u : Value), y.c[j]? = some u → W.cell? (a.add (i * 7 + j)) = some u) ∧ y.ok := by
      intro i hi
      obtain ⟨cs', h1, h2⟩ := hx i (by omega)
      rw [cells_Event] at h1
      obtain ⟨_, hlen, hcell⟩ := World.cells?_some h1
      obtain ⟨y, hy, hok⟩ := open_event (cs := cs'.toArray) (by rw [cells_Event]; simpa using hlen) (by simpa using h2)
      refine ⟨y, fun j u hu => ?_, hok⟩
      rw [← hy] at hu
      have hj : j < cs'.length := by
        have := (Array.getElem?_eq_some_iff.1 hu).1
        simpa using this
      have e0 := hcell j (by omega)
      rw [Go.Deep.add_add] at e0
      rw [e0]
      simpa using hu
    have hinh : Inhabited Ev := ⟨⟨⟨#[]⟩, ⟨#[]⟩, 0, 0, 0, 0, ⟨#[]⟩⟩⟩
    obtain ⟨q, hq⟩ := choose_lt each
    refine ⟨some a, cap, (List.range len).map q, by simp, by simp; unfold maxLen at hm; omega, fun hne => ?_, fun y hy => ?_⟩
    · have h0 : 0 < len := by
        rcases Nat.eq_zero_or_pos len with e | e
        · subst e; simp at hne
        · exact e
      obtain ⟨b, off, spot⟩ := a
      have hc0 := (hq 0 h0).1 0 _ rfl
      have hspot : spot = none := by simpa [Addr.add] using World.cell?_spot hc0
      subst hspot
      refine ⟨b, off, rfl, ?_, fun i e hi j u hu => ?_⟩
      · rcases Nat.lt_or_ge b W.heap.size with hlt | hge
        · exact hlt
        · exfalso
          rw [Go.WideShapes.add_plain] at hc0
          simp [World.cell?, Array.getElem?_eq_none hge] at hc0
      · have hi' : i < len := by
          have := (List.getElem?_eq_some_iff.1 hi).1
          simpa using this
        have he : e = q i := by
          rw [List.getElem?_map, List.getElem?_range hi'] at hi
          simpa using hi.symm
        subst he
        have := (hq i hi').1 j u hu
        rw [Go.WideShapes.add_plain] at this
        rw [Nat.add_assoc]
        exact this
    · obtain ⟨i, hi, rfl⟩ := List.mem_map.1 hy
      exact (hq i (List.mem_range.1 hi)).2
end Go.Proofs.Ytkcbjjpbcgdabaa
