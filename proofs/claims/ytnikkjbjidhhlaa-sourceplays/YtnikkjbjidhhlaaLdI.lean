/-
  LendInts: a copy of numbers with a mark behind its end.
-/
import Derived.Test.YtnikkjbjidhhlaaSoF
import Derived.Laws.AppendOwnNone
import Derived.Deep.AppendLies
namespace Go.Proofs.Ytnikkjbjidhhlaa
open Go.RowKit

/-- Numbers lie in a row of their own. -/
def IRw (w : World) (v : Value) (l : List Int) : Prop := w.ownsRow 0 3 1 v l.length (l.map (Value.int .i64))
theorem IRw.empty (w : World) : IRw (w.alloc (.cells #[] 3)) (.slice (some ⟨w.heap.size, 0, none⟩) 0 0) [] :=
  ⟨rfl, Or.inr ⟨w.heap.size, 0, #[], rfl, Nat.zero_le _, CBox.new w _ _, Nat.le_refl _, by unfold maxLen; omega, rfl, rfl⟩⟩
theorem appInts {w : World} {ad : Option Addr} {c g2 n2 cap2 : Nat} {A l : List Int} (h : IntsAt w ad l) (ha : ad = none → l = [] ∧ c = 0) (ho : IRw w (.slice (some ⟨g2, 0, none⟩) n2 cap2) A) (hl : A.length + l.length ≤ 17592186044416) (ty : TypeId) :
    ∃ g cap w', (Builtin.append_ #[34, 34] ty #[.slice (some ⟨g2, 0, none⟩) n2 cap2, .slice ad l.length c]).run Try.prog w = .ok (.slice (some ⟨g, 0, none⟩) (A ++ l).length cap) w' ∧ IRw w' (.slice (some ⟨g, 0, none⟩) (A ++ l).length cap) (A ++ l) ∧ w.grownBy w' (some g2) ∧ (g = g2 ∨ g = w.heap.size) := by
  obtain ⟨i0, hi, hz0, hz1, hz2⟩ := info_parts info_int
  have hn2 : n2 = A.length ∧ A.length ≤ cap2 := by
    obtain ⟨_, ⟨e, _⟩ | ⟨g, cp, cur, e, _, _, hn, _⟩⟩ := id ho
    · cases e
    · injection e with _ e2 e3
      exact ⟨e2, by omega⟩
  obtain ⟨rfl, hc2⟩ := hn2
  cases ad with
  | none =>
    obtain ⟨rfl, rfl⟩ := ha rfl
    exact ⟨g2, cap2, w, by simpa using run_append_owned_none (P := Try.prog) (w := w) 0 _ ty 3 i0 1 Try.underlying34 hi _ _ _ ho, by simpa using ho, World.grownBy.refl _ _, Or.inl rfl⟩
  | some a =>
    by_cases h0 : l = []
    · subst h0
      have := run_append_room_cells (P := Try.prog) (w := w) 34 ty 3 i0 Try.underlying34 hi g2 0 A.length cap2 a 0 c [] (by simp) (fun j u hj => by simp at hj) (fun u hu => by cases hu) (by omega) (fun j hj => absurd hj (by simp)) (fun j hj => absurd hj (by simp))
      exact ⟨g2, cap2, w, by simpa [World.setCells] using this, by simpa using ho, World.grownBy.refl _ _, Or.inl rfl⟩
    · have hpos : 0 < l.length := List.length_pos_iff.2 h0
      obtain ⟨b, off, e, _, hc⟩ := h h0
      injection e with e
      subst e
      obtain ⟨g3, cap3, w', hr, h1, h2, h3, _⟩ := run_append_lies (P := Try.prog) (w := w) 34 ty 0 3 i0 (.int .i64 0) 1 8 Try.underlying34 hi hz0 hz1 hz2 rfl (by decide) _ _ _ ho ⟨b, off, none⟩ l.length c (l.map (Value.int .i64)) (by simp) (fun j u hj => by
        rw [List.getElem?_map] at hj
        cases hq : l[j]? with
        | none => rw [hq] at hj; cases hj
        | some y =>
          rw [hq] at hj
          simp at hj
          subst hj
          obtain ⟨hjl, rfl⟩ := List.getElem?_eq_some_iff.1 hq
          rw [Go.WideShapes.add_plain]
          exact hc j hjl) (fun u hu => by obtain ⟨_, _, rfl⟩ := List.mem_map.1 hu; rfl) hpos (by unfold maxLen; omega) (by omega) (Nat.zero_le _) _ rfl
      refine ⟨g3, cap3, w', by rw [List.length_append]; exact hr, ?_, h2, ?_⟩
      · unfold IRw
        rw [List.length_append, List.map_append]
        exact h1
      · rcases h3 with h3 | h3
        · exact Or.inl (by simpa [Value.ownBlock] using h3.symm)
        · exact Or.inr h3
end Go.Proofs.Ytnikkjbjidhhlaa
