/-
  The document's source: some of a row of events copied; Read.
-/
import Derived.Test.YtnikkjbjidhhlaaRsA
import Derived.Test.YtnikkjbjidhhlaaSoM
namespace Go.Proofs.Ytnikkjbjidhhlaa
open Go.RowKit

theorem EvsAt.news {w : World} {b off : Nat} {l : List Ev} (h : EvsAt w (some ⟨b, off, none⟩) l) : ∀ (j : Nat) (u : Value), (evC l)[j]? = some u → w.cell? ((⟨b, off, none⟩ : Addr).add j) = some u := fun j u hj => by
  have hlt : j < (evC l).length := (List.getElem?_eq_some_iff.1 hj).1
  rw [evC_length] at hlt
  have hne : l ≠ [] := by rintro rfl; simp at hlt
  obtain ⟨b', off', e, _, hc⟩ := h hne
  injection e with e; injection e with e1 e2
  subst e1 e2
  have hi : j / 7 < l.length := by omega
  have hd : j = j / 7 * 7 + j % 7 := by omega
  have hm : j % 7 < (l[j / 7]).c.size := Nat.mod_lt _ (by decide)
  have h1 := evC_get l (j / 7) l[j / 7] (List.getElem?_eq_getElem hi) (j % 7) _ (Array.getElem?_eq_getElem hm)
  rw [← hd, hj] at h1
  injection h1 with h1
  have h2 := hc (j / 7) l[j / 7] (List.getElem?_eq_getElem hi) (j % 7) _ (Array.getElem?_eq_getElem hm)
  rw [Nat.add_assoc, ← hd, ← h1] at h2
  rw [show (⟨b, off, none⟩ : Addr).add j = ⟨b, off + j, none⟩ by simp [Addr.add]]
  exact h2
/-- Events, wherever they lie, put at the end of a row that is the call's own. -/
theorem appEvsAt {w : World} {ad : Option Addr} {c : Nat} {ov : Value} {A l : List Ev} (h : EvsAt w ad l) (ha : ad = none → c = 0) (hs : ∀ a, ad = some a → a.spot = none) (ho : EvRow w ov A) (hov : ov ≠ .slice none 0 0) (hl : A.length + l.length ≤ 1000000) (ty : TypeId) (hc : c = 0 → l = []) :
    ∃ v' w', (Builtin.append_ #[51, 51] ty #[ov, .slice ad l.length c]).run Try.prog w = .ok v' w' ∧ EvRow w' v' (A ++ l) ∧ w.grownBy w' ov.ownBlock ∧ (v'.ownBlock = ov.ownBlock ∨ v'.ownBlock = some w.heap.size) ∧ ∃ g cap, v' = .slice (some ⟨g, 0, none⟩) (A ++ l).length cap := by
  obtain ⟨i0, hi, hz0, hz1, hz2⟩ := info_parts info_event
  obtain ⟨e, _⟩ | ⟨g2, cap2, rfl, hc2, hm2⟩ := ho.shape
  · exact absurd e hov
  cases ad with
  | none =>
    obtain rfl := ha rfl
    obtain rfl := hc rfl
    exact ⟨_, w, run_append_owned_none (P := Try.prog) (w := w) 0 _ ty 45 i0 7 Try.underlying51 hi _ _ _ ho, by simpa using ho, World.grownBy.refl _ _, Or.inl rfl, g2, cap2, by simp⟩
  | some a =>
    obtain ⟨b, off, spot⟩ := a
    obtain rfl : spot = none := hs _ rfl
    by_cases h0 : l = []
    · subst h0
      refine ⟨.slice (some ⟨g2, 0, none⟩) A.length cap2, w, ?_, by simpa using ho, World.grownBy.refl _ _, Or.inl rfl, g2, cap2, by simp⟩
      have := run_append_room_cells (P := Try.prog) (w := w) 51 ty 45 i0 Try.underlying51 hi g2 0 A.length cap2 ⟨b, off, none⟩ 0 c [] (by simp) (fun j u hj => by simp at hj) (fun u hu => by cases hu) (by omega) (fun j hj => absurd hj (by simp)) (fun j hj => absurd hj (by simp))
      simpa [World.setCells] using this
    · have hpos : 0 < l.length := List.length_pos_iff.2 h0
      obtain ⟨g3, cap3, w', hr, h1, h2, h3, _⟩ := run_append_lies (P := Try.prog) (w := w) 51 ty 0 45 i0 (.agg #[.string ⟨#[]⟩, .string ⟨#[]⟩, .int .i64 0, .int .i64 0, .int .i64 0, .int .i64 0, .string ⟨#[]⟩]) 7 80 Try.underlying51 hi hz0 hz1 hz2 rfl (by decide) _ _ _ ho ⟨b, off, none⟩ l.length c (evC l) (evC_length l) h.news (evC_one' l) hpos (by unfold maxLen; omega) (by omega) (Nat.zero_le _) _ rfl
      refine ⟨_, w', hr, ?_, h2, ?_, g3, cap3, by rw [List.length_append]⟩
      · unfold EvRow
        rw [List.length_append, evC_append]
        exact h1
      · rcases h3 with h3 | h3
        · exact Or.inl h3.symm
        · exact Or.inr (by rw [h3]; rfl)
end Go.Proofs.Ytnikkjbjidhhlaa
