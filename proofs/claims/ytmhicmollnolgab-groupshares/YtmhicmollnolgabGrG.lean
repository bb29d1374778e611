/-
  works: the chapter's examples.
-/
import Derived.Test.YtmhicmollnolgabGrE
namespace Go.Proofs.Ytmhicmollnolgab
open Go.RowKit

theorem OwnM.two {B : Nat} {w : World} {v : Value} {l : List (Nat × Nat × Nat)} (h : OwnM B w v l) {a b c d e f : Nat} (hl : l = [(a, b, c), (d, e, f)]) : ∃ g cap, v = .slice (some ⟨g, 0, none⟩) 2 cap ∧ w.cell? ⟨g, 0, none⟩ = some (.int .i64 (a : Int)) ∧ w.cell? ⟨g, 1, none⟩ = some (.int .i64 (b : Int)) ∧ w.cell? ⟨g, 2, none⟩ = some (.int .i64 (c : Int)) := by
  subst hl
  obtain ⟨h0, ⟨rfl, h1⟩ | ⟨g, cap, cur, rfl, hg, hh, h2, h3, h4, h5⟩⟩ := h
  · cases h1
  · have key : ∀ j x, j < 6 → (mvC [(a, b, c), (d, e, f)])[j]? = some x → w.cell? ⟨g, j, none⟩ = some x := fun j x hj hx => by
      rw [← h5, List.getElem?_take_of_lt (by simpa using hj)] at hx
      simp at hx
      simp [World.cell?, hh, hx]
    exact ⟨g, cap, rfl, key 0 _ (by omega) rfl, key 1 _ (by omega) rfl, key 2 _ (by omega) rfl⟩
set_option maxHeartbeats 1000000 in
set_option maxRecDepth 100000 in
theorem grWorks_any (w : World) : Calls Try.prog 4 #[] w fun e w' => e = .returned (.bool true) ∧ Kp [] w w' := by
  have RG := hide (fun W => range_ok 10 3 2 W ⟨by decide, by decide, by decide, by decide, by decide⟩ (by decide))
  have f1 : fstG 10 3 2 = 6 := by decide
  have f2 : fstG 10 3 (2 + 1) = 10 := by decide
  rw [f1, f2] at RG
  have MV := hide (fun W => moves_ok 4 1 2 W ⟨by decide, by decide, by decide, by decide, by decide⟩ ⟨by decide, by decide, by decide, by decide, by decide⟩)
  have HL : Hid (mvL 4 1 2 4 = [(2, 0, 1), (3, 0, 1)]) := hide (by decide)
  have H0 := hide (fun W => hash_any ⟨#[]⟩ W (by decide))
  have H1 := hide (fun W => hash_any ⟨#[97]⟩ W (by decide))
  have h0 : hshL (⟨#[]⟩ : ByteArray).data.toList = 2166136261 := hshL_nil
  have h1 : hshL (⟨#[97]⟩ : ByteArray).data.toList = 3826002220 := by
    have : (⟨#[97]⟩ : ByteArray).data.toList = [] ++ [97] := rfl
    rw [this, hshL_snoc, hshL_nil]
    decide
  rw [h0] at H0
  rw [h1] at H1
  have E3 := eq3
  clear f1 f2 h0 h1
  go_enter Try.func4, Try.ntmps4
  go_wp2_with fail
  refine (unhide RG w).mono ?_
  rintro r w1 ⟨rfl, rfl⟩
  go_wp2_with fail
  refine (unhide MV w1).mono ?_
  rintro r w2 ⟨v, rfl, ho, hk⟩
  obtain ⟨g, cap, rfl, c0, c1, c2⟩ := ho.two (unhide HL)
  have HK := hide hk
  clear ho hk MV HL RG
  go_wp2_with fail
  refine (unhide H0 w2).mono ?_
  rintro r w3 ⟨rfl, rfl⟩
  go_wp2_with fail
  refine (unhide H1 w3).mono ?_
  rintro r w4 ⟨rfl, rfl⟩
  go_wp2
  go_ret
  exact ⟨rfl, unhide HK⟩
end Go.Proofs.Ytmhicmollnolgab
