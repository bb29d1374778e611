/-
  The document's Of.
-/
import Derived.Test.YtlljilekompbeaaGrB
import Derived.Test.YtlljilekompbeaaGrAR
namespace Go.Proofs.Ytlljilekompbeaa
open Go.RowKit

theorem mayT_one (g : Int) : mayT g 1 = mayG g := by
  unfold mayT mayG
  rw [Bool.eq_iff_iff]
  simp
  omega
set_option maxHeartbeats 400000 in
theorem refOf_any (b : ByteArray) (g : Int) (w : World) (hb : b.size ≤ maxLen) : Calls Try.prog 36 #[.string b, .int .i64 g] w fun e w' => e = .returned (.tuple #[.int .i64 (ofA (hshL b.data.toList) g), .int .i64 (ofE g)]) ∧ w' = w := by
  have MG := hide (refMay_any g 1 w)
  rw [mayT_one] at MG
  have HS := hide (refHash_any b w hb)
  unfold ofA ofE
  have hl := hshL_lt b.data.toList
  generalize hshL b.data.toList = S at *
  by_cases h : mayG g = true
  · rw [h] at MG ⊢
    obtain ⟨G, rfl⟩ : ∃ G : Nat, g = (G : Int) := ⟨g.toNat, by unfold mayG at h; simp at h; omega⟩
    have h1 : 1 ≤ G ∧ G ≤ 128 := by unfold mayG at h; simp at h; omega
    obtain ⟨h1, h2⟩ := h1
    clear h
    go_enter Try.func36, Try.ntmps36
    go_wp2_with fail
    refine (unhide MG).mono ?_
    rintro r w1 ⟨rfl, rfl⟩
    clear MG
    go_wp2_with fail
    refine (unhide HS).mono ?_
    rintro r w2 ⟨rfl, rfl⟩
    go_wp2
    go_ret2
    exact ⟨rem_pair (wrap64_rem S G hl), rfl⟩
  · rw [Bool.not_eq_true] at h
    rw [h] at MG ⊢
    go_enter Try.func36, Try.ntmps36
    go_wp2_with fail
    refine (unhide MG).mono ?_
    rintro r w1 ⟨rfl, rfl⟩
    clear MG
    go_wp2
    go_ret2
    simp
end Go.Proofs.Ytlljilekompbeaa
