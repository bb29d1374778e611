/-
  The document's answer for events (May) is the plain function's.
-/
import Derived.Test.YtnikkjbjidhhlaaRefNm
import Derived.Test.YtnikkjbjidhhlaaEv0
namespace Go.Proofs.Ytnikkjbjidhhlaa
open Go.RowKit

set_option maxHeartbeats 1000000 in
theorem refMayE_any (e : Ev) (w : World) (hok : e.ok) :
    Calls Try.prog 43 #[.agg e.c] w fun r w' => r = .returned (.bool e.may) ∧ w' = w.alloc (.cells e.c 45) := by
  obtain ⟨hk, ht, hx, _⟩ := hok
  obtain ⟨k, t, n0, n1, n2, n3, x⟩ := e
  unfold Ev.c Ev.may
  dsimp only at hk ht hx ⊢
  have nk := fun w => refNamed_any k w hk
  have nt := fun w => refNamed_any t w ht
  by_cases b1 : nameB k = true
  · by_cases b2 : nameB t = true
    · have e : mayE k t x = decide ((x.size : Int) ≤ 256) := by
        unfold mayE
        rw [b1, b2, Bool.true_and, Bool.true_and, decide_eq_decide]
        omega
      rw [e]
      simp only [b1] at nk
      simp only [b2] at nt
      have NK := hide nk
      have NT := hide nt
      clear nk nt b1 b2 e hk ht
      go_enter Try.func43, Try.ntmps43
      go_wp2_with fail
      refine (unhide NK _).mono ?_
      rintro e w1 ⟨rfl, rfl⟩
      go_wp2_with fail
      refine (unhide NT _).mono ?_
      rintro e w1 ⟨rfl, rfl⟩
      go_wp2
      go_ret
      exact ⟨rfl, rfl⟩
    · have b2' : nameB t = false := by simpa using b2
      have e : mayE k t x = false := by unfold mayE; simp [b2']
      rw [e]
      simp only [b1] at nk
      simp only [b2'] at nt
      have NK := hide nk
      have NT := hide nt
      clear nk nt b1 b2 b2' e hk ht
      go_enter Try.func43, Try.ntmps43
      go_wp2_with fail
      refine (unhide NK _).mono ?_
      rintro e w1 ⟨rfl, rfl⟩
      go_wp2_with fail
      refine (unhide NT _).mono ?_
      rintro e w1 ⟨rfl, rfl⟩
      go_wp2
      go_ret
      exact ⟨rfl, rfl⟩
  · have b1' : nameB k = false := by simpa using b1
    have e : mayE k t x = false := by unfold mayE; simp [b1']
    rw [e]
    simp only [b1'] at nk
    have NK := hide nk
    clear nk nt b1 b1' e hk ht
    go_enter Try.func43, Try.ntmps43
    go_wp2_with fail
    refine (unhide NK _).mono ?_
    rintro e w1 ⟨rfl, rfl⟩
    go_wp2
    go_ret
    exact ⟨rfl, rfl⟩
end Go.Proofs.Ytnikkjbjidhhlaa
