/-
  The document's Owner.
-/
import Derived.Test.YtlljilekompbeaaGrB
import Derived.Test.YtlljilekompbeaaGrAR
namespace Go.Proofs.Ytlljilekompbeaa
open Go.RowKit

theorem refOwner_no (g t q : Int) (w : World) (h : mayT g t = false) : Calls Try.prog 37 #[.int .i64 g, .int .i64 t, .int .i64 q] w fun e w' => e = .returned (.tuple #[.int .i64 0, .int .i64 1]) ∧ w' = w := by
  have MT := hide (refMay_any g t w)
  rw [h] at MT
  go_enter Try.func37, Try.ntmps37
  go_wp2_with fail
  refine (unhide MT).mono ?_
  rintro r w1 ⟨rfl, rfl⟩
  go_wp2
  go_ret2
  exact ⟨rfl, rfl⟩
theorem refOwner_not (G T : Nat) (q : Int) (w : World) (hm : May G T) (hq : ¬(0 ≤ q ∧ q < (G : Int))) : Calls Try.prog 37 #[.int .i64 (G : Int), .int .i64 (T : Int), .int .i64 q] w fun e w' => e = .returned (.tuple #[.int .i64 0, .int .i64 1]) ∧ w' = w := by
  have MT := hide (refMay_any (G : Int) (T : Int) w)
  rw [hm.of] at MT
  go_enter Try.func37, Try.ntmps37
  go_wp2_with fail
  refine (unhide MT).mono ?_
  rintro r w1 ⟨rfl, rfl⟩
  by_cases h0 : q < 0
  · go_wp2
    go_ret2
    exact ⟨rfl, rfl⟩
  · have h1 : (G : Int) ≤ q := by omega
    go_wp2
    go_ret2
    exact ⟨rfl, rfl⟩
set_option maxHeartbeats 400000 in
theorem refOwner_ok (G T q : Nat) (w : World) (hm : May G T) (hq : q < G) : Calls Try.prog 37 #[.int .i64 (G : Int), .int .i64 (T : Int), .int .i64 (q : Int)] w fun e w' => e = .returned (.tuple #[.int .i64 ((own G T q : Nat) : Int), .int .i64 0]) ∧ w' = w := by
  have MT := hide (refMay_any (G : Int) (T : Int) w)
  rw [hm.of] at MT
  have h1 := hm.t1
  have h2 := hm.g2
  have h3 := hm.t3
  have ho := own_lt G T q hm.g1 hm.t1 hq
  have HST := hide (fun i => own_step G T q i hm.g1 hm.t1)
  clear hm
  generalize own G T q = o at *
  go_enter Try.func37, Try.ntmps37
  go_wp2_with fail
  refine (unhide MT).mono ?_
  rintro r w1 ⟨rfl, rfl⟩
  clear MT
  go_wp2
  go_loop [8] (fun i => ∃ k : Nat, k ≤ o ∧ i = .int .i64 (k : Int)) (fun i => o - (intOf i).toNat)
  case atStart => exact ⟨0, Nat.zero_le _, rfl⟩
  case round =>
    obtain ⟨k, hk, rfl⟩ := hrel
    have hs := unhide HST k
    unfold fstG at hs
    have e2 : ((k : Int) + 1) * (G : Int) = (((k + 1) * G : Nat) : Int) := by simp
    have b2 := mul_lt_small (k + 1) G (by omega) (by omega)
    generalize (k + 1) * G = n at *
    have e3 := wrap64_div n T b2
    generalize hd : n / T = d at *
    clear hd HST
    by_cases hlt : k + 1 ≤ o
    · have hdq : d ≤ q := hs.2 hlt
      clear hs
      go_wp2
      go_round
      case rel => exact ⟨k + 1, by omega, by go_num⟩
      case measure => simp [intOf]; omega
    · have hdq : ¬ d ≤ q := fun h => hlt (hs.1 h)
      obtain rfl : k = o := by omega
      clear hs
      go_wp2
      go_ret2
      exact ⟨rfl, rfl⟩
end Go.Proofs.Ytlljilekompbeaa
