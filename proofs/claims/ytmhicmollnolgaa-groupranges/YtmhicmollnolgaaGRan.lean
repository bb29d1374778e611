/-
  GroupRanges: the walk.
-/
import Derived.Test.YtmhicmollnolgaaGrG
namespace Go.Proofs.Ytmhicmollnolgaa
open Go.RowKit

/-- Both Ranges answer the same. -/
theorem ranges_any (g t n : Int) : ∃ a b e : Int, (∀ w, Calls Try.prog 14 #[.int .i64 g, .int .i64 t, .int .i64 n] w fun r w' => r = .returned (.tuple #[.int .i64 a, .int .i64 b, .int .i64 e]) ∧ w' = w) ∧ (∀ w, Calls Try.prog 15 #[.int .i64 g, .int .i64 t, .int .i64 n] w fun r w' => r = .returned (.tuple #[.int .i64 a, .int .i64 b, .int .i64 e]) ∧ Kp [] w w') := by
  cases h : mayT g t with
  | false => exact ⟨_, _, _, fun w => range_no g t n w h, fun w => refRange_no g t n w h⟩
  | true =>
    obtain ⟨G, T, rfl, rfl, hm⟩ := may_nat h
    by_cases hi : 0 ≤ n ∧ n < (T : Int)
    · obtain ⟨i, rfl⟩ : ∃ i : Nat, n = (i : Int) := ⟨n.toNat, by omega⟩
      exact ⟨_, _, _, fun w => range_ok G T i w hm (by omega), fun w => refRange_ok G T i w hm (by omega)⟩
    · exact ⟨_, _, _, fun w => range_task G T n w hm hi, fun w => refRange_task G T n w hm hi⟩
/-- Both Owners answer the same. -/
theorem owners_any (g t n : Int) : ∃ a e : Int, (∀ w, Calls Try.prog 16 #[.int .i64 g, .int .i64 t, .int .i64 n] w fun r w' => r = .returned (.tuple #[.int .i64 a, .int .i64 e]) ∧ w' = w) ∧ (∀ w, Calls Try.prog 17 #[.int .i64 g, .int .i64 t, .int .i64 n] w fun r w' => r = .returned (.tuple #[.int .i64 a, .int .i64 e]) ∧ w' = w) := by
  cases h : mayT g t with
  | false => exact ⟨_, _, fun w => owner_no g t n w h, fun w => refOwner_no g t n w h⟩
  | true =>
    obtain ⟨G, T, rfl, rfl, hm⟩ := may_nat h
    by_cases hi : 0 ≤ n ∧ n < (G : Int)
    · obtain ⟨i, rfl⟩ : ∃ i : Nat, n = (i : Int) := ⟨n.toNat, by omega⟩
      exact ⟨_, _, fun w => owner_ok G T i w hm (by omega), fun w => refOwner_ok G T i w hm (by omega)⟩
    · exact ⟨_, _, fun w => owner_not G T n w hm hi, fun w => refOwner_not G T n w hm hi⟩
set_option maxHeartbeats 1000000 in
set_option maxRecDepth 100000 in
theorem granges_walk (g t n : Int) (w : World) :
    Calls Try.prog 4 #[.int .i64 g, .int .i64 t, .int .i64 n] w fun e w' => e = .returned (.bool true) ∧ Below w.heap.size w w' := by
  obtain ⟨a, b, e, R1, R2⟩ := ranges_any g t n
  obtain ⟨x, f, O1, O2⟩ := owners_any g t n
  have R1 := hide R1
  have R2 := hide R2
  have O1 := hide O1
  have O2 := hide O2
  have WK := hide grWorks_any
  go_enter Try.func4, Try.ntmps4
  go_wp2_with fail
  refine (unhide R1 _).mono ?_
  rintro r w1 ⟨rfl, rfl⟩
  go_wp2_with fail
  refine (unhide R2 _).mono ?_
  rintro r w2 ⟨rfl, hk2⟩
  have K2 := hide hk2
  clear hk2
  go_wp2_with fail
  refine (unhide O1 _).mono ?_
  rintro r w3 ⟨rfl, rfl⟩
  go_wp2_with fail
  refine (unhide O2 _).mono ?_
  rintro r w4 ⟨rfl, rfl⟩
  go_wp2_with fail
  refine (unhide WK _).mono ?_
  rintro r w5 ⟨rfl, hk⟩
  have hk' := (unhide K2).trans hk (by simp)
  clear hk
  go_wp2
  go_ret
  exact ⟨rfl, hk'.below (Nat.le_refl _) (by simp)⟩
end Go.Proofs.Ytmhicmollnolgaa
