/-
  A group: Range and Owner; the document's too.
-/
import Derived.Test.YtmhicmollnolgabGrB
namespace Go.Proofs.Ytmhicmollnolgab
open Go.RowKit

theorem range_no (g t i : Int) (w : World) (h : mayT g t = false) : Calls Try.prog 8 #[.int .i64 g, .int .i64 t, .int .i64 i] w fun e w' => e = .returned (.tuple #[.int .i64 0, .int .i64 0, .int .i64 1]) ∧ w' = w := by
  have MT := hide (mayBeTasks_any g t w)
  rw [h] at MT
  go_enter Try.func8, Try.ntmps8
  go_wp2_with fail
  refine (unhide MT).mono ?_
  rintro r w1 ⟨rfl, rfl⟩
  go_wp2
  go_ret3
  exact ⟨rfl, rfl⟩
theorem range_task (G T : Nat) (i : Int) (w : World) (hm : May G T) (hi : ¬(0 ≤ i ∧ i < (T : Int))) : Calls Try.prog 8 #[.int .i64 (G : Int), .int .i64 (T : Int), .int .i64 i] w fun e w' => e = .returned (.tuple #[.int .i64 0, .int .i64 0, .int .i64 70]) ∧ w' = w := by
  have MT := hide (mayBeTasks_any (G : Int) (T : Int) w)
  rw [hm.of] at MT
  go_enter Try.func8, Try.ntmps8
  go_wp2_with fail
  refine (unhide MT).mono ?_
  rintro r w1 ⟨rfl, rfl⟩
  by_cases h0 : i < 0
  · go_wp2
    go_ret3
    exact ⟨rfl, rfl⟩
  · have h1 : (T : Int) ≤ i := by omega
    go_wp2
    go_ret3
    exact ⟨rfl, rfl⟩
theorem range_ok (G T i : Nat) (w : World) (hm : May G T) (hi : i < T) : Calls Try.prog 8 #[.int .i64 (G : Int), .int .i64 (T : Int), .int .i64 (i : Int)] w fun e w' => e = .returned (.tuple #[.int .i64 ((fstG G T i : Nat) : Int), .int .i64 ((fstG G T (i + 1) : Nat) : Int), .int .i64 0]) ∧ w' = w := by
  have MT := hide (mayBeTasks_any (G : Int) (T : Int) w)
  rw [hm.of] at MT
  have h3 := hm.t3
  have F1 := hide (firstOf_any G T i w hm.g2 hm.t1 (by omega))
  have F2 := hide (firstOf_any G T (i + 1) w hm.g2 hm.t1 (by omega))
  go_enter Try.func8, Try.ntmps8
  go_wp2_with fail
  refine (unhide MT).mono ?_
  rintro r w1 ⟨rfl, rfl⟩
  go_wp2_with fail
  refine (unhide F1).mono ?_
  rintro r w2 ⟨rfl, rfl⟩
  go_wp2_with fail
  refine (unhide F2).mono ?_
  rintro r w3 ⟨rfl, rfl⟩
  go_wp2
  go_ret3
  exact ⟨rfl, rfl⟩
end Go.Proofs.Ytmhicmollnolgab
