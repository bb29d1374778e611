/-
  A group: the document's Range; Owner; the document's Owner.
-/
import Derived.Test.YtlljilekompbeaaGrB
namespace Go.Proofs.Ytlljilekompbeaa
open Go.RowKit

theorem owner_no (g t q : Int) (w : World) (h : mayT g t = false) : Calls Try.prog 26 #[.int .i64 g, .int .i64 t, .int .i64 q] w fun e w' => e = .returned (.tuple #[.int .i64 0, .int .i64 1]) ∧ w' = w := by
  have MT := hide (mayBeTasks_any g t w)
  rw [h] at MT
  go_enter Try.func26, Try.ntmps26
  go_wp2_with fail
  refine (unhide MT).mono ?_
  rintro r w1 ⟨rfl, rfl⟩
  go_wp2
  go_ret2
  exact ⟨rfl, rfl⟩
theorem owner_not (G T : Nat) (q : Int) (w : World) (hm : May G T) (hq : ¬(0 ≤ q ∧ q < (G : Int))) : Calls Try.prog 26 #[.int .i64 (G : Int), .int .i64 (T : Int), .int .i64 q] w fun e w' => e = .returned (.tuple #[.int .i64 0, .int .i64 1]) ∧ w' = w := by
  have MT := hide (mayBeTasks_any (G : Int) (T : Int) w)
  rw [hm.of] at MT
  go_enter Try.func26, Try.ntmps26
  go_wp2_with fail
  refine (unhide MT).mono ?_
  rintro r w1 ⟨rfl, rfl⟩
  by_cases h0 : q < 0
  · go_wp2
    go_ret2
    exact ⟨rfl, rfl⟩
  · have h1 : (G : Int) ≤ q := by omega
    go_wp2
    go_ret2
    exact ⟨rfl, rfl⟩
theorem owner_ok (G T q : Nat) (w : World) (hm : May G T) (hq : q < G) : Calls Try.prog 26 #[.int .i64 (G : Int), .int .i64 (T : Int), .int .i64 (q : Int)] w fun e w' => e = .returned (.tuple #[.int .i64 ((own G T q : Nat) : Int), .int .i64 0]) ∧ w' = w := by
  have MT := hide (mayBeTasks_any (G : Int) (T : Int) w)
  rw [hm.of] at MT
  have h2 := hm.g2
  have OW := hide (ownerOf_any G T q w hm.g1 hm.t1 hm.t3 (by omega))
  go_enter Try.func26, Try.ntmps26
  go_wp2_with fail
  refine (unhide MT).mono ?_
  rintro r w1 ⟨rfl, rfl⟩
  go_wp2_with fail
  refine (unhide OW).mono ?_
  rintro r w2 ⟨rfl, rfl⟩
  go_wp2
  go_ret2
  exact ⟨rfl, rfl⟩
end Go.Proofs.Ytlljilekompbeaa
