/-
  Two arrays of four numbers compared.
-/
import Derived.Test.YtnikkjbjidhhlaaEv0
namespace Go.Proofs.Ytnikkjbjidhhlaa
open Go.RowKit

theorem eq4 (d : Nat) (a0 a1 a2 a3 b0 b1 b2 b3 : Int) (w : World) : (Op.equalIn (d + 2) 43 (.agg #[.int .i64 a0, .int .i64 a1, .int .i64 a2, .int .i64 a3]) (.agg #[.int .i64 b0, .int .i64 b1, .int .i64 b2, .int .i64 b3])).run Try.prog w = .ok (a0 == b0 && (a1 == b1 && (a2 == b2 && a3 == b3))) w := by
  have hi := fun (a b : Int) (w : World) => run_equalIn_int (P := Try.prog) w d 2 .i64 .i64 a b Try.underlying2
  unfold Op.equalIn
  simp only [Sem.run_bind, run_underlying Try.underlying43, Result.andThen_ok]
  simp [part, Try.sizeOf2, go_sem, hi, Std.Legacy.Range.forIn_eq_forIn_range', List.range'_succ]
  by_cases h0 : a0 = b0 <;> by_cases h1 : a1 = b1 <;> by_cases h2 : a2 = b2 <;> by_cases h3 : a3 = b3 <;> simp [h0, h1, h2, h3]
end Go.Proofs.Ytnikkjbjidhhlaa
