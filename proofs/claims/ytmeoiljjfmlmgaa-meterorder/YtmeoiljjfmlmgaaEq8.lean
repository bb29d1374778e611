/-
  An array of eight numbers compared with itself.
-/
import Derived.Test.YtmeoiljjfmlmgaaMeD
namespace Go.Proofs.Ytmeoiljjfmlmgaa
open Go.RowKit

set_option maxRecDepth 100000 in
theorem eq8 (d : Nat) (a0 a1 a2 a3 a4 a5 a6 a7 : Int) (w : World) : (Op.equalIn (d + 2) 26 (.agg #[.int .i64 a0, .int .i64 a1, .int .i64 a2, .int .i64 a3, .int .i64 a4, .int .i64 a5, .int .i64 a6, .int .i64 a7]) (.agg #[.int .i64 a0, .int .i64 a1, .int .i64 a2, .int .i64 a3, .int .i64 a4, .int .i64 a5, .int .i64 a6, .int .i64 a7])).run Try.prog w = .ok true w := by
  have hi := fun (a b : Int) (w : World) => run_equalIn_int (P := Try.prog) w d 3 .i64 .i64 a b Try.underlying3
  unfold Op.equalIn
  simp only [Sem.run_bind, run_underlying Try.underlying26, Result.andThen_ok]
  simp [part, Try.sizeOf3, go_sem, hi, Std.Legacy.Range.forIn_eq_forIn_range', List.range'_succ]
end Go.Proofs.Ytmeoiljjfmlmgaa
