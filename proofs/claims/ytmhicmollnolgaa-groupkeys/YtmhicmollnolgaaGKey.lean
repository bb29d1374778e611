/-
  GroupKeys: the walk.
-/
import Derived.Test.YtmhicmollnolgaaGrG
namespace Go.Proofs.Ytmhicmollnolgaa
open Go.RowKit

set_option maxHeartbeats 1000000 in
set_option maxRecDepth 100000 in
theorem gkeys_walk (b : ByteArray) (g : Int) (w : World) (hb : b.size ≤ maxLen) :
    Calls Try.prog 3 #[.string b, .int .i64 g] w fun e w' => e = .returned (.bool true) ∧ Below w.heap.size w w' := by
  have O1 := hide (of_any b g w hb)
  have O2 := hide (refOf_any b g w hb)
  have H1 := hide (hash_any b w hb)
  have H2 := hide (refHash_any b w hb)
  have WK := hide (grWorks_any w)
  generalize hshL b.data.toList = S at *
  generalize ofA S g = A at *
  generalize ofE g = E at *
  go_enter Try.func3, Try.ntmps3
  go_wp2_with fail
  refine (unhide O1).mono ?_
  rintro r w1 ⟨rfl, rfl⟩
  go_wp2_with fail
  refine (unhide O2).mono ?_
  rintro r w2 ⟨rfl, rfl⟩
  go_wp2_with fail
  refine (unhide H1).mono ?_
  rintro r w3 ⟨rfl, rfl⟩
  go_wp2_with fail
  refine (unhide H2).mono ?_
  rintro r w4 ⟨rfl, rfl⟩
  go_wp2_with fail
  refine (unhide WK).mono ?_
  rintro r w5 ⟨rfl, hk⟩
  go_wp2
  go_ret
  exact ⟨rfl, hk.below (Nat.le_refl _) (by simp)⟩
end Go.Proofs.Ytmhicmollnolgaa
