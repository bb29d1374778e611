/-
  SourcePlays: whatever the number of partitions and the acts.
-/
import Derived.Test.YtnikkjbjidhhlaaSpW
import Derived.Test.YtnikkjbjidhhlaaRsI
import Derived.Test.YtnikkjbjidhhlaaRsJ
namespace Go.Proofs.Ytnikkjbjidhhlaa
open Go.RowKit

theorem refPut_any : RefPut := refPut_all (fun g q vs ps e w h hok hm hi hl => refPut_ok g q vs ps e w h hok hm hi hl)
set_option maxHeartbeats 2000000 in
set_option maxRecDepth 100000 in
theorem plays_no (n : Int) (hn : ¬ (1 ≤ n ∧ n ≤ 16)) (ad : Option Addr) (len cap : Nat) (w : World) :
    Calls Try.prog 5 #[.int .i64 n, .slice ad len cap] w fun e w' => e = .returned (.bool true) ∧ Below w.heap.size w w' := by
  have N1 := hide (fun W => snew_not n hn W)
  have N2 := hide (fun W => refSnew_not n hn W)
  have WK := hide soWorks_any
  clear hn
  go_enter Try.func5, Try.ntmps5
  go_wp2_with fail
  refine (unhide N1 w).mono ?_
  rintro r w1 ⟨rfl, rfl⟩
  go_wp2_with fail
  refine (unhide N2 _).mono ?_
  rintro r w2 ⟨rfl, rfl⟩
  go_wp2
  go_loopw [9] (fun i wr => i = .int .i64 0 ∧ wr = w2) (fun _ _ => 0)
  case atStart => exact ⟨rfl, rfl⟩
  case round =>
    obtain ⟨rfl, rfl⟩ := hrel
    go_wp2_with fail
    refine (unhide WK _).mono ?_
    rintro r w9 ⟨rfl, k9⟩
    go_wp2
    go_ret
    exact ⟨rfl, k9.below (Nat.le_refl _) (by simp)⟩
theorem plays_walk (n : Int) (ad : Option Addr) (cap : Nat) (l : List Ao) (w : World) (hA : AosAt w ad l) (hok : ∀ a ∈ l, a.lies w) (hz : ∀ a ∈ l, a.os.length * 8 ≤ reachBytes) :
    Calls Try.prog 5 #[.int .i64 n, .slice ad l.length cap] w fun e w' => e = .returned (.bool true) ∧ Below w.heap.size w w' := by
  by_cases hn : 1 ≤ n ∧ n ≤ 16
  · obtain ⟨N, rfl⟩ : ∃ N : Nat, n = (N : Int) := ⟨n.toNat, by omega⟩
    exact plays_ok refPut_any N (by omega) (by omega) ad cap l w hA hok (fun a ha => by have := hz a ha; unfold reachBytes at this; omega)
  · exact plays_no n hn ad l.length cap w
end Go.Proofs.Ytnikkjbjidhhlaa
