/-
  SpoilInts: a row of numbers of the call's own is written over; nothing else changes.
-/
import Derived.Test.YtnikkjbjidhhlaaSoF
import Derived.Test.YtnikkjbjidhhlaaSoG
namespace Go.Proofs.Ytnikkjbjidhhlaa
open Go.RowKit

set_option maxHeartbeats 1000000 in
set_option maxRecDepth 100000 in
theorem spoilInts_any (b n : Nat) (cs : Array Value) (m : Int) (w : World) (h : CBox b cs 3 w) (hn : cs.size = n) (hl : n ≤ 1000000) :
    Calls Try.prog 30 #[.slice (some ⟨b, 0, none⟩) n n, .int .i64 m] w fun r w' => r = .returned (.tuple #[]) ∧ Kp [b] w w' := by
  have HH := hide h
  have HN := hide hn
  clear h hn
  go_enter Try.func30, Try.ntmps30
  go_wp2_with fail
  go_loopw [4] (fun i wr => ∃ (k : Nat) (cs' : Array Value), k ≤ n ∧ i = .int .i64 (k : Int) ∧ Hid (CBox b cs' 3 wr) ∧ Hid (cs'.size = n) ∧ Hid (Kp [b] w wr)) (fun i _ => n - (intOf i).toNat)
  case atStart => exact ⟨0, cs, Nat.zero_le _, rfl, HH, HN, hide (Kp.refl _ _)⟩
  case round =>
    clear HH HN
    obtain ⟨k, cs', hk, rfl, HB, HZ, HK⟩ := hrel
    by_cases hlt : k < n
    · have hli : (k : Int) < (n : Int) := by omega
      obtain ⟨u, cu⟩ := (unhide HB).there k (by rw [unhide HZ]; exact hlt)
      have fz := (unhide HB).froz k
      go_wp2
      go_roundw
      case rel => exact ⟨k + 1, _, by omega, by go_num, hide ((unhide HB).set k (.int .i64 m)), hide (by rw [Array.size_setIfInBounds]; exact unhide HZ), hide ((unhide HK).trans (Kp.set _ b k _) (fun x hx => Or.inl hx))⟩
      case measure => simp [intOf]; omega
    · obtain rfl : k = n := by omega
      have hkk : ¬ (k : Int) < (k : Int) := by omega
      go_wp2
      go_end0
      exact ⟨rfl, unhide HK⟩
end Go.Proofs.Ytnikkjbjidhhlaa
