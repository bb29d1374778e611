/-
  Check of events: it returns what the plain function says.
-/
import Derived.Test.YtnikkjbjidhhlaaEvL
namespace Go.Proofs.Ytnikkjbjidhhlaa
open Go.RowKit

def mayE (k t x : ByteArray) : Bool := nameB k && nameB t && decide (x.size ≤ 256)
def chkE (k t x : ByteArray) : Int := if mayE k t x = true then 0 else 20
set_option maxHeartbeats 1000000 in
theorem check_any (k t x : ByteArray) (n0 n1 n2 n3 : Int) (w : World) (hk : k.size ≤ 9223372036854775807) (ht : t.size ≤ 9223372036854775807) (hx : x.size ≤ 9223372036854775807) :
    Calls Try.prog 32 #[.agg #[.string k, .string t, .int .i64 n0, .int .i64 n1, .int .i64 n2, .int .i64 n3, .string x]] w fun e w' => e = .returned (.int .i64 (chkE k t x)) ∧ w' = w.alloc (.cells #[.string k, .string t, .int .i64 n0, .int .i64 n1, .int .i64 n2, .int .i64 n3, .string x] 45) := by
  have nk := fun w => isName_any k w hk
  have nt := fun w => isName_any t w ht
  by_cases b1 : nameB k = true
  · by_cases b2 : nameB t = true
    · simp only [b1] at nk
      simp only [b2] at nt
      have NK := hide nk
      have NT := hide nt
      by_cases b3 : x.size ≤ 256
      · have e : chkE k t x = 0 := by unfold chkE mayE; simp [b1, b2, b3]
        rw [e]
        clear nk nt b1 b2 e
        go_enter Try.func32, Try.ntmps32
        go_wp2_with fail
        refine (unhide NK _).mono ?_
        rintro e w1 ⟨rfl, rfl⟩
        go_wp2_with fail
        refine (unhide NT _).mono ?_
        rintro e w1 ⟨rfl, rfl⟩
        go_wp2
        go_ret
        exact ⟨rfl, rfl⟩
      · have e : chkE k t x = 20 := by unfold chkE mayE; simp [b3]
        rw [e]
        clear nk nt b1 b2 e
        go_enter Try.func32, Try.ntmps32
        go_wp2_with fail
        refine (unhide NK _).mono ?_
        rintro e w1 ⟨rfl, rfl⟩
        go_wp2_with fail
        refine (unhide NT _).mono ?_
        rintro e w1 ⟨rfl, rfl⟩
        go_wp2
        go_ret
        exact ⟨rfl, rfl⟩
    · have b2' : nameB t = false := by simpa using b2
      have e : chkE k t x = 20 := by unfold chkE mayE; simp [b2']
      rw [e]
      simp only [b1] at nk
      simp only [b2'] at nt
      have NK := hide nk
      have NT := hide nt
      clear nk nt b1 b2 b2' e
      go_enter Try.func32, Try.ntmps32
      go_wp2_with fail
      refine (unhide NK _).mono ?_
      rintro e w1 ⟨rfl, rfl⟩
      go_wp2_with fail
      refine (unhide NT _).mono ?_
      rintro e w1 ⟨rfl, rfl⟩
      go_wp2
      go_ret
      exact ⟨rfl, rfl⟩
  · have b1' : nameB k = false := by simpa using b1
    have e : chkE k t x = 20 := by unfold chkE mayE; simp [b1']
    rw [e]
    simp only [b1'] at nk
    have NK := hide nk
    clear nk nt b1 b1' e
    go_enter Try.func32, Try.ntmps32
    go_wp2_with fail
    refine (unhide NK _).mono ?_
    rintro e w1 ⟨rfl, rfl⟩
    go_wp2
    go_ret
    exact ⟨rfl, rfl⟩
end Go.Proofs.Ytnikkjbjidhhlaa
