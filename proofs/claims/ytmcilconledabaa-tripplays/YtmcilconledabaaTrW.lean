/-
  A trip: the chapter's example; a number from 0 to n - 1.
-/
import Derived.Test.YtmcilconledabaaTrD
import Derived.Test.YtmcilconledabaaAmo
namespace Go.Proofs.Ytmcilconledabaa
open Go.RowKit

set_option maxHeartbeats 400000 in
theorem trAmong_any (x n : Int) (w : World) (hn : 0 < n) (hn1 : n ≤ 1099511627776) :
    Calls Try.prog 9 #[.int .i64 x, .int .i64 n] w fun e w' => e = .returned (.int .i64 (x % n)) ∧ w' = w := by
  have hne : (n == 0) = false := beq_eq_false_iff_ne.2 (by omega)
  have e1 := among_eq x n hn
  have b1 : -n < x.tmod n := Int.lt_tmod_of_pos x hn
  have b2 : x.tmod n < n := Int.tmod_lt_of_pos x hn
  go_enter Try.func9, Try.ntmps9
  go_wp2
  go_ret
  exact ⟨rfl, rfl⟩
/-- The chapter's example, one by one. -/
def y1 : TS := usS (nw 3) 2 5
def y2 : TS := usS y1 2 6
def y3 : TS := faS y2 2 7
def y4 : TS := baS y3 1
theorem exUse1 (b : Nat) (w : World) (h : Tr b (nw 3) w) : Calls Try.prog 12 #[.pointer (some ⟨b, 0, none⟩), .int .i64 2, .int .i64 5] w fun e w' => e = .returned (.int .i64 0) ∧ Tr b y1 w' ∧ Kp [b] w w' := trUse_any b (nw 3) 2 5 w h
theorem exUse2 (b : Nat) (w : World) (h : Tr b y1 w) : Calls Try.prog 12 #[.pointer (some ⟨b, 0, none⟩), .int .i64 2, .int .i64 6] w fun e w' => e = .returned (.int .i64 32) ∧ Tr b y2 w' ∧ Kp [b] w w' := trUse_any b y1 2 6 w h
theorem exFail (b : Nat) (w : World) (h : Tr b y2 w) : Calls Try.prog 10 #[.pointer (some ⟨b, 0, none⟩), .int .i64 2, .int .i64 7] w fun e w' => e = .returned (.tuple #[.bool false, .int .i64 0]) ∧ Tr b y3 w' ∧ Kp [b] w w' := trFail_any b y2 2 7 w h
theorem exFallen (b : Nat) (w : World) (h : Tr b y3 w) : Calls Try.prog 16 #[.pointer (some ⟨b, 0, none⟩)] w fun e w' => e = .returned (.tuple #[.agg #[.int .i64 6, .int .i64 32], .bool true]) ∧ Kp [] w w' := trFallen_any b y3 w h
theorem exBack (b : Nat) (w : World) (h : Tr b y3 w) : Calls Try.prog 14 #[.pointer (some ⟨b, 0, none⟩), .int .i64 1] w fun e w' => e = .returned (.int .i64 90) ∧ Tr b y4 w' ∧ Kp [b] w w' := trBack_any b y3 1 w h
theorem exRoom (b : Nat) (w : World) (h : Tr b y4 w) : Calls Try.prog 17 #[.pointer (some ⟨b, 0, none⟩)] w fun e w' => e = .returned (.int .i64 1) ∧ Kp [] w w' := trRoom_any b y4 w h
set_option maxHeartbeats 1000000 in
theorem trWorks_any (w : World) : Calls Try.prog 18 #[] w fun e w' => e = .returned (.bool true) ∧ Kp [] w w' := by
  have NW := hide (trNew_ok 3 w (by decide) (by decide))
  have A1 := hide (exUse1 w.heap.size)
  have A2 := hide (exUse2 w.heap.size)
  have A3 := hide (exFail w.heap.size)
  have A4 := hide (exFallen w.heap.size)
  have A5 := hide (exBack w.heap.size)
  have A6 := hide (exRoom w.heap.size)
  go_enter Try.func18, Try.ntmps18
  go_wp2_with fail
  refine (unhide NW).mono ?_
  rintro r w1 ⟨rfl, hm, hk⟩
  have HM1 := hide hm
  have HK1 := hide hk
  clear hm hk NW
  go_wp2_with fail
  refine (unhide A1 w1 (unhide HM1)).mono ?_
  rintro r w2 ⟨rfl, hm, hk⟩
  have HM2 := hide hm
  have HK2 := hide (kp_own (unhide HK1) hk (Nat.le_refl _))
  clear hm hk A1 HM1 HK1
  go_wp2_with fail
  refine (unhide A2 w2 (unhide HM2)).mono ?_
  rintro r w3 ⟨rfl, hm, hk⟩
  have HM3 := hide hm
  have HK3 := hide (kp_own (unhide HK2) hk (Nat.le_refl _))
  clear hm hk A2 HM2 HK2
  go_wp2_with fail
  refine (unhide A3 w3 (unhide HM3)).mono ?_
  rintro r w4 ⟨rfl, hm, hk⟩
  have HM4 := hide hm
  have HK4 := hide (kp_own (unhide HK3) hk (Nat.le_refl _))
  clear hm hk A3 HM3 HK3
  go_wp2_with fail
  refine (unhide A4 w4 (unhide HM4)).mono ?_
  rintro r w5 ⟨rfl, hk⟩
  have HM5 := hide ((unhide HM4).kp hk (by simp))
  have HK5 := hide (kp_tr (unhide HK4) hk)
  clear hk A4 HM4 HK4
  go_wp2_with fail
  have ka := Kp.alloc w5 (.cells #[.int .i64 6, .int .i64 32] 38)
  refine (unhide A5 _ ((unhide HM5).kp ka (by simp))).mono ?_
  rintro r w6 ⟨rfl, hm, hk⟩
  have HM6 := hide hm
  have HK6 := hide (kp_own (kp_tr (unhide HK5) ka) hk (Nat.le_refl _))
  clear hm hk ka A5 HM5 HK5
  go_wp2_with fail
  refine (unhide A6 w6 (unhide HM6)).mono ?_
  rintro r w7 ⟨rfl, hk⟩
  have HK7 := hide (kp_tr (unhide HK6) hk)
  clear hk A6 HM6 HK6
  go_wp2
  go_ret
  exact ⟨rfl, unhide HK7⟩
end Go.Proofs.Ytmcilconledabaa
