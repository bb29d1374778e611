/-
  A meter: the chapter's example; a number from 0 to n - 1.
-/
import Derived.Test.YtmeoiljjfmlmgaaMeE
import Derived.Test.YtmeoiljjfmlmgaaAmo
namespace Go.Proofs.Ytmeoiljjfmlmgaa
open Go.RowKit

set_option maxHeartbeats 400000 in
theorem meAmong_any (x n : Int) (w : World) (hn : 0 < n) (hn1 : n ≤ 1099511627776) :
    Calls Try.prog 8 #[.int .i64 x, .int .i64 n] w fun e w' => e = .returned (.int .i64 (x % n)) ∧ w' = w := by
  have hne : (n == 0) = false := beq_eq_false_iff_ne.2 (by omega)
  have e1 := among_eq x n hn
  have b1 : -n < x.tmod n := Int.lt_tmod_of_pos x hn
  have b2 : x.tmod n < n := Int.tmod_lt_of_pos x hn
  go_enter Try.func8, Try.ntmps8
  go_wp2
  go_ret
  exact ⟨rfl, rfl⟩
/-- The counts of the chapter's example, one by one. -/
def x1 : Nat → Int := adC c0 0 5
def x2 : Nat → Int := moC x1 0 9
def x3 : Nat → Int := swC x2 0 9 1
def x4 : Nat → Int := jnC x3 x3
theorem exAdd (b : Nat) (w : World) (h : Mt 57 b c0 w) : Calls Try.prog 12 #[.pointer (some ⟨b, 0, none⟩), .int .i64 0, .int .i64 5] w fun e w' => e = .returned (.tuple #[.int .i64 5, .int .i64 0]) ∧ Mt 57 b x1 w' ∧ Kp [b] w w' :=
  add_any b c0 0 5 w (by decide) h
theorem exMost (b : Nat) (w : World) (h : Mt 57 b x1 w) : Calls Try.prog 14 #[.pointer (some ⟨b, 0, none⟩), .int .i64 0, .int .i64 9] w fun e w' => e = .returned (.tuple #[.int .i64 9, .int .i64 0]) ∧ Mt 57 b x2 w' ∧ Kp [b] w w' :=
  most_any b x1 0 9 w h
theorem exSwap (b : Nat) (w : World) (h : Mt 57 b x2 w) : Calls Try.prog 15 #[.pointer (some ⟨b, 0, none⟩), .int .i64 0, .int .i64 9, .int .i64 1] w fun e w' => e = .returned (.tuple #[.bool true, .int .i64 0]) ∧ Mt 57 b x3 w' ∧ Kp [b] w w' :=
  swap_any b x2 0 9 1 w h
theorem exJoin (b : Nat) (w : World) (h : Mt 57 b x3 w) : Calls Try.prog 13 #[.pointer (some ⟨b, 0, none⟩), .pointer (some ⟨b, 0, none⟩)] w fun e w' => e = .returned (.int .i64 0) ∧ Mt 57 b x4 w' ∧ Kp [b] w w' :=
  join_any b b x3 x3 w h h
theorem exGet (b : Nat) (w : World) (h : Mt 57 b x4 w) : Calls Try.prog 16 #[.pointer (some ⟨b, 0, none⟩), .int .i64 0] w fun e w' => e = .returned (.tuple #[.int .i64 2, .int .i64 0]) ∧ Kp [] w w' :=
  (get_any b x4 0 w h).mono fun _ _ hh => ⟨hh.1, hh.2.2⟩
theorem kp_own {a b c : World} {g : Nat} (h : Kp [] a b) (k : Kp [g] b c) (hg : a.heap.size ≤ g) : Kp [] a c := h.trans k (fun x hx => by simp at hx; subst hx; exact Or.inr hg)
set_option maxHeartbeats 1000000 in
theorem meWorks_any (w : World) : Calls Try.prog 11 #[] w fun e w' => e = .returned (.bool true) ∧ Kp [] w w' := by
  have NW := hide (new_any w)
  have A1 := hide (exAdd w.heap.size)
  have A2 := hide (exMost w.heap.size)
  have A3 := hide (exSwap w.heap.size)
  have A4 := hide (exJoin w.heap.size)
  have A5 := hide (exGet w.heap.size)
  go_enter Try.func11, Try.ntmps11
  go_wp2_with fail
  refine (unhide NW).mono ?_
  rintro r w1 ⟨rfl, hm, hk⟩
  have HM1 := hide hm
  have HK1 := hide hk
  clear hm hk NW
  go_wp2_with fail
  refine (unhide A1 w1 (unhide HM1)).mono ?_
  rintro r w2 ⟨rfl, hm, hk⟩
  have HM2 := hide hm
  have HK2 := hide (kp_own (unhide HK1) hk (Nat.le_refl _))
  clear hm hk A1 HM1 HK1
  go_wp2_with fail
  refine (unhide A2 w2 (unhide HM2)).mono ?_
  rintro r w3 ⟨rfl, hm, hk⟩
  have HM3 := hide hm
  have HK3 := hide (kp_own (unhide HK2) hk (Nat.le_refl _))
  clear hm hk A2 HM2 HK2
  go_wp2_with fail
  refine (unhide A3 w3 (unhide HM3)).mono ?_
  rintro r w4 ⟨rfl, hm, hk⟩
  have HM4 := hide hm
  have HK4 := hide (kp_own (unhide HK3) hk (Nat.le_refl _))
  clear hm hk A3 HM3 HK3
  go_wp2_with fail
  refine (unhide A4 w4 (unhide HM4)).mono ?_
  rintro r w5 ⟨rfl, hm, hk⟩
  have HM5 := hide hm
  have HK5 := hide (kp_own (unhide HK4) hk (Nat.le_refl _))
  clear hm hk A4 HM4 HK4
  go_wp2_with fail
  refine (unhide A5 w5 (unhide HM5)).mono ?_
  rintro r w6 ⟨rfl, hk⟩
  have HK6 := hide (kp_tr (unhide HK5) hk)
  clear hk A5 HM5 HK5
  go_wp2
  go_ret
  exact ⟨rfl, unhide HK6⟩
end Go.Proofs.Ytmeoiljjfmlmgaa
