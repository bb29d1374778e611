/-
  SameInts returns whether two rows of numbers are the same; nothing that was there has changed.
-/
import Derived.Test.YtnikkjbjidhhlaaEvX
namespace Go.Proofs.Ytnikkjbjidhhlaa
open Go.RowKit

theorem take_ext {α : Type} {xs ys : List α} {k : Nat} (h1 : k < xs.length) (h2 : k < ys.length) (h : xs.take k = ys.take k) (he : xs[k] = ys[k]) : xs.take (k + 1) = ys.take (k + 1) := by
  rw [List.take_succ_eq_append_getElem h1, List.take_succ_eq_append_getElem h2, h, he]
set_option maxHeartbeats 1000000 in
theorem sameInts_any (a1 a2 : Option Addr) (c1 c2 : Nat) (xs ys : List Int) (w : World) (hl1 : xs.length ≤ 9223372036854775807) (_hl2 : ys.length ≤ 9223372036854775807) (h1 : IntsAt w a1 xs) (h2 : IntsAt w a2 ys) :
    Calls Try.prog 28 #[.slice a1 xs.length c1, .slice a2 ys.length c2] w fun e w' => e = .returned (.bool (decide (xs = ys))) ∧ ∃ n, w' = w.drewN n := by
  have H1 := hide h1
  have H2 := hide h2
  clear h1 h2
  by_cases hlen : xs.length = ys.length
  · rw [← hlen]
    generalize hR : decide (xs = ys) = R
    have HR := hide hR
    have HL := hide hlen
    clear hR hlen
    go_enter Try.func28, Try.ntmps28
    go_wp2
    go_loopw [5] (fun i wr => ∃ k n : Nat, k ≤ xs.length ∧ i = .int .i64 (k : Int) ∧ wr = w.drewN n ∧ Hid (xs.take k = ys.take k)) (fun i _ => xs.length - (intOf i).toNat)
    case atStart => exact ⟨0, 0, Nat.zero_le _, rfl, rfl, hide (by simp)⟩
    case round =>
      obtain ⟨k, n, hk, rfl, rfl, HK⟩ := hrel
      by_cases hlt : k < xs.length
      · have hlt2 : k < ys.length := by have := unhide HL; omega
        obtain ⟨b1, o1, rfl, _, q1⟩ := unhide H1 (fun e => by rw [e] at hlt; simp at hlt)
        obtain ⟨b2, o2, rfl, _, q2⟩ := unhide H2 (fun e => by rw [e] at hlt2; simp at hlt2)
        have x1 := q1 k hlt
        have y1 := q2 k hlt2
        have hstep := fun he => take_ext hlt hlt2 (unhide HK) he
        have hdiff : xs[k] ≠ ys[k] → xs ≠ ys := fun hne e => hne (by simp [e])
        have HST := hide hstep
        have HDI := hide hdiff
        have hli : (k : Int) < (xs.length : Int) := by omega
        clear q1 q2 HK hstep hdiff H1 H2
        generalize xs[k] = x at *
        generalize ys[k] = y at *
        by_cases he : x = y
        · have HT := hide (unhide HST he)
          clear HST HDI
          subst he
          go_wp2
          go_quiet (fail)
          go_wp2
          go_roundw
          case rel => exact ⟨k + 1, _, by omega, by go_num, rfl, HT⟩
          case measure => simp [intOf]; omega
        · have hR := unhide HR
          rw [decide_eq_false (unhide HDI he)] at hR
          subst hR
          have g : (x != y) = true := by rw [bne_iff_ne]; exact he
          clear he HR HDI HST
          go_wp2
          go_quiet (fail)
          go_wp2
          go_ret
          exact ⟨rfl, _, World.drewN_drewN _ _ _⟩
      · have hall : xs = ys := by
          have := unhide HK
          have hl := unhide HL
          rw [List.take_of_length_le (by omega), List.take_of_length_le (by omega)] at this
          exact this
        have hR := unhide HR
        rw [decide_eq_true hall] at hR
        subst hR
        clear HR HK hall H1 H2 HL
        go_wp2
        go_ret
        exact ⟨rfl, n, rfl⟩
  · have hne : xs ≠ ys := fun e => hlen (by rw [e])
    rw [decide_eq_false hne]
    have g : ((xs.length : Int) != (ys.length : Int)) = true := by rw [bne_iff_ne]; omega
    clear hlen hne H1 H2
    go_enter Try.func28, Try.ntmps28
    go_wp2
    go_ret
    exact ⟨rfl, 0, rfl⟩
theorem below_drewN' {B : Nat} {a w : World} (h : Below B a w) (n : Nat) : Below B a (w.drewN n) := ⟨h.os, h.tape, h.output, h.size, h.block⟩
theorem CmpS.drewN {w : World} {g1 g2 : Nat} {k1 : ByteArray} {a1 : Option Addr} {n1 c1 : Nat} {k2 : ByteArray} {a2 : Option Addr} {n2 c2 : Nat} {W : World} (h : CmpS w g1 g2 k1 a1 n1 c1 k2 a2 n2 c2 W) (n : Nat) : CmpS w g1 g2 k1 a1 n1 c1 k2 a2 n2 c2 (W.drewN n) := ⟨below_drewN' h.bel n, h.b1, h.b2⟩
theorem ba_ne {a b : ByteArray} (h : a ≠ b) : (a.toList == b.toList) = false := by
  rw [beq_eq_false_iff_ne]
  intro e
  refine h (ByteArray.ext (Array.ext' ?_))
  rw [← ByteArray.toList_eq, ← ByteArray.toList_eq]
  exact e
end Go.Proofs.Ytnikkjbjidhhlaa
