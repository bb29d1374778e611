/-
  MeterSwaps: the walk.
-/
import Derived.Test.YtmeoiljjfmlmgaaMeW
namespace Go.Proofs.Ytmeoiljjfmlmgaa
open Go.RowKit

theorem mayC_of {n : Int} (h0 : 0 ≤ n) (h1 : n ≤ 4611686018427387904) : mayC n = true := by unfold mayC; simp; exact ⟨h0, h1⟩
theorem swMost (b : Nat) (A : Int) (w : World) (h0 : 0 ≤ A) (h1 : A < 1099511627776) (h : Mt 57 b c0 w) : Calls Try.prog 14 #[.pointer (some ⟨b, 0, none⟩), .int .i64 3, .int .i64 A] w fun e w' => e = .returned (.tuple #[.int .i64 A, .int .i64 0]) ∧ (∃ c, Mt 57 b c w' ∧ c 3 = A) ∧ Kp [b] w w' := by
  have e1 : moE 3 A = 0 := by unfold moE; rw [mayC_of h0 (by omega)]; rfl
  have e2 : moN c0 3 A = A := by unfold moN; rw [e1, if_pos rfl]; show max 0 A = A; omega
  have e3 : moC c0 3 A 3 = A := by unfold moC; rw [e1, if_pos rfl]; show max 0 A = A; omega
  refine (most_any b c0 3 A w h).mono fun r w' hh => ?_
  rw [e1, e2] at hh
  exact ⟨hh.1, ⟨_, hh.2.1, e3⟩, hh.2.2⟩
theorem swSwap (b : Nat) (x A B : Int) (w : World) (h0 : 0 ≤ A) (h1 : A < 1099511627776) (g0 : 0 ≤ B) (g1 : B < 1099511627776) (h : ∃ c, Mt 57 b c w ∧ c 3 = x) : Calls Try.prog 15 #[.pointer (some ⟨b, 0, none⟩), .int .i64 3, .int .i64 A, .int .i64 B] w fun e w' => e = .returned (.tuple #[.bool (decide (x = A)), .int .i64 0]) ∧ (∃ c, Mt 57 b c w' ∧ c 3 = if x = A then B else x) ∧ Kp [b] w w' := by
  obtain ⟨c, hm, rfl⟩ := h
  have e1 : swE 3 A B = 0 := by unfold swE; rw [mayC_of h0 (by omega), mayC_of g0 (by omega)]; rfl
  have e2 : swB c 3 A B = decide (c 3 = A) := by unfold swB; rw [e1]; simp
  have e3 : swC c 3 A B 3 = if c 3 = A then B else c 3 := by
    unfold swC
    rw [e2]
    by_cases h : c 3 = A
    · simp [h, up]
    · simp [h]
  refine (swap_any b c 3 A B w hm).mono fun r w' hh => ?_
  rw [e1, e2] at hh
  exact ⟨hh.1, ⟨_, hh.2.1, e3⟩, hh.2.2⟩
theorem swGet (b : Nat) (x : Int) (w : World) (h : ∃ c, Mt 57 b c w ∧ c 3 = x) : Calls Try.prog 16 #[.pointer (some ⟨b, 0, none⟩), .int .i64 3] w fun e w' => e = .returned (.tuple #[.int .i64 x, .int .i64 0]) ∧ Kp [] w w' := by
  obtain ⟨c, hm, rfl⟩ := h
  exact (get_any b c 3 w hm).mono fun _ _ hh => ⟨hh.1, hh.2.2⟩
set_option maxHeartbeats 2000000 in
set_option maxRecDepth 100000 in
theorem swaps_walk (a b c : Int) (w : World) : Calls Try.prog 6 #[.int .i64 a, .int .i64 b, .int .i64 c] w fun e w' => e = .returned (.bool true) ∧ Below w.heap.size w w' := by
  have NW := hide (new_any w)
  have WK := hide meWorks_any
  have AM := hide (fun x W => meAmong_any x 1099511627776 W (by decide) (by decide))
  have a0 := Int.emod_nonneg a (by decide : (1099511627776 : Int) ≠ 0)
  have a1 := Int.emod_lt_of_pos a (by decide : (0 : Int) < 1099511627776)
  have b0 := Int.emod_nonneg b (by decide : (1099511627776 : Int) ≠ 0)
  have b1 := Int.emod_lt_of_pos b (by decide : (0 : Int) < 1099511627776)
  have z0 := Int.emod_nonneg c (by decide : (1099511627776 : Int) ≠ 0)
  have z1 := Int.emod_lt_of_pos c (by decide : (0 : Int) < 1099511627776)
  have A1 := hide (fun W h => swMost w.heap.size (a % 1099511627776) W a0 a1 h)
  have A2 := hide (fun x W h => swSwap w.heap.size x (a % 1099511627776) (b % 1099511627776) W a0 a1 b0 b1 h)
  have A3 := hide (fun x W h => swSwap w.heap.size x (a % 1099511627776) (c % 1099511627776) W a0 a1 z0 z1 h)
  have A4 := hide (fun x W h => swGet w.heap.size x W h)
  clear a0 a1 b0 b1 z0 z1
  go_enter Try.func6, Try.ntmps6
  go_wp2_with fail
  refine (unhide NW).mono ?_
  rintro r w1 ⟨rfl, hm, hk⟩
  have HM1 := hide hm
  have HK1 := hide hk
  clear hm hk NW
  go_wp2_with fail
  refine (unhide WK w1).mono ?_
  rintro r w2 ⟨rfl, hk⟩
  have HM2 := hide ((unhide HM1).kp hk (by simp))
  have HK2 := hide (kp_tr (unhide HK1) hk)
  clear hk WK HM1 HK1
  go_wp2_with fail
  refine (unhide AM a w2).mono ?_
  rintro r w3 ⟨rfl, rfl⟩
  go_wp2_with fail
  refine (unhide AM b w3).mono ?_
  rintro r w4 ⟨rfl, rfl⟩
  go_wp2_with fail
  refine (unhide AM c w4).mono ?_
  rintro r w5 ⟨rfl, rfl⟩
  clear AM
  generalize a % 1099511627776 = A at *
  generalize b % 1099511627776 = B at *
  generalize c % 1099511627776 = C at *
  go_wp2_with fail
  refine (unhide A1 w5 (unhide HM2)).mono ?_
  rintro r w6 ⟨rfl, hm, hk⟩
  have HM3 := hide hm
  have HK3 := hide (kp_own (unhide HK2) hk (Nat.le_refl _))
  clear hm hk HM2 HK2 A1
  go_wp2_with fail
  refine (unhide A2 A w6 (unhide HM3)).mono ?_
  rintro r w7 ⟨rfl, hm, hk⟩
  rw [if_pos rfl] at hm
  have HM4 := hide hm
  have HK4 := hide (kp_own (unhide HK3) hk (Nat.le_refl _))
  clear hm hk HM3 HK3 A2
  simp only [decide_true]
  by_cases hAB : A = B
  · subst hAB
    go_wp2_with fail
    refine (unhide A3 A w7 (unhide HM4)).mono ?_
    rintro r w8 ⟨rfl, hm, hk⟩
    rw [if_pos rfl] at hm
    have HM5 := hide hm
    have HK5 := hide (kp_own (unhide HK4) hk (Nat.le_refl _))
    clear hm hk HM4 HK4 A3
    simp only [decide_true]
    go_wp2_with fail
    refine (unhide A4 C w8 (unhide HM5)).mono ?_
    rintro r w9 ⟨rfl, hk⟩
    have HK6 := hide (kp_tr (unhide HK5) hk)
    clear hk HM5 HK5 A4
    go_wp2
    go_ret
    exact ⟨rfl, (unhide HK6).below (Nat.le_refl _) (by simp)⟩
  · have hBA : ¬ B = A := fun h => hAB h.symm
    go_wp2_with fail
    refine (unhide A3 B w7 (unhide HM4)).mono ?_
    rintro r w8 ⟨rfl, hm, hk⟩
    rw [if_neg hBA] at hm
    have HM5 := hide hm
    have HK5 := hide (kp_own (unhide HK4) hk (Nat.le_refl _))
    clear hm hk HM4 HK4 A3
    simp only [hBA, decide_false]
    go_wp2_with fail
    refine (unhide A4 B w8 (unhide HM5)).mono ?_
    rintro r w9 ⟨rfl, hk⟩
    have HK6 := hide (kp_tr (unhide HK5) hk)
    clear hk HM5 HK5 A4
    go_wp2
    go_ret
    exact ⟨rfl, (unhide HK6).below (Nat.le_refl _) (by simp)⟩
end Go.Proofs.Ytmeoiljjfmlmgaa
