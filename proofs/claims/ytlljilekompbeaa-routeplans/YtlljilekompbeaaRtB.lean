/-
  A plan: its tasks and channels; kinds of tasks.
-/
import Derived.Test.YtlljilekompbeaaRtA
import Derived.Deep.RegionHeld3
namespace Go.Proofs.Ytlljilekompbeaa
open Go.RowKit

theorem tasks_no (g s m : Int) (w : World) (h : mayP g s m = false) : Calls Try.prog 10 #[.agg #[.int .i64 g, .int .i64 s, .int .i64 m]] w fun e w' => e = .returned (.int .i64 0) ∧ Kp [] w w' := by
  have MB := hide (mayBe_any g s m)
  rw [h] at MB
  go_enter Try.func10, Try.ntmps10
  go_wp2_with fail
  refine (unhide MB _).mono ?_
  rintro r w1 ⟨rfl, hk⟩
  go_wp2
  go_ret
  exact ⟨rfl, kp_two hk⟩
theorem chans_no (g s m : Int) (w : World) (h : mayP g s m = false) : Calls Try.prog 12 #[.agg #[.int .i64 g, .int .i64 s, .int .i64 m]] w fun e w' => e = .returned (.int .i64 0) ∧ Kp [] w w' := by
  have MB := hide (mayBe_any g s m)
  rw [h] at MB
  go_enter Try.func12, Try.ntmps12
  go_wp2_with fail
  refine (unhide MB _).mono ?_
  rintro r w1 ⟨rfl, hk⟩
  go_wp2
  go_ret
  exact ⟨rfl, kp_two hk⟩
theorem tasks_ok (G S M : Nat) (w : World) (hm : MayP G S M) : Calls Try.prog 10 #[.agg #[.int .i64 (G : Int), .int .i64 (S : Int), .int .i64 (M : Int)]] w fun e w' => e = .returned (.int .i64 ((S + M + 1 : Nat) : Int)) ∧ Kp [] w w' := by
  have MB := hide (mayBe_any (G : Int) (S : Int) (M : Int))
  rw [hm.of] at MB
  have SK := hide (fun W => sink_ok G S M W hm)
  have h1 := hm.s2
  have h2 := hm.gm.t3
  clear hm
  go_enter Try.func10, Try.ntmps10
  go_wp2_with fail
  refine (unhide MB _).mono ?_
  rintro r w1 ⟨rfl, hk⟩
  have b1 : PBox w.heap.size _ _ _ _ w1 := PBox.kp (CBox.new w _ _) hk (by simp)
  obtain ⟨c0, c1, c2⟩ := b1.cells
  have HK := hide hk
  clear hk MB b1
  go_wp2_with fail
  refine (unhide SK _).mono ?_
  rintro r w2 ⟨rfl, hk2⟩
  have HK2 := hide hk2
  clear hk2 SK
  go_wp2
  go_ret
  exact ⟨ret_int (by omega), kp_tr (kp_two (unhide HK)) (unhide HK2)⟩
theorem kp_undrew {w w' : World} (h : Kp [] w.drew w') : Kp [] w w' := (Kp.drew w).trans h (by simp)
set_option maxHeartbeats 1000000 in
theorem chans_ok (G S M : Nat) (w : World) (hm : MayP G S M) : Calls Try.prog 12 #[.agg #[.int .i64 (G : Int), .int .i64 (S : Int), .int .i64 (M : Int)]] w fun e w' => e = .returned (.int .i64 ((S * M + M : Nat) : Int)) ∧ Kp [] w w' := by
  have MB := hide (mayBe_any (G : Int) (S : Int) (M : Int))
  rw [hm.of] at MB
  have FS := hide (fun W => first_ok G S M W hm)
  have h1 := hm.s2
  have h2 := hm.gm.t3
  have b1 := mul_lt_small S M (by omega) (by omega)
  generalize S * M = n at *
  clear hm
  go_enter Try.func12, Try.ntmps12
  go_wp2_with fail
  refine (unhide MB _).mono ?_
  rintro r w1 ⟨rfl, hk⟩
  have HB : Hid (PBox w.heap.size 23 (G : Int) (S : Int) (M : Int) w1) := hide (PBox.kp (CBox.new w _ _) hk (by simp))
  have cS : w1.drew.cell? ⟨w.heap.size, 0, none⟩ = some (.int .i64 (G : Int)) ∧ w1.drew.cell? ⟨w.heap.size, 1, none⟩ = some (.int .i64 (S : Int)) ∧ w1.drew.cell? ⟨w.heap.size, 2, none⟩ = some (.int .i64 (M : Int)) := (unhide HB).cells
  have HK := hide hk
  clear hk MB
  go_wp2_with fail
  go_region_held3 (fun W => W.cell? ⟨w.heap.size, 0, none⟩ = some (.int .i64 (G : Int)) ∧ W.cell? ⟨w.heap.size, 1, none⟩ = some (.int .i64 (S : Int)) ∧ W.cell? ⟨w.heap.size, 2, none⟩ = some (.int .i64 (M : Int)))
    (first | with_reducible exact cS | with_reducible exact cS2)
    (first | (go_at_call 30; refine (unhide FS _).mono ?_; rintro r w2 ⟨rfl, hk2⟩; have HK2 := hide (kp_undrew hk2); have cS2 := ((unhide HB).kp (unhide HK2) (by simp)).cells; clear hk2))
  go_wp2
  go_ret
  exact ⟨ret_int (by rw [IntKind.wrap_i64]; omega), kp_tr (kp_two (unhide HK)) (unhide HK2)⟩
theorem ctask_no (g s m t : Int) (w : World) (h : mayP g s m = false) : Calls Try.prog 31 #[.agg #[.int .i64 g, .int .i64 s, .int .i64 m], .int .i64 t] w fun e w' => e = .returned (.int .i64 1) ∧ Kp [] w w' := by
  have MB := hide (mayBe_any g s m)
  rw [h] at MB
  go_enter Try.func31, Try.ntmps31
  go_wp2_with fail
  refine (unhide MB _).mono ?_
  rintro r w1 ⟨rfl, hk⟩
  go_wp2
  go_ret
  exact ⟨rfl, kp_two hk⟩
/-- What is wrong with a task of a plan that may be. -/
def tkE (S M : Nat) (t : Int) : Int := if 0 ≤ t ∧ t < ((S + M + 1 : Nat) : Int) then 0 else 70
set_option maxHeartbeats 1000000 in
theorem ctask_ok (G S M : Nat) (t : Int) (w : World) (hm : MayP G S M) : Calls Try.prog 31 #[.agg #[.int .i64 (G : Int), .int .i64 (S : Int), .int .i64 (M : Int)], .int .i64 t] w fun e w' => e = .returned (.int .i64 (tkE S M t)) ∧ Kp [] w w' := by
  have MB := hide (mayBe_any (G : Int) (S : Int) (M : Int))
  rw [hm.of] at MB
  have TK := hide (fun W => tasks_ok G S M W hm)
  have HT : Hid (tkE S M t = if 0 ≤ t ∧ t < ((S + M + 1 : Nat) : Int) then 0 else 70) := hide rfl
  generalize tkE S M t = E at *
  generalize S + M + 1 = N at *
  clear hm
  go_enter Try.func31, Try.ntmps31
  go_wp2_with fail
  refine (unhide MB _).mono ?_
  rintro r w1 ⟨rfl, hk⟩
  have b1 : PBox w.heap.size _ _ _ _ w1 := PBox.kp (CBox.new w _ _) hk (by simp)
  obtain ⟨c0, c1, c2⟩ := b1.cells
  have HK := hide hk
  clear hk MB b1
  by_cases h0 : t < 0
  · go_wp2
    go_ret
    exact ⟨ret_int (by rw [unhide HT, if_neg (by omega)]), kp_two (unhide HK)⟩
  · go_wp2_with fail
    refine (unhide TK _).mono ?_
    rintro r w2 ⟨rfl, hk2⟩
    have HK2 := hide hk2
    clear hk2 TK
    by_cases h1 : t < (N : Int)
    · go_wp2
      go_ret
      exact ⟨ret_int (by rw [unhide HT, if_pos (by omega)]), kp_tr (kp_two (unhide HK)) (unhide HK2)⟩
    · go_wp2
      go_ret
      exact ⟨ret_int (by rw [unhide HT, if_neg (by omega)]), kp_tr (kp_two (unhide HK)) (unhide HK2)⟩
theorem kind_no (g s m t : Int) (w : World) (h : mayP g s m = false) : Calls Try.prog 14 #[.agg #[.int .i64 g, .int .i64 s, .int .i64 m], .int .i64 t] w fun e w' => e = .returned (.tuple #[.int .i64 0, .int .i64 1]) ∧ Kp [] w w' := by
  have CT := hide (fun W => ctask_no g s m t W h)
  clear h
  go_enter Try.func14, Try.ntmps14
  go_wp2_with fail
  refine (unhide CT _).mono ?_
  rintro r w1 ⟨rfl, hk⟩
  go_wp2
  go_ret2
  exact ⟨rfl, kp_two hk⟩
theorem kind_not (G S M : Nat) (t : Int) (w : World) (hm : MayP G S M) (ht : ¬ (0 ≤ t ∧ t < ((S + M + 1 : Nat) : Int))) : Calls Try.prog 14 #[.agg #[.int .i64 (G : Int), .int .i64 (S : Int), .int .i64 (M : Int)], .int .i64 t] w fun e w' => e = .returned (.tuple #[.int .i64 0, .int .i64 70]) ∧ Kp [] w w' := by
  have CT := hide (fun W => ctask_ok G S M t W hm)
  unfold tkE at CT
  rw [if_neg ht] at CT
  clear ht
  go_enter Try.func14, Try.ntmps14
  go_wp2_with fail
  refine (unhide CT _).mono ?_
  rintro r w1 ⟨rfl, hk⟩
  go_wp2
  go_ret2
  exact ⟨rfl, kp_two hk⟩
/-- A task's kind. -/
def kdT (S M t : Nat) : Nat := if t < S then 0 else if t < S + M then 1 else 2
set_option maxHeartbeats 1000000 in
theorem kind_ok (G S M t : Nat) (w : World) (hm : MayP G S M) (ht : t < S + M + 1) : Calls Try.prog 14 #[.agg #[.int .i64 (G : Int), .int .i64 (S : Int), .int .i64 (M : Int)], .int .i64 (t : Int)] w fun e w' => e = .returned (.tuple #[.int .i64 (kdT S M t : Int), .int .i64 0]) ∧ Kp [] w w' := by
  have CT := hide (fun W => ctask_ok G S M (t : Int) W hm)
  unfold tkE at CT
  rw [if_pos (by omega)] at CT
  have SK := hide (fun W => sink_ok G S M W hm)
  have HT : Hid (kdT S M t = if t < S then 0 else if t < S + M then 1 else 2) := hide rfl
  generalize kdT S M t = E at *
  generalize S + M = N at *
  clear hm ht
  go_enter Try.func14, Try.ntmps14
  go_wp2_with fail
  refine (unhide CT _).mono ?_
  rintro r w1 ⟨rfl, hk⟩
  have b1 : PBox w.heap.size _ _ _ _ w1 := PBox.kp (CBox.new w _ _) hk (by simp)
  obtain ⟨c0, c1, c2⟩ := b1.cells
  have HK := hide hk
  clear hk CT b1
  by_cases h0 : t < S
  · have h0' : (t : Int) < (S : Int) := by omega
    obtain rfl : E = 0 := by rw [unhide HT, if_pos h0]
    go_wp2
    go_ret2
    exact ⟨rfl, kp_two (unhide HK)⟩
  · have h0' : ¬ ((t : Int) < (S : Int)) := by omega
    go_wp2_with fail
    refine (unhide SK _).mono ?_
    rintro r w2 ⟨rfl, hk2⟩
    have HK2 := hide hk2
    clear hk2 SK
    by_cases h1 : t < N
    · have h1' : (t : Int) < (N : Int) := by omega
      obtain rfl : E = 1 := by rw [unhide HT, if_neg h0, if_pos h1]
      go_wp2
      go_ret2
      exact ⟨rfl, kp_tr (kp_two (unhide HK)) (unhide HK2)⟩
    · have h1' : ¬ ((t : Int) < (N : Int)) := by omega
      obtain rfl : E = 2 := by rw [unhide HT, if_neg h0, if_neg h1]
      go_wp2
      go_ret2
      exact ⟨rfl, kp_tr (kp_two (unhide HK)) (unhide HK2)⟩
end Go.Proofs.Ytlljilekompbeaa
