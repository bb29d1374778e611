/-
  The document's plan: may it be; its tasks and their kinds.
-/
import Derived.Test.YtlljilekompbeaaRtB
import Derived.Test.YtlljilekompbeaaGrAR
namespace Go.Proofs.Ytlljilekompbeaa
open Go.RowKit

set_option maxHeartbeats 1000000 in
theorem refMayP_any (g s m : Int) (w : World) : Calls Try.prog 9 #[.agg #[.int .i64 g, .int .i64 s, .int .i64 m]] w fun e w' => e = .returned (.bool (mayP g s m)) ∧ Kp [] w w' := by
  have MT := hide (refMay_any g m)
  unfold mayP
  generalize mayT g m = B at *
  go_enter Try.func9, Try.ntmps9
  go_wp2_with fail
  refine (unhide MT _).mono ?_
  rintro r w1 ⟨rfl, rfl⟩
  clear MT
  cases B with
  | false =>
    go_wp2
    go_ret
    exact ⟨ret_bool (by simp), Kp.alloc _ _⟩
  | true =>
    by_cases h5 : 1 ≤ s
    · by_cases h6 : s ≤ 16
      · go_wp2
        go_ret
        exact ⟨ret_bool (by simp; omega), Kp.alloc _ _⟩
      · go_wp2
        go_ret
        exact ⟨ret_bool (by simp; omega), Kp.alloc _ _⟩
    · go_wp2
      go_ret
      exact ⟨ret_bool (by simp; omega), Kp.alloc _ _⟩
theorem refTasks_no (g s m : Int) (w : World) (h : mayP g s m = false) : Calls Try.prog 11 #[.agg #[.int .i64 g, .int .i64 s, .int .i64 m]] w fun e w' => e = .returned (.int .i64 0) ∧ Kp [] w w' := by
  have MB := hide (refMayP_any g s m)
  rw [h] at MB
  go_enter Try.func11, Try.ntmps11
  go_wp2_with fail
  refine (unhide MB _).mono ?_
  rintro r w1 ⟨rfl, hk⟩
  go_wp2
  go_ret
  exact ⟨rfl, kp_two hk⟩
theorem refTasks_ok (G S M : Nat) (w : World) (hm : MayP G S M) : Calls Try.prog 11 #[.agg #[.int .i64 (G : Int), .int .i64 (S : Int), .int .i64 (M : Int)]] w fun e w' => e = .returned (.int .i64 ((S + M + 1 : Nat) : Int)) ∧ Kp [] w w' := by
  have MB := hide (refMayP_any (G : Int) (S : Int) (M : Int))
  rw [hm.of] at MB
  have h1 := hm.s2
  have h2 := hm.gm.t3
  clear hm
  go_enter Try.func11, Try.ntmps11
  go_wp2_with fail
  refine (unhide MB _).mono ?_
  rintro r w1 ⟨rfl, hk⟩
  have b1 : PBox w.heap.size 24 _ _ _ w1 := PBox.kp (CBox.new w _ _) hk (by simp)
  obtain ⟨c0, c1, c2⟩ := b1.cells
  have HK := hide hk
  clear hk MB b1
  go_wp2
  go_ret
  exact ⟨ret_int (by omega), kp_two (unhide HK)⟩
theorem refTask_no (g s m t : Int) (w : World) (h : mayP g s m = false) : Calls Try.prog 32 #[.agg #[.int .i64 g, .int .i64 s, .int .i64 m], .int .i64 t] w fun e w' => e = .returned (.int .i64 1) ∧ Kp [] w w' := by
  have MB := hide (refMayP_any g s m)
  rw [h] at MB
  go_enter Try.func32, Try.ntmps32
  go_wp2_with fail
  refine (unhide MB _).mono ?_
  rintro r w1 ⟨rfl, hk⟩
  go_wp2
  go_ret
  exact ⟨rfl, kp_two hk⟩
set_option maxHeartbeats 1000000 in
theorem refTask_ok (G S M : Nat) (t : Int) (w : World) (hm : MayP G S M) : Calls Try.prog 32 #[.agg #[.int .i64 (G : Int), .int .i64 (S : Int), .int .i64 (M : Int)], .int .i64 t] w fun e w' => e = .returned (.int .i64 (tkE S M t)) ∧ Kp [] w w' := by
  have MB := hide (refMayP_any (G : Int) (S : Int) (M : Int))
  rw [hm.of] at MB
  have TK := hide (fun W => refTasks_ok G S M W hm)
  have HT : Hid (tkE S M t = if 0 ≤ t ∧ t < ((S + M + 1 : Nat) : Int) then 0 else 70) := hide rfl
  generalize tkE S M t = E at *
  generalize S + M + 1 = N at *
  clear hm
  go_enter Try.func32, Try.ntmps32
  go_wp2_with fail
  refine (unhide MB _).mono ?_
  rintro r w1 ⟨rfl, hk⟩
  have b1 : PBox w.heap.size 24 _ _ _ w1 := PBox.kp (CBox.new w _ _) hk (by simp)
  obtain ⟨c0, c1, c2⟩ := b1.cells
  have HK := hide hk
  clear hk MB b1
  by_cases h0 : t < 0
  · go_wp2
    go_ret
    exact ⟨ret_int (by rw [unhide HT, if_neg (by omega)]), kp_two (unhide HK)⟩
  · go_wp2_with fail
    refine (unhide TK _).mono ?_
    rintro r w2 ⟨rfl, hk2⟩
    have HK2 := hide hk2
    clear hk2 TK
    by_cases h1 : t < (N : Int)
    · go_wp2
      go_ret
      exact ⟨ret_int (by rw [unhide HT, if_pos (by omega)]), kp_tr (kp_two (unhide HK)) (unhide HK2)⟩
    · go_wp2
      go_ret
      exact ⟨ret_int (by rw [unhide HT, if_neg (by omega)]), kp_tr (kp_two (unhide HK)) (unhide HK2)⟩
theorem refKind_no (g s m t : Int) (w : World) (h : mayP g s m = false) : Calls Try.prog 15 #[.agg #[.int .i64 g, .int .i64 s, .int .i64 m], .int .i64 t] w fun e w' => e = .returned (.tuple #[.int .i64 0, .int .i64 1]) ∧ Kp [] w w' := by
  have CT := hide (fun W => refTask_no g s m t W h)
  clear h
  go_enter Try.func15, Try.ntmps15
  go_wp2_with fail
  refine (unhide CT _).mono ?_
  rintro r w1 ⟨rfl, hk⟩
  go_wp2
  go_ret2
  exact ⟨rfl, kp_two hk⟩
theorem refKind_not (G S M : Nat) (t : Int) (w : World) (hm : MayP G S M) (ht : ¬ (0 ≤ t ∧ t < ((S + M + 1 : Nat) : Int))) : Calls Try.prog 15 #[.agg #[.int .i64 (G : Int), .int .i64 (S : Int), .int .i64 (M : Int)], .int .i64 t] w fun e w' => e = .returned (.tuple #[.int .i64 0, .int .i64 70]) ∧ Kp [] w w' := by
  have CT := hide (fun W => refTask_ok G S M t W hm)
  unfold tkE at CT
  rw [if_neg ht] at CT
  clear ht
  go_enter Try.func15, Try.ntmps15
  go_wp2_with fail
  refine (unhide CT _).mono ?_
  rintro r w1 ⟨rfl, hk⟩
  go_wp2
  go_ret2
  exact ⟨rfl, kp_two hk⟩
set_option maxHeartbeats 1000000 in
theorem refKind_ok (G S M t : Nat) (w : World) (hm : MayP G S M) (ht : t < S + M + 1) : Calls Try.prog 15 #[.agg #[.int .i64 (G : Int), .int .i64 (S : Int), .int .i64 (M : Int)], .int .i64 (t : Int)] w fun e w' => e = .returned (.tuple #[.int .i64 (kdT S M t : Int), .int .i64 0]) ∧ Kp [] w w' := by
  have CT := hide (fun W => refTask_ok G S M (t : Int) W hm)
  unfold tkE at CT
  rw [if_pos (by omega)] at CT
  have HT : Hid (kdT S M t = if t < S then 0 else if t < S + M then 1 else 2) := hide rfl
  have h1 := hm.s2
  have h2 := hm.gm.t3
  generalize kdT S M t = E at *
  clear hm ht
  go_enter Try.func15, Try.ntmps15
  go_wp2_with fail
  refine (unhide CT _).mono ?_
  rintro r w1 ⟨rfl, hk⟩
  have b1 : PBox w.heap.size 24 _ _ _ w1 := PBox.kp (CBox.new w _ _) hk (by simp)
  obtain ⟨c0, c1, c2⟩ := b1.cells
  have HK := hide hk
  clear hk CT b1
  by_cases h0 : t < S
  · have h0' : (t : Int) < (S : Int) := by omega
    obtain rfl : E = 0 := by rw [unhide HT, if_pos h0]
    go_wp2
    go_ret2
    exact ⟨rfl, kp_two (unhide HK)⟩
  · have h0' : ¬ ((t : Int) < (S : Int)) := by omega
    by_cases h1 : t < S + M
    · have h1' : (t : Int) < (S : Int) + (M : Int) := by omega
      obtain rfl : E = 1 := by rw [unhide HT, if_neg h0, if_pos h1]
      go_wp2
      go_ret2
      exact ⟨rfl, kp_two (unhide HK)⟩
    · have h1' : ¬ ((t : Int) < (S : Int) + (M : Int)) := by omega
      obtain rfl : E = 2 := by rw [unhide HT, if_neg h0, if_neg h1]
      go_wp2
      go_ret2
      exact ⟨rfl, kp_two (unhide HK)⟩
end Go.Proofs.Ytlljilekompbeaa
