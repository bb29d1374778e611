/-
  A plan: a channel's ends.
-/
import Derived.Test.YtlljilekompbeaaRtB
namespace Go.Proofs.Ytlljilekompbeaa
open Go.RowKit

/-- The task that a channel comes from. -/
def frC (S M c : Nat) : Nat := if c < S * M then c / M else S + c - S * M
/-- The task that a channel goes to. -/
def toC (S M c : Nat) : Nat := if c < S * M then S + c % M else S + M
theorem wrap_i64_nat (n : Nat) (h : n ≤ 1000000) : IntKind.i64.wrap (n : Int) = (n : Int) := by rw [IntKind.wrap_i64]; omega
set_option maxHeartbeats 1000000 in
theorem from_ok (G S M c : Nat) (w : World) (hm : MayP G S M) (hc : c < S * M + M) : Calls Try.prog 35 #[.agg #[.int .i64 (G : Int), .int .i64 (S : Int), .int .i64 (M : Int)], .int .i64 (c : Int)] w fun e w' => e = .returned (.int .i64 (frC S M c : Int)) ∧ Kp [] w w' := by
  have FS := hide (fun W => first_ok G S M W hm)
  have HT : Hid (frC S M c = if c < S * M then c / M else S + c - S * M) := hide rfl
  have h1 := hm.s2
  have h2 := hm.gm.t3
  have h3 := hm.gm.t1
  have b1 := mul_lt_small S M (by omega) (by omega)
  generalize frC S M c = E at *
  generalize S * M = n at *
  clear hm
  go_enter Try.func35, Try.ntmps35
  go_wp2_with fail
  refine (unhide FS _).mono ?_
  rintro r w1 ⟨rfl, hk⟩
  have HB : Hid (PBox w.heap.size 23 (G : Int) (S : Int) (M : Int) w1) := hide (PBox.kp (CBox.new w _ _) hk (by simp))
  have HK := hide hk
  clear hk
  by_cases h0 : c < n
  · have h0' : (c : Int) < (n : Int) := by omega
    obtain ⟨c0, c1, c2⟩ := (unhide HB).cells
    clear FS
    go_wp2
    go_ret
    refine ⟨ret_int ?_, kp_two (unhide HK)⟩
    rw [unhide HT, if_pos h0]
    exact wrap64_div c M (by omega)
  · have h0' : ¬ ((c : Int) < (n : Int)) := by omega
    have cS : w1.drew.cell? ⟨w.heap.size, 0, none⟩ = some (.int .i64 (G : Int)) ∧ w1.drew.cell? ⟨w.heap.size, 1, none⟩ = some (.int .i64 (S : Int)) ∧ w1.drew.cell? ⟨w.heap.size, 2, none⟩ = some (.int .i64 (M : Int)) := (unhide HB).cells
    go_wp2_with fail
    go_region_held3 (fun W => W.cell? ⟨w.heap.size, 0, none⟩ = some (.int .i64 (G : Int)) ∧ W.cell? ⟨w.heap.size, 1, none⟩ = some (.int .i64 (S : Int)) ∧ W.cell? ⟨w.heap.size, 2, none⟩ = some (.int .i64 (M : Int)))
      (first | with_reducible exact cS | with_reducible exact cS2)
      (first | (go_at_call 30; refine (unhide FS _).mono ?_; rintro r w2 ⟨rfl, hk2⟩; have HK2 := hide (kp_undrew hk2); have cS2 := ((unhide HB).kp (unhide HK2) (by simp)).cells; clear hk2))
    go_wp2
    go_ret
    refine ⟨ret_int ?_, kp_tr (kp_two (unhide HK)) (unhide HK2)⟩
    rw [unhide HT, if_neg h0]
    simp only [IntKind.wrap_i64]
    omega
set_option maxHeartbeats 1000000 in
theorem to_ok (G S M c : Nat) (w : World) (hm : MayP G S M) (_hc : c < S * M + M) : Calls Try.prog 34 #[.agg #[.int .i64 (G : Int), .int .i64 (S : Int), .int .i64 (M : Int)], .int .i64 (c : Int)] w fun e w' => e = .returned (.int .i64 (toC S M c : Int)) ∧ Kp [] w w' := by
  have FS := hide (fun W => first_ok G S M W hm)
  have SK := hide (fun W => sink_ok G S M W hm)
  have HT : Hid (toC S M c = if c < S * M then S + c % M else S + M) := hide rfl
  have h1 := hm.s2
  have h2 := hm.gm.t3
  have h3 := hm.gm.t1
  have b1 := mul_lt_small S M (by omega) (by omega)
  generalize toC S M c = E at *
  generalize S * M = n at *
  clear hm
  go_enter Try.func34, Try.ntmps34
  go_wp2_with fail
  refine (unhide FS _).mono ?_
  rintro r w1 ⟨rfl, hk⟩
  have HB : Hid (PBox w.heap.size 23 (G : Int) (S : Int) (M : Int) w1) := hide (PBox.kp (CBox.new w _ _) hk (by simp))
  have HK := hide hk
  clear hk FS
  by_cases h0 : c < n
  · have h0' : (c : Int) < (n : Int) := by omega
    have hM : ¬ ((M : Int) = 0) := by omega
    have hM2 : ((M : Int) == 0) = false := by simpa using hM
    have hM1 : (1 : Int) ≤ (M : Int) := by omega
    obtain ⟨c0, c1, c2⟩ := (unhide HB).cells
    have e := rem_nat c M
    have e' := wrap64_rem c M (by omega)
    have hl := Nat.mod_lt c (show M > 0 by omega)
    have HT2 : Hid (E = S + c % M) := hide (by rw [unhide HT, if_pos h0])
    clear SK HT
    generalize c % M = x at *
    go_wp2_with fail
    go_region
    all_goals (
      go_wp2
      go_ret
      refine ⟨ret_int ?_, (kp_two (unhide HK)).trans (Kp.drew _) (by simp)⟩
      rw [unhide HT2]
      omega)
  · have h0' : ¬ ((c : Int) < (n : Int)) := by omega
    obtain ⟨c0, c1, c2⟩ := (unhide HB).cells
    go_wp2_with fail
    refine (unhide SK _).mono ?_
    rintro r w2 ⟨rfl, hk2⟩
    have HK2 := hide hk2
    clear hk2 SK
    go_wp2
    go_ret
    exact ⟨ret_int (by rw [unhide HT, if_neg h0]; simp), kp_tr (kp_two (unhide HK)) (unhide HK2)⟩
theorem ends_no (g s m c : Int) (w : World) (h : mayP g s m = false) : Calls Try.prog 23 #[.agg #[.int .i64 g, .int .i64 s, .int .i64 m], .int .i64 c] w fun e w' => e = .returned (.tuple #[.int .i64 0, .int .i64 0, .int .i64 1]) ∧ Kp [] w w' := by
  have CH := hide (fun W => chans_no g s m W h)
  clear h
  go_enter Try.func23, Try.ntmps23
  by_cases h0 : c < 0
  · go_wp2
    go_ret3
    exact ⟨rfl, Kp.alloc _ _⟩
  · have h0' : (0 : Int) ≤ c := by omega
    go_wp2_with fail
    refine (unhide CH _).mono ?_
    rintro r w1 ⟨rfl, hk⟩
    go_wp2
    go_ret3
    exact ⟨rfl, kp_two hk⟩
theorem ends_not (G S M : Nat) (c : Int) (w : World) (hm : MayP G S M) (hc : ¬ (0 ≤ c ∧ c < ((S * M + M : Nat) : Int))) : Calls Try.prog 23 #[.agg #[.int .i64 (G : Int), .int .i64 (S : Int), .int .i64 (M : Int)], .int .i64 c] w fun e w' => e = .returned (.tuple #[.int .i64 0, .int .i64 0, .int .i64 1]) ∧ Kp [] w w' := by
  have CH := hide (fun W => chans_ok G S M W hm)
  generalize S * M + M = n at *
  clear hm
  go_enter Try.func23, Try.ntmps23
  by_cases h0 : c < 0
  · go_wp2
    go_ret3
    exact ⟨rfl, Kp.alloc _ _⟩
  · have h0' : (n : Int) ≤ c := by omega
    go_wp2_with fail
    refine (unhide CH _).mono ?_
    rintro r w1 ⟨rfl, hk⟩
    go_wp2
    go_ret3
    exact ⟨rfl, kp_two hk⟩
set_option maxHeartbeats 1000000 in
set_option maxRecDepth 100000 in
theorem ends_ok (G S M c : Nat) (w : World) (hm : MayP G S M) (hc : c < S * M + M) : Calls Try.prog 23 #[.agg #[.int .i64 (G : Int), .int .i64 (S : Int), .int .i64 (M : Int)], .int .i64 (c : Int)] w fun e w' => e = .returned (.tuple #[.int .i64 (frC S M c : Int), .int .i64 (toC S M c : Int), .int .i64 0]) ∧ Kp [] w w' := by
  have CH := hide (fun W => chans_ok G S M W hm)
  have FR := hide (fun W => from_ok G S M c W hm hc)
  have TO := hide (fun W => to_ok G S M c W hm hc)
  generalize frC S M c = A at *
  generalize toC S M c = B at *
  generalize S * M + M = n at *
  have hc' : (c : Int) < (n : Int) := by omega
  have hc0 : ¬ ((c : Int) < 0) := by omega
  clear hm hc
  go_enter Try.func23, Try.ntmps23
  go_wp2_with fail
  refine (unhide CH _).mono ?_
  rintro r w1 ⟨rfl, hk⟩
  have HB : Hid (PBox w.heap.size 23 (G : Int) (S : Int) (M : Int) w1) := hide (PBox.kp (CBox.new w _ _) hk (by simp))
  have HK := hide hk
  clear hk CH
  have cS : w1.drew.cell? ⟨w.heap.size, 0, none⟩ = some (.int .i64 (G : Int)) ∧ w1.drew.cell? ⟨w.heap.size, 1, none⟩ = some (.int .i64 (S : Int)) ∧ w1.drew.cell? ⟨w.heap.size, 2, none⟩ = some (.int .i64 (M : Int)) := (unhide HB).cells
  go_wp2_with fail
  go_region_held3 (fun W => W.cell? ⟨w.heap.size, 0, none⟩ = some (.int .i64 (G : Int)) ∧ W.cell? ⟨w.heap.size, 1, none⟩ = some (.int .i64 (S : Int)) ∧ W.cell? ⟨w.heap.size, 2, none⟩ = some (.int .i64 (M : Int)))
    (first | with_reducible exact cS | with_reducible exact cS2 | with_reducible exact cS3)
    (first
      | (go_at_call 34; refine (unhide TO _).mono ?_; rintro r w3 ⟨rfl, hk3⟩; have HK3 := hide (kp_tr (unhide HK2) hk3); have cS3 := ((unhide HB).kp (unhide HK3) (by simp)).cells; clear hk3)
      | (go_at_call 35; refine (unhide FR _).mono ?_; rintro r w2 ⟨rfl, hk2⟩; have HK2 := hide (kp_undrew hk2); have cS2 := ((unhide HB).kp (unhide HK2) (by simp)).cells; clear hk2))
  go_wp2
  go_ret3
  exact ⟨rfl, kp_tr (kp_two (unhide HK)) (unhide HK3)⟩
end Go.Proofs.Ytlljilekompbeaa
