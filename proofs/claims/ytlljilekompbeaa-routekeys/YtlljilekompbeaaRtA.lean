/-
  A plan: may it be; its tasks and channels; kinds of tasks.
-/
import Derived.Test.YtlljilekompbeaaGrB
namespace Go.Proofs.Ytlljilekompbeaa
open Go.RowKit

/-- A plan as a value. -/
def pV (g s m : Int) : Value := .agg #[.int .i64 g, .int .i64 s, .int .i64 m]
/-- May a plan be? -/
def mayP (g s m : Int) : Bool := mayT g m && decide (1 ≤ s ∧ s ≤ 16)
/-- May a plan be? In whole numbers. -/
structure MayP (G S M : Nat) : Prop where
  gm : May G M
  s1 : 1 ≤ S
  s2 : S ≤ 16
theorem MayP.of {G S M : Nat} (h : MayP G S M) : mayP (G : Int) (S : Int) (M : Int) = true := by
  obtain ⟨h1, h2, h3⟩ := h
  unfold mayP
  rw [h1.of]
  simp
  omega
theorem mayP_nat {g s m : Int} (h : mayP g s m = true) : ∃ G S M : Nat, g = (G : Int) ∧ s = (S : Int) ∧ m = (M : Int) ∧ MayP G S M := by
  unfold mayP at h
  rw [Bool.and_eq_true] at h
  obtain ⟨G, M, rfl, rfl, hm⟩ := may_nat h.1
  have h2 := of_decide_eq_true h.2
  exact ⟨G, s.toNat, M, rfl, by omega, rfl, ⟨hm, by omega, by omega⟩⟩
/-- A plan lies in a box. -/
def PBox (k : Nat) (t : TypeId) (g s m : Int) (w : World) : Prop := CBox k #[.int .i64 g, .int .i64 s, .int .i64 m] t w
theorem PBox.cells {k t : Nat} {g s m : Int} {w : World} (h : PBox k t g s m w) : w.cell? ⟨k, 0, none⟩ = some (.int .i64 g) ∧ w.cell? ⟨k, 1, none⟩ = some (.int .i64 s) ∧ w.cell? ⟨k, 2, none⟩ = some (.int .i64 m) :=
  ⟨CBox.cell h rfl, CBox.cell h rfl, CBox.cell h rfl⟩
theorem PBox.kp {k t : Nat} {g s m : Int} {w w' : World} {F : List Nat} (h : PBox k t g s m w) (hk : Kp F w w') (hF : k ∉ F) : PBox k t g s m w' := CBox.kp h hk hF
theorem kp_two {a : World} {o : Obj} {b : World} (h : Kp [] (a.alloc o) b) : Kp [] a b := (Kp.alloc _ _).trans h (by simp)
theorem kp_tr {a b c : World} (h : Kp [] a b) (k : Kp [] b c) : Kp [] a c := h.trans k (by simp)
set_option maxHeartbeats 1000000 in
set_option maxRecDepth 100000 in
theorem mayBe_any (g s m : Int) (w : World) : Calls Try.prog 27 #[.agg #[.int .i64 g, .int .i64 s, .int .i64 m]] w fun e w' => e = .returned (.bool (mayP g s m)) ∧ Kp [] w w' := by
  have HB : Hid (mayP g s m = true ↔ 1 ≤ g ∧ g ≤ 128 ∧ 1 ≤ m ∧ m ≤ g ∧ m ≤ 16 ∧ 1 ≤ s ∧ s ≤ 16) := hide (by unfold mayP mayT; simp; omega)
  generalize mayP g s m = B at *
  go_enter Try.func27, Try.ntmps27
  by_cases h1 : 1 ≤ g
  · by_cases h2 : g ≤ 128
    · by_cases h3 : 1 ≤ m
      · have h16 : min g 16 = if g ≤ 16 then g else 16 := by omega
        by_cases hg : g ≤ 16
        · rw [if_pos hg] at h16
          by_cases h4 : m ≤ g
          · by_cases h5 : 1 ≤ s
            · by_cases h6 : s ≤ 16
              · go_wp2
                go_ret
                exact ⟨ret_bool (Bool.eq_iff_iff.2 (by rw [unhide HB]; simp; omega)), Kp.alloc _ _⟩
              · go_wp2
                go_ret
                exact ⟨ret_bool (Bool.eq_iff_iff.2 (by rw [unhide HB]; simp; omega)), Kp.alloc _ _⟩
            · go_wp2
              go_ret
              exact ⟨ret_bool (Bool.eq_iff_iff.2 (by rw [unhide HB]; simp; omega)), Kp.alloc _ _⟩
          · go_wp2
            go_ret
            exact ⟨ret_bool (Bool.eq_iff_iff.2 (by rw [unhide HB]; simp; omega)), Kp.alloc _ _⟩
        · rw [if_neg hg] at h16
          by_cases h4 : m ≤ 16
          · by_cases h5 : 1 ≤ s
            · by_cases h6 : s ≤ 16
              · go_wp2
                go_ret
                exact ⟨ret_bool (Bool.eq_iff_iff.2 (by rw [unhide HB]; simp; omega)), Kp.alloc _ _⟩
              · go_wp2
                go_ret
                exact ⟨ret_bool (Bool.eq_iff_iff.2 (by rw [unhide HB]; simp; omega)), Kp.alloc _ _⟩
            · go_wp2
              go_ret
              exact ⟨ret_bool (Bool.eq_iff_iff.2 (by rw [unhide HB]; simp; omega)), Kp.alloc _ _⟩
          · go_wp2
            go_ret
            exact ⟨ret_bool (Bool.eq_iff_iff.2 (by rw [unhide HB]; simp; omega)), Kp.alloc _ _⟩
      · go_wp2
        go_ret
        exact ⟨ret_bool (Bool.eq_iff_iff.2 (by rw [unhide HB]; simp; omega)), Kp.alloc _ _⟩
    · go_wp2
      go_ret
      exact ⟨ret_bool (Bool.eq_iff_iff.2 (by rw [unhide HB]; simp; omega)), Kp.alloc _ _⟩
  · go_wp2
    go_ret
    exact ⟨ret_bool (Bool.eq_iff_iff.2 (by rw [unhide HB]; simp; omega)), Kp.alloc _ _⟩
theorem sink_ok (G S M : Nat) (w : World) (hm : MayP G S M) : Calls Try.prog 29 #[.agg #[.int .i64 (G : Int), .int .i64 (S : Int), .int .i64 (M : Int)]] w fun e w' => e = .returned (.int .i64 ((S + M : Nat) : Int)) ∧ Kp [] w w' := by
  have h1 := hm.s2
  have h2 := hm.gm.t3
  go_enter Try.func29, Try.ntmps29
  go_wp2
  go_ret
  exact ⟨ret_int (by omega), Kp.alloc _ _⟩
theorem first_ok (G S M : Nat) (w : World) (hm : MayP G S M) : Calls Try.prog 30 #[.agg #[.int .i64 (G : Int), .int .i64 (S : Int), .int .i64 (M : Int)]] w fun e w' => e = .returned (.int .i64 ((S * M : Nat) : Int)) ∧ Kp [] w w' := by
  have h1 := hm.s2
  have h2 := hm.gm.t3
  have e1 : (S : Int) * (M : Int) = ((S * M : Nat) : Int) := by simp
  have b1 := mul_lt_small S M (by omega) (by omega)
  generalize S * M = n at *
  go_enter Try.func30, Try.ntmps30
  go_wp2
  go_ret
  exact ⟨rfl, Kp.alloc _ _⟩
/-- What Check answers. -/
def chP (g s m : Int) : Int := if mayP g s m then 0 else 1
theorem pcheck_any (g s m : Int) (w : World) : Calls Try.prog 8 #[.agg #[.int .i64 g, .int .i64 s, .int .i64 m]] w fun e w' => e = .returned (.int .i64 (chP g s m)) ∧ Kp [] w w' := by
  have MB := hide (mayBe_any g s m)
  unfold chP
  cases h : mayP g s m with
  | false =>
    rw [h] at MB
    go_enter Try.func8, Try.ntmps8
    go_wp2_with fail
    refine (unhide MB _).mono ?_
    rintro r w1 ⟨rfl, hk⟩
    go_wp2
    go_ret
    exact ⟨rfl, kp_two hk⟩
  | true =>
    rw [h] at MB
    go_enter Try.func8, Try.ntmps8
    go_wp2_with fail
    refine (unhide MB _).mono ?_
    rintro r w1 ⟨rfl, hk⟩
    go_wp2
    go_ret
    exact ⟨rfl, kp_two hk⟩
end Go.Proofs.Ytlljilekompbeaa
