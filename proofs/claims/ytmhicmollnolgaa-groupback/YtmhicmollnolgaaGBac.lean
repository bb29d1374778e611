/-
  GroupBack: plain facts on moves, and the walk.
-/
import Derived.Test.YtmhicmollnolgaaGrG
import Derived.Test.YtmhicmollnolgaaGrF
namespace Go.Proofs.Ytmhicmollnolgaa
open Go.RowKit

/-- A move, the other way. -/
def mvSw (m : Nat × Nat × Nat) : Nat × Nat × Nat := (m.1, m.2.2, m.2.1)
theorem mvL_sw (G a b k : Nat) : mvL G b a k = (mvL G a b k).map mvSw := by
  induction k with
  | zero => rfl
  | succ k ih =>
    unfold mvL
    rw [ih, List.map_append]
    congr 1
    by_cases h : own G a k = own G b k
    · rw [if_pos h, if_pos h.symm]; rfl
    · rw [if_neg h, if_neg (fun e => h e.symm)]; rfl
theorem mvL_is (G a b k : Nat) : ∀ m ∈ mvL G a b k, m.1 < k ∧ m.2.2 = own G b m.1 ∧ m.2.1 ≠ m.2.2 := by
  induction k with
  | zero => intro m hm; cases hm
  | succ k ih =>
    intro m hm
    unfold mvL at hm
    rw [List.mem_append] at hm
    rcases hm with hm | hm
    · have := ih m hm; exact ⟨by omega, this.2⟩
    · by_cases h : own G a k = own G b k
      · rw [if_pos h] at hm; cases hm
      · rw [if_neg h] at hm
        simp at hm
        subst hm
        exact ⟨by simp, rfl, h⟩
theorem mvL_none (G a k : Nat) : mvL G a a k = [] := by
  induction k with
  | zero => rfl
  | succ k ih => unfold mvL; rw [ih, if_pos rfl]; rfl
/-- With as many tasks as before nothing moves. -/
theorem moves_same (g a : Int) (w : World) : ∃ e : Int, (mayT g a = true → e = 0) ∧ Calls Try.prog 18 #[.int .i64 g, .int .i64 a, .int .i64 a] w fun r w' => ∃ ad cap, r = .returned (.tuple #[.slice ad 0 cap, .int .i64 e]) ∧ Kp [] w w' := by
  cases h : mayT g a with
  | false =>
    refine ⟨1, (fun h => by cases h), (moves_no g a a w (by rw [h]; rfl)).mono ?_⟩
    rintro r w' ⟨rfl, rfl⟩
    exact ⟨none, 0, rfl, Kp.refl _ _⟩
  | true =>
    obtain ⟨G, A, rfl, rfl, ma⟩ := may_nat h
    refine ⟨0, fun _ => rfl, (moves_ok G A A w ma ma).mono ?_⟩
    rintro r w' ⟨v, rfl, ho, hk⟩
    rw [mvL_none] at ho
    obtain ⟨ad, cap, rfl⟩ := ho.len
    exact ⟨ad, cap, rfl, hk⟩
set_option maxHeartbeats 4000000 in
set_option maxRecDepth 100000 in
theorem gback_no (g a b : Int) (w : World) (h : (mayT g a && mayT g b) = false) :
    Calls Try.prog 7 #[.int .i64 g, .int .i64 a, .int .i64 b] w fun e w' => e = .returned (.bool true) ∧ Below w.heap.size w w' := by
  have WK := hide (grWorks_any w)
  have M1 := hide (fun W => moves_no g a b W h)
  have M2 := hide (fun W => moves_no g b a W (by rw [Bool.and_comm]; exact h))
  have M3 := hide (fun W => moves_same g a W)
  go_enter Try.func7, Try.ntmps7
  go_wp2_with fail
  refine (unhide WK).mono ?_
  rintro r w1 ⟨rfl, hk⟩
  have HK := hide hk
  clear hk WK
  go_wp2_with fail
  refine (unhide M1 _).mono ?_
  rintro r w2 ⟨rfl, rfl⟩
  go_wp2_with fail
  refine (unhide M2 _).mono ?_
  rintro r w3 ⟨rfl, rfl⟩
  go_wp2
  go_loopw [44] (fun i wr => i = .int .i64 0 ∧ wr = w3) (fun _ _ => 0)
  case atStart => exact ⟨rfl, rfl⟩
  case round =>
    obtain ⟨rfl, rfl⟩ := hrel
    obtain ⟨e, _, m3⟩ := unhide M3 wr
    have N3 := hide m3
    clear m3 M3 M1 M2
    go_wp2_with fail
    refine (unhide N3).mono ?_
    rintro r w4 ⟨ad, cap, rfl, hk4⟩
    have hk' := (unhide HK).trans hk4 (by simp)
    by_cases he : e = 0
    · subst he
      go_wp2
      go_ret
      exact ⟨rfl, hk'.below (Nat.le_refl _) (by simp)⟩
    · go_wp2
      go_ret
      exact ⟨rfl, hk'.below (Nat.le_refl _) (by simp)⟩
set_option maxHeartbeats 4000000 in
set_option maxRecDepth 100000 in
theorem gback_ok (G A B : Nat) (w : World) (ma : May G A) (mb : May G B) :
    Calls Try.prog 7 #[.int .i64 (G : Int), .int .i64 (A : Int), .int .i64 (B : Int)] w fun e w' => e = .returned (.bool true) ∧ Below w.heap.size w w' := by
  have WK := hide (grWorks_any w)
  have M1 := hide (fun W => moves_ok G A B W ma mb)
  have M2 := hide (fun W => moves_ok G B A W mb ma)
  have M3 := hide (fun W => moves_same (G : Int) (A : Int) W)
  have OW := hide (fun q W (hq : q < G) => owner_ok G B q W mb hq)
  have HT := hide ma.of
  rw [mvL_sw G A B] at M2
  have hl := mvL_len G A B G
  have HI := hide (mvL_is G A B G)
  have hG := ma.g2
  have E3 := eq3
  clear ma mb
  generalize mvL G A B G = L at *
  have hlm : (L.map mvSw).length = L.length := List.length_map ..
  go_enter Try.func7, Try.ntmps7
  go_wp2_with fail
  refine (unhide WK).mono ?_
  rintro r w0 ⟨rfl, hk⟩
  have HK := hide hk
  clear hk WK
  go_wp2_with fail
  refine (unhide M1 _).mono ?_
  rintro r w1 ⟨v1, rfl, o1, k1⟩
  obtain ⟨ad1, cap1, rfl⟩ := o1.len
  have O1 := hide o1
  have HK := hide ((unhide HK).trans k1 (by simp))
  clear o1 k1
  go_wp2_with fail
  refine (unhide M2 _).mono ?_
  rintro r w2 ⟨v2, rfl, o2, k2⟩
  obtain ⟨ad2, cap2, hv⟩ := o2.len
  rw [hlm] at hv
  subst hv
  have O2 := hide o2
  have O1 := hide ((unhide O1).kp k2)
  have HK := hide ((unhide HK).trans k2 (by simp))
  have HLM := hide hlm
  clear o2 k2 M1 M2 hlm
  go_wp2
  go_loopw [44] (fun i wr => ∃ k : Nat, k ≤ L.length ∧ i = .int .i64 (k : Int) ∧ Kp [] w2 wr) (fun i _ => L.length - (intOf i).toNat)
  case atStart => exact ⟨0, Nat.zero_le _, rfl, Kp.refl _ _⟩
  case round =>
    obtain ⟨k, hk, rfl, kp⟩ := hrel
    by_cases hlt : k < L.length
    · obtain ⟨g1, c1, e1, _, C1⟩ := ((unhide O1).kp kp).at (by omega)
      obtain ⟨g2, c2, e2, _, C2⟩ := ((unhide O2).kp kp).at (by rw [unhide HLM]; omega)
      rw [unhide HLM] at e2
      simp only [Value.slice.injEq, true_and] at e1 e2
      obtain ⟨rfl, rfl⟩ := e1
      obtain ⟨rfl, rfl⟩ := e2
      have A1 := C1 k hlt
      have A2 := C2 k (by rw [unhide HLM]; exact hlt)
      rw [List.getElem_map] at A2
      unfold mvSw at A2
      dsimp only at A2
      obtain ⟨i1, i2, i3⟩ := unhide HI L[k] (List.getElem_mem _)
      have OQ := hide (fun W => unhide OW L[k].1 W i1)
      rw [← i2] at OQ
      clear i2
      have hli : (k : Int) < (L.length : Int) := by omega
      clear C1 C2 O1 O2 HI OW HT M3 HK
      generalize L[k].1 = x at *
      generalize L[k].2.1 = y at *
      generalize L[k].2.2 = z at *
      have yz : ¬ ((y : Int) = (z : Int)) := by omega
      have yz2 : ((y : Int) == (z : Int)) = false := by simpa using yz
      have CS : Hid (∀ n, (wr.drewN n).cell? ⟨g1, k * 3, none⟩ = some (.int .i64 (x : Int)) ∧ (wr.drewN n).cell? ⟨g1, k * 3 + 2, none⟩ = some (.int .i64 (z : Int))) := hide (fun n => ⟨A1.1, A1.2.2⟩)
      obtain ⟨a0, a1, a2⟩ := A1
      obtain ⟨b0, b1, b2⟩ := A2
      have KP := hide kp
      clear kp
      go_wp2
      go_quiet (fail)
      obtain ⟨d0, d2⟩ := unhide CS nq
      have KP := hide ((unhide KP).trans (Kp.drewQ _ nq) (by simp))
      clear a0 a1 a2 b0 b1 b2 CS
      generalize wr.drewN nq = W2 at *
      go_wp2_with fail
      refine (unhide OQ _).mono ?_
      rintro r w3 ⟨rfl, rfl⟩
      go_wp2
      go_roundw
      case rel => exact ⟨k + 1, by omega, by go_num, unhide KP⟩
      case measure => simp [intOf]; omega
    · obtain ⟨e, he, m3⟩ := unhide M3 wr
      obtain rfl := he (unhide HT)
      have N3 := hide m3
      clear m3 M3 OW HI O1 O2 HT
      go_wp2_with fail
      refine (unhide N3).mono ?_
      rintro r w4 ⟨ad, cap, rfl, hk4⟩
      have hk' := ((unhide HK).trans kp (by simp)).trans hk4 (by simp)
      go_wp2
      go_ret
      exact ⟨rfl, hk'.below (Nat.le_refl _) (by simp)⟩
theorem gback_walk (g a b : Int) (w : World) :
    Calls Try.prog 7 #[.int .i64 g, .int .i64 a, .int .i64 b] w fun e w' => e = .returned (.bool true) ∧ Below w.heap.size w w' := by
  cases h : mayT g a && mayT g b with
  | false => exact gback_no g a b w h
  | true =>
    rw [Bool.and_eq_true] at h
    obtain ⟨ha, hb⟩ := h
    obtain ⟨G, A, rfl, rfl, ma⟩ := may_nat ha
    obtain ⟨G', B, hg, rfl, mb⟩ := may_nat hb
    obtain rfl : G' = G := by omega
    exact gback_ok G' A B w ma mb
end Go.Proofs.Ytmhicmollnolgaa
