/-
  GroupMoves: the walk.
-/
import Derived.Test.YtmhicmollnolgaaGrG
import Derived.Test.YtmhicmollnolgaaGrF
namespace Go.Proofs.Ytmhicmollnolgaa
open Go.RowKit

set_option maxHeartbeats 1000000 in
set_option maxRecDepth 100000 in
theorem gmoves_walk (g a b : Int) (w : World) :
    Calls Try.prog 5 #[.int .i64 g, .int .i64 a, .int .i64 b] w fun e w' => e = .returned (.bool true) ∧ Below w.heap.size w w' := by
  have WK := hide grWorks_any
  cases h : mayT g a && mayT g b with
  | false =>
    have M1 := hide (moves_no g a b w h)
    have M2 := hide (refMoves_no g a b w h)
    go_enter Try.func5, Try.ntmps5
    go_wp2_with fail
    refine (unhide M1).mono ?_
    rintro r w1 ⟨rfl, rfl⟩
    go_wp2_with fail
    refine (unhide M2).mono ?_
    rintro r w2 ⟨rfl, rfl⟩
    go_wp2
    go_loopw [11] (fun i wr => i = .int .i64 0 ∧ wr = w2) (fun _ _ => 0)
    case atStart => exact ⟨rfl, rfl⟩
    case round =>
      obtain ⟨rfl, rfl⟩ := hrel
      go_wp2_with fail
      refine (unhide WK _).mono ?_
      rintro r w3 ⟨rfl, hk⟩
      go_wp2
      go_ret
      exact ⟨rfl, hk.below (Nat.le_refl _) (by simp)⟩
  | true =>
    rw [Bool.and_eq_true] at h
    obtain ⟨ha, hb⟩ := h
    obtain ⟨G, A, rfl, rfl, ma⟩ := may_nat ha
    obtain ⟨G', B, hg, rfl, mb⟩ := may_nat hb
    obtain rfl : G' = G := by omega
    have M1 := hide (fun W => moves_ok G' A B W ma mb)
    have M2 := hide (fun W => refMoves_ok G' A B W ma mb)
    have hl := mvL_len G' A B G'
    have hG := ma.g2
    have E3 := eq3
    clear ha hb hg ma mb
    generalize mvL G' A B G' = L at *
    go_enter Try.func5, Try.ntmps5
    go_wp2_with fail
    refine (unhide M1 _).mono ?_
    rintro r w1 ⟨v1, rfl, o1, k1⟩
    obtain ⟨ad1, cap1, rfl⟩ := o1.len
    have O1 := hide o1
    have K1 := hide k1
    clear o1 k1
    go_wp2_with fail
    refine (unhide M2 _).mono ?_
    rintro r w2 ⟨v2, rfl, o2, k2⟩
    obtain ⟨ad2, cap2, rfl⟩ := o2.len
    have O2 := hide o2
    have O1 := hide ((unhide O1).kp k2)
    have K1 := hide ((unhide K1).trans k2 (by simp))
    clear o2 k2 M1 M2
    go_wp2
    go_loopw [11] (fun i wr => ∃ k : Nat, k ≤ L.length ∧ i = .int .i64 (k : Int) ∧ Kp [] w2 wr) (fun i _ => L.length - (intOf i).toNat)
    case atStart => exact ⟨0, Nat.zero_le _, rfl, Kp.refl _ _⟩
    case round =>
      obtain ⟨k, hk, rfl, kp⟩ := hrel
      by_cases hlt : k < L.length
      · obtain ⟨g1, c1, e1, _, C1⟩ := ((unhide O1).kp kp).at (by omega)
        obtain ⟨g2, c2, e2, _, C2⟩ := ((unhide O2).kp kp).at (by omega)
        simp only [Value.slice.injEq, true_and] at e1 e2
        obtain ⟨rfl, rfl⟩ := e1
        obtain ⟨rfl, rfl⟩ := e2
        obtain ⟨a0, a1, a2⟩ := C1 k hlt
        obtain ⟨b0, b1, b2⟩ := C2 k hlt
        have hli : (k : Int) < (L.length : Int) := by omega
        clear C1 C2 O1 O2 WK K1
        generalize L[k].1 = x at *
        generalize L[k].2.1 = y at *
        generalize L[k].2.2 = z at *
        have KP := hide kp
        clear kp
        go_wp2
        go_quiet (fail)
        go_wp2
        go_roundw
        case rel => exact ⟨k + 1, by omega, by go_num, (unhide KP).trans (Kp.drewQ _ _) (by simp)⟩
        case measure => simp [intOf]; omega
      · go_wp2_with fail
        refine (unhide WK _).mono ?_
        rintro r w3 ⟨rfl, hk3⟩
        have hk' := ((unhide K1).trans kp (by simp)).trans hk3 (by simp)
        go_wp2
        go_ret
        exact ⟨rfl, hk'.below (Nat.le_refl _) (by simp)⟩
end Go.Proofs.Ytmhicmollnolgaa
