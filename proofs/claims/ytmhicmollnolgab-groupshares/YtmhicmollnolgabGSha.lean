/-
  GroupShares: the walk.
-/
import Derived.Test.YtmhicmollnolgabGrG
namespace Go.Proofs.Ytmhicmollnolgab
open Go.RowKit

theorem own_all (G q : Nat) (hG : 1 ≤ G) : own G G q = q := by
  unfold own
  have e : (q + 1) * G - 1 = (G - 1) + G * q := by
    rw [Nat.add_mul, Nat.one_mul, Nat.mul_comm q G]; omega
  rw [e, Nat.add_mul_div_left _ _ hG, Nat.div_eq_of_lt (by omega)]
  omega
theorem own_only (G q : Nat) (hq : q < G) : own G 1 q = 0 := by
  unfold own
  exact Nat.div_eq_of_lt (by omega)
theorem share_nat (g : Int) : ∃ G : Nat, 1 ≤ G ∧ G ≤ 16 ∧ (1 : Int) + (IntKind.u64.wrap g).tmod 16 = (G : Int) := by
  rw [IntKind.wrap_u64, Int.tmod_eq_emod_of_nonneg (by omega)]
  exact ⟨(1 + g % 18446744073709551616 % 16).toNat, by omega, by omega, by omega⟩
set_option maxHeartbeats 1000000 in
set_option maxRecDepth 100000 in
theorem gshares_walk (b : ByteArray) (g : Int) (w : World) (hb : b.size ≤ maxLen) :
    Calls Try.prog 3 #[.string b, .int .i64 g] w fun e w' => e = .returned (.bool true) ∧ Below w.heap.size w w' := by
  have WK := hide (grWorks_any w)
  obtain ⟨G, g1, g2, hg⟩ := share_nat g
  have O1 := hide (fun W => of_any b (G : Int) W hb)
  have H1 := hide (fun W => hash_any b W hb)
  have hl := hshL_lt b.data.toList
  have mg : mayG (G : Int) = true := by unfold mayG; simp; omega
  have a1 : ∀ S, ofA S (G : Int) = ((S % G : Nat) : Int) := fun S => by unfold ofA; rw [if_pos mg]; simp
  have a2 : ofE (G : Int) = 0 := by unfold ofE; rw [if_pos mg]
  rw [a1, a2] at O1
  generalize hshL b.data.toList = S at *
  have hq : S % G < G := Nat.mod_lt _ g1
  have W1 := hide (fun W => owner_ok G G (S % G) W ⟨g1, by omega, g1, Nat.le_refl _, g2⟩ hq)
  have W2 := hide (fun W => owner_ok G 1 (S % G) W ⟨g1, by omega, by omega, g1, by omega⟩ hq)
  rw [own_all G _ g1] at W1
  rw [own_only G _ hq] at W2
  have hr : (S : Int) % (G : Int) = ((S % G : Nat) : Int) := by simp
  generalize S % G = q at *
  clear mg a1 a2 hb
  go_enter Try.func3, Try.ntmps3
  go_wp2_with fail
  refine (unhide WK).mono ?_
  rintro r w1 ⟨rfl, hk⟩
  have HK := hide hk
  clear hk WK
  go_wp2_with fail
  refine (unhide O1 _).mono ?_
  rintro r w2 ⟨rfl, rfl⟩
  go_wp2_with fail
  refine (unhide H1 _).mono ?_
  rintro r w3 ⟨rfl, rfl⟩
  go_wp2_with fail
  refine (unhide W1 _).mono ?_
  rintro r w4 ⟨rfl, rfl⟩
  go_wp2_with fail
  refine (unhide W2 _).mono ?_
  rintro r w5 ⟨rfl, rfl⟩
  go_wp2
  go_ret
  exact ⟨rfl, (unhide HK).below (Nat.le_refl _) (by simp)⟩
end Go.Proofs.Ytmhicmollnolgab
