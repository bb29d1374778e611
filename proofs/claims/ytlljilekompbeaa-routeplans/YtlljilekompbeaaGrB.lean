/-
  A group: Of, stretches, Range, Owner; the document's too.
-/
import Derived.Test.YtlljilekompbeaaGrA
import Derived.OwnWalk
namespace Go.Proofs.Ytlljilekompbeaa
open Go.RowKit

theorem mul_lt_small (a b : Nat) (ha : a ≤ 200) (hb : b ≤ 200) : a * b ≤ 40000 := Nat.le_trans (Nat.mul_le_mul ha hb) (by decide)
theorem wrap64_div (m T : Nat) (h : m ≤ 40000) : wrap64 ((m : Int) / (T : Int)) = ((m / T : Nat) : Int) := by
  have : m / T ≤ m := Nat.div_le_self _ _
  have e : (m : Int) / (T : Int) = ((m / T : Nat) : Int) := by simp
  rw [e]
  clear e
  generalize m / T = x at *
  unfold wrap64
  omega
theorem wrap64_rem (S G : Nat) (h : S < 4294967296) : wrap64 ((S : Int) % (G : Int)) = ((S % G : Nat) : Int) := by
  have : S % G ≤ S := Nat.mod_le _ _
  have e : (S : Int) % (G : Int) = ((S % G : Nat) : Int) := by simp
  rw [e]
  clear e
  generalize S % G = x at *
  unfold wrap64
  omega
theorem rem_pair {a b c : Int} (h : a = b) : Ending.returned (.tuple #[.int .i64 a, .int .i64 c]) = .returned (.tuple #[.int .i64 b, .int .i64 c]) := by rw [h]
/-- The first group of a task. -/
def fstG (G T i : Nat) : Nat := i * G / T
/-- The task that has a group. -/
def own (G T q : Nat) : Nat := ((q + 1) * T - 1) / G
theorem own_pos (T q : Nat) (h1 : 1 ≤ T) : ∃ m : Nat, (q + 1) * T = m + 1 := ⟨(q + 1) * T - 1, by
  have : 1 ≤ (q + 1) * T := Nat.mul_pos (Nat.succ_pos q) h1
  omega⟩
theorem own_step (G T q i : Nat) (hG : 1 ≤ G) (hT : 1 ≤ T) : fstG G T (i + 1) ≤ q ↔ i + 1 ≤ own G T q := by
  unfold fstG own
  obtain ⟨m, hm⟩ := own_pos T q hT
  rw [← Nat.lt_succ_iff, Nat.div_lt_iff_lt_mul hT, Nat.le_div_iff_mul_le hG, Nat.succ_eq_add_one, hm]
  omega
theorem own_lt (G T q : Nat) (hG : 1 ≤ G) (hT : 1 ≤ T) (hq : q < G) : own G T q < T := by
  unfold own
  obtain ⟨m, hm⟩ := own_pos T q hT
  rw [Nat.div_lt_iff_lt_mul hG]
  have := Nat.mul_le_mul_right T (show q + 1 ≤ G by omega)
  rw [Nat.mul_comm T G]
  omega
/-- May there be so many groups and tasks? In whole numbers. -/
structure May (G T : Nat) : Prop where
  g1 : 1 ≤ G
  g2 : G ≤ 128
  t1 : 1 ≤ T
  t2 : T ≤ G
  t3 : T ≤ 16
theorem May.of {G T : Nat} (h : May G T) : mayT (G : Int) (T : Int) = true := by
  obtain ⟨h1, h2, h3, h4, h5⟩ := h
  unfold mayT
  simp
  omega
theorem may_nat {g t : Int} (h : mayT g t = true) : ∃ G T : Nat, g = (G : Int) ∧ t = (T : Int) ∧ May G T := by
  unfold mayT at h
  simp at h
  exact ⟨g.toNat, t.toNat, by omega, by omega, ⟨by omega, by omega, by omega, by omega, by omega⟩⟩
theorem ownerOf_any (G T q : Nat) (w : World) (hG : 1 ≤ G) (h1 : 1 ≤ T) (hT : T ≤ 16) (hq : q ≤ 128) : Calls Try.prog 41 #[.int .i64 (G : Int), .int .i64 (T : Int), .int .i64 (q : Int)] w fun e w' => e = .returned (.int .i64 ((own G T q : Nat) : Int)) ∧ w' = w := by
  unfold own
  obtain ⟨m, hm⟩ := own_pos T q h1
  have hm' : ((q : Int) + 1) * (T : Int) = (m : Int) + 1 := by
    have : (((q + 1) * T : Nat) : Int) = ((m + 1 : Nat) : Int) := by rw [hm]
    simpa using this
  have hb := mul_lt_small (q + 1) T (by omega) (by omega)
  rw [hm] at hb ⊢
  clear hm
  go_enter Try.func41, Try.ntmps41
  go_wp2
  go_ret
  exact ⟨ret_int (wrap64_div m G (by omega)), rfl⟩
/-- What Of answers. -/
def ofE (g : Int) : Int := if mayG g then 0 else 1
def ofA (S : Nat) (g : Int) : Int := if mayG g then ((S % g.toNat : Nat) : Int) else 0
theorem rem_nat (S G : Nat) : (S : Int).tmod (G : Int) = ((S % G : Nat) : Int) := by
  rw [Int.tmod_eq_emod_of_nonneg (by omega)]; simp
set_option maxHeartbeats 400000 in
theorem of_any (b : ByteArray) (g : Int) (w : World) (hb : b.size ≤ maxLen) : Calls Try.prog 25 #[.string b, .int .i64 g] w fun e w' => e = .returned (.tuple #[.int .i64 (ofA (hshL b.data.toList) g), .int .i64 (ofE g)]) ∧ w' = w := by
  have MG := hide (mayBeGroups_any g w)
  have HS := hide (hash_any b w hb)
  unfold ofA ofE
  have hl := hshL_lt b.data.toList
  generalize hshL b.data.toList = S at *
  by_cases h : mayG g = true
  · rw [h] at MG ⊢
    obtain ⟨G, rfl⟩ : ∃ G : Nat, g = (G : Int) := ⟨g.toNat, by unfold mayG at h; simp at h; omega⟩
    have h1 : 1 ≤ G ∧ G ≤ 128 := by unfold mayG at h; simp at h; omega
    obtain ⟨h1, h2⟩ := h1
    clear h
    go_enter Try.func25, Try.ntmps25
    go_wp2_with fail
    refine (unhide MG).mono ?_
    rintro r w1 ⟨rfl, rfl⟩
    clear MG
    go_wp2_with fail
    refine (unhide HS).mono ?_
    rintro r w2 ⟨rfl, rfl⟩
    go_wp2
    go_ret2
    exact ⟨rem_pair (wrap64_rem S G hl), rfl⟩
  · rw [Bool.not_eq_true] at h
    rw [h] at MG ⊢
    go_enter Try.func25, Try.ntmps25
    go_wp2_with fail
    refine (unhide MG).mono ?_
    rintro r w1 ⟨rfl, rfl⟩
    clear MG
    go_wp2
    go_ret2
    simp
end Go.Proofs.Ytlljilekompbeaa
