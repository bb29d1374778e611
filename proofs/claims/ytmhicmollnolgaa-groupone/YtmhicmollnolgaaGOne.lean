/-
  GroupOne: plain facts on stretches, and the walk.
-/
import Derived.Test.YtmhicmollnolgaaGrG
namespace Go.Proofs.Ytmhicmollnolgaa
open Go.RowKit

theorem fst_zero (G T : Nat) : fstG G T 0 = 0 := by unfold fstG; simp
theorem fst_all (G T : Nat) (hT : 1 ≤ T) : fstG G T T = G := by unfold fstG; exact Nat.mul_div_cancel_left G hT
theorem fst_up (G T i : Nat) (hT : 1 ≤ T) (hG : T ≤ G) : fstG G T i + 1 ≤ fstG G T (i + 1) := by
  unfold fstG
  rw [Nat.add_mul, Nat.one_mul]
  have h : (i * G + T) / T = i * G / T + 1 := Nat.add_div_right _ hT
  have := Nat.div_le_div_right (c := T) (show i * G + T ≤ i * G + G by omega)
  omega
theorem fst_le (G T i : Nat) (hT : 1 ≤ T) (hi : i ≤ T) : fstG G T i ≤ G := by
  have := Nat.div_le_div_right (c := T) (Nat.mul_le_mul_right G hi)
  have e := fst_all G T hT
  unfold fstG at *
  omega
/-- A task's number of groups is one of two. -/
theorem fst_share (G T i : Nat) (hT : 1 ≤ T) : fstG G T i + G / T ≤ fstG G T (i + 1) ∧ fstG G T (i + 1) ≤ fstG G T i + G / T + 1 := by
  unfold fstG
  rw [Nat.add_mul, Nat.one_mul]
  have a1 := Nat.div_add_mod (i * G) T
  have a2 := Nat.div_add_mod G T
  have a3 := Nat.div_add_mod (i * G + G) T
  have b1 := Nat.mod_lt (i * G) hT
  have b2 := Nat.mod_lt G hT
  have b3 := Nat.mod_lt (i * G + G) hT
  generalize i * G / T = x at *
  generalize G / T = y at *
  generalize (i * G + G) / T = z at *
  generalize i * G % T = r1 at *
  generalize G % T = r2 at *
  generalize (i * G + G) % T = r3 at *
  generalize i * G = m at *
  have key : T * z + r3 = T * (x + y) + (r1 + r2) := by rw [Nat.mul_add]; omega
  constructor
  · refine Nat.le_of_lt_succ (Nat.lt_of_mul_lt_mul_left (a := T) ?_)
    rw [Nat.mul_succ]
    omega
  · refine Nat.le_of_lt_succ (Nat.lt_of_mul_lt_mul_left (a := T) ?_)
    have e : T * (x + y + 1).succ = T * (x + y) + T + T := by rw [Nat.mul_succ, Nat.mul_succ]
    rw [e]
    omega
theorem own_in (G T i q : Nat) (hm : May G T) (h1 : fstG G T i ≤ q) (h2 : q < fstG G T (i + 1)) : own G T q = i := by
  have s2 := own_step G T q i hm.g1 hm.t1
  have l2 : own G T q ≤ i := by
    rcases Nat.lt_or_ge i (own G T q) with h | h
    · have := s2.2 h; omega
    · exact h
  cases i with
  | zero => omega
  | succ j => have := (own_step G T q j hm.g1 hm.t1).1 h1; omega
/-- What the loop keeps: the least and the most share of the tasks so far. -/
def Shr (y k : Nat) (l m : Nat) : Prop := (k = 0 ∧ l = 0 ∧ m = 0) ∨ (0 < k ∧ y ≤ l ∧ l ≤ m ∧ m ≤ y + 1)
theorem Shr.next {y k l m : Nat} (h : Shr y k l m) {s : Nat} (h1 : y ≤ s) (h2 : s ≤ y + 1) : Shr y (k + 1) (if k = 0 ∨ s < l then s else l) (max m s) := by
  unfold Shr at *
  split <;> omega
set_option maxHeartbeats 4000000 in
set_option maxRecDepth 100000 in
theorem gone_no (g t : Int) (w : World) (hno : mayT g t = false) :
    Calls Try.prog 6 #[.int .i64 g, .int .i64 t] w fun e w' => e = .returned (.bool true) ∧ Below w.heap.size w w' := by
  have WK := hide (grWorks_any w)
  have RN := hide (fun W => range_no g t 0 W hno)
  have hc : ¬ (1 ≤ g ∧ g ≤ 128 ∧ 1 ≤ t ∧ t ≤ g ∧ t ≤ 16) := by unfold mayT at hno; exact of_decide_eq_false hno
  clear hno
  by_cases ht : 1 ≤ t
  · have ht0 : 0 < t := by omega
    go_enter Try.func6, Try.ntmps6
    go_wp2_with fail
    refine (unhide WK).mono ?_
    rintro r w1 ⟨rfl, hk⟩
    have HK := hide hk
    clear hk WK
    go_wp2
    go_loopw [5, 6, 7, 8] (fun l m n i wr => i = .int .i64 0 ∧ wr = w1) (fun _ _ _ _ _ => 0)
    case atStart => exact ⟨rfl, rfl⟩
    case round =>
      obtain ⟨rfl, rfl⟩ := hrel
      go_wp2_with fail
      refine (unhide RN _).mono ?_
      rintro r w2 ⟨rfl, rfl⟩
      by_cases h1 : g < 1
      · go_wp2
        go_ret
        exact ⟨rfl, (unhide HK).below (Nat.le_refl _) (by simp)⟩
      · by_cases h2 : 128 < g
        · go_wp2
          go_ret
          exact ⟨rfl, (unhide HK).below (Nat.le_refl _) (by simp)⟩
        · by_cases h3 : g < t
          · go_wp2
            go_ret
            exact ⟨rfl, (unhide HK).below (Nat.le_refl _) (by simp)⟩
          · have h4 : 16 < t := by omega
            go_wp2
            go_ret
            exact ⟨rfl, (unhide HK).below (Nat.le_refl _) (by simp)⟩
  · have ht0 : ¬ (0 < t) := by omega
    have ht1 : t < 1 := by omega
    go_enter Try.func6, Try.ntmps6
    go_wp2_with fail
    refine (unhide WK).mono ?_
    rintro r w1 ⟨rfl, hk⟩
    have HK := hide hk
    clear hk WK
    go_wp2
    go_loopw [5, 6, 7, 8] (fun l m n i wr => i = .int .i64 0 ∧ wr = w1) (fun _ _ _ _ _ => 0)
    case atStart => exact ⟨rfl, rfl⟩
    case round =>
      obtain ⟨rfl, rfl⟩ := hrel
      go_wp2_with fail
      refine (unhide RN _).mono ?_
      rintro r w2 ⟨rfl, rfl⟩
      go_wp2
      go_ret
      exact ⟨rfl, (unhide HK).below (Nat.le_refl _) (by simp)⟩
end Go.Proofs.Ytmhicmollnolgaa
