/-
  RouteEnds: plain facts on channels and tasks; rows of numbers.
-/
import Derived.Test.YtlljilekompbeaaRCou
import Derived.Test.YtlljilekompbeaaROne
namespace Go.Proofs.Ytlljilekompbeaa
open Go.RowKit

theorem mem_sdL (f : Nat → Nat) (t n c : Nat) : c ∈ sdL f t n ↔ c < n ∧ f c = t := by
  induction n with
  | zero => simp [sdL]
  | succ n ih =>
    unfold sdL
    rw [List.mem_append, ih]
    by_cases h : f n = t
    · rw [if_pos h]
      simp
      constructor
      · rintro (⟨h1, h2⟩ | rfl)
        · exact ⟨by omega, h2⟩
        · exact ⟨by omega, h⟩
      · rintro ⟨h1, h2⟩
        by_cases hc : c = n
        · exact Or.inr hc
        · exact Or.inl ⟨by omega, h2⟩
    · rw [if_neg h]
      simp only [List.not_mem_nil, or_false]
      constructor
      · rintro ⟨h1, h2⟩
        exact ⟨by omega, h2⟩
      · rintro ⟨h1, h2⟩
        refine ⟨?_, h2⟩
        rcases Nat.lt_or_ge c n with h3 | h3
        · exact h3
        · obtain rfl : c = n := by omega
          exact absurd h2 h
/-- How many channels below n have their end below T. -/
def cn (f : Nat → Nat) (T : Nat) : Nat → Nat
  | 0 => 0
  | k + 1 => cn f T k + (if f k < T then 1 else 0)
theorem cn_zero (f : Nat → Nat) (n : Nat) : cn f 0 n = 0 := by
  induction n with
  | zero => rfl
  | succ n ih => unfold cn; rw [ih]; simp
theorem cn_up (f : Nat → Nat) (T n : Nat) : cn f (T + 1) n = cn f T n + (sdL f T n).length := by
  induction n with
  | zero => rfl
  | succ n ih =>
    unfold cn sdL
    rw [ih, List.length_append]
    by_cases h1 : f n < T
    · rw [if_pos (by omega), if_pos h1, if_neg (by omega)]; simp; omega
    · by_cases h2 : f n = T
      · rw [if_pos (by omega), if_neg h1, if_pos h2]; simp; omega
      · rw [if_neg (by omega), if_neg h1, if_neg h2]; simp
theorem cn_all (f : Nat → Nat) (T n : Nat) (h : ∀ c, c < n → f c < T) : cn f T n = n := by
  induction n with
  | zero => rfl
  | succ n ih => unfold cn; rw [ih (fun c hc => h c (by omega)), if_pos (h n (by omega))]
theorem cn_le (f : Nat → Nat) (T n : Nat) : cn f T n ≤ n := by
  induction n with
  | zero => exact Nat.le_refl _
  | succ n ih => unfold cn; split <;> omega
theorem frC_lt (S M c : Nat) (hM : 1 ≤ M) (hc : c < S * M + M) : frC S M c < S + M := by
  unfold frC
  split
  · rename_i h
    have := Nat.div_lt_of_lt_mul (show c < M * S by rw [Nat.mul_comm]; exact h)
    omega
  · omega
theorem ends_kinds (S M c : Nat) (hM : 1 ≤ M) (hc : c < S * M + M) : kdT S M (toC S M c) = kdT S M (frC S M c) + 1 ∧ toC S M c < S + M + 1 := by
  unfold frC toC
  split
  · rename_i h
    have h1 := Nat.div_lt_of_lt_mul (show c < M * S by rw [Nat.mul_comm]; exact h)
    have h2 := Nat.mod_lt c hM
    generalize c / M = x at *
    generalize c % M = y at *
    unfold kdT
    rw [if_neg (by omega), if_pos (by omega), if_pos (by omega)]
    omega
  · unfold kdT
    rw [if_neg (by omega), if_neg (by omega), if_neg (by omega), if_pos (by omega)]
    omega
theorem ins_none (S M t : Nat) (hm : 1 ≤ S ∧ 1 ≤ M) (ht : t < S + M + 1) : (sdL (toC S M) t (S * M + M)).length = 0 ↔ kdT S M t = 0 := by
  rw [List.length_eq_zero_iff, List.eq_nil_iff_forall_not_mem]
  have hS := Nat.mul_le_mul_right M hm.1
  rw [Nat.one_mul] at hS
  constructor
  · intro h
    unfold kdT
    split
    · rfl
    · exfalso
      rename_i h1
      by_cases h2 : t < S + M
      · refine h (t - S) ((mem_sdL _ _ _ _).2 ⟨by omega, ?_⟩)
        unfold toC
        rw [if_pos (by omega), Nat.mod_eq_of_lt (by omega)]
        omega
      · refine h (S * M) ((mem_sdL _ _ _ _).2 ⟨by omega, ?_⟩)
        unfold toC
        rw [if_neg (by omega)]
        omega
  · intro h c hc
    have h1 := (mem_sdL _ _ _ _).1 hc
    have h2 : t < S := by
      unfold kdT at h
      split at h
      · assumption
      · split at h <;> omega
    unfold toC at h1
    split at h1 <;> omega
theorem outs_none (S M t : Nat) (hm : 1 ≤ S ∧ 1 ≤ M) : (sdL (frC S M) t (S * M + M)).length = 0 ↔ kdT S M t = 2 := by
  rw [List.length_eq_zero_iff, List.eq_nil_iff_forall_not_mem]
  constructor
  · intro h
    unfold kdT
    split
    · exfalso
      rename_i h1
      have h3 := Nat.mul_le_mul_right M (show t + 1 ≤ S by omega)
      rw [Nat.add_mul, Nat.one_mul] at h3
      refine h (t * M) ((mem_sdL _ _ _ _).2 ⟨by omega, ?_⟩)
      unfold frC
      rw [if_pos (by omega), Nat.mul_div_cancel _ hm.2]
    · split
      · exfalso
        rename_i h1 h2
        refine h (S * M + (t - S)) ((mem_sdL _ _ _ _).2 ⟨by omega, ?_⟩)
        unfold frC
        rw [if_neg (by omega)]
        omega
      · rfl
  · intro h c hc
    have h1 := (mem_sdL _ _ _ _).1 hc
    have h2 := frC_lt S M c hm.2 h1.1
    unfold kdT at h
    split at h
    · omega
    · split at h <;> omega
/-- A row of numbers: where its elements lie. -/
theorem OwnN.at {B : Nat} {w : World} {v : Value} {l : List Nat} (h : OwnN B w v l) : ∃ ad cap, v = .slice ad l.length cap ∧ ∀ i (hi : i < l.length), ∃ g, ad = some ⟨g, 0, none⟩ ∧ w.cell? ⟨g, i, none⟩ = some (.int .i64 ((l[i] : Nat) : Int)) := by
  obtain ⟨h0, ⟨rfl, h1⟩ | ⟨g, cap, cur, rfl, hg, hh, h2, h3, h4, h5⟩⟩ := h
  · exact ⟨none, 0, by rw [h1], fun i hi => by omega⟩
  · refine ⟨_, cap, rfl, fun i hi => ⟨g, rfl, ?_⟩⟩
    have hx : (nuC l)[i]? = some (.int .i64 ((l[i] : Nat) : Int)) := by unfold nuC; simp [hi]
    rw [← h5, List.getElem?_take_of_lt (by simpa using hi)] at hx
    simp at hx
    simp [World.cell?, hh, hx]
end Go.Proofs.Ytlljilekompbeaa
