/-
  EventGrows: plain facts: a match with an event more at its end, and one whose places are all as much later.
-/
import Derived.Test.YtnikkjbjidhhlaaEvX
namespace Go.Proofs.Ytnikkjbjidhhlaa
open Go.RowKit

/-- All places, as much later. -/
def laterP (B : Int) (p : List Int) : List Int := p.map (· + B)
def laterL (B : Int) (ss : List (List Int)) : List (List Int) := ss.map (laterP B)
/-- One event more at the end. -/
def moreL (B : Int) (ss : List (List Int)) : List (List Int) := ss.set (ss.length - 1) (ss.getD (ss.length - 1) [] ++ [lastM ss + B])
theorem moreL_len (B : Int) (ss : List (List Int)) : (moreL B ss).length = ss.length := by unfold moreL; exact List.length_set ..
theorem laterL_len (B : Int) (ss : List (List Int)) : (laterL B ss).length = ss.length := by unfold laterL; exact List.length_map ..
theorem lastI_snoc (p : List Int) (x : Int) : lastI (p ++ [x]) = x := by
  unfold lastI
  rw [List.length_append]
  simp
theorem lastI_later (B : Int) (p : List Int) (h : 0 < p.length) : lastI (laterP B p) = lastI p + B := by
  have h2 : 0 < (laterP B p).length := by unfold laterP; rw [List.length_map]; exact h
  rw [lastI_get h2, lastI_get h]
  simp [laterP]
theorem lastM_more (B : Int) (ss : List (List Int)) (h : 0 < ss.length) : lastM (moreL B ss) = lastM ss + B := by
  have e : (moreL B ss).getD ((moreL B ss).length - 1) [] = ss.getD (ss.length - 1) [] ++ [lastM ss + B] := by
    rw [moreL_len, List.getD_eq_getElem?_getD]
    unfold moreL
    rw [List.getElem?_set_self (by omega)]
    rfl
  have : lastM (moreL B ss) = lastI ((moreL B ss).getD ((moreL B ss).length - 1) []) := rfl
  rw [this, e, lastI_snoc]
theorem lastM_later (B : Int) (ss : List (List Int)) (h : 0 < ss.length) (hne : ∀ p ∈ ss, 0 < p.length) : lastM (laterL B ss) = lastM ss + B := by
  have hl : ss.length - 1 < ss.length := by omega
  have e : (laterL B ss).getD ((laterL B ss).length - 1) [] = laterP B ss[ss.length - 1] := by
    rw [laterL_len, List.getD_eq_getElem?_getD]
    unfold laterL
    rw [List.getElem?_map, List.getElem?_eq_getElem hl]
    rfl
  have e2 : ss.getD (ss.length - 1) [] = ss[ss.length - 1] := by rw [List.getD_eq_getElem?_getD, List.getElem?_eq_getElem hl]; rfl
  have h1 : lastM (laterL B ss) = lastI ((laterL B ss).getD ((laterL B ss).length - 1) []) := rfl
  have h2 : lastM ss = lastI (ss.getD (ss.length - 1) []) := rfl
  rw [h1, e, lastI_later B _ (hne _ (List.getElem_mem _)), h2, e2]
theorem riseB_bnd : ∀ (a : Int) (p : List Int), -1 ≤ a → riseB a p = true → ∀ x ∈ p, 0 ≤ x ∧ x ≤ 1073741824
  | _, [], _, _, x, hx => by cases hx
  | a, q :: r, ha, h, x, hx => by
    rw [riseB] at h
    split at h
    · cases h
    · rename_i hn
      have hq : 0 ≤ q ∧ q ≤ 1073741824 := ⟨by omega, by omega⟩
      rcases List.mem_cons.1 hx with rfl | hx
      · exact hq
      · exact riseB_bnd q r (by omega) h x hx
theorem lastI_bnd (p : List Int) (h : ∀ x ∈ p, 0 ≤ x ∧ x ≤ 1073741824) : 0 ≤ lastI p := by
  unfold lastI
  rw [List.getD_eq_getElem?_getD]
  cases e : p[p.length - 1]? with
  | none => exact Int.le_refl _
  | some y => exact (h y (List.mem_of_getElem? e)).1
theorem stagesB_bnd : ∀ (x a : Int) (ss : List (List Int)), x ≤ 256 → -1 ≤ a → stagesB x a ss = true → ∀ p ∈ ss, p.length ≤ 256 ∧ ∀ y ∈ p, 0 ≤ y ∧ y ≤ 1073741824
  | _, _, [], _, _, _, p, hp => by cases hp
  | x, a, q :: r, hx, ha, h, p, hp => by
    rw [stagesB] at h
    split at h
    · cases h
    · rename_i hn
      have hr : riseB a q = true := by
        cases e : riseB a q with
        | true => rfl
        | false => exact absurd (Or.inr (Or.inr e)) hn
      have hq := riseB_bnd a q ha hr
      have hle : (q.length : Int) ≤ x := by
        rcases Int.lt_or_le x (q.length : Int) with e | e
        · exact absurd (Or.inr (Or.inl e)) hn
        · exact e
      rcases List.mem_cons.1 hp with rfl | hp
      · exact ⟨by omega, hq⟩
      · exact stagesB_bnd _ _ r (by omega) (by have := lastI_bnd q hq; omega) h p hp
theorem mayM_bnd {k : ByteArray} {ss : List (List Int)} (h : mayM k ss = true) : ∀ p ∈ ss, p.length ≤ 256 ∧ ∀ y ∈ p, 0 ≤ y ∧ y ≤ 1073741824 := by
  unfold mayM at h
  simp only [Bool.and_eq_true, decide_eq_true_eq] at h
  exact stagesB_bnd _ _ _ (by decide) (by decide) h.2
theorem cM_before (k1 : ByteArray) (s1 : List (List Int)) (k2 : ByteArray) (s2 : List (List Int)) (h : lastM s1 < lastM s2) : cM k1 s1 k2 s2 = -1 := by
  unfold cM
  have e : Lib.compareInt (lastM s1) (lastM s2) = -1 := by unfold Lib.compareInt; rw [if_pos h]
  rw [e]
  unfold orI
  simp
end Go.Proofs.Ytnikkjbjidhhlaa
