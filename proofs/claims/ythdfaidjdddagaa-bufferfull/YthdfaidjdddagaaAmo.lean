/-
  A number from 0 to n - 1: the plain fact.
-/
import Derived.Test.YthdfaidjdddagaaOwn
namespace Go.Proofs.Ythdfaidjdddagaa

theorem among_eq (x n : Int) (hn : 0 < n) : (x.tmod n + n).tmod n = x % n := by
  rcases Int.lt_or_le x 0 with h | h
  · have h1 := Int.tmod_eq_emod (a := x) (b := n)
    have h2 := Int.emod_nonneg x (by omega : n ≠ 0)
    have h3 := Int.emod_lt_of_pos x hn
    by_cases hd : n ∣ x
    · have e : x % n = 0 := Int.emod_eq_zero_of_dvd hd
      rw [h1, if_pos (Or.inr hd), e]
      simp
    · rw [h1, if_neg (by omega), show (n.natAbs : Int) = n by omega, show x % n - n + n = x % n by omega, Int.tmod_eq_emod_of_nonneg h2, Int.emod_emod_of_dvd x (Int.dvd_refl n)]
  · rw [Int.tmod_eq_emod_of_nonneg h, Int.tmod_eq_emod_of_nonneg (by have := Int.emod_nonneg x (by omega : n ≠ 0); omega)]
    simp
end Go.Proofs.Ythdfaidjdddagaa
