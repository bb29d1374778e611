/-
  Plain facts on a number's bytes: groups of seven bits, the highest first.
-/
import Derived.Test.YtllkkflolijpaaaDoorMath
import Derived.Lib.BitFns
namespace Go.Proofs.YtllkkflolijpaaaDoor

/-- The bytes ahead of the last one. -/
def hiF : Nat → Nat → List UInt8
  | 0, _ => []
  | f + 1, u => if u = 0 then [] else hiF f (u / 128) ++ [UInt8.ofNat (u % 128 + 128)]
theorem hiF_more (f u : Nat) (h : u ≤ f) : hiF f u = hiF u u := by
  induction f using Nat.strongRecOn generalizing u with
  | ind f ih =>
    cases f with
    | zero => obtain rfl : u = 0 := by omega
              rfl
    | succ f =>
      cases u with
      | zero => rfl
      | succ u =>
        rw [hiF, hiF, if_neg (by omega), if_neg (by omega), ih f (by omega) ((u + 1) / 128) (by omega)]
        by_cases hfu : u = f
        · rw [hfu, ih f (by omega) ((f + 1) / 128) (by omega)]
        · rw [ih u (by omega) ((u + 1) / 128) (by omega)]
def hiB (u : Nat) : List UInt8 := hiF u u
/-- A number's bytes. -/
def numB (u : Nat) : List UInt8 := hiB (u / 128) ++ [UInt8.ofNat (u % 128)]
theorem hiB_zero : hiB 0 = [] := rfl
theorem hiB_step {u : Nat} (h : u ≠ 0) : hiB u = hiB (u / 128) ++ [UInt8.ofNat (u % 128 + 128)] := by
  obtain ⟨k, rfl⟩ : ∃ k, u = k + 1 := ⟨u - 1, by omega⟩
  unfold hiB
  rw [hiF, if_neg (by omega), hiF_more k ((k + 1) / 128) (by omega)]

theorem bitLen_spec (x : Nat) (hx : x < 2 ^ 64) : x < 2 ^ Lib.bitLen x ∧ (x ≠ 0 → 2 ^ (Lib.bitLen x - 1) ≤ x) := by
  induction x using Nat.strongRecOn with
  | ind x ih =>
    by_cases h0 : x = 0
    · subst h0; refine ⟨by decide, fun h => absurd rfl h⟩
    · obtain ⟨a, b⟩ := ih (x / 2) (by omega) (by omega)
      rw [Lib.bitLen_half x h0 hx]
      by_cases h1 : x / 2 = 0
      · rw [h1, show Lib.bitLen 0 = 0 by decide]; refine ⟨by omega, fun _ => by omega⟩
      · have b' := b h1
        generalize Lib.bitLen (x / 2) = k at *
        rw [show 1 + k = k + 1 by omega, Nat.pow_succ]
        refine ⟨by omega, fun _ => ?_⟩
        rw [Nat.add_sub_cancel]
        rcases Nat.eq_zero_or_pos k with hk | hk
        · subst hk; simp at a; omega
        · obtain ⟨j, rfl⟩ : ∃ j, k = j + 1 := ⟨k - 1, by omega⟩
          rw [Nat.add_sub_cancel] at b'
          rw [Nat.pow_succ]; omega
/-- How many groups of seven bits. -/
def grps (u : Nat) : Nat := max 1 ((Lib.bitLen u + 6) / 7)
theorem bitLen_le64 {u : Nat} (h : u < 2 ^ 64) : Lib.bitLen u ≤ 64 := Lib.bitLen_le u 64 (by omega) h
theorem grps_le {u : Nat} (h : u < 2 ^ 64) : 1 ≤ grps u ∧ grps u ≤ 10 := by have := bitLen_le64 h; unfold grps; omega
theorem pow128 (g : Nat) : 128 ^ g = 2 ^ (7 * g) := by rw [Nat.pow_mul]
theorem grps_top {u : Nat} (h : u < 2 ^ 64) : u / 128 ^ grps u = 0 := by
  refine Nat.div_eq_of_lt ?_
  rw [pow128]
  refine Nat.lt_of_lt_of_le (bitLen_spec u h).1 (Nat.pow_le_pow_right (by omega) ?_)
  unfold grps; omega
theorem grps_in {u g : Nat} (h : u < 2 ^ 64) (h1 : 1 ≤ g) (h2 : g < grps u) : u / 128 ^ g ≠ 0 := by
  have hu : u ≠ 0 := by
    intro e; subst e; unfold grps at h2; rw [show Lib.bitLen 0 = 0 by decide] at h2; omega
  have b := (bitLen_spec u h).2 hu
  have : 128 ^ g ≤ u := by
    rw [pow128]
    refine Nat.le_trans (Nat.pow_le_pow_right (by omega) ?_) b
    unfold grps at h2; omega
  have := Nat.div_pos this (Nat.pow_pos (by omega))
  omega
theorem hiB_round {u g : Nat} (h : u < 2 ^ 64) (h1 : 1 ≤ g) (h2 : g < grps u) : hiB (u / 128 ^ g) = hiB (u / 128 ^ (g + 1)) ++ [UInt8.ofNat (u / 128 ^ g % 128 + 128)] := by
  rw [hiB_step (grps_in h h1 h2), Nat.div_div_eq_div_mul, Nat.pow_succ]
theorem hiB_length {u : Nat} (k : Nat) (h : u < 128 ^ k) : (hiB u).length ≤ k := by
  induction k generalizing u with
  | zero => obtain rfl : u = 0 := by simpa using h
            rw [hiB_zero]; exact Nat.zero_le _
  | succ k ih =>
    by_cases h0 : u = 0
    · subst h0; rw [hiB_zero]; exact Nat.zero_le _
    · rw [hiB_step h0, List.length_append]
      have := ih (u := u / 128) (by rw [Nat.pow_succ] at h; exact Nat.div_lt_of_lt_mul (by rw [Nat.mul_comm]; exact h))
      simp only [List.length_cons, List.length_nil]; omega
theorem numB_length {u : Nat} (h : u < 2 ^ 64) : 1 ≤ (numB u).length ∧ (numB u).length ≤ 10 := by
  unfold numB
  have := hiB_length (u := u / 128) 9 (Nat.div_lt_of_lt_mul (Nat.lt_of_lt_of_le h (by decide)))
  rw [List.length_append]; simp only [List.length_cons, List.length_nil]; omega
/-- A group's byte in the walk's own form. -/
theorem byte_hi (q : Nat) : bits .or .u8 (bits .and .u8 ((q % 256 : Nat) : Int) 127) 128 = ((q % 128 + 128 : Nat) : Int) := by
  have a := u8_and_nat (q % 256) 127 (by omega) (by omega)
  rw [nat_mask7] at a
  rw [show ((127 : Nat) : Int) = 127 from rfl] at a
  rw [a]
  have o := u8_or_nat 128 (q % 256 % 128) (by omega) (by omega)
  have c := u8_or_nat (q % 256 % 128) 128 (by omega) (by omega)
  rw [Nat.or_comm, nat_join 7 128 (q % 256 % 128) (by decide) (by omega)] at c
  rw [show ((128 : Nat) : Int) = 128 from rfl] at c
  rw [c]; congr 1; omega
theorem byte_lo (q : Nat) : bits .and .u8 ((q % 256 : Nat) : Int) 127 = ((q % 128 : Nat) : Int) := by
  have a := u8_and_nat (q % 256) 127 (by omega) (by omega)
  rw [nat_mask7] at a
  rw [show ((127 : Nat) : Int) = 127 from rfl] at a
  rw [a]; congr 1; omega
end Go.Proofs.YtllkkflolijpaaaDoor
