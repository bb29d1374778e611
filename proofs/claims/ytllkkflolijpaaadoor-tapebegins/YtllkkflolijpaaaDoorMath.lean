/-
  Plain facts on numbers, bytes and sums, of no program: the numbers that a signed number stands for, the table's step of the sum, that it is one to one.
-/
import Derived.WalkKit
namespace Go.Proofs.YtllkkflolijpaaaDoor

/-- A signed number as one that is not below 0. -/
def zig (n : Int) : Nat := if n < 0 then (-2 * n - 1).toNat else (2 * n).toNat
/-- And back. -/
def unzig (u : Nat) : Int := if u % 2 = 1 then -((u / 2 : Nat) : Int) - 1 else ((u / 2 : Nat) : Int)
theorem zig_neg {n : Int} (h : n < 0) : ((zig n : Nat) : Int) = -2 * n - 1 := by unfold zig; rw [if_pos h]; omega
theorem zig_pos {n : Int} (h : 0 ≤ n) : ((zig n : Nat) : Int) = 2 * n := by unfold zig; rw [if_neg (by omega)]; omega
theorem zig_lt {n : Int} (h0 : -9223372036854775808 ≤ n) (h1 : n < 9223372036854775808) : zig n < 18446744073709551616 := by
  unfold zig; split <;> omega
theorem unzig_zig (n : Int) : unzig (zig n) = n := by
  by_cases h : n < 0
  · have := zig_neg h; unfold unzig; rw [if_pos (by omega)]; omega
  · have := zig_pos (by omega : 0 ≤ n); unfold unzig; rw [if_neg (by omega)]; omega
theorem zig_unzig (u : Nat) : zig (unzig u) = u := by
  unfold unzig; split
  · unfold zig; rw [if_pos (by omega)]; omega
  · unfold zig; rw [if_neg (by omega)]; omega
theorem unzig_lo {u : Nat} (h : u < 18446744073709551616) : -9223372036854775808 ≤ unzig u ∧ unzig u < 9223372036854775808 := by
  unfold unzig; split <;> omega

theorem xor_cancel_r {a b c : Nat} (h : a ^^^ c = b ^^^ c) : a = b := by
  have e := congrArg (· ^^^ c) h
  simpa [Nat.xor_assoc] using e
theorem xor_cancel_l {a b c : Nat} (h : c ^^^ a = c ^^^ b) : a = b := by
  rw [Nat.xor_comm c a, Nat.xor_comm c b] at h; exact xor_cancel_r h
theorem xor_ones (w a : Nat) (h : a < 2 ^ w) : (2 ^ w - 1) ^^^ a = 2 ^ w - 1 - a := by
  apply Nat.eq_of_testBit_eq
  intro i
  rw [show 2 ^ w - 1 - a = 2 ^ w - (a + 1) by omega, Nat.testBit_two_pow_sub_succ h, Nat.testBit_xor, Nat.testBit_two_pow_sub_one]
  by_cases hi : i < w
  · simp [hi]
  · have : a.testBit i = false := Nat.testBit_lt_two_pow (Nat.lt_of_lt_of_le h (Nat.pow_le_pow_right (by omega) (by omega)))
    simp [hi, this]
theorem u64_not (a : Nat) (h : a < 18446744073709551616) : bits .xor .u64 (18446744073709551615 : Int) (a : Int) = ((18446744073709551615 - a : Nat) : Int) := by
  have e := u64_xor_nat 18446744073709551615 a (by omega) h
  have x := xor_ones 64 a h
  rw [show (18446744073709551615 : Nat) ^^^ a = 18446744073709551615 - a from x] at e
  exact e
theorem u32_not (a : Nat) (h : a < 4294967296) : bits .xor .u32 (4294967295 : Int) (a : Int) = ((4294967295 - a : Nat) : Int) := by
  have e := u32_xor_nat 4294967295 a (by omega) h
  have x := xor_ones 32 a h
  rw [show (4294967295 : Nat) ^^^ a = 4294967295 - a from x] at e
  exact e

-- The sum.
def tabL : List Nat := [0, 274646895, 549293790, 820201905, 1098587580, 1361435347, 1640403810, 1905808397, 2197175160, 2460548119, 2722870694, 2987750089, 3280807620, 3553878443, 3811616794, 4084100981]
def tabF (i : Nat) : Nat := tabL.getD i 0
def nib (s : Nat) : Nat := (s / 16) ^^^ tabF (s % 16)
def stepB (s b : Nat) : Nat := nib (nib (s ^^^ b))
def sumL (s : Nat) (l : List UInt8) : Nat := l.foldl (fun s b => stepB s b.toNat) s

theorem tabF_lt (i : Nat) (h : i < 16) : tabF i < 4294967296 := by
  have : ∀ i : Fin 16, tabF i.val < 4294967296 := by decide +kernel
  exact this ⟨i, h⟩
theorem tabF_top (i : Nat) (h : i < 16) : tabF i / 268435456 = i := by
  have : ∀ i : Fin 16, tabF i.val / 268435456 = i.val := by decide +kernel
  exact this ⟨i, h⟩
theorem nib_lt {s : Nat} (h : s < 4294967296) : nib s < 4294967296 := by
  unfold nib
  exact Nat.xor_lt_two_pow (n := 32) (by omega) (tabF_lt _ (by omega))
theorem stepB_lt {s b : Nat} (h : s < 4294967296) (hb : b < 256) : stepB s b < 4294967296 :=
  nib_lt (nib_lt (Nat.xor_lt_two_pow (n := 32) h (by omega)))
theorem sumL_lt {s : Nat} (l : List UInt8) (h : s < 4294967296) : sumL s l < 4294967296 := by
  induction l generalizing s with
  | nil => exact h
  | cons b t ih => exact ih (stepB_lt h b.toNat_lt)
theorem sumL_append (s : Nat) (a b : List UInt8) : sumL s (a ++ b) = sumL (sumL s a) b := by unfold sumL; rw [List.foldl_append]
theorem sumL_snoc (s : Nat) (l : List UInt8) (b : UInt8) : sumL s (l ++ [b]) = stepB (sumL s l) b.toNat := by rw [sumL_append]; rfl
theorem sumL_cons (s : Nat) (b : UInt8) (l : List UInt8) : sumL s (b :: l) = sumL (stepB s b.toNat) l := rfl

theorem nib_top {s : Nat} (h : s < 4294967296) : nib s / 268435456 = s % 16 := by
  have e : nib s / 2 ^ 28 = (s / 16) / 2 ^ 28 ^^^ tabF (s % 16) / 2 ^ 28 := by unfold nib; exact Nat.xor_div_two_pow
  have t := tabF_top (s % 16) (by omega)
  rw [show (268435456 : Nat) = 2 ^ 28 from rfl] at t ⊢
  rw [e, t, Nat.div_eq_of_lt (by omega), Nat.zero_xor]
theorem nib_inj {s t : Nat} (hs : s < 4294967296) (ht : t < 4294967296) (h : nib s = nib t) : s = t := by
  have a := nib_top hs; have b := nib_top ht
  rw [h] at a
  have c : s % 16 = t % 16 := by omega
  unfold nib at h
  rw [c] at h
  have d := xor_cancel_r h
  omega
theorem stepB_inj {s t b c : Nat} (hs : s < 4294967296) (ht : t < 4294967296) (hb : b < 256) (hc : c < 256) (h : stepB s b = stepB t c) : s ^^^ b = t ^^^ c := by
  have x1 := Nat.xor_lt_two_pow (n := 32) hs (by omega : b < 2 ^ 32)
  have x2 := Nat.xor_lt_two_pow (n := 32) ht (by omega : c < 2 ^ 32)
  exact nib_inj x1 x2 (nib_inj (nib_lt x1) (nib_lt x2) h)
/-- Sums that are unlike stay unlike. -/
theorem sumL_inj {s t : Nat} (l : List UInt8) (hs : s < 4294967296) (ht : t < 4294967296) (h : sumL s l = sumL t l) : s = t := by
  induction l generalizing s t with
  | nil => exact h
  | cons b r ih =>
    have e := ih (stepB_lt hs b.toNat_lt) (stepB_lt ht b.toNat_lt) h
    exact xor_cancel_r (stepB_inj hs ht b.toNat_lt b.toNat_lt e)
/-- One byte that is another one makes another sum. -/
theorem sumL_byte {s : Nat} (a r : List UInt8) {b c : UInt8} (hs : s < 4294967296) (hbc : b ≠ c) : sumL s (a ++ b :: r) ≠ sumL s (a ++ c :: r) := by
  intro h
  rw [sumL_append, sumL_append, sumL_cons, sumL_cons] at h
  have la := sumL_lt a hs
  have e := sumL_inj r (stepB_lt la b.toNat_lt) (stepB_lt la c.toNat_lt) h
  have x := stepB_inj la la b.toNat_lt c.toNat_lt e
  exact hbc (UInt8.toNat_inj.1 (xor_cancel_l x))
theorem sumL_noughts (n : Nat) : sumL 4294967295 (List.replicate n 0) ≠ sumL 4294967295 (List.replicate (n + 1) 0) := by
  intro h
  rw [List.replicate_succ, sumL_cons] at h
  have := sumL_inj _ (by omega) (stepB_lt (by omega) (by decide)) h
  exact absurd this (by decide +kernel)
end Go.Proofs.YtllkkflolijpaaaDoor
