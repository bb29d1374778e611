/-
  Plain facts on numbers, bytes and sums, of no program: the numbers that a signed number stands for, the table's step of the sum, that it is one to one.
  Plain facts on a number's bytes: groups of seven bits, the highest first.
  sumOn returns what the plain function says, and leaves the world as it was.
  Frames: word, appendWord, frameSum and Frame return what the plain functions say.
  The cell of a Fault.
-/
import Derived.WalkKit
import Derived.Lib.BitFns
import Derived.Test.YtboffmbaaokbnaaGreatDoorG02
import Derived.Deep.QuietTactic
import Derived.BigQuiet
namespace Go.Proofs.YtboffmbaaokbnaaGreatDoor

/-- A signed number as one that is not below 0. -/
def zig (n : Int) : Nat := if n < 0 then (-2 * n - 1).toNat else (2 * n).toNat
/-- And back. -/
def unzig (u : Nat) : Int := if u % 2 = 1 then -((u / 2 : Nat) : Int) - 1 else ((u / 2 : Nat) : Int)
theorem zig_neg {n : Int} (h : n < 0) : ((zig n : Nat) : Int) = -2 * n - 1 := by unfold zig; rw [if_pos h]; omega
theorem zig_pos {n : Int} (h : 0 ≤ n) : ((zig n : Nat) : Int) = 2 * n := by unfold zig; rw [if_neg (by omega)]; omega
theorem zig_lt {n : Int} (h0 : -9223372036854775808 ≤ n) (h1 : n < 9223372036854775808) : zig n < 18446744073709551616 := by
  unfold zig; split <;> omega
theorem unzig_zig (n : Int) : unzig (zig n) = n := by
  by_cases h : n < 0
  · have := zig_neg h; unfold unzig; rw [if_pos (by omega)]; omega
  · have := zig_pos (by omega : 0 ≤ n); unfold unzig; rw [if_neg (by omega)]; omega
theorem zig_unzig (u : Nat) : zig (unzig u) = u := by
  unfold unzig; split
  · unfold zig; rw [if_pos (by omega)]; omega
  · unfold zig; rw [if_neg (by omega)]; omega
theorem unzig_lo {u : Nat} (h : u < 18446744073709551616) : -9223372036854775808 ≤ unzig u ∧ unzig u < 9223372036854775808 := by
  unfold unzig; split <;> omega

theorem xor_cancel_r {a b c : Nat} (h : a ^^^ c = b ^^^ c) : a = b := by
  have e := congrArg (· ^^^ c) h
  simpa [Nat.xor_assoc] using e
theorem xor_cancel_l {a b c : Nat} (h : c ^^^ a = c ^^^ b) : a = b := by
  rw [Nat.xor_comm c a, Nat.xor_comm c b] at h; exact xor_cancel_r h
theorem xor_ones (w a : Nat) (h : a < 2 ^ w) : (2 ^ w - 1) ^^^ a = 2 ^ w - 1 - a := by
  apply Nat.eq_of_testBit_eq
  intro i
  rw [show 2 ^ w - 1 - a = 2 ^ w - (a + 1) by omega, Nat.testBit_two_pow_sub_succ h, Nat.testBit_xor, Nat.testBit_two_pow_sub_one]
  by_cases hi : i < w
  · simp [hi]
  · have : a.testBit i = false := Nat.testBit_lt_two_pow (Nat.lt_of_lt_of_le h (Nat.pow_le_pow_right (by omega) (by omega)))
    simp [hi, this]
theorem u64_not (a : Nat) (h : a < 18446744073709551616) : bits .xor .u64 (18446744073709551615 : Int) (a : Int) = ((18446744073709551615 - a : Nat) : Int) := by
  have e := u64_xor_nat 18446744073709551615 a (by omega) h
  have x := xor_ones 64 a h
  rw [show (18446744073709551615 : Nat) ^^^ a = 18446744073709551615 - a from x] at e
  exact e
theorem u32_not (a : Nat) (h : a < 4294967296) : bits .xor .u32 (4294967295 : Int) (a : Int) = ((4294967295 - a : Nat) : Int) := by
  have e := u32_xor_nat 4294967295 a (by omega) h
  have x := xor_ones 32 a h
  rw [show (4294967295 : Nat) ^^^ a = 4294967295 - a from x] at e
  exact e

-- The sum.
def tabL : List Nat := [0, 274646895, 549293790, 820201905, 1098587580, 1361435347, 1640403810, 1905808397, 2197175160, 2460548119, 2722870694, 2987750089, 3280807620, 3553878443, 3811616794, 4084100981]
def tabF (i : Nat) : Nat := tabL.getD i 0
def nib (s : Nat) : Nat := (s / 16) ^^^ tabF (s % 16)
def stepB (s b : Nat) : Nat := nib (nib (s ^^^ b))
def sumL (s : Nat) (l : List UInt8) : Nat := l.foldl (fun s b => stepB s b.toNat) s

theorem tabF_lt (i : Nat) (h : i < 16) : tabF i < 4294967296 := by
  have : ∀ i : Fin 16, tabF i.val < 4294967296 := by decide +kernel
  exact this ⟨i, h⟩
theorem tabF_top (i : Nat) (h : i < 16) : tabF i / 268435456 = i := by
  have : ∀ i : Fin 16, tabF i.val / 268435456 = i.val := by decide +kernel
  exact this ⟨i, h⟩
theorem nib_lt {s : Nat} (h : s < 4294967296) : nib s < 4294967296 := by
  unfold nib
  exact Nat.xor_lt_two_pow (n := 32) (by omega) (tabF_lt _ (by omega))
theorem stepB_lt {s b : Nat} (h : s < 4294967296) (hb : b < 256) : stepB s b < 4294967296 :=
  nib_lt (nib_lt (Nat.xor_lt_two_pow (n := 32) h (by omega)))
theorem sumL_lt {s : Nat} (l : List UInt8) (h : s < 4294967296) : sumL s l < 4294967296 := by
  induction l generalizing s with
  | nil => exact h
  | cons b t ih => exact ih (stepB_lt h b.toNat_lt)
theorem sumL_append (s : Nat) (a b : List UInt8) : sumL s (a ++ b) = sumL (sumL s a) b := by unfold sumL; rw [List.foldl_append]
theorem sumL_snoc (s : Nat) (l : List UInt8) (b : UInt8) : sumL s (l ++ [b]) = stepB (sumL s l) b.toNat := by rw [sumL_append]; rfl
theorem sumL_cons (s : Nat) (b : UInt8) (l : List UInt8) : sumL s (b :: l) = sumL (stepB s b.toNat) l := rfl

theorem nib_top {s : Nat} (h : s < 4294967296) : nib s / 268435456 = s % 16 := by
  have e : nib s / 2 ^ 28 = (s / 16) / 2 ^ 28 ^^^ tabF (s % 16) / 2 ^ 28 := by unfold nib; exact Nat.xor_div_two_pow
  have t := tabF_top (s % 16) (by omega)
  rw [show (268435456 : Nat) = 2 ^ 28 from rfl] at t ⊢
  rw [e, t, Nat.div_eq_of_lt (by omega), Nat.zero_xor]
theorem nib_inj {s t : Nat} (hs : s < 4294967296) (ht : t < 4294967296) (h : nib s = nib t) : s = t := by
  have a := nib_top hs; have b := nib_top ht
  rw [h] at a
  have c : s % 16 = t % 16 := by omega
  unfold nib at h
  rw [c] at h
  have d := xor_cancel_r h
  omega
theorem stepB_inj {s t b c : Nat} (hs : s < 4294967296) (ht : t < 4294967296) (hb : b < 256) (hc : c < 256) (h : stepB s b = stepB t c) : s ^^^ b = t ^^^ c := by
  have x1 := Nat.xor_lt_two_pow (n := 32) hs (by omega : b < 2 ^ 32)
  have x2 := Nat.xor_lt_two_pow (n := 32) ht (by omega : c < 2 ^ 32)
  exact nib_inj x1 x2 (nib_inj (nib_lt x1) (nib_lt x2) h)
/-- Sums that are unlike stay unlike. -/
theorem sumL_inj {s t : Nat} (l : List UInt8) (hs : s < 4294967296) (ht : t < 4294967296) (h : sumL s l = sumL t l) : s = t := by
  induction l generalizing s t with
  | nil => exact h
  | cons b r ih =>
    have e := ih (stepB_lt hs b.toNat_lt) (stepB_lt ht b.toNat_lt) h
    exact xor_cancel_r (stepB_inj hs ht b.toNat_lt b.toNat_lt e)
/-- One byte that is another one makes another sum. -/
theorem sumL_byte {s : Nat} (a r : List UInt8) {b c : UInt8} (hs : s < 4294967296) (hbc : b ≠ c) : sumL s (a ++ b :: r) ≠ sumL s (a ++ c :: r) := by
  intro h
  rw [sumL_append, sumL_append, sumL_cons, sumL_cons] at h
  have la := sumL_lt a hs
  have e := sumL_inj r (stepB_lt la b.toNat_lt) (stepB_lt la c.toNat_lt) h
  have x := stepB_inj la la b.toNat_lt c.toNat_lt e
  exact hbc (UInt8.toNat_inj.1 (xor_cancel_l x))
theorem sumL_noughts (n : Nat) : sumL 4294967295 (List.replicate n 0) ≠ sumL 4294967295 (List.replicate (n + 1) 0) := by
  intro h
  rw [List.replicate_succ, sumL_cons] at h
  have := sumL_inj _ (by omega) (stepB_lt (by omega) (by decide)) h
  exact absurd this (by decide +kernel)
end Go.Proofs.YtboffmbaaokbnaaGreatDoor
namespace Go.Proofs.YtboffmbaaokbnaaGreatDoor

/-- The bytes ahead of the last one. -/
def hiF : Nat → Nat → List UInt8
  | 0, _ => []
  | f + 1, u => if u = 0 then [] else hiF f (u / 128) ++ [UInt8.ofNat (u % 128 + 128)]
theorem hiF_more (f u : Nat) (h : u ≤ f) : hiF f u = hiF u u := by
  induction f using Nat.strongRecOn generalizing u with
  | ind f ih =>
    cases f with
    | zero => obtain rfl : u = 0 := by omega
              rfl
    | succ f =>
      cases u with
      | zero => rfl
      | succ u =>
        rw [hiF, hiF, if_neg (by omega), if_neg (by omega), ih f (by omega) ((u + 1) / 128) (by omega)]
        by_cases hfu : u = f
        · rw [hfu, ih f (by omega) ((f + 1) / 128) (by omega)]
        · rw [ih u (by omega) ((u + 1) / 128) (by omega)]
def hiB (u : Nat) : List UInt8 := hiF u u
/-- A number's bytes. -/
def numB (u : Nat) : List UInt8 := hiB (u / 128) ++ [UInt8.ofNat (u % 128)]
theorem hiB_zero : hiB 0 = [] := rfl
theorem hiB_step {u : Nat} (h : u ≠ 0) : hiB u = hiB (u / 128) ++ [UInt8.ofNat (u % 128 + 128)] := by
  obtain ⟨k, rfl⟩ : ∃ k, u = k + 1 := ⟨u - 1, by omega⟩
  unfold hiB
  rw [hiF, if_neg (by omega), hiF_more k ((k + 1) / 128) (by omega)]

theorem bitLen_spec (x : Nat) (hx : x < 2 ^ 64) : x < 2 ^ Lib.bitLen x ∧ (x ≠ 0 → 2 ^ (Lib.bitLen x - 1) ≤ x) := by
  induction x using Nat.strongRecOn with
  | ind x ih =>
    by_cases h0 : x = 0
    · subst h0; refine ⟨by decide, fun h => absurd rfl h⟩
    · obtain ⟨a, b⟩ := ih (x / 2) (by omega) (by omega)
      rw [Lib.bitLen_half x h0 hx]
      by_cases h1 : x / 2 = 0
      · rw [h1, show Lib.bitLen 0 = 0 by decide]; refine ⟨by omega, fun _ => by omega⟩
      · have b' := b h1
        generalize Lib.bitLen (x / 2) = k at *
        rw [show 1 + k = k + 1 by omega, Nat.pow_succ]
        refine ⟨by omega, fun _ => ?_⟩
        rw [Nat.add_sub_cancel]
        rcases Nat.eq_zero_or_pos k with hk | hk
        · subst hk; simp at a; omega
        · obtain ⟨j, rfl⟩ : ∃ j, k = j + 1 := ⟨k - 1, by omega⟩
          rw [Nat.add_sub_cancel] at b'
          rw [Nat.pow_succ]; omega
/-- How many groups of seven bits. -/
def grps (u : Nat) : Nat := max 1 ((Lib.bitLen u + 6) / 7)
theorem bitLen_le64 {u : Nat} (h : u < 2 ^ 64) : Lib.bitLen u ≤ 64 := Lib.bitLen_le u 64 (by omega) h
theorem grps_le {u : Nat} (h : u < 2 ^ 64) : 1 ≤ grps u ∧ grps u ≤ 10 := by have := bitLen_le64 h; unfold grps; omega
theorem pow128 (g : Nat) : 128 ^ g = 2 ^ (7 * g) := by rw [Nat.pow_mul]
theorem grps_top {u : Nat} (h : u < 2 ^ 64) : u / 128 ^ grps u = 0 := by
  refine Nat.div_eq_of_lt ?_
  rw [pow128]
  refine Nat.lt_of_lt_of_le (bitLen_spec u h).1 (Nat.pow_le_pow_right (by omega) ?_)
  unfold grps; omega
theorem grps_in {u g : Nat} (h : u < 2 ^ 64) (h1 : 1 ≤ g) (h2 : g < grps u) : u / 128 ^ g ≠ 0 := by
  have hu : u ≠ 0 := by
    intro e; subst e; unfold grps at h2; rw [show Lib.bitLen 0 = 0 by decide] at h2; omega
  have b := (bitLen_spec u h).2 hu
  have : 128 ^ g ≤ u := by
    rw [pow128]
    refine Nat.le_trans (Nat.pow_le_pow_right (by omega) ?_) b
    unfold grps at h2; omega
  have := Nat.div_pos this (Nat.pow_pos (by omega))
  omega
theorem hiB_round {u g : Nat} (h : u < 2 ^ 64) (h1 : 1 ≤ g) (h2 : g < grps u) : hiB (u / 128 ^ g) = hiB (u / 128 ^ (g + 1)) ++ [UInt8.ofNat (u / 128 ^ g % 128 + 128)] := by
  rw [hiB_step (grps_in h h1 h2), Nat.div_div_eq_div_mul, Nat.pow_succ]
theorem hiB_length {u : Nat} (k : Nat) (h : u < 128 ^ k) : (hiB u).length ≤ k := by
  induction k generalizing u with
  | zero => obtain rfl : u = 0 := by simpa using h
            rw [hiB_zero]; exact Nat.zero_le _
  | succ k ih =>
    by_cases h0 : u = 0
    · subst h0; rw [hiB_zero]; exact Nat.zero_le _
    · rw [hiB_step h0, List.length_append]
      have := ih (u := u / 128) (by rw [Nat.pow_succ] at h; exact Nat.div_lt_of_lt_mul (by rw [Nat.mul_comm]; exact h))
      simp only [List.length_cons, List.length_nil]; omega
theorem numB_length {u : Nat} (h : u < 2 ^ 64) : 1 ≤ (numB u).length ∧ (numB u).length ≤ 10 := by
  unfold numB
  have := hiB_length (u := u / 128) 9 (Nat.div_lt_of_lt_mul (Nat.lt_of_lt_of_le h (by decide)))
  rw [List.length_append]; simp only [List.length_cons, List.length_nil]; omega
/-- A group's byte in the walk's own form. -/
theorem byte_hi (q : Nat) : bits .or .u8 (bits .and .u8 ((q % 256 : Nat) : Int) 127) 128 = ((q % 128 + 128 : Nat) : Int) := by
  have a := u8_and_nat (q % 256) 127 (by omega) (by omega)
  rw [nat_mask7] at a
  rw [show ((127 : Nat) : Int) = 127 from rfl] at a
  rw [a]
  have o := u8_or_nat 128 (q % 256 % 128) (by omega) (by omega)
  have c := u8_or_nat (q % 256 % 128) 128 (by omega) (by omega)
  rw [Nat.or_comm, nat_join 7 128 (q % 256 % 128) (by decide) (by omega)] at c
  rw [show ((128 : Nat) : Int) = 128 from rfl] at c
  rw [c]; congr 1; omega
theorem byte_lo (q : Nat) : bits .and .u8 ((q % 256 : Nat) : Int) 127 = ((q % 128 : Nat) : Int) := by
  have a := u8_and_nat (q % 256) 127 (by omega) (by omega)
  rw [nat_mask7] at a
  rw [show ((127 : Nat) : Int) = 127 from rfl] at a
  rw [a]; congr 1; omega
end Go.Proofs.YtboffmbaaokbnaaGreatDoor
namespace Go.Proofs.YtboffmbaaokbnaaGreatDoor
open Go.RowKit
def TabW (w : World) : Prop := 0 < w.heap.size ∧ ∀ i, i < 16 → w.cell? ⟨0, i, none⟩ = some (.int .u32 ((tabF i : Nat) : Int))
/-- What one byte does to the sum, in the walk's own forms. -/
theorem sum_parts (S c : Nat) (hS : S < 4294967296) (hc : c < 256) : ∃ X r T Y r2 T2 : Nat, X < 4294967296 ∧ r < 16 ∧ Y < 4294967296 ∧ r2 < 16 ∧
    bits .xor .u32 (S : Int) ((c : Int) % 4294967296) = (X : Int) ∧ bits .and .u32 (X : Int) 15 = (r : Int) ∧ tabF r = T ∧ bits .xor .u32 ((X : Int) / 16) (T : Int) = (Y : Int) ∧
    bits .and .u32 (Y : Int) 15 = (r2 : Int) ∧ tabF r2 = T2 ∧ bits .xor .u32 ((Y : Int) / 16) (T2 : Int) = ((stepB S c : Nat) : Int) := by
  have x1 := Nat.xor_lt_two_pow (n := 32) hS (by omega : c < 2 ^ 32)
  have x2 := nib_lt x1
  refine ⟨S ^^^ c, (S ^^^ c) % 16, _, nib (S ^^^ c), nib (S ^^^ c) % 16, _, x1, by omega, x2, by omega, ?_, ?_, rfl, ?_, ?_, rfl, ?_⟩
  · rw [show ((c : Int) % 4294967296) = (c : Int) by omega]; exact u32_xor_nat S c hS (by omega)
  · have := u32_and_nat (S ^^^ c) 15 x1 (by omega); rw [nat_mask4] at this; exact this
  · have := u32_xor_nat ((S ^^^ c) / 16) (tabF ((S ^^^ c) % 16)) (by omega) (tabF_lt _ (by omega))
    rw [show (((S ^^^ c : Nat) : Int) / 16) = (((S ^^^ c) / 16 : Nat) : Int) by omega]; exact this
  · have := u32_and_nat (nib (S ^^^ c)) 15 x2 (by omega); rw [nat_mask4] at this; exact this
  · have := u32_xor_nat (nib (S ^^^ c) / 16) (tabF (nib (S ^^^ c) % 16)) (by omega) (tabF_lt _ (by omega))
    rw [show ((nib (S ^^^ c) : Nat) : Int) / 16 = ((nib (S ^^^ c) / 16 : Nat) : Int) by omega]; exact this
set_option maxHeartbeats 400000 in
theorem sumOn_any (s : Nat) (b : ByteArray) (w : World) (hs : s < 4294967296) (hb : b.size ≤ maxLen) (hT : TabW w) :
    Calls Tryz.prog 93 #[.int .u32 (s : Int), .string b] w fun e w' => e = .returned (.int .u32 (sumL s b.data.toList : Nat)) ∧ w' = w := by
  unfold maxLen at hb
  obtain ⟨_, hT⟩ := hT
  have HT := hide hT
  clear hT
  go_enter Tryz.func93, Tryz.ntmps93
  go_wp2
  go_loop [0, 5] (fun n i => ∃ k : Nat, k ≤ b.size ∧ i = .int .i64 k ∧ n = .int .u32 ((sumL s (b.data.toList.take k) : Nat) : Int)) (fun _ i => b.size - (intOf i).toNat)
  case atStart => exact ⟨0, Nat.zero_le _, rfl, rfl⟩
  case round =>
    obtain ⟨k, hk, rfl, rfl⟩ := hrel
    by_cases hlt : k < b.size
    · have HN : Hid (sumL s (b.data.toList.take (k + 1)) = stepB (sumL s (b.data.toList.take k)) (b[k]).toNat) := by rw [take_snoc b k hlt, sumL_snoc]; exact rfl
      have hS := sumL_lt (b.data.toList.take k) hs
      generalize hSe : sumL s (b.data.toList.take k) = S at *
      have HS := hide hSe
      clear hSe
      obtain ⟨X, r, T, Y, r2, T2, hX, hr, hY, hr2, e1, e2, e3, e4, e5, e6, e7⟩ := sum_parts S (b[k]).toNat hS (b[k]).toNat_lt
      have c1 := unhide HT r hr
      have c2 := unhide HT r2 hr2
      rw [e3] at c1
      rw [e6] at c2
      clear e3 e6
      go_wp2
      go_round
      case rel => exact ⟨k + 1, by omega, by go_num, by rw [HN.out]⟩
      case measure => simp [intOf]; omega
    · go_wp2
      go_ret
      exact ⟨ret_int (by rw [List.take_of_length_le (by simp; omega)]), rfl⟩
theorem TabW.below {B : Nat} {w w' : World} (h : TabW w) (hb : Below B w w') (hB : 0 < B) : TabW w' :=
  ⟨Nat.lt_of_lt_of_le h.1 hb.size, fun i hi => (hb.cell (p := ⟨0, i, none⟩) hB).trans (h.2 i hi)⟩
/-- The sum of bytes. -/
def sumOf (l : List UInt8) : Nat := 4294967295 - sumL 4294967295 l
theorem sumOf_lt (l : List UInt8) : sumOf l < 4294967296 := by unfold sumOf; omega
theorem sumOf_inj {a b : List UInt8} (h : sumOf a = sumOf b) : sumL 4294967295 a = sumL 4294967295 b := by
  have := sumL_lt (s := 4294967295) a (by omega); have := sumL_lt (s := 4294967295) b (by omega)
  unfold sumOf at h; omega
end Go.Proofs.YtboffmbaaokbnaaGreatDoor
namespace Go.Proofs.YtboffmbaaokbnaaGreatDoor
open Go.RowKit

/-- A number as four bytes, the highest first. -/
def w4 (n : Nat) : List UInt8 := [UInt8.ofNat (n / 16777216 % 256), UInt8.ofNat (n / 65536 % 256), UInt8.ofNat (n / 256 % 256), UInt8.ofNat (n % 256)]
/-- Four bytes as a number. -/
def unw4 : List UInt8 → Nat
  | a :: b :: c :: d :: _ => a.toNat * 16777216 + b.toNat * 65536 + c.toNat * 256 + d.toNat
  | _ => 0
theorem u8_of (C : Nat) (h : C < 256) : (UInt8.ofNat C).toNat = C := by rw [UInt8.toNat_ofNat']; omega
theorem unw4_w4 (n : Nat) (r : List UInt8) (h : n < 4294967296) : unw4 (w4 n ++ r) = n := by
  unfold w4 unw4
  simp only [List.cons_append, List.nil_append]
  rw [u8_of _ (by omega), u8_of _ (by omega), u8_of _ (by omega), u8_of _ (by omega)]
  omega
theorem word_val (a b c d : Nat) (ha : a < 256) (hb : b < 256) (hc : c < 256) (hd : d < 256) :
    bits .or .u32 (bits .or .u32 (bits .or .u32 ((a : Int) % 4294967296 * 16777216 % 4294967296) ((b : Int) % 4294967296 * 65536 % 4294967296)) ((c : Int) % 4294967296 * 256 % 4294967296)) ((d : Int) % 4294967296) = ((a * 16777216 + b * 65536 + c * 256 + d : Nat) : Int) := by
  have e1 := u32_or_nat (a * 16777216) (b * 65536) (by omega) (by omega)
  rw [nat_join 24 (a * 16777216) (b * 65536) (by omega) (by omega)] at e1
  have e2 := u32_or_nat (a * 16777216 + b * 65536) (c * 256) (by omega) (by omega)
  rw [nat_join 16 _ (c * 256) (by omega) (by omega)] at e2
  have e3 := u32_or_nat (a * 16777216 + b * 65536 + c * 256) d (by omega) (by omega)
  rw [nat_join 8 _ d (by omega) (by omega)] at e3
  rw [show ((a : Int) % 4294967296 * 16777216 % 4294967296) = ((a * 16777216 : Nat) : Int) by omega, show ((b : Int) % 4294967296 * 65536 % 4294967296) = ((b * 65536 : Nat) : Int) by omega, e1,
    show ((c : Int) % 4294967296 * 256 % 4294967296) = ((c * 256 : Nat) : Int) by omega, e2, show ((d : Int) % 4294967296) = (d : Int) by omega, e3]
theorem unw4_get (s : ByteArray) (h0 : 0 < s.size) (h1 : 1 < s.size) (h2 : 2 < s.size) (h3 : 3 < s.size) : unw4 s.data.toList = s[0].toNat * 16777216 + s[1].toNat * 65536 + s[2].toNat * 256 + s[3].toNat := by
  have e := drop_get s 0 h0
  rw [drop_get s 1 h1, drop_get s 2 h2, drop_get s 3 h3, List.drop_zero] at e
  rw [e]; rfl
set_option maxHeartbeats 400000 in
theorem word_any (s : ByteArray) (w : World) (h : 4 ≤ s.size) :
    Calls Tryz.prog 92 #[.string s] w fun e w' => e = .returned (.int .u32 (unw4 s.data.toList : Nat)) ∧ ∃ n, w' = w.drewN n := by
  have k0 : 0 < s.size := by omega
  have k1 : 1 < s.size := by omega
  have k2 : 2 < s.size := by omega
  have k3 : 3 < s.size := by omega
  have hv := word_val (s[0]).toNat (s[1]).toNat (s[2]).toNat (s[3]).toNat (s[0]).toNat_lt (s[1]).toNat_lt (s[2]).toNat_lt (s[3]).toNat_lt
  rw [← unw4_get s k0 k1 k2 k3] at hv
  have HV := hide hv
  clear hv
  have h0 : (0 : Int) < (s.size : Int) := by omega
  have h1 : (1 : Int) < (s.size : Int) := by omega
  have h2 : (2 : Int) < (s.size : Int) := by omega
  have h3 : (3 : Int) < (s.size : Int) := by omega
  go_enter Tryz.func92, Tryz.ntmps92
  go_wp2
  go_quiet (fail)
  go_wp2
  go_ret
  exact ⟨ret_int (unhide HV), _, rfl⟩
set_option maxHeartbeats 1000000 in
theorem appendWord_any (B : Nat) (v : Value) (l : List UInt8) (n : Nat) (w : World) (hB : B ≤ w.heap.size) (ho : Owns B w v l) (hn : n < 4294967296) (hl : l.length ≤ 140737488355000) :
    Calls Tryz.prog 85 #[v, .int .u32 (n : Int)] w fun e w' => ∃ v', e = .returned v' ∧ Owns B w' v' (l ++ w4 n) ∧ Fr B 5 w w' := by
  obtain ⟨i0, hi, hz0, hz1, hz2⟩ := info_parts info_u8
  obtain ⟨a, ha, ea⟩ : ∃ a : Nat, n / 16777216 % 256 = a ∧ (n : Int) / 16777216 = (a : Int) := ⟨_, rfl, by omega⟩
  obtain ⟨b, hb, eb⟩ : ∃ a : Nat, n / 65536 % 256 = a ∧ (n : Int) / 65536 % 256 = (a : Int) := ⟨_, rfl, by omega⟩
  obtain ⟨c, hc, ec⟩ : ∃ a : Nat, n / 256 % 256 = a ∧ (n : Int) / 256 % 256 = (a : Int) := ⟨_, rfl, by omega⟩
  obtain ⟨d, hd, ed⟩ : ∃ a : Nat, n % 256 = a ∧ (n : Int) % 256 = (a : Int) := ⟨_, rfl, by omega⟩
  have hw : byteC (w4 n) = [.int .u8 (a : Int), .int .u8 (b : Int), .int .u8 (c : Int), .int .u8 (d : Int)] := by
    unfold w4 byteC
    rw [ha, hb, hc, hd]
    simp only [List.map_cons, List.map_nil]
    rw [u8_of a (by omega), u8_of b (by omega), u8_of c (by omega), u8_of d (by omega)]
  have HW := hide hw
  clear hw ha hb hc hd
  go_enter Tryz.func85, Tryz.ntmps85
  go_wp2_with (at_builtin; refine wpList_append_own _ rfl _ _ 98 rfl B 5 i0 (.int .u8 0) 1 1 Tryz.underlying98 hi hz0 hz1 hz2 rfl (by decide) _ _ _ rfl (ho.alloc _) ⟨w.heap.size, 0, none⟩ 4 4 [.int .u8 (a : Int), .int .u8 (b : Int), .int .u8 (c : Int), .int .u8 (d : Int)] rfl rfl ?c1 ?c2 ?c3 ?c4 ?c5 ?_)
  case c1 =>
    intro q u hq
    match q, hq with
    | 0, hq => simp at hq; subst hq; simp [Addr.add]
    | 1, hq => simp at hq; subst hq; simp [Addr.add]
    | 2, hq => simp at hq; subst hq; simp [Addr.add]
    | 3, hq => simp at hq; subst hq; simp [Addr.add]
  case c2 => intro u hu; simp at hu; rcases hu with rfl | rfl | rfl | rfl <;> rfl
  case c3 => unfold maxLen; omega
  case c4 => omega
  case c5 => simp; omega
  intro v' w2 hown2 hgrow _
  have hfr : Fr B 5 w w2 := ((Fr.refl _ _ w).alloc hB _).grown (ho.alloc _) hgrow (by simp; omega)
  have hown3 : Owns B w2 v' (l ++ w4 n) := by
    unfold Owns
    rw [byteC_append, unhide HW, List.length_append]
    exact hown2
  clear hown2 hgrow ho
  go_wp2
  go_ret
  exact ⟨_, rfl, hown3, hfr⟩
set_option maxHeartbeats 400000 in
theorem frameSum_any (a b : ByteArray) (w : World) (ha : a.size ≤ maxLen) (hb : b.size ≤ maxLen) (hT : TabW w) :
    Calls Tryz.prog 86 #[.string a, .string b] w fun e w' => e = .returned (.int .u32 (sumOf (a.data.toList ++ b.data.toList) : Nat)) ∧ w' = w := by
  have c1 := sumOn_any 4294967295 a w (by omega) ha hT
  rw [show ((4294967295 : Nat) : Int) = 4294967295 from rfl] at c1
  have l1 := sumL_lt (s := 4294967295) a.data.toList (by omega)
  have c2 := sumOn_any (sumL 4294967295 a.data.toList) b w l1 hb hT
  have hx : sumOf (a.data.toList ++ b.data.toList) = 4294967295 - sumL (sumL 4294967295 a.data.toList) b.data.toList := by unfold sumOf; rw [sumL_append]
  have l2 := sumL_lt b.data.toList l1
  rw [hx]
  clear hx hT
  generalize sumL 4294967295 a.data.toList = x at *
  generalize sumL x b.data.toList = y at *
  have hn := u32_not y l2
  have C1 := hide c1
  have C2 := hide c2
  clear c1 c2
  go_enter Tryz.func86, Tryz.ntmps86
  go_wp2_with fail
  refine (unhide C1).mono ?_
  rintro e w1 ⟨rfl, rfl⟩
  go_wp2_with fail
  refine (unhide C2).mono ?_
  rintro e w2 ⟨rfl, rfl⟩
  go_wp2
  all_goals go_ret
  all_goals exact ⟨ret_int hn, rfl⟩
/-- A frame of bytes. -/
def headL (n : Nat) : List UInt8 := [87, 70] ++ w4 n
def frameL (b : List UInt8) : List UInt8 := headL b.length ++ w4 (sumOf (headL b.length ++ b)) ++ b
theorem headL_len (n : Nat) : (headL n).length = 6 := rfl
theorem frameL_len (b : List UInt8) : (frameL b).length = b.length + 10 := by
  unfold frameL; rw [List.length_append, List.length_append, headL_len]; show 6 + 4 + b.length = _; omega
def frE (b : ByteArray) : Int := if 65536 < b.size then 2 else 0
def frS (b : ByteArray) : ByteArray := if 65536 < b.size then ⟨#[]⟩ else ⟨(frameL b.data.toList).toArray⟩
theorem make_room (n : Nat) (hn : n ≤ 100000) (W : World) : (Instr.makeSlice 98 (.int .i64 0) (.int .i64 (n : Int))).run Tryz.prog W = .ok (.slice (some ⟨W.heap.size, 0, none⟩) 0 n) (W.alloc (.cells (madeCells #[Value.int .u8 0] n) 5)) := by
  obtain ⟨i0, hi, hz0, hz1, hz2⟩ := info_parts info_u8
  have h := run_make (P := Tryz.prog) W 98 5 i0 (.int .u8 0) Tryz.underlying98 hi hz0 .i64 .i64 0 (n : Int) (by omega) (by omega) (by rw [hz2]; omega) (by omega)
  rw [hz1, Int.toNat_natCast, Nat.mul_one] at h
  exact h
set_option maxHeartbeats 1000000 in
set_option maxRecDepth 100000 in
theorem frame_any (b : ByteArray) (w : World) (hb : b.size ≤ 9223372036854775807) (hT : TabW w) :
    Calls Tryz.prog 74 #[.string b] w fun e w' => e = .returned (.tuple #[.string (frS b), .int .i64 (frE b)]) ∧ Below w.heap.size w w' := by
  by_cases hbig : 65536 < b.size
  · have e1 : frE b = 2 := if_pos hbig
    have e2 : frS b = ⟨#[]⟩ := if_pos hbig
    rw [e1, e2]
    clear e1 e2 hT
    go_enter Tryz.func74, Tryz.ntmps74
    go_wp2
    go_ret2
    exact ⟨rfl, Below.refl _ _⟩
  · have e1 : frE b = 0 := if_neg hbig
    have e2 : frS b = ⟨(frameL b.data.toList).toArray⟩ := if_neg hbig
    rw [e1, e2]
    have h0 := hT.1
    have HT := hide hT
    clear e1 e2 hT
    obtain ⟨i0, hi, hz0, hz1, hz2⟩ := info_parts info_u8
    have hmk := fun W => make_room (10 + b.size) (by omega) W
    rw [show ((10 + b.size : Nat) : Int) = 10 + (b.size : Int) by omega] at hmk
    have ho : Owns w.heap.size (w.alloc (.cells (madeCells #[Value.int .u8 0] (10 + b.size)) 5)) (.slice (some ⟨w.heap.size, 0, none⟩) 0 (10 + b.size)) [] :=
      World.ownsRow_made w _ (10 + b.size) (Nat.le_refl _) (by unfold maxLen; omega) (by rw [size_madeCells]; omega)
    have hf : Fr w.heap.size 5 w (w.alloc (.cells (madeCells #[Value.int .u8 0] (10 + b.size)) 5)) := (Fr.refl _ _ w).alloc (Nat.le_refl _) _
    generalize madeCells #[Value.int .u8 0] (10 + b.size) = M at *
    go_enter Tryz.func74, Tryz.ntmps74
    go_wp2_with (at_builtin; refine Lib.wpList_append_own_string _ rfl _ _ 98 9 rfl w.heap.size 5 i0 Tryz.underlying98 Tryz.underlying9 hi hz0 hz1 hz2 _ _ _ rfl ho ⟨#[87, 70]⟩ rfl ?a1 ?a2 ?a3 ?_)
    case a1 => decide
    case a2 => decide
    case a3 => simp
    intro v1 w1 ho1 hg1 _
    have hf1 := hf.grown ho hg1 (by simp)
    have hq1 : Owns w.heap.size w1 v1 [87, 70] := ho1
    clear ho1 hg1 ho hf hmk
    go_wp2_with fail
    refine (appendWord_any w.heap.size v1 [87, 70] b.size w1 hf1.size hq1 (by omega) (by decide)).mono ?_
    rintro e w2 ⟨v2, rfl, hq2, hf2⟩
    have hf12 := hf1.trans hf2
    have hT2 : TabW w2 := (unhide HT).below hf12.below h0
    have hs2 := hq2.string
    have hh : [87, 70] ++ w4 b.size = headL b.size := rfl
    rw [hh] at hq2 hs2
    clear hf1 hf2 hh hq1
    have hhs : ({ data := (headL b.size).toArray } : ByteArray).size = 6 := rfl
    have c3 := frameSum_any ⟨(headL b.size).toArray⟩ b w2 (by rw [hhs]; decide) (by unfold maxLen; omega) hT2
    have hdl : ({ data := (headL b.size).toArray } : ByteArray).data.toList = headL b.size := rfl
    rw [hdl] at c3
    have hsl := sumOf_lt (headL b.size ++ b.data.toList)
    have hfin : frameL b.data.toList = headL b.size ++ w4 (sumOf (headL b.size ++ b.data.toList)) ++ b.data.toList := by unfold frameL; rw [show b.data.toList.length = b.size from Array.length_toList]
    generalize sumOf (headL b.size ++ b.data.toList) = x at *
    generalize hH : headL b.size = H at *
    have hHl : H.length = 6 := by rw [← hH]; rfl
    have HFIN := hide hfin
    have HHL := hide hHl
    have C3 := hide c3
    clear hfin hHl c3 hH hT2 hhs hdl
    go_wp2_with fail
    refine (unhide C3).mono ?_
    rintro e w3 ⟨rfl, rfl⟩
    go_wp2_with fail
    refine (appendWord_any w.heap.size v2 H x w3 hf12.size hq2 hsl (by rw [unhide HHL]; decide)).mono ?_
    rintro e w4' ⟨v4, rfl, hq4, hf4⟩
    have hf14 := hf12.trans hf4
    have hl4 : (H ++ w4 x).length = 10 := by rw [List.length_append, unhide HHL]; rfl
    generalize hL4 : H ++ w4 x = L4 at *
    have HL := hide hl4
    clear hL4 hl4 hf12 hf4 hq2 hs2
    go_wp2_with (at_builtin; refine Lib.wpList_append_own_string _ rfl _ _ 98 9 rfl w.heap.size 5 i0 Tryz.underlying98 Tryz.underlying9 hi hz0 hz1 hz2 _ _ _ rfl hq4 b rfl ?b1 ?b2 ?b3 ?_)
    case b1 => unfold maxLen; rw [unhide HL]; omega
    case b2 => rw [unhide HL]; omega
    case b3 => exact hf14.size
    intro v5 w5 ho5 hg5 _
    have hf5 := hf14.grown hq4 hg5 hf14.size
    have hq5 : Owns w.heap.size w5 v5 (frameL b.data.toList) := by
      rw [unhide HFIN]
      unfold Owns
      rw [byteC_append, List.length_append, ← byteC_str, Array.length_toList]
      exact ho5
    have hs5 := hq5.string
    clear ho5 hg5 hq4 hf14
    go_wp2
    go_ret2
    exact ⟨rfl, hf5.below⟩
end Go.Proofs.YtboffmbaaokbnaaGreatDoor
namespace Go.Proofs.YtboffmbaaokbnaaGreatDoor
open Go.RowKit

/-- The answer's fault lies there. -/
def FBox (k : Nat) (w : World) : Prop := w.heap[k]? = some (.cells #[.int .i64 0, .int .i64 0] 84 (0, 0))
theorem FBox.cells {k : Nat} {w : World} (h : FBox k w) : w.cell? ⟨k, 0, none⟩ = some (.int .i64 0) ∧ w.cell? ⟨k, 1, none⟩ = some (.int .i64 0) ∧ w.frozen? ⟨k, 0, none⟩ = false ∧ w.frozen? ⟨k, 1, none⟩ = false := by
  unfold FBox at h
  simp [World.cell?, World.frozen?, h]
theorem FBox.lt {k : Nat} {w : World} (h : FBox k w) : k < w.heap.size := by
  unfold FBox at h
  rcases Nat.lt_or_ge k w.heap.size with h1 | h1
  · exact h1
  · rw [Array.getElem?_eq_none h1] at h; cases h
theorem FBox.below {k B : Nat} {w w' : World} (h : FBox k w) (hb : Below B w w') (hB : k < B) : FBox k w' := by unfold FBox; rw [hb.block k hB]; exact h
end Go.Proofs.YtboffmbaaokbnaaGreatDoor
