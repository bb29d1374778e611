/-
  Rows of bytes of the call's own; such a row as a string; strings.Clone returns the same bytes.
  Plain facts on numbers, bytes and sums, of no program: the numbers that a signed number stands for, the table's step of the sum, that it is one to one.
  Plain facts on a number's bytes: groups of seven bits, the highest first.
  sumOn returns what the plain function says, and leaves the world as it was.
  What the row's list of package variables gives: pack's table holds its sixteen numbers; a settled world in which the four variables hold what their own texts lay.
  The leaves: fold and unfold return what the plain functions say, and leave the world as it was; strings.Clone returns the same bytes.
-/
import Derived.Test.YtdmckgcbmbhmmaaGreatDoorChecked
import Derived.Test.YtdmckgcbmbhmmaaGreatDoorRw01
import Derived.Test.YtdmckgcbmbhmmaaGreatDoorRw02
import Derived.WalkLawsBesides
import Derived.Laws.DeepNot64
import Derived.SliceStrings
import Derived.WalkKit
import Derived.Lib.BitFns
import Derived.Test.YtdmckgcbmbhmmaaGreatDoorRows
import Derived.Lib.LaidTab
import Derived.Stop.LaidErr
namespace Go.Proofs.YtdmckgcbmbhmmaaGreatDoor
open Go.RowKit

theorem info_u8 : (Tryz.prog.info? 5).map (fun i => (i.zero, i.size, i.bytes)) = some (some (.int .u8 0), 1, 1) := by kernel_rfl
/-- A row of bytes of the call's own. -/
def Owns (B : Nat) (w : World) (v : Value) (l : List UInt8) : Prop := w.ownsRow B 5 1 v l.length (byteC l)
theorem Owns.nil (B : Nat) (w : World) : Owns B w (.slice none 0 0) [] := World.ownsRow_nil _ _ _ _
theorem Owns.alloc {B : Nat} {w : World} {v : Value} {l : List UInt8} (h : Owns B w v l) (o : Obj) : Owns B (w.alloc o) v l := World.ownsRow.alloc h o
theorem Owns.drew {B : Nat} {w : World} {v : Value} {l : List UInt8} (h : Owns B w v l) : Owns B w.drew v l := h
theorem Owns.form {B : Nat} {w : World} {v : Value} {l : List UInt8} (h : Owns B w v l) : ∃ ad cp, v = .slice ad l.length cp := by
  obtain ⟨_, ⟨rfl, h0⟩ | ⟨g, cp, cur, rfl, _⟩⟩ := h
  · exact ⟨_, _, by rw [h0]⟩
  · exact ⟨_, _, rfl⟩
theorem strOf_bytes (l : List UInt8) : strOfNums (l.map fun b => (b.toNat : Int)) = ⟨l.toArray⟩ := by
  unfold strOfNums; congr 1; simp [List.map_map, Function.comp_def]
/-- The row's bytes as a string. -/
theorem Owns.string {B : Nat} {w : World} {v : Value} {l : List UInt8} (h : Owns B w v l) : (convert 91 9 v).run Tryz.prog w = .ok (.string ⟨l.toArray⟩) w := by
  obtain ⟨hl, ⟨rfl, h0⟩ | ⟨g, cp, cur, rfl, hb, hh, r⟩⟩ := id h
  · obtain rfl : l = [] := List.eq_nil_of_length_eq_zero h0
    exact run_convert_bytes_nil w 91 5 Tryz.underlying91 Tryz.underlying5 0 0 9 Tryz.underlying9
  · have := run_convert_bytes_arg (P := Tryz.prog) w 91 5 Tryz.underlying91 Tryz.underlying5 g 0 l.length cp (l.map fun b => (b.toNat : Int)) (by simp) (fun i hi => by
      rw [Nat.zero_add]
      have c := World.ownsRow.cellAt h i (by omega)
      rw [c]
      unfold byteC
      simp [List.getElem?_eq_getElem hi, List.getD]) 9 Tryz.underlying9
    rw [strOf_bytes] at this
    exact this
theorem drop_get (b : ByteArray) (i : Nat) (h : i < b.size) : b.data.toList.drop i = b[i] :: b.data.toList.drop (i + 1) := by
  rw [List.drop_eq_getElem_cons (by simpa using h)]; rfl
theorem take_snoc (s : ByteArray) (k : Nat) (h : k < s.size) : s.data.toList.take (k + 1) = s.data.toList.take k ++ [s[k]] := by
  rw [List.take_succ_eq_append_getElem (by simpa using h)]; rfl
set_option maxHeartbeats 400000 in
theorem clone_any (b : ByteArray) (w : World) (hb : b.size ≤ 281474976710656) :
    Calls Tryz.prog 54 #[.string b] w fun e w' => e = .returned (.string b) ∧ Below w.heap.size w w' := by
  go_enter Tryz.func54, Tryz.ntmps54
  go_wp2_with fail
  refine (Tryz.stringslite_Clone b _ hb).mono ?_
  rintro e w' ⟨rfl, h⟩
  go_wp2
  go_ret
  exact ⟨rfl, h⟩
end Go.Proofs.YtdmckgcbmbhmmaaGreatDoor
namespace Go.Proofs.YtdmckgcbmbhmmaaGreatDoor

/-- A signed number as one that is not below 0. -/
def zig (n : Int) : Nat := if n < 0 then (-2 * n - 1).toNat else (2 * n).toNat
/-- And back. -/
def unzig (u : Nat) : Int := if u % 2 = 1 then -((u / 2 : Nat) : Int) - 1 else ((u / 2 : Nat) : Int)
theorem zig_neg {n : Int} (h : n < 0) : ((zig n : Nat) : Int) = -2 * n - 1 := by unfold zig; rw [if_pos h]; omega
theorem zig_pos {n : Int} (h : 0 ≤ n) : ((zig n : Nat) : Int) = 2 * n := by unfold zig; rw [if_neg (by omega)]; omega
theorem zig_lt {n : Int} (h0 : -9223372036854775808 ≤ n) (h1 : n < 9223372036854775808) : zig n < 18446744073709551616 := by
  unfold zig; split <;> omega
theorem unzig_zig (n : Int) : unzig (zig n) = n := by
  by_cases h : n < 0
  · have := zig_neg h; unfold unzig; rw [if_pos (by omega)]; omega
  · have := zig_pos (by omega : 0 ≤ n); unfold unzig; rw [if_neg (by omega)]; omega
theorem zig_unzig (u : Nat) : zig (unzig u) = u := by
  unfold unzig; split
  · unfold zig; rw [if_pos (by omega)]; omega
  · unfold zig; rw [if_neg (by omega)]; omega
theorem unzig_lo {u : Nat} (h : u < 18446744073709551616) : -9223372036854775808 ≤ unzig u ∧ unzig u < 9223372036854775808 := by
  unfold unzig; split <;> omega

theorem xor_cancel_r {a b c : Nat} (h : a ^^^ c = b ^^^ c) : a = b := by
  have e := congrArg (· ^^^ c) h
  simpa [Nat.xor_assoc] using e
theorem xor_cancel_l {a b c : Nat} (h : c ^^^ a = c ^^^ b) : a = b := by
  rw [Nat.xor_comm c a, Nat.xor_comm c b] at h; exact xor_cancel_r h
theorem xor_ones (w a : Nat) (h : a < 2 ^ w) : (2 ^ w - 1) ^^^ a = 2 ^ w - 1 - a := by
  apply Nat.eq_of_testBit_eq
  intro i
  rw [show 2 ^ w - 1 - a = 2 ^ w - (a + 1) by omega, Nat.testBit_two_pow_sub_succ h, Nat.testBit_xor, Nat.testBit_two_pow_sub_one]
  by_cases hi : i < w
  · simp [hi]
  · have : a.testBit i = false := Nat.testBit_lt_two_pow (Nat.lt_of_lt_of_le h (Nat.pow_le_pow_right (by omega) (by omega)))
    simp [hi, this]
theorem u64_not (a : Nat) (h : a < 18446744073709551616) : bits .xor .u64 (18446744073709551615 : Int) (a : Int) = ((18446744073709551615 - a : Nat) : Int) := by
  have e := u64_xor_nat 18446744073709551615 a (by omega) h
  have x := xor_ones 64 a h
  rw [show (18446744073709551615 : Nat) ^^^ a = 18446744073709551615 - a from x] at e
  exact e
theorem u32_not (a : Nat) (h : a < 4294967296) : bits .xor .u32 (4294967295 : Int) (a : Int) = ((4294967295 - a : Nat) : Int) := by
  have e := u32_xor_nat 4294967295 a (by omega) h
  have x := xor_ones 32 a h
  rw [show (4294967295 : Nat) ^^^ a = 4294967295 - a from x] at e
  exact e

-- The sum.
def tabL : List Nat := [0, 274646895, 549293790, 820201905, 1098587580, 1361435347, 1640403810, 1905808397, 2197175160, 2460548119, 2722870694, 2987750089, 3280807620, 3553878443, 3811616794, 4084100981]
def tabF (i : Nat) : Nat := tabL.getD i 0
def nib (s : Nat) : Nat := (s / 16) ^^^ tabF (s % 16)
def stepB (s b : Nat) : Nat := nib (nib (s ^^^ b))
def sumL (s : Nat) (l : List UInt8) : Nat := l.foldl (fun s b => stepB s b.toNat) s

theorem tabF_lt (i : Nat) (h : i < 16) : tabF i < 4294967296 := by
  have : ∀ i : Fin 16, tabF i.val < 4294967296 := by decide +kernel
  exact this ⟨i, h⟩
theorem tabF_top (i : Nat) (h : i < 16) : tabF i / 268435456 = i := by
  have : ∀ i : Fin 16, tabF i.val / 268435456 = i.val := by decide +kernel
  exact this ⟨i, h⟩
theorem nib_lt {s : Nat} (h : s < 4294967296) : nib s < 4294967296 := by
  unfold nib
  exact Nat.xor_lt_two_pow (n := 32) (by omega) (tabF_lt _ (by omega))
theorem stepB_lt {s b : Nat} (h : s < 4294967296) (hb : b < 256) : stepB s b < 4294967296 :=
  nib_lt (nib_lt (Nat.xor_lt_two_pow (n := 32) h (by omega)))
theorem sumL_lt {s : Nat} (l : List UInt8) (h : s < 4294967296) : sumL s l < 4294967296 := by
  induction l generalizing s with
  | nil => exact h
  | cons b t ih => exact ih (stepB_lt h b.toNat_lt)
theorem sumL_append (s : Nat) (a b : List UInt8) : sumL s (a ++ b) = sumL (sumL s a) b := by unfold sumL; rw [List.foldl_append]
theorem sumL_snoc (s : Nat) (l : List UInt8) (b : UInt8) : sumL s (l ++ [b]) = stepB (sumL s l) b.toNat := by rw [sumL_append]; rfl
theorem sumL_cons (s : Nat) (b : UInt8) (l : List UInt8) : sumL s (b :: l) = sumL (stepB s b.toNat) l := rfl

theorem nib_top {s : Nat} (h : s < 4294967296) : nib s / 268435456 = s % 16 := by
  have e : nib s / 2 ^ 28 = (s / 16) / 2 ^ 28 ^^^ tabF (s % 16) / 2 ^ 28 := by unfold nib; exact Nat.xor_div_two_pow
  have t := tabF_top (s % 16) (by omega)
  rw [show (268435456 : Nat) = 2 ^ 28 from rfl] at t ⊢
  rw [e, t, Nat.div_eq_of_lt (by omega), Nat.zero_xor]
theorem nib_inj {s t : Nat} (hs : s < 4294967296) (ht : t < 4294967296) (h : nib s = nib t) : s = t := by
  have a := nib_top hs; have b := nib_top ht
  rw [h] at a
  have c : s % 16 = t % 16 := by omega
  unfold nib at h
  rw [c] at h
  have d := xor_cancel_r h
  omega
theorem stepB_inj {s t b c : Nat} (hs : s < 4294967296) (ht : t < 4294967296) (hb : b < 256) (hc : c < 256) (h : stepB s b = stepB t c) : s ^^^ b = t ^^^ c := by
  have x1 := Nat.xor_lt_two_pow (n := 32) hs (by omega : b < 2 ^ 32)
  have x2 := Nat.xor_lt_two_pow (n := 32) ht (by omega : c < 2 ^ 32)
  exact nib_inj x1 x2 (nib_inj (nib_lt x1) (nib_lt x2) h)
/-- Sums that are unlike stay unlike. -/
theorem sumL_inj {s t : Nat} (l : List UInt8) (hs : s < 4294967296) (ht : t < 4294967296) (h : sumL s l = sumL t l) : s = t := by
  induction l generalizing s t with
  | nil => exact h
  | cons b r ih =>
    have e := ih (stepB_lt hs b.toNat_lt) (stepB_lt ht b.toNat_lt) h
    exact xor_cancel_r (stepB_inj hs ht b.toNat_lt b.toNat_lt e)
/-- One byte that is another one makes another sum. -/
theorem sumL_byte {s : Nat} (a r : List UInt8) {b c : UInt8} (hs : s < 4294967296) (hbc : b ≠ c) : sumL s (a ++ b :: r) ≠ sumL s (a ++ c :: r) := by
  intro h
  rw [sumL_append, sumL_append, sumL_cons, sumL_cons] at h
  have la := sumL_lt a hs
  have e := sumL_inj r (stepB_lt la b.toNat_lt) (stepB_lt la c.toNat_lt) h
  have x := stepB_inj la la b.toNat_lt c.toNat_lt e
  exact hbc (UInt8.toNat_inj.1 (xor_cancel_l x))
theorem sumL_noughts (n : Nat) : sumL 4294967295 (List.replicate n 0) ≠ sumL 4294967295 (List.replicate (n + 1) 0) := by
  intro h
  rw [List.replicate_succ, sumL_cons] at h
  have := sumL_inj _ (by omega) (stepB_lt (by omega) (by decide)) h
  exact absurd this (by decide +kernel)
end Go.Proofs.YtdmckgcbmbhmmaaGreatDoor
namespace Go.Proofs.YtdmckgcbmbhmmaaGreatDoor

/-- The bytes ahead of the last one. -/
def hiF : Nat → Nat → List UInt8
  | 0, _ => []
  | f + 1, u => if u = 0 then [] else hiF f (u / 128) ++ [UInt8.ofNat (u % 128 + 128)]
theorem hiF_more (f u : Nat) (h : u ≤ f) : hiF f u = hiF u u := by
  induction f using Nat.strongRecOn generalizing u with
  | ind f ih =>
    cases f with
    | zero => obtain rfl : u = 0 := by omega
              rfl
    | succ f =>
      cases u with
      | zero => rfl
      | succ u =>
        rw [hiF, hiF, if_neg (by omega), if_neg (by omega), ih f (by omega) ((u + 1) / 128) (by omega)]
        by_cases hfu : u = f
        · rw [hfu, ih f (by omega) ((f + 1) / 128) (by omega)]
        · rw [ih u (by omega) ((u + 1) / 128) (by omega)]
def hiB (u : Nat) : List UInt8 := hiF u u
/-- A number's bytes. -/
def numB (u : Nat) : List UInt8 := hiB (u / 128) ++ [UInt8.ofNat (u % 128)]
theorem hiB_zero : hiB 0 = [] := rfl
theorem hiB_step {u : Nat} (h : u ≠ 0) : hiB u = hiB (u / 128) ++ [UInt8.ofNat (u % 128 + 128)] := by
  obtain ⟨k, rfl⟩ : ∃ k, u = k + 1 := ⟨u - 1, by omega⟩
  unfold hiB
  rw [hiF, if_neg (by omega), hiF_more k ((k + 1) / 128) (by omega)]

theorem bitLen_spec (x : Nat) (hx : x < 2 ^ 64) : x < 2 ^ Lib.bitLen x ∧ (x ≠ 0 → 2 ^ (Lib.bitLen x - 1) ≤ x) := by
  induction x using Nat.strongRecOn with
  | ind x ih =>
    by_cases h0 : x = 0
    · subst h0; refine ⟨by decide, fun h => absurd rfl h⟩
    · obtain ⟨a, b⟩ := ih (x / 2) (by omega) (by omega)
      rw [Lib.bitLen_half x h0 hx]
      by_cases h1 : x / 2 = 0
      · rw [h1, show Lib.bitLen 0 = 0 by decide]; refine ⟨by omega, fun _ => by omega⟩
      · have b' := b h1
        generalize Lib.bitLen (x / 2) = k at *
        rw [show 1 + k = k + 1 by omega, Nat.pow_succ]
        refine ⟨by omega, fun _ => ?_⟩
        rw [Nat.add_sub_cancel]
        rcases Nat.eq_zero_or_pos k with hk | hk
        · subst hk; simp at a; omega
        · obtain ⟨j, rfl⟩ : ∃ j, k = j + 1 := ⟨k - 1, by omega⟩
          rw [Nat.add_sub_cancel] at b'
          rw [Nat.pow_succ]; omega
/-- How many groups of seven bits. -/
def grps (u : Nat) : Nat := max 1 ((Lib.bitLen u + 6) / 7)
theorem bitLen_le64 {u : Nat} (h : u < 2 ^ 64) : Lib.bitLen u ≤ 64 := Lib.bitLen_le u 64 (by omega) h
theorem grps_le {u : Nat} (h : u < 2 ^ 64) : 1 ≤ grps u ∧ grps u ≤ 10 := by have := bitLen_le64 h; unfold grps; omega
theorem pow128 (g : Nat) : 128 ^ g = 2 ^ (7 * g) := by rw [Nat.pow_mul]
theorem grps_top {u : Nat} (h : u < 2 ^ 64) : u / 128 ^ grps u = 0 := by
  refine Nat.div_eq_of_lt ?_
  rw [pow128]
  refine Nat.lt_of_lt_of_le (bitLen_spec u h).1 (Nat.pow_le_pow_right (by omega) ?_)
  unfold grps; omega
theorem grps_in {u g : Nat} (h : u < 2 ^ 64) (h1 : 1 ≤ g) (h2 : g < grps u) : u / 128 ^ g ≠ 0 := by
  have hu : u ≠ 0 := by
    intro e; subst e; unfold grps at h2; rw [show Lib.bitLen 0 = 0 by decide] at h2; omega
  have b := (bitLen_spec u h).2 hu
  have : 128 ^ g ≤ u := by
    rw [pow128]
    refine Nat.le_trans (Nat.pow_le_pow_right (by omega) ?_) b
    unfold grps at h2; omega
  have := Nat.div_pos this (Nat.pow_pos (by omega))
  omega
theorem hiB_round {u g : Nat} (h : u < 2 ^ 64) (h1 : 1 ≤ g) (h2 : g < grps u) : hiB (u / 128 ^ g) = hiB (u / 128 ^ (g + 1)) ++ [UInt8.ofNat (u / 128 ^ g % 128 + 128)] := by
  rw [hiB_step (grps_in h h1 h2), Nat.div_div_eq_div_mul, Nat.pow_succ]
theorem hiB_length {u : Nat} (k : Nat) (h : u < 128 ^ k) : (hiB u).length ≤ k := by
  induction k generalizing u with
  | zero => obtain rfl : u = 0 := by simpa using h
            rw [hiB_zero]; exact Nat.zero_le _
  | succ k ih =>
    by_cases h0 : u = 0
    · subst h0; rw [hiB_zero]; exact Nat.zero_le _
    · rw [hiB_step h0, List.length_append]
      have := ih (u := u / 128) (by rw [Nat.pow_succ] at h; exact Nat.div_lt_of_lt_mul (by rw [Nat.mul_comm]; exact h))
      simp only [List.length_cons, List.length_nil]; omega
theorem numB_length {u : Nat} (h : u < 2 ^ 64) : 1 ≤ (numB u).length ∧ (numB u).length ≤ 10 := by
  unfold numB
  have := hiB_length (u := u / 128) 9 (Nat.div_lt_of_lt_mul (Nat.lt_of_lt_of_le h (by decide)))
  rw [List.length_append]; simp only [List.length_cons, List.length_nil]; omega
/-- A group's byte in the walk's own form. -/
theorem byte_hi (q : Nat) : bits .or .u8 (bits .and .u8 ((q % 256 : Nat) : Int) 127) 128 = ((q % 128 + 128 : Nat) : Int) := by
  have a := u8_and_nat (q % 256) 127 (by omega) (by omega)
  rw [nat_mask7] at a
  rw [show ((127 : Nat) : Int) = 127 from rfl] at a
  rw [a]
  have o := u8_or_nat 128 (q % 256 % 128) (by omega) (by omega)
  have c := u8_or_nat (q % 256 % 128) 128 (by omega) (by omega)
  rw [Nat.or_comm, nat_join 7 128 (q % 256 % 128) (by decide) (by omega)] at c
  rw [show ((128 : Nat) : Int) = 128 from rfl] at c
  rw [c]; congr 1; omega
theorem byte_lo (q : Nat) : bits .and .u8 ((q % 256 : Nat) : Int) 127 = ((q % 128 : Nat) : Int) := by
  have a := u8_and_nat (q % 256) 127 (by omega) (by omega)
  rw [nat_mask7] at a
  rw [show ((127 : Nat) : Int) = 127 from rfl] at a
  rw [a]; congr 1; omega
end Go.Proofs.YtdmckgcbmbhmmaaGreatDoor
namespace Go.Proofs.YtdmckgcbmbhmmaaGreatDoor
open Go.RowKit
def TabW (w : World) : Prop := 0 < w.heap.size ∧ ∀ i, i < 16 → w.cell? ⟨0, i, none⟩ = some (.int .u32 ((tabF i : Nat) : Int))
/-- What one byte does to the sum, in the walk's own forms. -/
theorem sum_parts (S c : Nat) (hS : S < 4294967296) (hc : c < 256) : ∃ X r T Y r2 T2 : Nat, X < 4294967296 ∧ r < 16 ∧ Y < 4294967296 ∧ r2 < 16 ∧
    bits .xor .u32 (S : Int) ((c : Int) % 4294967296) = (X : Int) ∧ bits .and .u32 (X : Int) 15 = (r : Int) ∧ tabF r = T ∧ bits .xor .u32 ((X : Int) / 16) (T : Int) = (Y : Int) ∧
    bits .and .u32 (Y : Int) 15 = (r2 : Int) ∧ tabF r2 = T2 ∧ bits .xor .u32 ((Y : Int) / 16) (T2 : Int) = ((stepB S c : Nat) : Int) := by
  have x1 := Nat.xor_lt_two_pow (n := 32) hS (by omega : c < 2 ^ 32)
  have x2 := nib_lt x1
  refine ⟨S ^^^ c, (S ^^^ c) % 16, _, nib (S ^^^ c), nib (S ^^^ c) % 16, _, x1, by omega, x2, by omega, ?_, ?_, rfl, ?_, ?_, rfl, ?_⟩
  · rw [show ((c : Int) % 4294967296) = (c : Int) by omega]; exact u32_xor_nat S c hS (by omega)
  · have := u32_and_nat (S ^^^ c) 15 x1 (by omega); rw [nat_mask4] at this; exact this
  · have := u32_xor_nat ((S ^^^ c) / 16) (tabF ((S ^^^ c) % 16)) (by omega) (tabF_lt _ (by omega))
    rw [show (((S ^^^ c : Nat) : Int) / 16) = (((S ^^^ c) / 16 : Nat) : Int) by omega]; exact this
  · have := u32_and_nat (nib (S ^^^ c)) 15 x2 (by omega); rw [nat_mask4] at this; exact this
  · have := u32_xor_nat (nib (S ^^^ c) / 16) (tabF (nib (S ^^^ c) % 16)) (by omega) (tabF_lt _ (by omega))
    rw [show ((nib (S ^^^ c) : Nat) : Int) / 16 = ((nib (S ^^^ c) / 16 : Nat) : Int) by omega]; exact this
set_option maxHeartbeats 400000 in
theorem sumOn_any (s : Nat) (b : ByteArray) (w : World) (hs : s < 4294967296) (hb : b.size ≤ maxLen) (hT : TabW w) :
    Calls Tryz.prog 93 #[.int .u32 (s : Int), .string b] w fun e w' => e = .returned (.int .u32 (sumL s b.data.toList : Nat)) ∧ w' = w := by
  unfold maxLen at hb
  obtain ⟨_, hT⟩ := hT
  have HT := hide hT
  clear hT
  go_enter Tryz.func93, Tryz.ntmps93
  go_wp2
  go_loop [0, 5] (fun n i => ∃ k : Nat, k ≤ b.size ∧ i = .int .i64 k ∧ n = .int .u32 ((sumL s (b.data.toList.take k) : Nat) : Int)) (fun _ i => b.size - (intOf i).toNat)
  case atStart => exact ⟨0, Nat.zero_le _, rfl, rfl⟩
  case round =>
    obtain ⟨k, hk, rfl, rfl⟩ := hrel
    by_cases hlt : k < b.size
    · have HN : Hid (sumL s (b.data.toList.take (k + 1)) = stepB (sumL s (b.data.toList.take k)) (b[k]).toNat) := by rw [take_snoc b k hlt, sumL_snoc]; exact rfl
      have hS := sumL_lt (b.data.toList.take k) hs
      generalize hSe : sumL s (b.data.toList.take k) = S at *
      have HS := hide hSe
      clear hSe
      obtain ⟨X, r, T, Y, r2, T2, hX, hr, hY, hr2, e1, e2, e3, e4, e5, e6, e7⟩ := sum_parts S (b[k]).toNat hS (b[k]).toNat_lt
      have c1 := unhide HT r hr
      have c2 := unhide HT r2 hr2
      rw [e3] at c1
      rw [e6] at c2
      clear e3 e6
      go_wp2
      go_round
      case rel => exact ⟨k + 1, by omega, by go_num, by rw [HN.out]⟩
      case measure => simp [intOf]; omega
    · go_wp2
      go_ret
      exact ⟨ret_int (by rw [List.take_of_length_le (by simp; omega)]), rfl⟩
theorem TabW.below {B : Nat} {w w' : World} (h : TabW w) (hb : Below B w w') (hB : 0 < B) : TabW w' :=
  ⟨Nat.lt_of_lt_of_le h.1 hb.size, fun i hi => (hb.cell (p := ⟨0, i, none⟩) hB).trans (h.2 i hi)⟩
/-- The sum of bytes. -/
def sumOf (l : List UInt8) : Nat := 4294967295 - sumL 4294967295 l
theorem sumOf_lt (l : List UInt8) : sumOf l < 4294967296 := by unfold sumOf; omega
theorem sumOf_inj {a b : List UInt8} (h : sumOf a = sumOf b) : sumL 4294967295 a = sumL 4294967295 b := by
  have := sumL_lt (s := 4294967295) a (by omega); have := sumL_lt (s := 4294967295) b (by omega)
  unfold sumOf at h; omega
end Go.Proofs.YtdmckgcbmbhmmaaGreatDoor
namespace Go.Proofs.YtdmckgcbmbhmmaaGreatDoor
open Go.RowKit

theorem gTab : Tryz.prog.globalNamed "weaver/pack.sumNibbles" = some 0 := by kernel_rfl
theorem gTabT : (Tryz.prog.globals[0]?).map (·.type) = some 161 := by kernel_rfl
theorem cellsT16 : Tryz.prog.cellsOf 161 = 16 := by kernel_rfl
theorem cellsU32 : Tryz.prog.cellsOf 108 = 1 := by kernel_rfl
def nibI : List Int := [0, 274646895, 549293790, 820201905, 1098587580, 1361435347, 1640403810, 1905808397, 2197175160, 2460548119, 2722870694, 2987750089, 3280807620, 3553878443, 3811616794, 4084100981]
def dbI : List Int := [0, 1, 56, 2, 57, 49, 28, 3, 61, 58, 42, 50, 38, 29, 17, 4, 62, 47, 59, 36, 45, 43, 51, 22, 53, 39, 33, 30, 24, 18, 12, 5, 63, 55, 48, 27, 60, 41, 37, 16, 46, 35, 44, 21, 52, 32, 23, 11, 54, 26, 40, 15, 34, 20, 31, 10, 25, 14, 19, 9, 13, 8, 7, 6]
theorem nibI_get : ∀ i : Fin 16, nibI.getD i.val 0 = ((tabF i.val : Nat) : Int) := by decide +kernel
/-- The row's list. -/
def laidL : List (String × DataW Unit) := [("math/bits.deBruijn32tab", Rows.laid_math_bits_deBruijn32tab), ("math/bits.deBruijn64tab", Rows.laid_math_bits_deBruijn64tab), ("internal/strconv.uint64pow10", Rows.laid_internal_strconv_uint64pow10), ("weaver/pack.sumNibbles", Rows.laid_weaver_pack_sumNibbles)]
theorem tbS {W : World} (h0 : laidMetH Tryz.prog laidL W) : TabW W := by
  have h : laidMet Tryz.prog laidL W := h0
  have t3 := h.tail.tail.tail
  have htb : Lib.TabIs Tryz.prog W "weaver/pack.sumNibbles" .u32 nibI := Lib.tabIs_of_head gTab gTabT Tryz.underlying161 Tryz.underlying108 cellsU32 cellsT16 t3
  have hc := fun i hi => htb.cell gTab i hi
  refine ⟨?_, fun i hi => ?_⟩
  · exact World.block_lt_of_cell? _ _ (hc 0 (by decide))
  · rw [hc i hi, nibI_get ⟨i, hi⟩]
/-! The settled world: the variables hold what their initialisers lay. -/
def cellsPut (cs : Array Value) : Obj → Obj
  | .cells _ t f => .cells cs t f
  | o => o
def db32V : Array Value := #[.int .u8 0, .int .u8 1, .int .u8 28, .int .u8 2, .int .u8 29, .int .u8 14, .int .u8 24, .int .u8 3, .int .u8 30, .int .u8 22, .int .u8 20, .int .u8 15, .int .u8 25, .int .u8 17, .int .u8 4, .int .u8 8, .int .u8 31, .int .u8 27, .int .u8 13, .int .u8 23, .int .u8 21, .int .u8 19, .int .u8 16, .int .u8 7, .int .u8 26, .int .u8 12, .int .u8 18, .int .u8 6, .int .u8 11, .int .u8 5, .int .u8 10, .int .u8 9]
def db64V : Array Value := (dbI.map fun z => Value.int .u8 z).toArray
def powV : Array Value := (([1, 10, 100, 1000, 10000, 100000, 1000000, 10000000, 100000000, 1000000000, 10000000000, 100000000000, 1000000000000, 10000000000000, 100000000000000, 1000000000000000, 10000000000000000, 100000000000000000, 1000000000000000000, 10000000000000000000] : List Int).map fun z => Value.int .u64 z).toArray
def nibV : Array Value := (nibI.map fun z => Value.int .u32 z).toArray
def putS (h : Array Obj) : Array Obj := (((h.modify 0 (cellsPut nibV)).modify 1 (cellsPut powV)).modify 2 (cellsPut db32V)).modify 3 (cellsPut db64V)
end Go.Proofs.YtdmckgcbmbhmmaaGreatDoor
namespace Go.Proofs.YtdmckgcbmbhmmaaGreatDoor
open Go.RowKit
theorem u64_neg {n : Int} (h0 : n < 0) (h1 : -18446744073709551616 ≤ n) : IntKind.u64.wrap n = n + 18446744073709551616 := by rw [IntKind.wrap_u64]; omega
set_option maxHeartbeats 400000 in
theorem fold_any (n : Int) (w : World) (h0 : -9223372036854775808 ≤ n) (h1 : n < 9223372036854775808) :
    Calls Tryz.prog 149 #[.int .i64 n] w fun e w' => e = .returned (.int .u64 (zig n : Nat)) ∧ w' = w := by
  by_cases hn : n < 0
  · go_enter Tryz.func149, Tryz.ntmps149
    go_wp2
    all_goals go_ret
    all_goals refine ⟨ret_int ?_, rfl⟩
    all_goals
      have e := zig_neg hn
      rw [u64_neg hn (by omega), IntKind.wrap_u64]
      have x := u64_not (((n + 18446744073709551616) * 2 % 18446744073709551616).toNat) (by omega)
      rw [Int.toNat_of_nonneg (by omega)] at x
      rw [show IntKind.u64.max = 18446744073709551615 from rfl, x]
      omega
  · have hn' : 0 ≤ n := by omega
    go_enter Tryz.func149, Tryz.ntmps149
    go_wp2
    go_ret
    exact ⟨ret_int (by rw [zig_pos hn']; omega), rfl⟩
theorem and1 (u : Nat) (h : u < 18446744073709551616) : bits .and .u64 (u : Int) 1 = ((u % 2 : Nat) : Int) := by
  have := u64_and_nat u 1 h (by omega)
  rw [nat_mask1] at this
  exact this
set_option maxHeartbeats 400000 in
theorem unfold_any (u : Nat) (w : World) (h1 : u < 18446744073709551616) :
    Calls Tryz.prog 144 #[.int .u64 (u : Int)] w fun e w' => e = .returned (.int .i64 (unzig u)) ∧ w' = w := by
  have ha := and1 u h1
  by_cases hu : u % 2 = 1
  · have hb : (bits .and .u64 (u : Int) 1 == 1) = true := by rw [ha, hu]; rfl
    clear ha
    go_enter Tryz.func144, Tryz.ntmps144
    go_wp2
    all_goals go_ret
    all_goals refine ⟨ret_int ?_, rfl⟩
    all_goals
      have x := i64_not (u / 2) (by omega)
      unfold unzig
      rw [if_pos hu]
      rw [show ((u : Int) / 2) = ((u / 2 : Nat) : Int) by omega, x]
      omega
  · have hb : (bits .and .u64 (u : Int) 1 == 1) = false := by rw [ha, show u % 2 = 0 by omega]; rfl
    clear ha
    go_enter Tryz.func144, Tryz.ntmps144
    go_wp2
    go_ret
    exact ⟨ret_int (by unfold unzig; rw [if_neg hu]; omega), rfl⟩

end Go.Proofs.YtdmckgcbmbhmmaaGreatDoor
