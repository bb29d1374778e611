/-
  The document's sum, bit by bit, is the sum by the table.
-/
import Derived.Test.YtbbmacpjgflndaaDoorLeaf
namespace Go.Proofs.YtbbmacpjgflndaaDoor
open Go.RowKit

/-- One bit. -/
def bitS (s : Nat) : Nat := (s / 2) ^^^ (if s % 2 = 1 then 2197175160 else 0)
def bitN : Nat → Nat → Nat
  | 0, s => s
  | k + 1, s => bitS (bitN k s)
theorem bitS_lt {s : Nat} (h : s < 4294967296) : bitS s < 4294967296 := by
  unfold bitS
  exact Nat.xor_lt_two_pow (n := 32) (by omega) (by split <;> decide)
theorem bitN_lt (k : Nat) {s : Nat} (h : s < 4294967296) : bitN k s < 4294967296 := by
  induction k with
  | zero => exact h
  | succ k ih => exact bitS_lt ih
theorem bitS_xor (x y : Nat) : bitS (x ^^^ y) = bitS x ^^^ bitS y := by
  unfold bitS
  have h2 : (x ^^^ y) / 2 = x / 2 ^^^ y / 2 := Nat.xor_div_two_pow (n := 1)
  have hm : (x ^^^ y) % 2 = x % 2 ^^^ y % 2 := Nat.xor_mod_two_pow (n := 1)
  rw [h2, hm]
  rcases (by omega : x % 2 = 0 ∨ x % 2 = 1) with hx | hx <;> rcases (by omega : y % 2 = 0 ∨ y % 2 = 1) with hy | hy
  · rw [hx, hy]; simp
  · rw [hx, hy]; simp [Nat.xor_assoc]
  · rw [hx, hy]
    simp only [show (1 : Nat) ^^^ 0 = 1 from rfl, if_true]
    rw [if_neg (by decide), Nat.xor_zero, Nat.xor_assoc, Nat.xor_assoc, Nat.xor_comm (y / 2)]
  · rw [hx, hy]
    simp only [show (1 : Nat) ^^^ 1 = 0 from rfl, if_true]
    rw [if_neg (by decide), Nat.xor_zero, Nat.xor_assoc, ← Nat.xor_assoc 2197175160, Nat.xor_comm 2197175160 (y / 2), Nat.xor_assoc, Nat.xor_self, Nat.xor_zero]
theorem bitN_xor (k x y : Nat) : bitN k (x ^^^ y) = bitN k x ^^^ bitN k y := by
  induction k with
  | zero => rfl
  | succ k ih => show bitS (bitN k (x ^^^ y)) = _; rw [ih, bitS_xor]; rfl
theorem bitS_even (h : Nat) : bitS (2 * h) = h := by
  unfold bitS; rw [if_neg (by omega), Nat.xor_zero]; omega
theorem bitN4_16 (h : Nat) : bitN 4 (16 * h) = h := by
  show bitS (bitS (bitS (bitS (16 * h)))) = h
  rw [show 16 * h = 2 * (2 * (2 * (2 * h))) by omega, bitS_even, bitS_even, bitS_even, bitS_even]
theorem split16 (s : Nat) : s = (16 * (s / 16)) ^^^ (s % 16) := by
  apply Nat.eq_of_testBit_eq
  intro i
  rw [Nat.testBit_xor, show s % 16 = s % 2 ^ 4 from rfl, Nat.testBit_mod_two_pow, show 16 * (s / 16) = (s / 2 ^ 4) * 2 ^ 4 by omega, ← Nat.shiftLeft_eq, ← Nat.shiftRight_eq_div_pow, Nat.testBit_shiftLeft, Nat.testBit_shiftRight]
  by_cases h : 4 ≤ i
  · rw [show 4 + (i - 4) = i by omega]; simp [h, show ¬ i < 4 by omega]
  · simp [h, show i < 4 by omega]
theorem bitN4_low (r : Nat) (h : r < 16) : bitN 4 r = tabF r := by
  have : ∀ r : Fin 16, bitN 4 r.val = tabF r.val := by decide +kernel
  exact this ⟨r, h⟩
theorem bitN4 (s : Nat) : bitN 4 s = nib s := by
  have e := split16 s
  unfold nib
  conv => lhs; rw [e]
  rw [bitN_xor, bitN4_16, bitN4_low _ (by omega)]
theorem bitN_add (a b s : Nat) : bitN (a + b) s = bitN a (bitN b s) := by
  induction a with
  | zero => rw [Nat.zero_add]; rfl
  | succ a ih => rw [show a + 1 + b = (a + b) + 1 by omega]; show bitS (bitN (a + b) s) = bitS (bitN a (bitN b s)); rw [ih]
theorem bitN8 (s c : Nat) : bitN 8 (s ^^^ c) = stepB s c := by
  unfold stepB
  rw [show 8 = 4 + 4 from rfl, bitN_add, bitN4, bitN4]
theorem bit_one (S : Nat) (h : S < 4294967296) (h1 : S % 2 = 1) : bits .xor .u32 ((S : Int) / 2) 2197175160 = ((bitS S : Nat) : Int) := by
  have := u32_xor_nat (S / 2) 2197175160 (by omega) (by decide)
  unfold bitS
  rw [if_pos h1, ← this]
  congr 1
theorem bit_none (S : Nat) (h1 : ¬ S % 2 = 1) : ((S : Int) / 2) = ((bitS S : Nat) : Int) := by
  unfold bitS
  rw [if_neg h1, Nat.xor_zero]; omega
set_option maxHeartbeats 1000000 in
theorem refSum_any (b : ByteArray) (w : World) (hb : b.size ≤ 9223372036854775807) :
    Calls Tryd.prog 25 #[.string b] w fun e w' => e = .returned (.int .u32 (sumOf b.data.toList : Nat)) ∧ w' = w := by
  go_enter Tryd.func25, Tryd.ntmps25
  go_wp2
  go_loop [3, 4] (fun n i => ∃ k S : Nat, k ≤ b.size ∧ i = .int .i64 (k : Int) ∧ n = .int .u32 (S : Int) ∧ S < 4294967296 ∧ Hid (sumL 4294967295 (b.data.toList.take k) = S)) (fun _ i => b.size - (intOf i).toNat)
  case atStart => exact ⟨0, 4294967295, Nat.zero_le _, rfl, rfl, by decide, hide rfl⟩
  case round =>
    obtain ⟨k, S, hk, rfl, rfl, hS, HS⟩ := hrel
    by_cases hlt : k < b.size
    · have hN : sumL 4294967295 (b.data.toList.take (k + 1)) = bitN 8 (S ^^^ (b[k]).toNat) := by rw [take_snoc b k hlt, sumL_snoc, unhide HS, bitN8]
      have hX := Nat.xor_lt_two_pow (n := 32) hS (show (b[k]).toNat < 2 ^ 32 from Nat.lt_of_lt_of_le (b[k]).toNat_lt (by decide))
      have eX : bits .xor .u32 (S : Int) (((b[k]).toNat : Int) % 4294967296) = ((S ^^^ (b[k]).toNat : Nat) : Int) := by
        rw [show (((b[k]).toNat : Int) % 4294967296) = ((b[k]).toNat : Int) by have := (b[k]).toNat_lt; omega]
        exact u32_xor_nat S _ hS (by have := (b[k]).toNat_lt; omega)
      generalize S ^^^ (b[k]).toNat = X at *
      have HN := hide hN
      clear hN HS
      go_wp2
      go_loop [3, 5] (fun n j => ∃ q Y : Nat, q ≤ 8 ∧ j = .int .i64 (q : Int) ∧ n = .int .u32 (Y : Int) ∧ Y < 4294967296 ∧ Hid (bitN q X = Y)) (fun _ j => 8 - (intOf j).toNat)
      case atStart => exact ⟨0, X, by decide, rfl, rfl, hX, hide rfl⟩
      case round =>
        obtain ⟨q, Y, hq, rfl, rfl, hY, HY⟩ := hrel
        by_cases hq8 : q < 8
        · have hnx : bitN (q + 1) X = bitS Y := by show bitS (bitN q X) = _; rw [unhide HY]
          have hlt2 := bitS_lt hY
          by_cases hodd : Y % 2 = 1
          · have e1 := bit_one Y hY hodd
            have g : (((Y : Int) % 2) == 1) = true := beq_iff_eq.2 (by omega)
            have HNX := hide hnx
            clear hnx HY
            generalize bitS Y = Z at *
            go_wp2
            go_round
            case rel => exact ⟨q + 1, Z, by omega, by go_num, rfl, hlt2, HNX⟩
            case measure => simp [intOf]; omega
          · have e1 := bit_none Y hodd
            have g : (((Y : Int) % 2) == 1) = false := beq_eq_false_iff_ne.2 (by omega)
            have HNX := hide hnx
            clear hnx HY
            generalize bitS Y = Z at *
            go_wp2
            go_round
            case rel => exact ⟨q + 1, Z, by omega, by go_num, rfl, hlt2, HNX⟩
            case measure => simp [intOf]; omega
        · obtain rfl : q = 8 := by omega
          go_wp2
          go_round
          case rel => exact ⟨k + 1, Y, by omega, by go_num, rfl, hY, hide (by rw [unhide HN, unhide HY])⟩
          case measure => simp [intOf]; omega
    · have hfin : ((sumOf b.data.toList : Nat) : Int) = ((4294967295 - S : Nat) : Int) := by
        unfold sumOf
        have := unhide HS
        rw [List.take_of_length_le (by simp; omega)] at this
        rw [this]
      have hn : bits .xor .u32 (S : Int) 4294967295 = ((4294967295 - S : Nat) : Int) := by
        have e := u32_xor_nat S 4294967295 hS (by omega)
        rw [Nat.xor_comm, show (4294967295 : Nat) ^^^ S = 4294967295 - S from xor_ones 32 S hS] at e
        exact e
      have HF := hide hfin
      clear hfin HS
      go_wp2
      all_goals go_ret
      all_goals exact ⟨ret_int (by rw [unhide HF]), rfl⟩
end Go.Proofs.YtbbmacpjgflndaaDoor
