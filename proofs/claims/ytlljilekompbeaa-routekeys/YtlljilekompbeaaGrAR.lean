/-
  The document's hash; may there be so many groups and tasks, as the document has it.
-/
import Derived.Test.YtlljilekompbeaaGrA
namespace Go.Proofs.Ytlljilekompbeaa
open Go.RowKit

/-- The document's hash: by numbers of 64 bits. -/
theorem hsh_partsR (S : Nat) (b : UInt8) (hS : S < 4294967296) : (IntKind.u64.wrap (bits .xor .u64 (S : Int) (IntKind.u64.wrap ((b.toNat : Nat) : Int)) * 16777619)).tmod 4294967296 = ((hshB S b : Nat) : Int) := by
  have hb := b.toNat_lt
  have x1 := Nat.xor_lt_two_pow (n := 32) hS (by omega : b.toNat < 2 ^ 32)
  rw [IntKind.wrap_u64, IntKind.wrap_u64, show (((b.toNat : Nat) : Int) % 18446744073709551616) = (b.toNat : Int) by omega, u64_xor_nat S b.toNat (by omega) (by omega)]
  unfold hshB
  generalize S ^^^ b.toNat = x at *
  rw [Int.tmod_eq_emod_of_nonneg (by omega)]
  omega
set_option maxHeartbeats 400000 in
theorem refHash_any (b : ByteArray) (w : World) (hb : b.size ≤ maxLen) :
    Calls Try.prog 42 #[.string b] w fun e w' => e = .returned (.int .u32 ((hshL b.data.toList : Nat) : Int)) ∧ w' = w := by
  unfold maxLen at hb
  go_enter Try.func42, Try.ntmps42
  go_wp2
  go_loop [3, 4] (fun n i => ∃ k : Nat, k ≤ b.size ∧ i = .int .i64 k ∧ n = .int .u64 ((hshL (b.data.toList.take k) : Nat) : Int)) (fun _ i => b.size - (intOf i).toNat)
  case atStart => exact ⟨0, Nat.zero_le _, rfl, rfl⟩
  case round =>
    obtain ⟨k, hk, rfl, rfl⟩ := hrel
    by_cases hlt : k < b.size
    · have HN := hide (hsh_take b k hlt)
      have hS := hshL_lt (b.data.toList.take k)
      generalize hSe : hshL (b.data.toList.take k) = S at *
      clear hSe
      have HE := hide (hsh_partsR S b[k] hS)
      go_wp2
      go_round
      case rel => exact ⟨k + 1, by omega, by go_num, by rw [HN.out]; exact congrArg (Value.int .u64) HE.out⟩
      case measure => simp [intOf]; omega
    · have hS := hshL_lt b.data.toList
      rw [List.take_of_length_le (by simp; omega)]
      go_wp2
      go_ret
      exact ⟨ret_int (by omega), rfl⟩
theorem refMay_any (g t : Int) (w : World) : Calls Try.prog 28 #[.int .i64 g, .int .i64 t] w fun e w' => e = .returned (.bool (mayT g t)) ∧ w' = w := by
  unfold mayT
  go_enter Try.func28, Try.ntmps28
  by_cases h1 : 1 ≤ g
  · by_cases h2 : g ≤ 128
    · by_cases h3 : 1 ≤ t
      · by_cases h4 : t ≤ g
        · by_cases h5 : t ≤ 16
          · go_wp2
            go_ret
            exact ⟨ret_bool (by simp; omega), rfl⟩
          · go_wp2
            go_ret
            exact ⟨ret_bool (by simp; omega), rfl⟩
        · go_wp2
          go_ret
          exact ⟨ret_bool (by simp; omega), rfl⟩
      · go_wp2
        go_ret
        exact ⟨ret_bool (by simp; omega), rfl⟩
    · go_wp2
      go_ret
      exact ⟨ret_bool (by simp; omega), rfl⟩
  · go_wp2
    go_ret
    exact ⟨ret_bool (by simp; omega), rfl⟩
end Go.Proofs.Ytlljilekompbeaa
