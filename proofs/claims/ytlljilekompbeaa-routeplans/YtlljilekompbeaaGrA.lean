/-
  A group: the hash of a key; may there be so many groups and tasks; stretches and owners.
-/
import Derived.Test.YtlljilekompbeaaChecked
import Derived.Test.YtlljilekompbeaaOwn
import Derived.Test.YtlljilekompbeaaKp0
import Derived.WalkLawsBesides
import Derived.Deep.QuietTactic
import Derived.BigQuiet
namespace Go.Proofs.Ytlljilekompbeaa
open Go.RowKit

/-- A hash with one byte more. -/
def hshB (n : Nat) (b : UInt8) : Nat := (n ^^^ b.toNat) * 16777619 % 4294967296
/-- The hash of bytes. -/
def hshL (l : List UInt8) : Nat := l.foldl hshB 2166136261
theorem hshB_lt (n : Nat) (b : UInt8) : hshB n b < 4294967296 := Nat.mod_lt _ (by decide)
theorem foldl_snoc {α β : Type} (f : β → α → β) (s : β) (l : List α) (b : α) : (l ++ [b]).foldl f s = f (l.foldl f s) b := by simp
theorem hshL_snoc (l : List UInt8) (b : UInt8) : hshL (l ++ [b]) = hshB (hshL l) b := foldl_snoc hshB 2166136261 l b
theorem hshL_nil : hshL [] = 2166136261 := by unfold hshL; rfl
theorem hshL_lt (l : List UInt8) : hshL l < 4294967296 := by
  rcases List.eq_nil_or_concat l with rfl | ⟨k, b, rfl⟩
  · rw [hshL_nil]; decide
  · rw [List.concat_eq_append, hshL_snoc]; exact hshB_lt _ _
theorem hsh_take (s : ByteArray) (k : Nat) (h : k < s.size) : hshL (s.data.toList.take (k + 1)) = hshB (hshL (s.data.toList.take k)) s[k] := by
  rw [← hshL_snoc]
  congr 1
  have h' : k < s.data.toList.length := by simpa using h
  rw [List.take_succ_eq_append_getElem h']
  rfl
theorem hsh_parts (S : Nat) (b : UInt8) (hS : S < 4294967296) : ∃ X : Nat, X < 4294967296 ∧ bits .xor .u32 (S : Int) (((b.toNat : Nat) : Int) % 4294967296) = (X : Int) ∧ ((X : Int) * 16777619) % 4294967296 = ((hshB S b : Nat) : Int) := by
  have hb := b.toNat_lt
  have x1 := Nat.xor_lt_two_pow (n := 32) hS (by omega : b.toNat < 2 ^ 32)
  refine ⟨S ^^^ b.toNat, x1, ?_, ?_⟩
  · rw [show (((b.toNat : Nat) : Int) % 4294967296) = (b.toNat : Int) by omega]; exact u32_xor_nat S b.toNat hS (by omega)
  · unfold hshB; generalize S ^^^ b.toNat = x; omega
set_option maxHeartbeats 400000 in
theorem hash_any (b : ByteArray) (w : World) (hb : b.size ≤ maxLen) :
    Calls Try.prog 39 #[.string b] w fun e w' => e = .returned (.int .u32 ((hshL b.data.toList : Nat) : Int)) ∧ w' = w := by
  unfold maxLen at hb
  go_enter Try.func39, Try.ntmps39
  go_wp2
  go_loop [3, 7] (fun n i => ∃ k : Nat, k ≤ b.size ∧ i = .int .i64 k ∧ n = .int .u32 ((hshL (b.data.toList.take k) : Nat) : Int)) (fun _ i => b.size - (intOf i).toNat)
  case atStart => exact ⟨0, Nat.zero_le _, rfl, rfl⟩
  case round =>
    obtain ⟨k, hk, rfl, rfl⟩ := hrel
    by_cases hlt : k < b.size
    · have HN := hide (hsh_take b k hlt)
      have hS := hshL_lt (b.data.toList.take k)
      generalize hSe : hshL (b.data.toList.take k) = S at *
      clear hSe
      obtain ⟨X, hX, e1, e2⟩ := hsh_parts S b[k] hS
      go_wp2
      go_round
      case rel => exact ⟨k + 1, by omega, by go_num, by rw [HN.out]; congr 1⟩
      case measure => simp [intOf]; omega
    · go_wp2
      go_ret
      exact ⟨ret_int (by rw [List.take_of_length_le (by simp; omega)]), rfl⟩
/-- May there be so many groups? -/
def mayG (g : Int) : Bool := decide (1 ≤ g ∧ g ≤ 128)
/-- May there be so many groups and tasks? -/
def mayT (g t : Int) : Bool := decide (1 ≤ g ∧ g ≤ 128 ∧ 1 ≤ t ∧ t ≤ g ∧ t ≤ 16)
theorem mayBeGroups_any (g : Int) (w : World) : Calls Try.prog 38 #[.int .i64 g] w fun e w' => e = .returned (.bool (mayG g)) ∧ w' = w := by
  unfold mayG
  go_enter Try.func38, Try.ntmps38
  by_cases h1 : 1 ≤ g
  · by_cases h2 : g ≤ 128
    · go_wp2
      go_ret
      exact ⟨ret_bool (by simp [h1, h2]), rfl⟩
    · go_wp2
      go_ret
      exact ⟨ret_bool (by simp [h2]), rfl⟩
  · go_wp2
    go_ret
    exact ⟨ret_bool (by simp; omega), rfl⟩
theorem mayBeTasks_any (g t : Int) (w : World) : Calls Try.prog 40 #[.int .i64 g, .int .i64 t] w fun e w' => e = .returned (.bool (mayT g t)) ∧ w' = w := by
  have MG := hide (mayBeGroups_any g w)
  unfold mayT
  unfold mayG at MG
  go_enter Try.func40, Try.ntmps40
  go_wp2_with fail
  refine (unhide MG).mono ?_
  rintro r w1 ⟨rfl, rfl⟩
  clear MG
  by_cases h1 : 1 ≤ g ∧ g ≤ 128
  · rw [decide_eq_true h1]
    obtain ⟨h1, h2⟩ := h1
    by_cases h3 : 1 ≤ t
    · have h16 : min g 16 = if g ≤ 16 then g else 16 := by omega
      by_cases h4 : g ≤ 16
      · rw [if_pos h4] at h16
        by_cases h5 : t ≤ g
        · go_wp2
          go_ret
          exact ⟨ret_bool (by simp; omega), rfl⟩
        · go_wp2
          go_ret
          exact ⟨ret_bool (by rw [Bool.eq_iff_iff]; simp; omega), rfl⟩
      · rw [if_neg h4] at h16
        by_cases h5 : t ≤ 16
        · go_wp2
          go_ret
          exact ⟨ret_bool (by simp; omega), rfl⟩
        · go_wp2
          go_ret
          exact ⟨ret_bool (by rw [Bool.eq_iff_iff]; simp; omega), rfl⟩
    · go_wp2
      go_ret
      exact ⟨ret_bool (by simp; omega), rfl⟩
  · rw [decide_eq_false h1]
    go_wp2
    go_ret
    exact ⟨ret_bool (by simp; omega), rfl⟩
end Go.Proofs.Ytlljilekompbeaa
