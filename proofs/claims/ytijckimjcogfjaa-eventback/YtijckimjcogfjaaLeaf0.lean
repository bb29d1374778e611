/-
  The leaves: fold and unfold return what the plain functions say, and leave the world as it was; strings.Clone returns the same bytes.
-/
import Derived.Test.YtijckimjcogfjaaChecked
import Derived.Test.YtijckimjcogfjaaOwn
import Derived.Test.YtijckimjcogfjaaNum
import Derived.Test.YtijckimjcogfjaaShelf
import Derived.WalkLawsBesides
import Derived.Laws.DeepNot64
namespace Go.Proofs.Ytijckimjcogfjaa
open Go.RowKit
theorem u64_neg {n : Int} (h0 : n < 0) (h1 : -18446744073709551616 ≤ n) : IntKind.u64.wrap n = n + 18446744073709551616 := by rw [IntKind.wrap_u64]; omega
set_option maxHeartbeats 400000 in
theorem fold_any (n : Int) (w : World) (h0 : -9223372036854775808 ≤ n) (h1 : n < 9223372036854775808) :
    Calls Try.prog 69 #[.int .i64 n] w fun e w' => e = .returned (.int .u64 (zig n : Nat)) ∧ w' = w := by
  by_cases hn : n < 0
  · go_enter Try.func69, Try.ntmps69
    go_wp2
    all_goals go_ret
    all_goals refine ⟨ret_int ?_, rfl⟩
    all_goals
      have e := zig_neg hn
      rw [u64_neg hn (by omega), IntKind.wrap_u64]
      have x := u64_not (((n + 18446744073709551616) * 2 % 18446744073709551616).toNat) (by omega)
      rw [Int.toNat_of_nonneg (by omega)] at x
      rw [show IntKind.u64.max = 18446744073709551615 from rfl, x]
      omega
  · have hn' : 0 ≤ n := by omega
    go_enter Try.func69, Try.ntmps69
    go_wp2
    go_ret
    exact ⟨ret_int (by rw [zig_pos hn']; omega), rfl⟩
theorem and1 (u : Nat) (h : u < 18446744073709551616) : bits .and .u64 (u : Int) 1 = ((u % 2 : Nat) : Int) := by
  have := u64_and_nat u 1 h (by omega)
  rw [nat_mask1] at this
  exact this
set_option maxHeartbeats 400000 in
theorem unfold_any (u : Nat) (w : World) (h1 : u < 18446744073709551616) :
    Calls Try.prog 76 #[.int .u64 (u : Int)] w fun e w' => e = .returned (.int .i64 (unzig u)) ∧ w' = w := by
  have ha := and1 u h1
  by_cases hu : u % 2 = 1
  · have hb : (bits .and .u64 (u : Int) 1 == 1) = true := by rw [ha, hu]; rfl
    clear ha
    go_enter Try.func76, Try.ntmps76
    go_wp2
    all_goals go_ret
    all_goals refine ⟨ret_int ?_, rfl⟩
    all_goals
      have x := i64_not (u / 2) (by omega)
      unfold unzig
      rw [if_pos hu]
      rw [show ((u : Int) / 2) = ((u / 2 : Nat) : Int) by omega, x]
      omega
  · have hb : (bits .and .u64 (u : Int) 1 == 1) = false := by rw [ha, show u % 2 = 0 by omega]; rfl
    clear ha
    go_enter Try.func76, Try.ntmps76
    go_wp2
    go_ret
    exact ⟨ret_int (by unfold unzig; rw [if_neg hu]; omega), rfl⟩

theorem take_snoc (s : ByteArray) (k : Nat) (h : k < s.size) : s.data.toList.take (k + 1) = s.data.toList.take k ++ [s[k]] := by
  rw [List.take_succ_eq_append_getElem (by simpa using h)]; rfl
set_option maxHeartbeats 400000 in
theorem clone_any (b : ByteArray) (w : World) (hb : b.size ≤ 281474976710656) :
    Calls Try.prog 73 #[.string b] w fun e w' => e = .returned (.string b) ∧ Below w.heap.size w w' := by
  go_enter Try.func73, Try.ntmps73
  go_wp2_with fail
  refine (Try.stringslite_Clone b _ hb).mono ?_
  rintro e w' ⟨rfl, h⟩
  go_wp2
  go_ret
  exact ⟨rfl, h⟩
end Go.Proofs.Ytijckimjcogfjaa
