/-
  A byte turned by another one.
-/
import Derived.Test.YtllkkflolijpaaaDoorLeafS
namespace Go.Proofs.YtllkkflolijpaaaDoor
open Go.RowKit

theorem xor_byte (x y : Nat) (hx : x < 256) (hy : y < 256) (h0 : y ≠ 0) : ∃ C : Nat, C < 256 ∧ C ≠ x ∧ bits .xor .u8 (x : Int) (y : Int) = (C : Int) := by
  refine ⟨x ^^^ y, Nat.xor_lt_two_pow (n := 8) hx hy, fun h => h0 ?_, u8_xor_nat x y hx hy⟩
  have : x ^^^ y = x ^^^ 0 := by rw [h, Nat.xor_zero]
  exact xor_cancel_l this
theorem u8_val (C : Nat) (h : C < 256) : (UInt8.ofNat C).toNat = C := by rw [UInt8.toNat_ofNat']; omega
end Go.Proofs.YtllkkflolijpaaaDoor
