/-
  sumOn returns what the plain function says, and leaves the world as it was.
-/
import Derived.Test.YtllkkflolijpaaaDoorRow0
import Derived.Test.YtllkkflolijpaaaDoorNum
namespace Go.Proofs.YtllkkflolijpaaaDoor
open Go.RowKit
def TabW (w : World) : Prop := 0 < w.heap.size ∧ ∀ i, i < 16 → w.cell? ⟨0, i, none⟩ = some (.int .u32 ((tabF i : Nat) : Int))
/-- What one byte does to the sum, in the walk's own forms. -/
theorem sum_parts (S c : Nat) (hS : S < 4294967296) (hc : c < 256) : ∃ X r T Y r2 T2 : Nat, X < 4294967296 ∧ r < 16 ∧ Y < 4294967296 ∧ r2 < 16 ∧
    bits .xor .u32 (S : Int) ((c : Int) % 4294967296) = (X : Int) ∧ bits .and .u32 (X : Int) 15 = (r : Int) ∧ tabF r = T ∧ bits .xor .u32 ((X : Int) / 16) (T : Int) = (Y : Int) ∧
    bits .and .u32 (Y : Int) 15 = (r2 : Int) ∧ tabF r2 = T2 ∧ bits .xor .u32 ((Y : Int) / 16) (T2 : Int) = ((stepB S c : Nat) : Int) := by
  have x1 := Nat.xor_lt_two_pow (n := 32) hS (by omega : c < 2 ^ 32)
  have x2 := nib_lt x1
  refine ⟨S ^^^ c, (S ^^^ c) % 16, _, nib (S ^^^ c), nib (S ^^^ c) % 16, _, x1, by omega, x2, by omega, ?_, ?_, rfl, ?_, ?_, rfl, ?_⟩
  · rw [show ((c : Int) % 4294967296) = (c : Int) by omega]; exact u32_xor_nat S c hS (by omega)
  · have := u32_and_nat (S ^^^ c) 15 x1 (by omega); rw [nat_mask4] at this; exact this
  · have := u32_xor_nat ((S ^^^ c) / 16) (tabF ((S ^^^ c) % 16)) (by omega) (tabF_lt _ (by omega))
    rw [show (((S ^^^ c : Nat) : Int) / 16) = (((S ^^^ c) / 16 : Nat) : Int) by omega]; exact this
  · have := u32_and_nat (nib (S ^^^ c)) 15 x2 (by omega); rw [nat_mask4] at this; exact this
  · have := u32_xor_nat (nib (S ^^^ c) / 16) (tabF (nib (S ^^^ c) % 16)) (by omega) (tabF_lt _ (by omega))
    rw [show ((nib (S ^^^ c) : Nat) : Int) / 16 = ((nib (S ^^^ c) / 16 : Nat) : Int) by omega]; exact this
set_option maxHeartbeats 400000 in
theorem sumOn_any (s : Nat) (b : ByteArray) (w : World) (hs : s < 4294967296) (hb : b.size ≤ maxLen) (hT : TabW w) :
    Calls Tryd.prog 52 #[.int .u32 (s : Int), .string b] w fun e w' => e = .returned (.int .u32 (sumL s b.data.toList : Nat)) ∧ w' = w := by
  unfold maxLen at hb
  obtain ⟨_, hT⟩ := hT
  have HT := hide hT
  clear hT
  go_enter Tryd.func52, Tryd.ntmps52
  go_wp2
  go_loop [0, 5] (fun n i => ∃ k : Nat, k ≤ b.size ∧ i = .int .i64 k ∧ n = .int .u32 ((sumL s (b.data.toList.take k) : Nat) : Int)) (fun _ i => b.size - (intOf i).toNat)
  case atStart => exact ⟨0, Nat.zero_le _, rfl, rfl⟩
  case round =>
    obtain ⟨k, hk, rfl, rfl⟩ := hrel
    by_cases hlt : k < b.size
    · have HN : Hid (sumL s (b.data.toList.take (k + 1)) = stepB (sumL s (b.data.toList.take k)) (b[k]).toNat) := by rw [take_snoc b k hlt, sumL_snoc]; exact rfl
      have hS := sumL_lt (b.data.toList.take k) hs
      generalize hSe : sumL s (b.data.toList.take k) = S at *
      have HS := hide hSe
      clear hSe
      obtain ⟨X, r, T, Y, r2, T2, hX, hr, hY, hr2, e1, e2, e3, e4, e5, e6, e7⟩ := sum_parts S (b[k]).toNat hS (b[k]).toNat_lt
      have c1 := unhide HT r hr
      have c2 := unhide HT r2 hr2
      rw [e3] at c1
      rw [e6] at c2
      clear e3 e6
      go_wp2
      go_round
      case rel => exact ⟨k + 1, by omega, by go_num, by rw [HN.out]⟩
      case measure => simp [intOf]; omega
    · go_wp2
      go_ret
      exact ⟨ret_int (by rw [List.take_of_length_le (by simp; omega)]), rfl⟩
theorem TabW.below {B : Nat} {w w' : World} (h : TabW w) (hb : Below B w w') (hB : 0 < B) : TabW w' :=
  ⟨Nat.lt_of_lt_of_le h.1 hb.size, fun i hi => (hb.cell (p := ⟨0, i, none⟩) hB).trans (h.2 i hi)⟩
/-- The sum of bytes. -/
def sumOf (l : List UInt8) : Nat := 4294967295 - sumL 4294967295 l
theorem sumOf_lt (l : List UInt8) : sumOf l < 4294967296 := by unfold sumOf; omega
theorem sumOf_inj {a b : List UInt8} (h : sumOf a = sumOf b) : sumL 4294967295 a = sumL 4294967295 b := by
  have := sumL_lt (s := 4294967295) a (by omega); have := sumL_lt (s := 4294967295) b (by omega)
  unfold sumOf at h; omega
end Go.Proofs.YtllkkflolijpaaaDoor
