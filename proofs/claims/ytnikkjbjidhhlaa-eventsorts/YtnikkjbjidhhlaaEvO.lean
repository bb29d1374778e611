/-
  The order of matches: plain facts.
-/
import Derived.Test.YtnikkjbjidhhlaaEvX
namespace Go.Proofs.Ytnikkjbjidhhlaa
open Go.RowKit

theorem cM_pre : Pre fun x y : ByteArray × List (List Int) => cM x.1 x.2 y.1 y.2 :=
  (pre_int.on fun x : ByteArray × List (List Int) => lastM x.2).or (((pre_list (pre_list pre_int)).on fun x : ByteArray × List (List Int) => x.2).or (pre_bytes.on fun x : ByteArray × List (List Int) => x.1.data.toList))
theorem orI_zero (a b : Int) : orI a b = 0 ↔ a = 0 ∧ b = 0 := by unfold orI; split <;> omega
theorem ba_inj {a b : ByteArray} (h : a.data.toList = b.data.toList) : a = b := ByteArray.ext (Array.ext' h)
theorem cM_zero (k1 : ByteArray) (s1 : List (List Int)) (k2 : ByteArray) (s2 : List (List Int)) : cM k1 s1 k2 s2 = 0 ↔ k1 = k2 ∧ s1 = s2 := by
  unfold cM
  rw [orI_zero, orI_zero, zero_int, zero_list (zero_list zero_int), zero_bytes]
  exact ⟨fun h => ⟨ba_inj h.2.2, h.2.1⟩, fun h => ⟨by rw [h.2], h.2, by rw [h.1]⟩⟩
end Go.Proofs.Ytnikkjbjidhhlaa
