/-
  GroupHashes: the walk.
-/
import Derived.Test.YtmhicmollnolgaaGrG
namespace Go.Proofs.Ytmhicmollnolgaa
open Go.RowKit

theorem hashTo_any (b : ByteArray) (k : Nat) (w : World) (hb : b.size ≤ maxLen) (_hk : k ≤ b.size) : Calls Try.prog 11 #[.string (b.extract 0 k)] w fun e w' => e = .returned (.int .u32 ((hshL (b.data.toList.take k) : Nat) : Int)) ∧ w' = w := by
  have := hash_any (b.extract 0 k) w (by have : (b.extract 0 k).size ≤ b.size := by rw [ByteArray.size_extract]; omega
                                         omega)
  have e : (b.extract 0 k).data.toList = b.data.toList.take k := by simp
  rw [e] at this
  exact this
set_option maxHeartbeats 1000000 in
set_option maxRecDepth 100000 in
theorem ghashes_walk (b : ByteArray) (w : World) (hb : b.size ≤ maxLen) :
    Calls Try.prog 8 #[.string b] w fun e w' => e = .returned (.bool true) ∧ Below w.heap.size w w' := by
  have WK := hide (grWorks_any w)
  by_cases hl : b.size ≤ 2000
  · have H0 := hide (fun W => hash_any ⟨#[]⟩ W (by decide))
    have h0 : hshL (⟨#[]⟩ : ByteArray).data.toList = 2166136261 := hshL_nil
    rw [h0] at H0
    have HT := hide (fun k W (hk : k ≤ b.size) => hashTo_any b k W hb hk)
    have HA := hide (fun W => hash_any b W hb)
    clear hb h0
    go_enter Try.func8, Try.ntmps8
    go_wp2_with fail
    refine (unhide WK).mono ?_
    rintro r w1 ⟨rfl, hk1⟩
    have K1 := hide hk1
    clear hk1 WK
    go_wp2_with fail
    refine (unhide H0 _).mono ?_
    rintro r w2 ⟨rfl, rfl⟩
    clear H0
    go_wp2
    go_loopw [3, 13] (fun n i wr => ∃ k : Nat, k ≤ b.size ∧ i = .int .i64 k ∧ n = .int .u32 ((hshL (b.data.toList.take k) : Nat) : Int) ∧ wr = w2) (fun _ i _ => b.size - (intOf i).toNat)
    case atStart => exact ⟨0, Nat.zero_le _, rfl, rfl, rfl⟩
    case round =>
      obtain ⟨k, hk, rfl, rfl, rfl⟩ := hrel
      by_cases hlt : k < b.size
      · have HN := hide (hsh_take b k hlt)
        have HC := hide (unhide HT (k + 1) wr (by omega))
        rw [unhide HN] at HC
        have hS := hshL_lt (b.data.toList.take k)
        generalize hSe : hshL (b.data.toList.take k) = S at *
        clear hSe HT
        obtain ⟨X, hX, e1, e2⟩ := hsh_parts S b[k] hS
        go_wp2_with fail
        refine (unhide HC).mono ?_
        rintro r w3 ⟨rfl, rfl⟩
        go_wp2
        go_roundw
        case rel => exact ⟨k + 1, by omega, by go_num, by rw [unhide HN], trivial⟩
        case measure => simp [intOf]; omega
      · go_wp2_with fail
        refine (unhide HA _).mono ?_
        rintro r w3 ⟨rfl, rfl⟩
        rw [List.take_of_length_le (by simp; omega)]
        go_wp2
        go_ret
        exact ⟨rfl, (unhide K1).below (Nat.le_refl _) (by simp)⟩
  · go_enter Try.func8, Try.ntmps8
    have hl2 : 2000 < b.size := by omega
    go_wp2_with fail
    refine (unhide WK).mono ?_
    rintro r w1 ⟨rfl, hk1⟩
    go_wp2
    go_ret
    exact ⟨rfl, hk1.below (Nat.le_refl _) (by simp)⟩
end Go.Proofs.Ytmhicmollnolgaa
