/-
  The document's answer for names (Named) is the plain function's.
-/
import Derived.Test.YtnikkjbjidhhlaaEvL
namespace Go.Proofs.Ytnikkjbjidhhlaa
open Go.RowKit

set_option maxHeartbeats 1000000 in
theorem refNamed_any (s : ByteArray) (w : World) (hs : s.size ≤ 9223372036854775807) :
    Calls Try.prog 51 #[.string s] w fun e w' => e = .returned (.bool (nameB s)) ∧ w' = w := by
  by_cases h1 : 1 ≤ s.size
  · have hse : s.toList ≠ [] := fun e => by
      rw [ByteArray.toList_eq] at e
      have e4 := congrArg List.length e
      have e3 : s.data.toList.length = s.size := Array.length_toList
      rw [e3] at e4
      have : s.size = 0 := e4
      omega
    have hne : (s.toList == (⟨#[]⟩ : ByteArray).toList) = false := by
      rw [beq_eq_false_iff_ne]
      intro e
      refine hse ?_
      rw [e, ByteArray.toList_eq]
    have hne2 : s.toList.isEmpty = false := by
      cases hl : s.toList with
      | nil => exact absurd hl hse
      | cons a r => rfl
    clear hse
    by_cases h2 : s.size ≤ 32
    · have hn : nameB s = s.data.toList.all nb := by unfold nameB; simp [h1, h2]
      rw [hn]
      clear hn
      generalize hR : s.data.toList.all nb = R
      have HR := hide hR
      clear hR
      have hlen : s.data.toList.length = s.size := Array.length_toList
      go_enter Try.func51, Try.ntmps51
      go_wp2
      go_loop [3] (fun i => ∃ k : Nat, k ≤ s.size ∧ i = .int .i64 (k : Int) ∧ Hid (∀ c ∈ s.data.toList.take k, nb c = true)) (fun i => s.size - (intOf i).toNat)
      case atStart => exact ⟨0, Nat.zero_le _, rfl, hide (by simp)⟩
      case round =>
        obtain ⟨k, hk, rfl, HK⟩ := hrel
        by_cases hlt : k < s.size
        · have hget : s[k] ∈ s.data.toList := by
            have : s[k] = s.data.toList[k]'(by omega) := rfl
            rw [this]; exact List.getElem_mem _
          have hsn : s.data.toList.take (k + 1) = s.data.toList.take k ++ [s[k]] := by
            rw [List.take_succ_eq_append_getElem (by omega)]; rfl
          have hnb : nb s[k] = true ↔ ((97 ≤ (s[k]).toNat ∧ (s[k]).toNat ≤ 122) ∨ (48 ≤ (s[k]).toNat ∧ (s[k]).toNat ≤ 57)) := by
            unfold nb
            simp only [Bool.or_eq_true, Bool.and_eq_true, decide_eq_true_eq]
            omega
          have HG := hide hget
          have HS := hide hsn
          have hb256 := (s[k]).toNat_lt
          clear hget hsn hlen
          by_cases hb : nb s[k] = true
          · have hor := hnb.1 hb
            have HB := hide hb
            clear hnb hb
            rcases hor with ⟨g1, g2⟩ | ⟨g3, g4⟩
            · have d2 : decide (((s[k]).toNat : Int) ≤ 122) = true := decide_eq_true (by omega)
              go_wp2
              go_round
              case rel => exact ⟨k + 1, by omega, by go_num, hide (fun c hc => by
                rw [unhide HS, List.mem_append] at hc
                rcases hc with hc | hc
                · exact unhide HK c hc
                · rw [List.mem_singleton] at hc; rw [hc]; exact unhide HB)⟩
              case measure => simp [intOf]; omega
            · have g1 : ¬ 97 ≤ (s[k]).toNat := by omega
              have d4 : decide (((s[k]).toNat : Int) ≤ 57) = true := decide_eq_true (by omega)
              go_wp2
              go_round
              case rel => exact ⟨k + 1, by omega, by go_num, hide (fun c hc => by
                rw [unhide HS, List.mem_append] at hc
                rcases hc with hc | hc
                · exact unhide HK c hc
                · rw [List.mem_singleton] at hc; rw [hc]; exact unhide HB)⟩
              case measure => simp [intOf]; omega
          · have hb' : nb s[k] = false := by simpa using hb
            have hall : s.data.toList.all nb = false := List.all_eq_false.2 ⟨_, unhide HG, by rw [hb']; simp⟩
            have hR := unhide HR
            rw [hall] at hR
            subst hR
            have hnot := fun h => hb (hnb.2 h)
            clear hb hb' hall HR hnb HG HS HK
            rcases (by omega : (s[k]).toNat < 48 ∨ (57 < (s[k]).toNat ∧ (s[k]).toNat < 97) ∨ 122 < (s[k]).toNat ∨ ((97 ≤ (s[k]).toNat ∧ (s[k]).toNat ≤ 122) ∨ (48 ≤ (s[k]).toNat ∧ (s[k]).toNat ≤ 57))) with g | ⟨g, g'⟩ | g | g
            · clear hnot
              have g1 : ¬ 97 ≤ (s[k]).toNat := by omega
              have g2 : ¬ 48 ≤ (s[k]).toNat := by omega
              go_wp2
              go_ret
              exact ⟨rfl, rfl⟩
            · clear hnot
              have g1 : ¬ 97 ≤ (s[k]).toNat := by omega
              have g2 : 48 ≤ (s[k]).toNat := by omega
              have g3 : decide (((s[k]).toNat : Int) ≤ 57) = false := decide_eq_false (by omega)
              go_wp2
              go_ret
              exact ⟨rfl, rfl⟩
            · clear hnot
              have g1 : 97 ≤ (s[k]).toNat := by omega
              have g2 : decide (((s[k]).toNat : Int) ≤ 122) = false := decide_eq_false (by omega)
              have g3 : 48 ≤ (s[k]).toNat := by omega
              have g4 : decide (((s[k]).toNat : Int) ≤ 57) = false := decide_eq_false (by omega)
              go_wp2
              go_ret
              exact ⟨rfl, rfl⟩
            · exact absurd g hnot
        · have hall : s.data.toList.all nb = true := List.all_eq_true.2 (fun c hc => unhide HK c (by rw [List.take_of_length_le (by omega)]; exact hc))
          have hR := unhide HR
          rw [hall] at hR
          subst hR
          clear hall HR HK
          go_wp2
          go_ret
          exact ⟨rfl, rfl⟩
    · have hn : nameB s = false := by unfold nameB; simp [h2]
      rw [hn]
      go_enter Try.func51, Try.ntmps51
      go_wp2
      all_goals go_ret
      all_goals exact ⟨rfl, rfl⟩
  · have hn : nameB s = false := by unfold nameB; simp [h1]
    rw [hn]
    have hse : s = ⟨#[]⟩ := ByteArray.ext (Array.eq_empty_of_size_eq_zero (by show s.size = 0; omega))
    subst hse
    go_enter Try.func51, Try.ntmps51
    go_wp2
    all_goals go_ret
    all_goals exact ⟨rfl, rfl⟩
end Go.Proofs.Ytnikkjbjidhhlaa
