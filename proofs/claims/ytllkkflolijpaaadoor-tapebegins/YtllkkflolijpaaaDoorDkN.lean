/-
  Names of files: isNameByte, isName return what the plain functions say; strings.Clone returns the same bytes.
-/
import Derived.Test.YtllkkflolijpaaaDoorDkD
namespace Go.Proofs.YtllkkflolijpaaaDoor
open Go.RowKit

set_option maxHeartbeats 400000 in
theorem ddnmyte_any (c : UInt8) (w : World) :
    Calls Tryd.prog 46 #[.int .u8 (c.toNat : Int)] w fun e w' => e = .returned (.bool (dnb c)) ∧ w' = w := by
  unfold dnb
  have hc := c.toNat_lt
  generalize c.toNat = n at *
  by_cases h5 : n = 46
  · subst h5
    go_enter Tryd.func46, Tryd.ntmps46
    go_wp2
    go_ret
    exact ⟨ret_bool (by decide), rfl⟩
  · have g5 : ((n : Int) == 46) = false := beq_eq_false_iff_ne.2 (by omega)
    by_cases h1 : 97 ≤ n <;> by_cases h2 : n ≤ 122 <;> by_cases h3 : 48 ≤ n <;> by_cases h4 : n ≤ 57 <;> first | (exfalso; omega) | skip
    all_goals
      go_enter Tryd.func46, Tryd.ntmps46
      go_wp2
      go_ret
      refine ⟨ret_bool ?_, rfl⟩
      rw [Bool.eq_iff_iff]
      first | done | (simp; omega) | simp
set_option maxHeartbeats 1000000 in
theorem dname_any (s : ByteArray) (w : World) (hs : s.size ≤ 9223372036854775807) :
    Calls Tryd.prog 32 #[.string s] w fun e w' => e = .returned (.bool (dnm s)) ∧ w' = w := by
  by_cases h1 : 1 ≤ s.size
  · by_cases h2 : s.size ≤ 32
    · have hn : dnm s = s.data.toList.all dnb := by unfold dnm; simp [h1, h2]
      rw [hn]
      clear hn
      generalize hR : s.data.toList.all dnb = R
      have HR := hide hR
      clear hR
      have hlen : s.data.toList.length = s.size := Array.length_toList
      go_enter Tryd.func32, Tryd.ntmps32
      go_wp2
      go_loop [14, 3] (fun i _ => ∃ k : Nat, k ≤ s.size ∧ i = .int .i64 (k : Int) ∧ Hid (∀ c ∈ s.data.toList.take k, dnb c = true)) (fun i _ => s.size - (intOf i).toNat)
      case atStart => exact ⟨0, Nat.zero_le _, rfl, hide (by simp)⟩
      case round =>
        obtain ⟨k, hk, rfl, HK⟩ := hrel
        by_cases hlt : k < s.size
        · have hget : s[k] ∈ s.data.toList := by
            have : s[k] = s.data.toList[k]'(by omega) := rfl
            rw [this]; exact List.getElem_mem _
          have hsn : s.data.toList.take (k + 1) = s.data.toList.take k ++ [s[k]] := by
            rw [List.take_succ_eq_append_getElem (by omega)]; rfl
          have HG := hide hget
          have HS := hide hsn
          clear hget hsn hlen
          have hby := fun w => ddnmyte_any s[k] w
          by_cases hb : dnb s[k] = true
          · simp only [hb] at hby
            have HB := hide hby
            clear hby
            go_wp2_with fail
            refine (unhide HB _).mono ?_
            rintro e w1 ⟨rfl, rfl⟩
            go_wp2
            go_round
            case rel => exact ⟨k + 1, by omega, by go_num, hide (fun c hc => by
              rw [unhide HS, List.mem_append] at hc
              rcases hc with hc | hc
              · exact unhide HK c hc
              · rw [List.mem_singleton] at hc; rw [hc]; exact hb)⟩
            case measure => simp [intOf]; omega
          · have hb' : dnb s[k] = false := by simpa using hb
            have hall : s.data.toList.all dnb = false := List.all_eq_false.2 ⟨_, unhide HG, by rw [hb']; simp⟩
            have HALL := hide hall
            simp only [hb'] at hby
            have HB := hide hby
            clear hby hb hb' hall
            go_wp2_with fail
            refine (unhide HB _).mono ?_
            rintro e w1 ⟨rfl, rfl⟩
            go_wp2
            go_ret
            exact ⟨by rw [← unhide HR, unhide HALL]; rfl, rfl⟩
        · have hall : s.data.toList.all dnb = true := List.all_eq_true.2 (fun c hc => unhide HK c (by rw [List.take_of_length_le (by omega)]; exact hc))
          have HALL := hide hall
          clear hall
          go_wp2
          go_ret
          exact ⟨by rw [← unhide HR, unhide HALL]; rfl, rfl⟩
    · have hn : dnm s = false := by unfold dnm; simp [h2]
      rw [hn]
      go_enter Tryd.func32, Tryd.ntmps32
      go_wp2
      all_goals go_ret
      all_goals exact ⟨rfl, rfl⟩
  · have hn : dnm s = false := by unfold dnm; simp [h1]
    rw [hn]
    go_enter Tryd.func32, Tryd.ntmps32
    go_wp2
    all_goals go_ret
    all_goals exact ⟨rfl, rfl⟩
end Go.Proofs.YtllkkflolijpaaaDoor
