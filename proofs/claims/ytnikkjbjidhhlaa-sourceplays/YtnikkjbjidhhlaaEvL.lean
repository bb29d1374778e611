/-
  Names and places: isNameByte, isName, rise return what the plain functions say, and leave the world as it was.
-/
import Derived.Test.YtnikkjbjidhhlaaChecked
import Derived.Test.YtnikkjbjidhhlaaOwn
import Derived.Test.YtnikkjbjidhhlaaOrd
import Derived.Test.YtnikkjbjidhhlaaShelf
import Derived.WalkLawsBesides
import Derived.Deep.QuietTactic
import Derived.BigQuiet
namespace Go.Proofs.Ytnikkjbjidhhlaa
open Go.RowKit

/-- Numbers lie where the slice says. -/
def IntsAt (w : World) (ad : Option Addr) (l : List Int) : Prop :=
  l ≠ [] → ∃ b off, ad = some ⟨b, off, none⟩ ∧ b < w.heap.size ∧ ∀ i (h : i < l.length), w.cell? ⟨b, off + i, none⟩ = some (.int .i64 l[i])
theorem IntsAt.below {w w' : World} {B : Nat} {ad : Option Addr} {l : List Int} (h : IntsAt w ad l) (hb : Below B w w') (hB : w.heap.size ≤ B) : IntsAt w' ad l := fun hl => by
  obtain ⟨b, off, e, hlt, hc⟩ := h hl
  exact ⟨b, off, e, Nat.lt_of_lt_of_le hlt hb.size, fun i hi => (hb.cell (p := ⟨b, off + i, none⟩) (Nat.lt_of_lt_of_le hlt hB)).trans (hc i hi)⟩
def nb (c : UInt8) : Bool := (decide ((97 : Int) ≤ (c.toNat : Int)) && decide ((c.toNat : Int) ≤ 122)) || (decide ((48 : Int) ≤ (c.toNat : Int)) && decide ((c.toNat : Int) ≤ 57))
/-- Is a text a name? -/
def nameB (s : ByteArray) : Bool := decide (1 ≤ s.size) && decide (s.size ≤ 32) && s.data.toList.all nb
set_option maxHeartbeats 400000 in
theorem isNameByte_any (c : UInt8) (w : World) :
    Calls Try.prog 47 #[.int .u8 (c.toNat : Int)] w fun e w' => e = .returned (.bool (nb c)) ∧ w' = w := by
  unfold nb
  have hc := c.toNat_lt
  generalize c.toNat = n at *
  by_cases h1 : 97 ≤ n <;> by_cases h2 : n ≤ 122 <;> by_cases h3 : 48 ≤ n <;> by_cases h4 : n ≤ 57 <;> first | (exfalso; omega) | skip
  all_goals
    go_enter Try.func47, Try.ntmps47
    go_wp2
    go_ret
    refine ⟨ret_bool ?_, rfl⟩
    rw [Bool.eq_iff_iff]
    first | done | (simp; omega) | simp
set_option maxHeartbeats 1000000 in
theorem isName_any (s : ByteArray) (w : World) (hs : s.size ≤ 9223372036854775807) :
    Calls Try.prog 33 #[.string s] w fun e w' => e = .returned (.bool (nameB s)) ∧ w' = w := by
  by_cases h1 : 1 ≤ s.size
  · by_cases h2 : s.size ≤ 32
    · have hn : nameB s = s.data.toList.all nb := by unfold nameB; simp [h1, h2]
      rw [hn]
      clear hn
      generalize hR : s.data.toList.all nb = R
      have HR := hide hR
      clear hR
      have hlen : s.data.toList.length = s.size := Array.length_toList
      go_enter Try.func33, Try.ntmps33
      go_wp2
      go_loop [14, 3] (fun i _ => ∃ k : Nat, k ≤ s.size ∧ i = .int .i64 (k : Int) ∧ Hid (∀ c ∈ s.data.toList.take k, nb c = true)) (fun i _ => s.size - (intOf i).toNat)
      case atStart => exact ⟨0, Nat.zero_le _, rfl, hide (by simp)⟩
      case round =>
        obtain ⟨k, hk, rfl, HK⟩ := hrel
        by_cases hlt : k < s.size
        · have hget : s[k] ∈ s.data.toList := by
            have : s[k] = s.data.toList[k]'(by omega) := rfl
            rw [this]; exact List.getElem_mem _
          have hsn : s.data.toList.take (k + 1) = s.data.toList.take k ++ [s[k]] := by
            rw [List.take_succ_eq_append_getElem (by omega)]; rfl
          have HG := hide hget
          have HS := hide hsn
          clear hget hsn hlen
          have hby := fun w => isNameByte_any s[k] w
          by_cases hb : nb s[k] = true
          · simp only [hb] at hby
            have HB := hide hby
            clear hby
            go_wp2_with fail
            refine (unhide HB _).mono ?_
            rintro e w1 ⟨rfl, rfl⟩
            go_wp2
            go_round
            case rel => exact ⟨k + 1, by omega, by go_num, hide (fun c hc => by
              rw [unhide HS, List.mem_append] at hc
              rcases hc with hc | hc
              · exact unhide HK c hc
              · rw [List.mem_singleton] at hc; rw [hc]; exact hb)⟩
            case measure => simp [intOf]; omega
          · have hb' : nb s[k] = false := by simpa using hb
            have hall : s.data.toList.all nb = false := List.all_eq_false.2 ⟨_, unhide HG, by rw [hb']; simp⟩
            have HALL := hide hall
            simp only [hb'] at hby
            have HB := hide hby
            clear hby hb hb' hall
            go_wp2_with fail
            refine (unhide HB _).mono ?_
            rintro e w1 ⟨rfl, rfl⟩
            go_wp2
            go_ret
            exact ⟨by rw [← unhide HR, unhide HALL]; rfl, rfl⟩
        · have hall : s.data.toList.all nb = true := List.all_eq_true.2 (fun c hc => unhide HK c (by rw [List.take_of_length_le (by omega)]; exact hc))
          have HALL := hide hall
          clear hall
          go_wp2
          go_ret
          exact ⟨by rw [← unhide HR, unhide HALL]; rfl, rfl⟩
    · have hn : nameB s = false := by unfold nameB; simp [h2]
      rw [hn]
      go_enter Try.func33, Try.ntmps33
      go_wp2
      all_goals go_ret
      all_goals exact ⟨rfl, rfl⟩
  · have hn : nameB s = false := by unfold nameB; simp [h1]
    rw [hn]
    go_enter Try.func33, Try.ntmps33
    go_wp2
    all_goals go_ret
    all_goals exact ⟨rfl, rfl⟩
/-- Do places rise from above a on, to 2^30 at most? -/
def riseB : Int → List Int → Bool
  | _, [] => true
  | a, p :: r => if p ≤ a ∨ 1073741824 < p then false else riseB p r
set_option maxHeartbeats 1000000 in
theorem rise_any (a : Int) (ad : Option Addr) (cap : Nat) (l : List Int) (w : World) (hl : l.length ≤ 9223372036854775807) (hA : IntsAt w ad l) :
    Calls Try.prog 34 #[.int .i64 a, .slice ad l.length cap] w fun e w' => e = .returned (.bool (riseB a l)) ∧ w' = w := by
  generalize hR : riseB a l = R
  have HR := hide hR
  have HA := hide hA
  clear hR hA
  go_enter Try.func34, Try.ntmps34
  go_wp2
  go_loop [0, 9, 6] (fun x i _ => ∃ (k : Nat) (y : Int), k ≤ l.length ∧ i = .int .i64 (k : Int) ∧ x = .int .i64 y ∧ Hid (riseB y (l.drop k) = R)) (fun _ i _ => l.length - (intOf i).toNat)
  case atStart => exact ⟨0, a, Nat.zero_le _, rfl, rfl, HR⟩
  case round =>
    obtain ⟨k, y, hk, rfl, rfl, HK⟩ := hrel
    by_cases hlt : k < l.length
    · obtain ⟨b, off, rfl, _, hc⟩ := unhide HA (fun e => by rw [e] at hlt; simp at hlt)
      have c := hc k hlt
      have hK := unhide HK
      rw [List.drop_eq_getElem_cons hlt, riseB] at hK
      clear hc HA HR HK
      generalize l[k] = p at *
      by_cases h1 : p ≤ y
      · rw [if_pos (Or.inl h1)] at hK
        subst hK
        go_wp2
        go_ret
        exact ⟨rfl, rfl⟩
      · by_cases h2 : 1073741824 < p
        · rw [if_pos (Or.inr h2)] at hK
          subst hK
          go_wp2
          go_ret
          exact ⟨rfl, rfl⟩
        · rw [if_neg (by rintro (h | h) <;> omega)] at hK
          have HK := hide hK
          clear hK
          go_wp2
          go_round
          case rel => exact ⟨k + 1, p, by omega, by go_num, rfl, HK⟩
          case measure => simp [intOf]; omega
    · have hK := unhide HK
      rw [List.drop_of_length_le (by omega), riseB] at hK
      subst hK
      clear HK HR
      go_wp2
      go_ret
      exact ⟨rfl, rfl⟩
end Go.Proofs.Ytnikkjbjidhhlaa
