/-
  The document's tokens: letter, digit, blank, word.
-/
import Derived.Test.YtglfjgnbfligoaaDoorTkC
namespace Go.Proofs.YtglfjgnbfligoaaDoor
open Go.RowKit

theorem rLetter_any (b : UInt8) (w : World) : Calls Tryd.prog 35 #[.int .u8 (b.toNat : Int)] w fun e w' => e = .returned (.bool (isLet b)) ∧ w' = w := by
  have hb := b.toNat_lt
  have HI : Hid (isLet b = (decide (97 ≤ b.toNat) && decide (b.toNat ≤ 122))) := hide rfl
  generalize isLet b = I at *
  generalize b.toNat = n at *
  have hi := unhide HI
  clear HI
  by_cases h1 : 97 ≤ n
  · by_cases h2 : n ≤ 122
    · rw [decide_eq_true h1, decide_eq_true h2] at hi
      subst hi
      go_enter Tryd.func35, Tryd.ntmps35
      go_wp2
      go_ret
      exact ⟨ret_bool (decide_eq_true (by omega)), rfl⟩
    · rw [decide_eq_true h1, decide_eq_false h2] at hi
      subst hi
      go_enter Tryd.func35, Tryd.ntmps35
      go_wp2
      go_ret
      exact ⟨ret_bool (decide_eq_false (by omega)), rfl⟩
  · rw [decide_eq_false h1, Bool.false_and] at hi
    subst hi
    go_enter Tryd.func35, Tryd.ntmps35
    go_wp2
    go_ret
    exact ⟨rfl, rfl⟩
theorem rDigit_any (b : UInt8) (w : World) : Calls Tryd.prog 37 #[.int .u8 (b.toNat : Int)] w fun e w' => e = .returned (.bool (isDig b)) ∧ w' = w := by
  have hb := b.toNat_lt
  have HI : Hid (isDig b = (decide (48 ≤ b.toNat) && decide (b.toNat ≤ 57))) := hide rfl
  generalize isDig b = I at *
  generalize b.toNat = n at *
  have hi := unhide HI
  clear HI
  by_cases h1 : 48 ≤ n
  · by_cases h2 : n ≤ 57
    · rw [decide_eq_true h1, decide_eq_true h2] at hi
      subst hi
      go_enter Tryd.func37, Tryd.ntmps37
      go_wp2
      go_ret
      exact ⟨ret_bool (decide_eq_true (by omega)), rfl⟩
    · rw [decide_eq_true h1, decide_eq_false h2] at hi
      subst hi
      go_enter Tryd.func37, Tryd.ntmps37
      go_wp2
      go_ret
      exact ⟨ret_bool (decide_eq_false (by omega)), rfl⟩
  · rw [decide_eq_false h1, Bool.false_and] at hi
    subst hi
    go_enter Tryd.func37, Tryd.ntmps37
    go_wp2
    go_ret
    exact ⟨rfl, rfl⟩
theorem rBlank_any (b : UInt8) (w : World) : Calls Tryd.prog 20 #[.int .u8 (b.toNat : Int)] w fun e w' => e = .returned (.bool (isBlk b)) ∧ w' = w := by
  have hb := b.toNat_lt
  have HI : Hid (isBlk b = (decide (b.toNat = 32) || decide (b.toNat = 10))) := hide rfl
  generalize isBlk b = I at *
  generalize b.toNat = n at *
  have hi := unhide HI
  clear HI
  by_cases h1 : n = 32
  · rw [decide_eq_true h1, Bool.true_or] at hi
    subst hi
    have g : ((n : Int) == 32) = true := by simp [h1]
    clear h1
    go_enter Tryd.func20, Tryd.ntmps20
    go_wp2
    go_ret
    exact ⟨rfl, rfl⟩
  · have g : ((n : Int) == 32) = false := by simp; omega
    rw [decide_eq_false h1, Bool.false_or] at hi
    by_cases h2 : n = 10
    · rw [decide_eq_true h2] at hi
      subst hi
      have g2 : ((n : Int) == 10) = true := by simp [h2]
      clear h1 h2
      go_enter Tryd.func20, Tryd.ntmps20
      go_wp2
      go_ret
      exact ⟨rfl, rfl⟩
    · rw [decide_eq_false h2] at hi
      subst hi
      have g2 : ((n : Int) == 10) = false := by simp; omega
      clear h1 h2
      go_enter Tryd.func20, Tryd.ntmps20
      go_wp2
      go_ret
      exact ⟨rfl, rfl⟩
theorem drop_at (s : ByteArray) (at_ k : Nat) (h : k < (s.data.toList.drop at_).length) : ∃ h' : at_ + k < s.size, (s.data.toList.drop at_)[k] = s[at_ + k] := by
  rw [List.length_drop, size_list] at h
  exact ⟨by omega, by rw [List.getElem_drop]; rfl⟩
theorem ext_seg (s : ByteArray) (at_ n : Nat) : s.extract at_ (at_ + n) = txt ((s.data.toList.drop at_).take n) := by
  apply ByteArray.ext
  apply Array.ext'
  rw [ByteArray.data_extract, Array.toList_extract, List.extract_eq_take_drop, Nat.add_sub_cancel_left]
  rfl
theorem word_end (s : ByteArray) (at_ E k : Nat) (he : at_ + k = E) (hk : k = spn isAln (s.data.toList.drop at_)) :
    Ending.returned (.tuple #[.agg #[.int .i64 1, .string (s.extract at_ E), .int .i64 0, .int .i64 (at_ : Int)], .int .i64 (E : Int), .bool (decide ((E : Int) - (at_ : Int) ≤ 32))]) = .returned (.tuple #[.agg #[.int .i64 1, .string (s.extract at_ (at_ + spn isAln (s.data.toList.drop at_))), .int .i64 0, .int .i64 (at_ : Int)], .int .i64 ((at_ + spn isAln (s.data.toList.drop at_) : Nat) : Int), .bool (decide (spn isAln (s.data.toList.drop at_) ≤ 32))]) := by
  rw [← hk, he, show decide ((E : Int) - (at_ : Int) ≤ 32) = decide (k ≤ 32) from decide_eq_decide.2 (by omega)]
set_option maxHeartbeats 1000000 in
set_option maxRecDepth 100000 in
theorem rWord_any (s : ByteArray) (at_ : Nat) (w : World) (hat : at_ ≤ s.size) (hs : s.size ≤ 140737488351232) :
    Calls Tryd.prog 36 #[.string s, .int .i64 (at_ : Int)] w fun e w' => e = .returned (.tuple #[.agg #[.int .i64 1, .string (s.extract at_ (at_ + spn isAln (s.data.toList.drop at_))), .int .i64 0, .int .i64 (at_ : Int)], .int .i64 ((at_ + spn isAln (s.data.toList.drop at_) : Nat) : Int), .bool (decide (spn isAln (s.data.toList.drop at_) ≤ 32))]) ∧ Below w.heap.size w w' := by
  have HLE : Hid (spn isAln (s.data.toList.drop at_) ≤ s.size - at_) := hide (by have := spn_le isAln (s.data.toList.drop at_); rw [List.length_drop, size_list] at this; exact this)
  go_enter Tryd.func36, Tryd.ntmps36
  go_wp2
  go_loop [7] (fun i => ∃ k : Nat, at_ + k ≤ s.size ∧ Hid (k ≤ spn isAln (s.data.toList.drop at_)) ∧ i = .int .i64 ((at_ + k : Nat) : Int)) (fun i => s.size - (intOf i).toNat)
  case atStart => exact ⟨0, hat, hide (Nat.zero_le _), rfl⟩
  case round =>
    obtain ⟨k, hk, HK, rfl⟩ := hrel
    generalize hE : at_ + k = E at *
    by_cases hlt : E < s.size
    · have hkl : k < (s.data.toList.drop at_).length := by rw [List.length_drop, size_list]; omega
      have hget : (s.data.toList.drop at_)[k] = s[E] := by obtain ⟨h', e⟩ := drop_at s at_ k hkl; rw [e]; congr 1
      by_cases hL : isLet s[E] = true
      · have HN : Hid (k + 1 ≤ spn isAln (s.data.toList.drop at_)) := hide (spn_more (unhide HK) hkl (by rw [hget]; unfold isAln; rw [hL]; rfl))
        have HE := hide hE
        clear hE hget
        have L1 := rLetter_any s[E] (w.alloc (.cells #[.int .i64 0, .string ⟨#[]⟩, .int .i64 0, .int .i64 0] 35))
        rw [hL] at L1
        have HL1 := hide L1
        clear L1 hL
        go_wp2_with (go_at_call 35; refine (unhide HL1).mono ?_; rintro e w' ⟨rfl, rfl⟩)
        go_round
        case rel => exact ⟨k + 1, by have := unhide HE; omega, HN, by have := unhide HE; go_num⟩
        case measure => simp [intOf]; omega
      · have hL2 : isLet s[E] = false := Bool.eq_false_iff.2 hL
        have L1 := rLetter_any s[E] (w.alloc (.cells #[.int .i64 0, .string ⟨#[]⟩, .int .i64 0, .int .i64 0] 35))
        have D1 := rDigit_any s[E] (w.alloc (.cells #[.int .i64 0, .string ⟨#[]⟩, .int .i64 0, .int .i64 0] 35))
        rw [hL2] at L1
        by_cases hD : isDig s[E] = true
        · have HN : Hid (k + 1 ≤ spn isAln (s.data.toList.drop at_)) := hide (spn_more (unhide HK) hkl (by rw [hget]; unfold isAln; rw [hL2, hD]; rfl))
          rw [hD] at D1
          have HE := hide hE
          have HL1 := hide L1
          have HD1 := hide D1
          clear hE hget L1 D1 hL hL2 hD
          go_wp2_with (first | (go_at_call 35; refine (unhide HL1).mono ?_; rintro e w' ⟨rfl, rfl⟩) | (go_at_call 37; refine (unhide HD1).mono ?_; rintro e w' ⟨rfl, rfl⟩))
          go_round
          case rel => exact ⟨k + 1, by have := unhide HE; omega, HN, by have := unhide HE; go_num⟩
          case measure => simp [intOf]; omega
        · have hD2 : isDig s[E] = false := Bool.eq_false_iff.2 hD
          have HN : Hid (k = spn isAln (s.data.toList.drop at_)) := hide (spn_stop (unhide HK) (fun _ => by rw [hget]; unfold isAln; rw [hL2, hD2]; rfl))
          rw [hD2] at D1
          have HE := hide hE
          have HL1 := hide L1
          have HD1 := hide D1
          have hEa : at_ ≤ E := by omega
          clear hE hget L1 D1 hL hL2 hD hD2
          go_wp2_with (first | (go_at_call 35; refine (unhide HL1).mono ?_; rintro e w' ⟨rfl, rfl⟩) | (go_at_call 37; refine (unhide HD1).mono ?_; rintro e w' ⟨rfl, rfl⟩))
          exact bodyPost_ret (v := .tuple #[.agg #[.int .i64 1, .string (s.extract at_ E), .int .i64 0, .int .i64 (at_ : Int)], .int .i64 (E : Int), .bool (decide ((E : Int) - (at_ : Int) ≤ 32))]) (by simp [results, Tryd.results36, go_sem]) rfl ⟨word_end s at_ E k (unhide HE) (unhide HN), (Below.refl _ _).alloc (Nat.le_refl _) _⟩
    · have HN : Hid (k = spn isAln (s.data.toList.drop at_)) := hide (spn_stop (unhide HK) (fun h => by rw [List.length_drop, size_list] at h; omega))
      have HE := hide hE
      have hEa : at_ ≤ E := by omega
      clear hE
      go_wp2
      exact bodyPost_ret (v := .tuple #[.agg #[.int .i64 1, .string (s.extract at_ E), .int .i64 0, .int .i64 (at_ : Int)], .int .i64 (E : Int), .bool (decide ((E : Int) - (at_ : Int) ≤ 32))]) (by simp [results, Tryd.results36, go_sem]) rfl ⟨word_end s at_ E k (unhide HE) (unhide HN), (Below.refl _ _).alloc (Nat.le_refl _) _⟩
end Go.Proofs.YtglfjgnbfligoaaDoor
