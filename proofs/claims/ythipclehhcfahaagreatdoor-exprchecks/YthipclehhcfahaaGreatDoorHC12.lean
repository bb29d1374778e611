/-
  The document's tokens: letter, digit, blank, word.
  The document's tokens: number, text.
  The document's tokens: text.
  What stays while answers are drawn. Of no program.
-/
import Derived.Test.YthipclehhcfahaaGreatDoorHC09
import Derived.Test.YthipclehhcfahaaGreatDoorHC01
import Derived.Deep.QuietTactic
namespace Go.Proofs.YthipclehhcfahaaGreatDoor
open Go.RowKit

theorem rLetter_any (b : UInt8) (w : World) : Calls Tryz.prog 96 #[.int .u8 (b.toNat : Int)] w fun e w' => e = .returned (.bool (isLet b)) ∧ w' = w := by
  have hb := b.toNat_lt
  have HI : Hid (isLet b = (decide (97 ≤ b.toNat) && decide (b.toNat ≤ 122))) := hide rfl
  generalize isLet b = I at *
  generalize b.toNat = n at *
  have hi := unhide HI
  clear HI
  by_cases h1 : 97 ≤ n
  · by_cases h2 : n ≤ 122
    · rw [decide_eq_true h1, decide_eq_true h2] at hi
      subst hi
      go_enter Tryz.func96, Tryz.ntmps96
      go_wp2
      go_ret
      exact ⟨ret_bool (decide_eq_true (by omega)), rfl⟩
    · rw [decide_eq_true h1, decide_eq_false h2] at hi
      subst hi
      go_enter Tryz.func96, Tryz.ntmps96
      go_wp2
      go_ret
      exact ⟨ret_bool (decide_eq_false (by omega)), rfl⟩
  · rw [decide_eq_false h1, Bool.false_and] at hi
    subst hi
    go_enter Tryz.func96, Tryz.ntmps96
    go_wp2
    go_ret
    exact ⟨rfl, rfl⟩
theorem rDigit_any (b : UInt8) (w : World) : Calls Tryz.prog 98 #[.int .u8 (b.toNat : Int)] w fun e w' => e = .returned (.bool (isDig b)) ∧ w' = w := by
  have hb := b.toNat_lt
  have HI : Hid (isDig b = (decide (48 ≤ b.toNat) && decide (b.toNat ≤ 57))) := hide rfl
  generalize isDig b = I at *
  generalize b.toNat = n at *
  have hi := unhide HI
  clear HI
  by_cases h1 : 48 ≤ n
  · by_cases h2 : n ≤ 57
    · rw [decide_eq_true h1, decide_eq_true h2] at hi
      subst hi
      go_enter Tryz.func98, Tryz.ntmps98
      go_wp2
      go_ret
      exact ⟨ret_bool (decide_eq_true (by omega)), rfl⟩
    · rw [decide_eq_true h1, decide_eq_false h2] at hi
      subst hi
      go_enter Tryz.func98, Tryz.ntmps98
      go_wp2
      go_ret
      exact ⟨ret_bool (decide_eq_false (by omega)), rfl⟩
  · rw [decide_eq_false h1, Bool.false_and] at hi
    subst hi
    go_enter Tryz.func98, Tryz.ntmps98
    go_wp2
    go_ret
    exact ⟨rfl, rfl⟩
theorem drop_byte (s : ByteArray) (at_ k : Nat) (h : k < (s.data.toList.drop at_).length) : ∃ h' : at_ + k < s.size, (s.data.toList.drop at_)[k] = s[at_ + k] := by
  rw [List.length_drop, size_list] at h
  exact ⟨by omega, by rw [List.getElem_drop]; rfl⟩
theorem ext_seg (s : ByteArray) (at_ n : Nat) : s.extract at_ (at_ + n) = txt ((s.data.toList.drop at_).take n) := by
  apply ByteArray.ext
  apply Array.ext'
  rw [ByteArray.data_extract, Array.toList_extract, List.extract_eq_take_drop, Nat.add_sub_cancel_left]
  rfl
theorem word_end (s : ByteArray) (at_ E k : Nat) (he : at_ + k = E) (hk : k = spn isAln (s.data.toList.drop at_)) :
    Ending.returned (.tuple #[.agg #[.int .i64 1, .string (s.extract at_ E), .int .i64 0, .int .i64 (at_ : Int)], .int .i64 (E : Int), .bool (decide ((E : Int) - (at_ : Int) ≤ 32))]) = .returned (.tuple #[.agg #[.int .i64 1, .string (s.extract at_ (at_ + spn isAln (s.data.toList.drop at_))), .int .i64 0, .int .i64 (at_ : Int)], .int .i64 ((at_ + spn isAln (s.data.toList.drop at_) : Nat) : Int), .bool (decide (spn isAln (s.data.toList.drop at_) ≤ 32))]) := by
  rw [← hk, he, show decide ((E : Int) - (at_ : Int) ≤ 32) = decide (k ≤ 32) from decide_eq_decide.2 (by omega)]
set_option maxHeartbeats 1000000 in
set_option maxRecDepth 100000 in
theorem rWord_any (s : ByteArray) (at_ : Nat) (w : World) (hat : at_ ≤ s.size) (hs : s.size ≤ 140737488351232) :
    Calls Tryz.prog 97 #[.string s, .int .i64 (at_ : Int)] w fun e w' => e = .returned (.tuple #[.agg #[.int .i64 1, .string (s.extract at_ (at_ + spn isAln (s.data.toList.drop at_))), .int .i64 0, .int .i64 (at_ : Int)], .int .i64 ((at_ + spn isAln (s.data.toList.drop at_) : Nat) : Int), .bool (decide (spn isAln (s.data.toList.drop at_) ≤ 32))]) ∧ Below w.heap.size w w' := by
  have HLE : Hid (spn isAln (s.data.toList.drop at_) ≤ s.size - at_) := hide (by have := spn_le isAln (s.data.toList.drop at_); rw [List.length_drop, size_list] at this; exact this)
  go_enter Tryz.func97, Tryz.ntmps97
  go_wp2
  go_loop [7] (fun i => ∃ k : Nat, at_ + k ≤ s.size ∧ Hid (k ≤ spn isAln (s.data.toList.drop at_)) ∧ i = .int .i64 ((at_ + k : Nat) : Int)) (fun i => s.size - (intOf i).toNat)
  case atStart => exact ⟨0, hat, hide (Nat.zero_le _), rfl⟩
  case round =>
    obtain ⟨k, hk, HK, rfl⟩ := hrel
    generalize hE : at_ + k = E at *
    by_cases hlt : E < s.size
    · have hkl : k < (s.data.toList.drop at_).length := by rw [List.length_drop, size_list]; omega
      have hget : (s.data.toList.drop at_)[k] = s[E] := by obtain ⟨h', e⟩ := drop_byte s at_ k hkl; rw [e]; congr 1
      by_cases hL : isLet s[E] = true
      · have HN : Hid (k + 1 ≤ spn isAln (s.data.toList.drop at_)) := hide (spn_more (unhide HK) hkl (by rw [hget]; unfold isAln; rw [hL]; rfl))
        have HE := hide hE
        clear hE hget
        have L1 := rLetter_any s[E] (w.alloc (.cells #[.int .i64 0, .string ⟨#[]⟩, .int .i64 0, .int .i64 0] 92))
        rw [hL] at L1
        have HL1 := hide L1
        clear L1 hL
        go_wp2_with (go_at_call 96; refine (unhide HL1).mono ?_; rintro e w' ⟨rfl, rfl⟩)
        go_round
        case rel => exact ⟨k + 1, by have := unhide HE; omega, HN, by have := unhide HE; go_num⟩
        case measure => simp [intOf]; omega
      · have hL2 : isLet s[E] = false := Bool.eq_false_iff.2 hL
        have L1 := rLetter_any s[E] (w.alloc (.cells #[.int .i64 0, .string ⟨#[]⟩, .int .i64 0, .int .i64 0] 92))
        have D1 := rDigit_any s[E] (w.alloc (.cells #[.int .i64 0, .string ⟨#[]⟩, .int .i64 0, .int .i64 0] 92))
        rw [hL2] at L1
        by_cases hD : isDig s[E] = true
        · have HN : Hid (k + 1 ≤ spn isAln (s.data.toList.drop at_)) := hide (spn_more (unhide HK) hkl (by rw [hget]; unfold isAln; rw [hL2, hD]; rfl))
          rw [hD] at D1
          have HE := hide hE
          have HL1 := hide L1
          have HD1 := hide D1
          clear hE hget L1 D1 hL hL2 hD
          go_wp2_with (first | (go_at_call 96; refine (unhide HL1).mono ?_; rintro e w' ⟨rfl, rfl⟩) | (go_at_call 98; refine (unhide HD1).mono ?_; rintro e w' ⟨rfl, rfl⟩))
          go_round
          case rel => exact ⟨k + 1, by have := unhide HE; omega, HN, by have := unhide HE; go_num⟩
          case measure => simp [intOf]; omega
        · have hD2 : isDig s[E] = false := Bool.eq_false_iff.2 hD
          have HN : Hid (k = spn isAln (s.data.toList.drop at_)) := hide (spn_stop (unhide HK) (fun _ => by rw [hget]; unfold isAln; rw [hL2, hD2]; rfl))
          rw [hD2] at D1
          have HE := hide hE
          have HL1 := hide L1
          have HD1 := hide D1
          have hEa : at_ ≤ E := by omega
          clear hE hget L1 D1 hL hL2 hD hD2
          go_wp2_with (first | (go_at_call 96; refine (unhide HL1).mono ?_; rintro e w' ⟨rfl, rfl⟩) | (go_at_call 98; refine (unhide HD1).mono ?_; rintro e w' ⟨rfl, rfl⟩))
          exact bodyPost_ret (v := .tuple #[.agg #[.int .i64 1, .string (s.extract at_ E), .int .i64 0, .int .i64 (at_ : Int)], .int .i64 (E : Int), .bool (decide ((E : Int) - (at_ : Int) ≤ 32))]) (by simp [results, Tryz.results97, go_sem]) rfl ⟨word_end s at_ E k (unhide HE) (unhide HN), (Below.refl _ _).alloc (Nat.le_refl _) _⟩
    · have HN : Hid (k = spn isAln (s.data.toList.drop at_)) := hide (spn_stop (unhide HK) (fun h => by rw [List.length_drop, size_list] at h; omega))
      have HE := hide hE
      have hEa : at_ ≤ E := by omega
      clear hE
      go_wp2
      exact bodyPost_ret (v := .tuple #[.agg #[.int .i64 1, .string (s.extract at_ E), .int .i64 0, .int .i64 (at_ : Int)], .int .i64 (E : Int), .bool (decide ((E : Int) - (at_ : Int) ≤ 32))]) (by simp [results, Tryz.results97, go_sem]) rfl ⟨word_end s at_ E k (unhide HE) (unhide HN), (Below.refl _ _).alloc (Nat.le_refl _) _⟩
end Go.Proofs.YthipclehhcfahaaGreatDoor
namespace Go.Proofs.YthipclehhcfahaaGreatDoor
open Go.RowKit

theorem dvl_next (s : ByteArray) (at_ k E : Nat) (he : at_ + k = E) (hE : E < s.size) : dvl 0 ((s.data.toList.drop at_).take (k + 1)) = dvl 0 ((s.data.toList.drop at_).take k) * 10 + (s[E].toNat - 48) := by
  have hkl : k < (s.data.toList.drop at_).length := by rw [List.length_drop, size_list]; omega
  obtain ⟨h', e⟩ := drop_byte s at_ k hkl
  rw [List.take_succ_eq_append_getElem hkl, dvl_snoc, e]
  subst he
  rfl
/-- What the document's number is. -/
def nuB (s : ByteArray) (at_ : Nat) (h : at_ < s.size) : Bool := decide (dvl 0 ((s.data.toList.drop at_).take (spn isDig (s.data.toList.drop at_))) ≤ 9223372036854775807) && (decide (¬ s[at_].toNat = 48) || decide (spn isDig (s.data.toList.drop at_) = 1))
theorem nu_end (s : ByteArray) (at_ E k : Nat) (h : at_ < s.size) (he : at_ + k = E) (hk : k = spn isDig (s.data.toList.drop at_)) (V : Nat) (ok : Bool) (hok : ok = decide (dvl 0 ((s.data.toList.drop at_).take k) ≤ 9223372036854775807)) (hV : ok = true → V = dvl 0 ((s.data.toList.drop at_).take k)) (R : Bool) (hR : R = (ok && (((s[at_].toNat : Int) != 48) || ((E : Int) == (at_ : Int) + 1)))) :
    ∃ x : Int, Ending.returned (.tuple #[.agg #[.int .i64 2, .string ⟨#[]⟩, .int .i64 (V : Int), .int .i64 (at_ : Int)], .int .i64 (E : Int), .bool R]) = .returned (.tuple #[.agg #[.int .i64 2, .string ⟨#[]⟩, .int .i64 x, .int .i64 (at_ : Int)], .int .i64 ((at_ + spn isDig (s.data.toList.drop at_) : Nat) : Int), .bool (nuB s at_ h)]) ∧ (nuB s at_ h = true → x = ((dvl 0 ((s.data.toList.drop at_).take (spn isDig (s.data.toList.drop at_))) : Nat) : Int)) := by
  have e1 : R = nuB s at_ h := by
    rw [hR]
    unfold nuB
    rw [← hk, ← hok]
    congr 1
    have a1 : ((s[at_].toNat : Int) != 48) = decide (¬ s[at_].toNat = 48) := by
      by_cases h0 : s[at_].toNat = 48
      · simp [h0]
      · rw [decide_eq_true h0]; simp; omega
    have a2 : ((E : Int) == (at_ : Int) + 1) = decide (k = 1) := by
      by_cases h0 : k = 1
      · rw [decide_eq_true h0]; simp; omega
      · rw [decide_eq_false h0]; simp; omega
    rw [a1, a2]
  refine ⟨(V : Int), by rw [← hk, he, e1], fun hh => ?_⟩
  rw [← hk]
  have : ok = true := by
    unfold nuB at hh
    rw [← hk, ← hok] at hh
    cases ok with
    | true => rfl
    | false => simp at hh
  rw [hV this]
set_option maxHeartbeats 400000 in
set_option maxRecDepth 100000 in
theorem rNumber_any (s : ByteArray) (at_ : Nat) (w : World) (hat : at_ < s.size) (hs : s.size ≤ 140737488351232) :
    Calls Tryz.prog 99 #[.string s, .int .i64 (at_ : Int)] w fun e w' => (∃ x : Int, e = .returned (.tuple #[.agg #[.int .i64 2, .string ⟨#[]⟩, .int .i64 x, .int .i64 (at_ : Int)], .int .i64 ((at_ + spn isDig (s.data.toList.drop at_) : Nat) : Int), .bool (nuB s at_ hat)]) ∧ (nuB s at_ hat = true → x = ((dvl 0 ((s.data.toList.drop at_).take (spn isDig (s.data.toList.drop at_))) : Nat) : Int))) ∧ Below w.heap.size w w' := by
  have HEND := hide (nu_end s at_ · · hat)
  go_enter Tryz.func99, Tryz.ntmps99
  go_wp2
  go_loop [7, 8, 9] (fun i n o => ∃ (k V : Nat) (ok : Bool), at_ + k ≤ s.size ∧ V ≤ 9223372036854775807 ∧ Hid (k ≤ spn isDig (s.data.toList.drop at_) ∧ ok = decide (dvl 0 ((s.data.toList.drop at_).take k) ≤ 9223372036854775807) ∧ (ok = true → V = dvl 0 ((s.data.toList.drop at_).take k))) ∧ i = .int .i64 ((at_ + k : Nat) : Int) ∧ n = .int .u64 (V : Int) ∧ o = .bool ok) (fun i _ _ => s.size - (intOf i).toNat)
  case atStart => exact ⟨0, 0, true, Nat.le_of_lt hat, by omega, hide ⟨Nat.zero_le _, by rw [List.take_zero, dvl_nil]; rfl, fun _ => by rw [List.take_zero, dvl_nil]⟩, rfl, rfl, rfl⟩
  case round =>
    obtain ⟨k, V, ok, hk, hV, HK, rfl, rfl, rfl⟩ := hrel
    generalize hE : at_ + k = E at *
    by_cases hlt : E < s.size
    · have hkl : k < (s.data.toList.drop at_).length := by rw [List.length_drop, size_list]; omega
      have hget : (s.data.toList.drop at_)[k] = s[E] := by obtain ⟨h', e⟩ := drop_byte s at_ k hkl; rw [e]; congr 1
      have D1 := rDigit_any s[E] (w.alloc (.cells #[.int .i64 0, .string ⟨#[]⟩, .int .i64 0, .int .i64 0] 92))
      by_cases hD : isDig s[E] = true
      · have HN : Hid (k + 1 ≤ spn isDig (s.data.toList.drop at_)) := hide (spn_more (unhide HK).1 hkl (by rw [hget]; exact hD))
        have HNX := hide (dvl_next s at_ k E hE hlt)
        rw [hD] at D1
        have hdg := (dig_iff _).1 hD
        have HE := hide hE
        have HD1 := hide D1
        clear hE hget D1 hD hkl
        obtain ⟨d, hdc⟩ : ∃ d, s[E].toNat = 48 + d := ⟨s[E].toNat - 48, by omega⟩
        have hd9 : d ≤ 9 := by omega
        have hd : (s[E].toNat : Int) - 48 = (d : Int) := by omega
        rw [show s[E].toNat - 48 = d by omega] at HNX
        clear hdc
        cases ok with
        | false =>
          go_wp2_with (go_at_call 98; refine (unhide HD1).mono ?_; rintro e w' ⟨rfl, rfl⟩)
          go_round
          case rel =>
            obtain ⟨k1, k2, k3⟩ := unhide HK
            refine ⟨k + 1, V, false, by have := unhide HE; omega, hV, hide ⟨unhide HN, ?_, fun h => by cases h⟩, by have := unhide HE; go_num, rfl, rfl⟩
            have : ¬ dvl 0 ((s.data.toList.drop at_).take k) ≤ 9223372036854775807 := of_decide_eq_false k2.symm
            rw [unhide HNX, decide_eq_false (by omega)]
          case measure => simp [intOf]; omega
        | true =>
          by_cases hle : V * 10 + d ≤ 9223372036854775807
          · have hq : (V : Int) ≤ (9223372036854775807 - (d : Int)) / 10 := by omega
            have hm : IntKind.u64.wrap ((V : Int) * 10) = (V : Int) * 10 := IntWalk.u64_in _ (by omega)
            go_wp2_with (go_at_call 98; refine (unhide HD1).mono ?_; rintro e w' ⟨rfl, rfl⟩)
            go_round
            case rel =>
              obtain ⟨k1, k2, k3⟩ := unhide HK
              refine ⟨k + 1, V * 10 + d, true, by have := unhide HE; omega, hle, hide ⟨unhide HN, ?_, fun _ => ?_⟩, by have := unhide HE; go_num, by go_num, rfl⟩
              · rw [unhide HNX, ← k3 trivial, decide_eq_true hle]
              · rw [unhide HNX, ← k3 trivial]
            case measure => simp [intOf]; omega
          · have hq : ¬ (V : Int) ≤ (9223372036854775807 - (d : Int)) / 10 := by omega
            go_wp2_with (go_at_call 98; refine (unhide HD1).mono ?_; rintro e w' ⟨rfl, rfl⟩)
            go_round
            case rel =>
              obtain ⟨k1, k2, k3⟩ := unhide HK
              refine ⟨k + 1, V, false, by have := unhide HE; omega, hV, hide ⟨unhide HN, ?_, fun h => by cases h⟩, by have := unhide HE; go_num, rfl, by rw [decide_eq_false (by omega)]⟩
              rw [unhide HNX, ← k3 trivial, decide_eq_false hle]
            case measure => simp [intOf]; omega
      · have hD2 : isDig s[E] = false := Bool.eq_false_iff.2 hD
        have HN : Hid (k = spn isDig (s.data.toList.drop at_)) := hide (spn_stop (unhide HK).1 (fun _ => by rw [hget]; exact hD2))
        rw [hD2] at D1
        have HE := hide hE
        have HD1 := hide D1
        clear hE hget D1 hD hD2 hkl
        cases ok with
        | false =>
          go_wp2_with (go_at_call 98; refine (unhide HD1).mono ?_; rintro e w' ⟨rfl, rfl⟩)
          exact bodyPost_ret (v := .tuple #[.agg #[.int .i64 2, .string ⟨#[]⟩, .int .i64 (V : Int), .int .i64 (at_ : Int)], .int .i64 (E : Int), .bool false]) (by simp [results, Tryz.results99, go_sem]) rfl ⟨unhide HEND E k (unhide HE) (unhide HN) V _ (unhide HK).2.1 (unhide HK).2.2 _ rfl, (Below.refl _ _).alloc (Nat.le_refl _) _⟩
        | true =>
          by_cases h48 : s[at_].toNat = 48
          · have g0 : ((s[at_].toNat : Int) != 48) = false := by simp [h48]
            clear h48
            go_wp2_with (go_at_call 98; refine (unhide HD1).mono ?_; rintro e w' ⟨rfl, rfl⟩)
            exact bodyPost_ret (v := .tuple #[.agg #[.int .i64 2, .string ⟨#[]⟩, .int .i64 (V : Int), .int .i64 (at_ : Int)], .int .i64 (E : Int), .bool ((E : Int) == (at_ : Int) + 1)]) (by simp [results, Tryz.results99, go_sem]) rfl ⟨unhide HEND E k (unhide HE) (unhide HN) V _ (unhide HK).2.1 (fun _ => (unhide HK).2.2 trivial) _ (by rw [g0]; rfl), (Below.refl _ _).alloc (Nat.le_refl _) _⟩
          · have g0 : ((s[at_].toNat : Int) != 48) = true := by simp; omega
            clear h48
            go_wp2_with (go_at_call 98; refine (unhide HD1).mono ?_; rintro e w' ⟨rfl, rfl⟩)
            exact bodyPost_ret (v := .tuple #[.agg #[.int .i64 2, .string ⟨#[]⟩, .int .i64 (V : Int), .int .i64 (at_ : Int)], .int .i64 (E : Int), .bool true]) (by simp [results, Tryz.results99, go_sem]) rfl ⟨unhide HEND E k (unhide HE) (unhide HN) V _ (unhide HK).2.1 (fun _ => (unhide HK).2.2 trivial) _ (by rw [g0]; rfl), (Below.refl _ _).alloc (Nat.le_refl _) _⟩
    · have HN : Hid (k = spn isDig (s.data.toList.drop at_)) := hide (spn_stop (unhide HK).1 (fun h => by rw [List.length_drop, size_list] at h; omega))
      have HE := hide hE
      clear hE
      cases ok with
      | false =>
        go_wp2
        exact bodyPost_ret (v := .tuple #[.agg #[.int .i64 2, .string ⟨#[]⟩, .int .i64 (V : Int), .int .i64 (at_ : Int)], .int .i64 (E : Int), .bool false]) (by simp [results, Tryz.results99, go_sem]) rfl ⟨unhide HEND E k (unhide HE) (unhide HN) V _ (unhide HK).2.1 (unhide HK).2.2 _ rfl, (Below.refl _ _).alloc (Nat.le_refl _) _⟩
      | true =>
        by_cases h48 : s[at_].toNat = 48
        · have g0 : ((s[at_].toNat : Int) != 48) = false := by simp [h48]
          clear h48
          go_wp2
          exact bodyPost_ret (v := .tuple #[.agg #[.int .i64 2, .string ⟨#[]⟩, .int .i64 (V : Int), .int .i64 (at_ : Int)], .int .i64 (E : Int), .bool ((E : Int) == (at_ : Int) + 1)]) (by simp [results, Tryz.results99, go_sem]) rfl ⟨unhide HEND E k (unhide HE) (unhide HN) V _ (unhide HK).2.1 (fun _ => (unhide HK).2.2 trivial) _ (by rw [g0]; rfl), (Below.refl _ _).alloc (Nat.le_refl _) _⟩
        · have g0 : ((s[at_].toNat : Int) != 48) = true := by simp; omega
          clear h48
          go_wp2
          exact bodyPost_ret (v := .tuple #[.agg #[.int .i64 2, .string ⟨#[]⟩, .int .i64 (V : Int), .int .i64 (at_ : Int)], .int .i64 (E : Int), .bool true]) (by simp [results, Tryz.results99, go_sem]) rfl ⟨unhide HEND E k (unhide HE) (unhide HN) V _ (unhide HK).2.1 (fun _ => (unhide HK).2.2 trivial) _ (by rw [g0]; rfl), (Below.refl _ _).alloc (Nat.le_refl _) _⟩
end Go.Proofs.YthipclehhcfahaaGreatDoor
namespace Go.Proofs.YthipclehhcfahaaGreatDoor
open Go.RowKit

/-- What the document's text is, at a place. -/
def txV (at_ : Nat) : Option (Tk × Nat) → Value
  | none => .tuple #[.agg #[.int .i64 0, .string ⟨#[]⟩, .int .i64 0, .int .i64 0], .int .i64 0, .bool false]
  | some (t, m) => .tuple #[.agg #[.int .i64 3, .string t.s, .int .i64 0, .int .i64 (at_ : Int)], .int .i64 ((at_ + m : Nat) : Int), .bool true]
theorem tkT_none (s : ByteArray) (at_ E k : Nat) (hk : k = spn isIn (s.data.toList.drop (at_ + 1))) (he : at_ + 1 + k = E) (h : (∀ hE : E < s.size, ¬ s[E].toNat = 39) ∨ 256 < k) : tkT (s.data.toList.drop (at_ + 1)) = none := by
  unfold tkT
  rw [← hk]
  by_cases h256 : 256 < k
  · rw [if_pos h256]
  · rw [if_neg h256]
    rw [if_neg]
    intro e
    rw [List.drop_drop, he] at e
    rcases Nat.lt_or_ge E s.size with hE | hE
    · rw [drop_get s E hE] at e
      rcases h with h | h
      · apply h hE
        simp at e
        rw [e]
        rfl
      · omega
    · rw [List.drop_eq_nil_of_le (by rw [size_list]; exact hE)] at e
      cases e
theorem tkT_some (s : ByteArray) (at_ E k : Nat) (hk : k = spn isIn (s.data.toList.drop (at_ + 1))) (he : at_ + 1 + k = E) (hE : E < s.size) (h39 : s[E].toNat = 39) (h256 : ¬ 256 < k) : tkT (s.data.toList.drop (at_ + 1)) = some (⟨3, s.extract (at_ + 1) E, 0, 0⟩, k + 2) := by
  unfold tkT
  rw [← hk, if_neg h256, if_pos, ← he, ext_seg]
  rw [List.drop_drop, he, drop_get s E hE, List.head?_cons, Option.some.injEq]
  exact UInt8.toNat_inj.1 h39
set_option maxHeartbeats 400000 in
set_option maxRecDepth 100000 in
theorem rText_any (s : ByteArray) (at_ : Nat) (w : World) (hat : at_ < s.size) (hs : s.size ≤ 140737488351232) :
    Calls Tryz.prog 100 #[.string s, .int .i64 (at_ : Int)] w fun e w' => e = .returned (txV at_ (tkT (s.data.toList.drop (at_ + 1)))) ∧ Below w.heap.size w w' := by
  have HNO := hide (tkT_none s at_)
  have HSO := hide (tkT_some s at_)
  generalize tkT (s.data.toList.drop (at_ + 1)) = Q at *
  go_enter Tryz.func100, Tryz.ntmps100
  go_wp2
  go_loop [7] (fun i => ∃ k : Nat, at_ + 1 + k ≤ s.size ∧ Hid (k ≤ spn isIn (s.data.toList.drop (at_ + 1))) ∧ i = .int .i64 ((at_ + 1 + k : Nat) : Int)) (fun i => s.size - (intOf i).toNat)
  case atStart => exact ⟨0, hat, hide (Nat.zero_le _), by go_num⟩
  case round =>
    obtain ⟨k, hk, HK, rfl⟩ := hrel
    generalize hE : at_ + 1 + k = E at *
    by_cases hlt : E < s.size
    · have hkl : k < (s.data.toList.drop (at_ + 1)).length := by rw [List.length_drop, size_list]; omega
      have hget : (s.data.toList.drop (at_ + 1))[k] = s[E] := by obtain ⟨h', e⟩ := drop_byte s (at_ + 1) k hkl; rw [e]; congr 1
      have hea : at_ + 1 ≤ E := by omega
      have hek : ((E : Int) - (at_ : Int)) - 1 = (k : Int) := by omega
      by_cases h39 : s[E].toNat = 39
      · have g39 : ((s[E].toNat : Int) != 39) = false := by simp [h39]
        have g10 : ((s[E].toNat : Int) == 10) = false := by simp [h39]
        have g10' : ((s[E].toNat : Int) != 10) = true := by simp [h39]
        have HN : Hid (k = spn isIn (s.data.toList.drop (at_ + 1))) := hide (spn_stop (unhide HK) (fun _ => by rw [hget]; unfold isIn; simp [h39]))
        have gl : ((E : Int) == (s.size : Int)) = false := by simp; omega
        by_cases h256 : 256 < k
        · have hq := unhide HNO E k (unhide HN) hE (Or.inr h256)
          subst hq
          have HE := hide hE
          clear hE hget h39 hkl
          go_wp2
          exact bodyPost_ret (v := txV at_ none) (by simp [results, Tryz.results100, go_sem, txV]) rfl ⟨rfl, (Below.refl _ _).alloc (Nat.le_refl _) _⟩
        · have hq := unhide HSO E k (unhide HN) hE hlt h39 h256
          subst hq
          have hem : ((at_ + (k + 2) : Nat) : Int) = (E : Int) + 1 := by omega
          have HEM := hide hem
          have HE := hide hE
          clear hE hget h39 hkl hem
          go_wp2
          exact bodyPost_ret (v := .tuple #[.agg #[.int .i64 3, .string (s.extract (at_ + 1) E), .int .i64 0, .int .i64 (at_ : Int)], .int .i64 ((E : Int) + 1), .bool true]) (by simp [results, Tryz.results100, go_sem]) rfl ⟨by unfold txV; dsimp only; rw [unhide HEM], (Below.refl _ _).alloc (Nat.le_refl _) _⟩
      · have g39 : ((s[E].toNat : Int) != 39) = true := by simp; omega
        by_cases h10 : s[E].toNat = 10
        · have g10 : ((s[E].toNat : Int) == 10) = true := by simp [h10]
          have g10' : ((s[E].toNat : Int) != 10) = false := by simp [h10]
          have HN : Hid (k = spn isIn (s.data.toList.drop (at_ + 1))) := hide (spn_stop (unhide HK) (fun _ => by rw [hget]; unfold isIn; simp [h10]))
          have gl : ((E : Int) == (s.size : Int)) = false := by simp; omega
          have hq := unhide HNO E k (unhide HN) hE (Or.inl fun _ => h39)
          subst hq
          have HE := hide hE
          clear hE hget h39 h10 hkl
          go_wp2
          exact bodyPost_ret (v := txV at_ none) (by simp [results, Tryz.results100, go_sem, txV]) rfl ⟨rfl, (Below.refl _ _).alloc (Nat.le_refl _) _⟩
        · have g10' : ((s[E].toNat : Int) != 10) = true := by simp; omega
          have HN : Hid (k + 1 ≤ spn isIn (s.data.toList.drop (at_ + 1))) := hide (spn_more (unhide HK) hkl (by rw [hget]; unfold isIn; simp [h39, h10]))
          have HE := hide hE
          clear hE hget h39 h10 hkl
          go_wp2
          go_round
          case rel => exact ⟨k + 1, by have := unhide HE; omega, HN, by have := unhide HE; go_num⟩
          case measure => simp [intOf]; omega
    · have HN : Hid (k = spn isIn (s.data.toList.drop (at_ + 1))) := hide (spn_stop (unhide HK) (fun h => by rw [List.length_drop, size_list] at h; omega))
      have hq := unhide HNO E k (unhide HN) hE (Or.inl fun h => absurd h hlt)
      subst hq
      have gl : ((E : Int) == (s.size : Int)) = true := by simp; omega
      have HE := hide hE
      clear hE
      go_wp2
      exact bodyPost_ret (v := txV at_ none) (by simp [results, Tryz.results100, go_sem, txV]) rfl ⟨rfl, (Below.refl _ _).alloc (Nat.le_refl _) _⟩
end Go.Proofs.YthipclehhcfahaaGreatDoor
namespace Go.Proofs.YthipclehhcfahaaGreatDoor
open Go.RowKit

theorem bel_drewN {B : Nat} {w w' : World} (h : Below B w w') (n : Nat) : Below B w (w'.drewN n) := ⟨h.os, h.tape, h.output, h.size, h.block⟩
end Go.Proofs.YthipclehhcfahaaGreatDoor
