/-
  The document's tokens: number, text.
-/
import Derived.Test.YtglfjgnbfligoaaDoorRkA
namespace Go.Proofs.YtglfjgnbfligoaaDoor
open Go.RowKit

theorem dvl_next (s : ByteArray) (at_ k E : Nat) (he : at_ + k = E) (hE : E < s.size) : dvl 0 ((s.data.toList.drop at_).take (k + 1)) = dvl 0 ((s.data.toList.drop at_).take k) * 10 + (s[E].toNat - 48) := by
  have hkl : k < (s.data.toList.drop at_).length := by rw [List.length_drop, size_list]; omega
  obtain ⟨h', e⟩ := drop_at s at_ k hkl
  rw [List.take_succ_eq_append_getElem hkl, dvl_snoc, e]
  subst he
  rfl
/-- What the document's number is. -/
def nuB (s : ByteArray) (at_ : Nat) (h : at_ < s.size) : Bool := decide (dvl 0 ((s.data.toList.drop at_).take (spn isDig (s.data.toList.drop at_))) ≤ 9223372036854775807) && (decide (¬ s[at_].toNat = 48) || decide (spn isDig (s.data.toList.drop at_) = 1))
theorem nu_end (s : ByteArray) (at_ E k : Nat) (h : at_ < s.size) (he : at_ + k = E) (hk : k = spn isDig (s.data.toList.drop at_)) (V : Nat) (ok : Bool) (hok : ok = decide (dvl 0 ((s.data.toList.drop at_).take k) ≤ 9223372036854775807)) (hV : ok = true → V = dvl 0 ((s.data.toList.drop at_).take k)) (R : Bool) (hR : R = (ok && (((s[at_].toNat : Int) != 48) || ((E : Int) == (at_ : Int) + 1)))) :
    ∃ x : Int, Ending.returned (.tuple #[.agg #[.int .i64 2, .string ⟨#[]⟩, .int .i64 (V : Int), .int .i64 (at_ : Int)], .int .i64 (E : Int), .bool R]) = .returned (.tuple #[.agg #[.int .i64 2, .string ⟨#[]⟩, .int .i64 x, .int .i64 (at_ : Int)], .int .i64 ((at_ + spn isDig (s.data.toList.drop at_) : Nat) : Int), .bool (nuB s at_ h)]) ∧ (nuB s at_ h = true → x = ((dvl 0 ((s.data.toList.drop at_).take (spn isDig (s.data.toList.drop at_))) : Nat) : Int)) := by
  have e1 : R = nuB s at_ h := by
    rw [hR]
    unfold nuB
    rw [← hk, ← hok]
    congr 1
    have a1 : ((s[at_].toNat : Int) != 48) = decide (¬ s[at_].toNat = 48) := by
      by_cases h0 : s[at_].toNat = 48
      · simp [h0]
      · rw [decide_eq_true h0]; simp; omega
    have a2 : ((E : Int) == (at_ : Int) + 1) = decide (k = 1) := by
      by_cases h0 : k = 1
      · rw [decide_eq_true h0]; simp; omega
      · rw [decide_eq_false h0]; simp; omega
    rw [a1, a2]
  refine ⟨(V : Int), by rw [← hk, he, e1], fun hh => ?_⟩
  rw [← hk]
  have : ok = true := by
    unfold nuB at hh
    rw [← hk, ← hok] at hh
    cases ok with
    | true => rfl
    | false => simp at hh
  rw [hV this]
set_option maxHeartbeats 400000 in
set_option maxRecDepth 100000 in
theorem rNumber_any (s : ByteArray) (at_ : Nat) (w : World) (hat : at_ < s.size) (hs : s.size ≤ 140737488351232) :
    Calls Tryd.prog 38 #[.string s, .int .i64 (at_ : Int)] w fun e w' => (∃ x : Int, e = .returned (.tuple #[.agg #[.int .i64 2, .string ⟨#[]⟩, .int .i64 x, .int .i64 (at_ : Int)], .int .i64 ((at_ + spn isDig (s.data.toList.drop at_) : Nat) : Int), .bool (nuB s at_ hat)]) ∧ (nuB s at_ hat = true → x = ((dvl 0 ((s.data.toList.drop at_).take (spn isDig (s.data.toList.drop at_))) : Nat) : Int))) ∧ Below w.heap.size w w' := by
  have HEND := hide (nu_end s at_ · · hat)
  go_enter Tryd.func38, Tryd.ntmps38
  go_wp2
  go_loop [7, 8, 9] (fun i n o => ∃ (k V : Nat) (ok : Bool), at_ + k ≤ s.size ∧ V ≤ 9223372036854775807 ∧ Hid (k ≤ spn isDig (s.data.toList.drop at_) ∧ ok = decide (dvl 0 ((s.data.toList.drop at_).take k) ≤ 9223372036854775807) ∧ (ok = true → V = dvl 0 ((s.data.toList.drop at_).take k))) ∧ i = .int .i64 ((at_ + k : Nat) : Int) ∧ n = .int .u64 (V : Int) ∧ o = .bool ok) (fun i _ _ => s.size - (intOf i).toNat)
  case atStart => exact ⟨0, 0, true, Nat.le_of_lt hat, by omega, hide ⟨Nat.zero_le _, by rw [List.take_zero, dvl_nil]; rfl, fun _ => by rw [List.take_zero, dvl_nil]⟩, rfl, rfl, rfl⟩
  case round =>
    obtain ⟨k, V, ok, hk, hV, HK, rfl, rfl, rfl⟩ := hrel
    generalize hE : at_ + k = E at *
    by_cases hlt : E < s.size
    · have hkl : k < (s.data.toList.drop at_).length := by rw [List.length_drop, size_list]; omega
      have hget : (s.data.toList.drop at_)[k] = s[E] := by obtain ⟨h', e⟩ := drop_at s at_ k hkl; rw [e]; congr 1
      have D1 := rDigit_any s[E] (w.alloc (.cells #[.int .i64 0, .string ⟨#[]⟩, .int .i64 0, .int .i64 0] 35))
      by_cases hD : isDig s[E] = true
      · have HN : Hid (k + 1 ≤ spn isDig (s.data.toList.drop at_)) := hide (spn_more (unhide HK).1 hkl (by rw [hget]; exact hD))
        have HNX := hide (dvl_next s at_ k E hE hlt)
        rw [hD] at D1
        have hdg := (dig_iff _).1 hD
        have HE := hide hE
        have HD1 := hide D1
        clear hE hget D1 hD hkl
        obtain ⟨d, hdc⟩ : ∃ d, s[E].toNat = 48 + d := ⟨s[E].toNat - 48, by omega⟩
        have hd9 : d ≤ 9 := by omega
        have hd : (s[E].toNat : Int) - 48 = (d : Int) := by omega
        rw [show s[E].toNat - 48 = d by omega] at HNX
        clear hdc
        cases ok with
        | false =>
          go_wp2_with (go_at_call 37; refine (unhide HD1).mono ?_; rintro e w' ⟨rfl, rfl⟩)
          go_round
          case rel =>
            obtain ⟨k1, k2, k3⟩ := unhide HK
            refine ⟨k + 1, V, false, by have := unhide HE; omega, hV, hide ⟨unhide HN, ?_, fun h => by cases h⟩, by have := unhide HE; go_num, rfl, rfl⟩
            have : ¬ dvl 0 ((s.data.toList.drop at_).take k) ≤ 9223372036854775807 := of_decide_eq_false k2.symm
            rw [unhide HNX, decide_eq_false (by omega)]
          case measure => simp [intOf]; omega
        | true =>
          by_cases hle : V * 10 + d ≤ 9223372036854775807
          · have hq : (V : Int) ≤ (9223372036854775807 - (d : Int)) / 10 := by omega
            have hm : IntKind.u64.wrap ((V : Int) * 10) = (V : Int) * 10 := IntWalk.u64_in _ (by omega)
            go_wp2_with (go_at_call 37; refine (unhide HD1).mono ?_; rintro e w' ⟨rfl, rfl⟩)
            go_round
            case rel =>
              obtain ⟨k1, k2, k3⟩ := unhide HK
              refine ⟨k + 1, V * 10 + d, true, by have := unhide HE; omega, hle, hide ⟨unhide HN, ?_, fun _ => ?_⟩, by have := unhide HE; go_num, by go_num, rfl⟩
              · rw [unhide HNX, ← k3 trivial, decide_eq_true hle]
              · rw [unhide HNX, ← k3 trivial]
            case measure => simp [intOf]; omega
          · have hq : ¬ (V : Int) ≤ (9223372036854775807 - (d : Int)) / 10 := by omega
            go_wp2_with (go_at_call 37; refine (unhide HD1).mono ?_; rintro e w' ⟨rfl, rfl⟩)
            go_round
            case rel =>
              obtain ⟨k1, k2, k3⟩ := unhide HK
              refine ⟨k + 1, V, false, by have := unhide HE; omega, hV, hide ⟨unhide HN, ?_, fun h => by cases h⟩, by have := unhide HE; go_num, rfl, by rw [decide_eq_false (by omega)]⟩
              rw [unhide HNX, ← k3 trivial, decide_eq_false hle]
            case measure => simp [intOf]; omega
      · have hD2 : isDig s[E] = false := Bool.eq_false_iff.2 hD
        have HN : Hid (k = spn isDig (s.data.toList.drop at_)) := hide (spn_stop (unhide HK).1 (fun _ => by rw [hget]; exact hD2))
        rw [hD2] at D1
        have HE := hide hE
        have HD1 := hide D1
        clear hE hget D1 hD hD2 hkl
        cases ok with
        | false =>
          go_wp2_with (go_at_call 37; refine (unhide HD1).mono ?_; rintro e w' ⟨rfl, rfl⟩)
          exact bodyPost_ret (v := .tuple #[.agg #[.int .i64 2, .string ⟨#[]⟩, .int .i64 (V : Int), .int .i64 (at_ : Int)], .int .i64 (E : Int), .bool false]) (by simp [results, Tryd.results38, go_sem]) rfl ⟨unhide HEND E k (unhide HE) (unhide HN) V _ (unhide HK).2.1 (unhide HK).2.2 _ rfl, (Below.refl _ _).alloc (Nat.le_refl _) _⟩
        | true =>
          by_cases h48 : s[at_].toNat = 48
          · have g0 : ((s[at_].toNat : Int) != 48) = false := by simp [h48]
            clear h48
            go_wp2_with (go_at_call 37; refine (unhide HD1).mono ?_; rintro e w' ⟨rfl, rfl⟩)
            exact bodyPost_ret (v := .tuple #[.agg #[.int .i64 2, .string ⟨#[]⟩, .int .i64 (V : Int), .int .i64 (at_ : Int)], .int .i64 (E : Int), .bool ((E : Int) == (at_ : Int) + 1)]) (by simp [results, Tryd.results38, go_sem]) rfl ⟨unhide HEND E k (unhide HE) (unhide HN) V _ (unhide HK).2.1 (fun _ => (unhide HK).2.2 trivial) _ (by rw [g0]; rfl), (Below.refl _ _).alloc (Nat.le_refl _) _⟩
          · have g0 : ((s[at_].toNat : Int) != 48) = true := by simp; omega
            clear h48
            go_wp2_with (go_at_call 37; refine (unhide HD1).mono ?_; rintro e w' ⟨rfl, rfl⟩)
            exact bodyPost_ret (v := .tuple #[.agg #[.int .i64 2, .string ⟨#[]⟩, .int .i64 (V : Int), .int .i64 (at_ : Int)], .int .i64 (E : Int), .bool true]) (by simp [results, Tryd.results38, go_sem]) rfl ⟨unhide HEND E k (unhide HE) (unhide HN) V _ (unhide HK).2.1 (fun _ => (unhide HK).2.2 trivial) _ (by rw [g0]; rfl), (Below.refl _ _).alloc (Nat.le_refl _) _⟩
    · have HN : Hid (k = spn isDig (s.data.toList.drop at_)) := hide (spn_stop (unhide HK).1 (fun h => by rw [List.length_drop, size_list] at h; omega))
      have HE := hide hE
      clear hE
      cases ok with
      | false =>
        go_wp2
        exact bodyPost_ret (v := .tuple #[.agg #[.int .i64 2, .string ⟨#[]⟩, .int .i64 (V : Int), .int .i64 (at_ : Int)], .int .i64 (E : Int), .bool false]) (by simp [results, Tryd.results38, go_sem]) rfl ⟨unhide HEND E k (unhide HE) (unhide HN) V _ (unhide HK).2.1 (unhide HK).2.2 _ rfl, (Below.refl _ _).alloc (Nat.le_refl _) _⟩
      | true =>
        by_cases h48 : s[at_].toNat = 48
        · have g0 : ((s[at_].toNat : Int) != 48) = false := by simp [h48]
          clear h48
          go_wp2
          exact bodyPost_ret (v := .tuple #[.agg #[.int .i64 2, .string ⟨#[]⟩, .int .i64 (V : Int), .int .i64 (at_ : Int)], .int .i64 (E : Int), .bool ((E : Int) == (at_ : Int) + 1)]) (by simp [results, Tryd.results38, go_sem]) rfl ⟨unhide HEND E k (unhide HE) (unhide HN) V _ (unhide HK).2.1 (fun _ => (unhide HK).2.2 trivial) _ (by rw [g0]; rfl), (Below.refl _ _).alloc (Nat.le_refl _) _⟩
        · have g0 : ((s[at_].toNat : Int) != 48) = true := by simp; omega
          clear h48
          go_wp2
          exact bodyPost_ret (v := .tuple #[.agg #[.int .i64 2, .string ⟨#[]⟩, .int .i64 (V : Int), .int .i64 (at_ : Int)], .int .i64 (E : Int), .bool true]) (by simp [results, Tryd.results38, go_sem]) rfl ⟨unhide HEND E k (unhide HE) (unhide HN) V _ (unhide HK).2.1 (fun _ => (unhide HK).2.2 trivial) _ (by rw [g0]; rfl), (Below.refl _ _).alloc (Nat.le_refl _) _⟩
end Go.Proofs.YtglfjgnbfligoaaDoor
