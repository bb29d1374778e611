/-
  The document's tokens: number, text.
  The document's tokens: text.
  The document's tokens: sign.
-/
import Derived.Test.YtjijhefmbmdbeaaGreatDoorD37
import Derived.Test.YtjijhefmbmdbeaaGreatDoorD12
import Derived.Test.YtjijhefmbmdbeaaGreatDoorD25
import Derived.Deep.DeepCutAuto
import Derived.Deep.QuietTactic
namespace Go.Proofs.YtjijhefmbmdbeaaGreatDoor
open Go.RowKit

theorem dvl_next (s : ByteArray) (at_ k E : Nat) (he : at_ + k = E) (hE : E < s.size) : dvl 0 ((s.data.toList.drop at_).take (k + 1)) = dvl 0 ((s.data.toList.drop at_).take k) * 10 + (s[E].toNat - 48) := by
  have hkl : k < (s.data.toList.drop at_).length := by rw [List.length_drop, size_list]; omega
  obtain ⟨h', e⟩ := drop_byte s at_ k hkl
  rw [List.take_succ_eq_append_getElem hkl, dvl_snoc, e]
  subst he
  rfl
/-- What the document's number is. -/
def nuB (s : ByteArray) (at_ : Nat) (h : at_ < s.size) : Bool := decide (dvl 0 ((s.data.toList.drop at_).take (spn isDig (s.data.toList.drop at_))) ≤ 9223372036854775807) && (decide (¬ s[at_].toNat = 48) || decide (spn isDig (s.data.toList.drop at_) = 1))
theorem nu_end (s : ByteArray) (at_ E k : Nat) (h : at_ < s.size) (he : at_ + k = E) (hk : k = spn isDig (s.data.toList.drop at_)) (V : Nat) (ok : Bool) (hok : ok = decide (dvl 0 ((s.data.toList.drop at_).take k) ≤ 9223372036854775807)) (hV : ok = true → V = dvl 0 ((s.data.toList.drop at_).take k)) (R : Bool) (hR : R = (ok && (((s[at_].toNat : Int) != 48) || ((E : Int) == (at_ : Int) + 1)))) :
    ∃ x : Int, Ending.returned (.tuple #[.agg #[.int .i64 2, .string ⟨#[]⟩, .int .i64 (V : Int), .int .i64 (at_ : Int)], .int .i64 (E : Int), .bool R]) = .returned (.tuple #[.agg #[.int .i64 2, .string ⟨#[]⟩, .int .i64 x, .int .i64 (at_ : Int)], .int .i64 ((at_ + spn isDig (s.data.toList.drop at_) : Nat) : Int), .bool (nuB s at_ h)]) ∧ (nuB s at_ h = true → x = ((dvl 0 ((s.data.toList.drop at_).take (spn isDig (s.data.toList.drop at_))) : Nat) : Int)) := by
  have e1 : R = nuB s at_ h := by
    rw [hR]
    unfold nuB
    rw [← hk, ← hok]
    congr 1
    have a1 : ((s[at_].toNat : Int) != 48) = decide (¬ s[at_].toNat = 48) := by
      by_cases h0 : s[at_].toNat = 48
      · simp [h0]
      · rw [decide_eq_true h0]; simp; omega
    have a2 : ((E : Int) == (at_ : Int) + 1) = decide (k = 1) := by
      by_cases h0 : k = 1
      · rw [decide_eq_true h0]; simp; omega
      · rw [decide_eq_false h0]; simp; omega
    rw [a1, a2]
  refine ⟨(V : Int), by rw [← hk, he, e1], fun hh => ?_⟩
  rw [← hk]
  have : ok = true := by
    unfold nuB at hh
    rw [← hk, ← hok] at hh
    cases ok with
    | true => rfl
    | false => simp at hh
  rw [hV this]
set_option maxHeartbeats 400000 in
set_option maxRecDepth 100000 in
theorem rNumber_any (s : ByteArray) (at_ : Nat) (w : World) (hat : at_ < s.size) (hs : s.size ≤ 140737488351232) :
    Calls Tryz.prog 94 #[.string s, .int .i64 (at_ : Int)] w fun e w' => (∃ x : Int, e = .returned (.tuple #[.agg #[.int .i64 2, .string ⟨#[]⟩, .int .i64 x, .int .i64 (at_ : Int)], .int .i64 ((at_ + spn isDig (s.data.toList.drop at_) : Nat) : Int), .bool (nuB s at_ hat)]) ∧ (nuB s at_ hat = true → x = ((dvl 0 ((s.data.toList.drop at_).take (spn isDig (s.data.toList.drop at_))) : Nat) : Int))) ∧ Below w.heap.size w w' := by
  have HEND := hide (nu_end s at_ · · hat)
  go_enter Tryz.func94, Tryz.ntmps94
  go_wp2
  go_loop [7, 8, 9] (fun i n o => ∃ (k V : Nat) (ok : Bool), at_ + k ≤ s.size ∧ V ≤ 9223372036854775807 ∧ Hid (k ≤ spn isDig (s.data.toList.drop at_) ∧ ok = decide (dvl 0 ((s.data.toList.drop at_).take k) ≤ 9223372036854775807) ∧ (ok = true → V = dvl 0 ((s.data.toList.drop at_).take k))) ∧ i = .int .i64 ((at_ + k : Nat) : Int) ∧ n = .int .u64 (V : Int) ∧ o = .bool ok) (fun i _ _ => s.size - (intOf i).toNat)
  case atStart => exact ⟨0, 0, true, Nat.le_of_lt hat, by omega, hide ⟨Nat.zero_le _, by rw [List.take_zero, dvl_nil]; rfl, fun _ => by rw [List.take_zero, dvl_nil]⟩, rfl, rfl, rfl⟩
  case round =>
    obtain ⟨k, V, ok, hk, hV, HK, rfl, rfl, rfl⟩ := hrel
    generalize hE : at_ + k = E at *
    by_cases hlt : E < s.size
    · have hkl : k < (s.data.toList.drop at_).length := by rw [List.length_drop, size_list]; omega
      have hget : (s.data.toList.drop at_)[k] = s[E] := by obtain ⟨h', e⟩ := drop_byte s at_ k hkl; rw [e]; congr 1
      have D1 := rDigit_any s[E] (w.alloc (.cells #[.int .i64 0, .string ⟨#[]⟩, .int .i64 0, .int .i64 0] 74))
      by_cases hD : isDig s[E] = true
      · have HN : Hid (k + 1 ≤ spn isDig (s.data.toList.drop at_)) := hide (spn_more (unhide HK).1 hkl (by rw [hget]; exact hD))
        have HNX := hide (dvl_next s at_ k E hE hlt)
        rw [hD] at D1
        have hdg := (dig_iff _).1 hD
        have HE := hide hE
        have HD1 := hide D1
        clear hE hget D1 hD hkl
        obtain ⟨d, hdc⟩ : ∃ d, s[E].toNat = 48 + d := ⟨s[E].toNat - 48, by omega⟩
        have hd9 : d ≤ 9 := by omega
        have hd : (s[E].toNat : Int) - 48 = (d : Int) := by omega
        rw [show s[E].toNat - 48 = d by omega] at HNX
        clear hdc
        cases ok with
        | false =>
          go_wp2_with (go_at_call 93; refine (unhide HD1).mono ?_; rintro e w' ⟨rfl, rfl⟩)
          go_round
          case rel =>
            obtain ⟨k1, k2, k3⟩ := unhide HK
            refine ⟨k + 1, V, false, by have := unhide HE; omega, hV, hide ⟨unhide HN, ?_, fun h => by cases h⟩, by have := unhide HE; go_num, rfl, rfl⟩
            have : ¬ dvl 0 ((s.data.toList.drop at_).take k) ≤ 9223372036854775807 := of_decide_eq_false k2.symm
            rw [unhide HNX, decide_eq_false (by omega)]
          case measure => simp [intOf]; omega
        | true =>
          by_cases hle : V * 10 + d ≤ 9223372036854775807
          · have hq : (V : Int) ≤ (9223372036854775807 - (d : Int)) / 10 := by omega
            have hm : IntKind.u64.wrap ((V : Int) * 10) = (V : Int) * 10 := IntWalk.u64_in _ (by omega)
            go_wp2_with (go_at_call 93; refine (unhide HD1).mono ?_; rintro e w' ⟨rfl, rfl⟩)
            go_round
            case rel =>
              obtain ⟨k1, k2, k3⟩ := unhide HK
              refine ⟨k + 1, V * 10 + d, true, by have := unhide HE; omega, hle, hide ⟨unhide HN, ?_, fun _ => ?_⟩, by have := unhide HE; go_num, by go_num, rfl⟩
              · rw [unhide HNX, ← k3 trivial, decide_eq_true hle]
              · rw [unhide HNX, ← k3 trivial]
            case measure => simp [intOf]; omega
          · have hq : ¬ (V : Int) ≤ (9223372036854775807 - (d : Int)) / 10 := by omega
            go_wp2_with (go_at_call 93; refine (unhide HD1).mono ?_; rintro e w' ⟨rfl, rfl⟩)
            go_round
            case rel =>
              obtain ⟨k1, k2, k3⟩ := unhide HK
              refine ⟨k + 1, V, false, by have := unhide HE; omega, hV, hide ⟨unhide HN, ?_, fun h => by cases h⟩, by have := unhide HE; go_num, rfl, by rw [decide_eq_false (by omega)]⟩
              rw [unhide HNX, ← k3 trivial, decide_eq_false hle]
            case measure => simp [intOf]; omega
      · have hD2 : isDig s[E] = false := Bool.eq_false_iff.2 hD
        have HN : Hid (k = spn isDig (s.data.toList.drop at_)) := hide (spn_stop (unhide HK).1 (fun _ => by rw [hget]; exact hD2))
        rw [hD2] at D1
        have HE := hide hE
        have HD1 := hide D1
        clear hE hget D1 hD hD2 hkl
        cases ok with
        | false =>
          go_wp2_with (go_at_call 93; refine (unhide HD1).mono ?_; rintro e w' ⟨rfl, rfl⟩)
          exact bodyPost_ret (v := .tuple #[.agg #[.int .i64 2, .string ⟨#[]⟩, .int .i64 (V : Int), .int .i64 (at_ : Int)], .int .i64 (E : Int), .bool false]) (by simp [results, Tryz.results94, go_sem]) rfl ⟨unhide HEND E k (unhide HE) (unhide HN) V _ (unhide HK).2.1 (unhide HK).2.2 _ rfl, (Below.refl _ _).alloc (Nat.le_refl _) _⟩
        | true =>
          by_cases h48 : s[at_].toNat = 48
          · have g0 : ((s[at_].toNat : Int) != 48) = false := by simp [h48]
            clear h48
            go_wp2_with (go_at_call 93; refine (unhide HD1).mono ?_; rintro e w' ⟨rfl, rfl⟩)
            exact bodyPost_ret (v := .tuple #[.agg #[.int .i64 2, .string ⟨#[]⟩, .int .i64 (V : Int), .int .i64 (at_ : Int)], .int .i64 (E : Int), .bool ((E : Int) == (at_ : Int) + 1)]) (by simp [results, Tryz.results94, go_sem]) rfl ⟨unhide HEND E k (unhide HE) (unhide HN) V _ (unhide HK).2.1 (fun _ => (unhide HK).2.2 trivial) _ (by rw [g0]; rfl), (Below.refl _ _).alloc (Nat.le_refl _) _⟩
          · have g0 : ((s[at_].toNat : Int) != 48) = true := by simp; omega
            clear h48
            go_wp2_with (go_at_call 93; refine (unhide HD1).mono ?_; rintro e w' ⟨rfl, rfl⟩)
            exact bodyPost_ret (v := .tuple #[.agg #[.int .i64 2, .string ⟨#[]⟩, .int .i64 (V : Int), .int .i64 (at_ : Int)], .int .i64 (E : Int), .bool true]) (by simp [results, Tryz.results94, go_sem]) rfl ⟨unhide HEND E k (unhide HE) (unhide HN) V _ (unhide HK).2.1 (fun _ => (unhide HK).2.2 trivial) _ (by rw [g0]; rfl), (Below.refl _ _).alloc (Nat.le_refl _) _⟩
    · have HN : Hid (k = spn isDig (s.data.toList.drop at_)) := hide (spn_stop (unhide HK).1 (fun h => by rw [List.length_drop, size_list] at h; omega))
      have HE := hide hE
      clear hE
      cases ok with
      | false =>
        go_wp2
        exact bodyPost_ret (v := .tuple #[.agg #[.int .i64 2, .string ⟨#[]⟩, .int .i64 (V : Int), .int .i64 (at_ : Int)], .int .i64 (E : Int), .bool false]) (by simp [results, Tryz.results94, go_sem]) rfl ⟨unhide HEND E k (unhide HE) (unhide HN) V _ (unhide HK).2.1 (unhide HK).2.2 _ rfl, (Below.refl _ _).alloc (Nat.le_refl _) _⟩
      | true =>
        by_cases h48 : s[at_].toNat = 48
        · have g0 : ((s[at_].toNat : Int) != 48) = false := by simp [h48]
          clear h48
          go_wp2
          exact bodyPost_ret (v := .tuple #[.agg #[.int .i64 2, .string ⟨#[]⟩, .int .i64 (V : Int), .int .i64 (at_ : Int)], .int .i64 (E : Int), .bool ((E : Int) == (at_ : Int) + 1)]) (by simp [results, Tryz.results94, go_sem]) rfl ⟨unhide HEND E k (unhide HE) (unhide HN) V _ (unhide HK).2.1 (fun _ => (unhide HK).2.2 trivial) _ (by rw [g0]; rfl), (Below.refl _ _).alloc (Nat.le_refl _) _⟩
        · have g0 : ((s[at_].toNat : Int) != 48) = true := by simp; omega
          clear h48
          go_wp2
          exact bodyPost_ret (v := .tuple #[.agg #[.int .i64 2, .string ⟨#[]⟩, .int .i64 (V : Int), .int .i64 (at_ : Int)], .int .i64 (E : Int), .bool true]) (by simp [results, Tryz.results94, go_sem]) rfl ⟨unhide HEND E k (unhide HE) (unhide HN) V _ (unhide HK).2.1 (fun _ => (unhide HK).2.2 trivial) _ (by rw [g0]; rfl), (Below.refl _ _).alloc (Nat.le_refl _) _⟩
end Go.Proofs.YtjijhefmbmdbeaaGreatDoor
namespace Go.Proofs.YtjijhefmbmdbeaaGreatDoor
open Go.RowKit

/-- What the document's text is, at a place. -/
def txV (at_ : Nat) : Option (Tk × Nat) → Value
  | none => .tuple #[.agg #[.int .i64 0, .string ⟨#[]⟩, .int .i64 0, .int .i64 0], .int .i64 0, .bool false]
  | some (t, m) => .tuple #[.agg #[.int .i64 3, .string t.s, .int .i64 0, .int .i64 (at_ : Int)], .int .i64 ((at_ + m : Nat) : Int), .bool true]
theorem tkT_none (s : ByteArray) (at_ E k : Nat) (hk : k = spn isIn (s.data.toList.drop (at_ + 1))) (he : at_ + 1 + k = E) (h : (∀ hE : E < s.size, ¬ s[E].toNat = 39) ∨ 256 < k) : tkT (s.data.toList.drop (at_ + 1)) = none := by
  unfold tkT
  rw [← hk]
  by_cases h256 : 256 < k
  · rw [if_pos h256]
  · rw [if_neg h256]
    rw [if_neg]
    intro e
    rw [List.drop_drop, he] at e
    rcases Nat.lt_or_ge E s.size with hE | hE
    · rw [drop_get s E hE] at e
      rcases h with h | h
      · apply h hE
        simp at e
        rw [e]
        rfl
      · omega
    · rw [List.drop_eq_nil_of_le (by rw [size_list]; exact hE)] at e
      cases e
theorem tkT_some (s : ByteArray) (at_ E k : Nat) (hk : k = spn isIn (s.data.toList.drop (at_ + 1))) (he : at_ + 1 + k = E) (hE : E < s.size) (h39 : s[E].toNat = 39) (h256 : ¬ 256 < k) : tkT (s.data.toList.drop (at_ + 1)) = some (⟨3, s.extract (at_ + 1) E, 0, 0⟩, k + 2) := by
  unfold tkT
  rw [← hk, if_neg h256, if_pos, ← he, ext_seg]
  rw [List.drop_drop, he, drop_get s E hE, List.head?_cons, Option.some.injEq]
  exact UInt8.toNat_inj.1 h39
set_option maxHeartbeats 400000 in
set_option maxRecDepth 100000 in
theorem rText_any (s : ByteArray) (at_ : Nat) (w : World) (hat : at_ < s.size) (hs : s.size ≤ 140737488351232) :
    Calls Tryz.prog 95 #[.string s, .int .i64 (at_ : Int)] w fun e w' => e = .returned (txV at_ (tkT (s.data.toList.drop (at_ + 1)))) ∧ Below w.heap.size w w' := by
  have HNO := hide (tkT_none s at_)
  have HSO := hide (tkT_some s at_)
  generalize tkT (s.data.toList.drop (at_ + 1)) = Q at *
  go_enter Tryz.func95, Tryz.ntmps95
  go_wp2
  go_loop [7] (fun i => ∃ k : Nat, at_ + 1 + k ≤ s.size ∧ Hid (k ≤ spn isIn (s.data.toList.drop (at_ + 1))) ∧ i = .int .i64 ((at_ + 1 + k : Nat) : Int)) (fun i => s.size - (intOf i).toNat)
  case atStart => exact ⟨0, hat, hide (Nat.zero_le _), by go_num⟩
  case round =>
    obtain ⟨k, hk, HK, rfl⟩ := hrel
    generalize hE : at_ + 1 + k = E at *
    by_cases hlt : E < s.size
    · have hkl : k < (s.data.toList.drop (at_ + 1)).length := by rw [List.length_drop, size_list]; omega
      have hget : (s.data.toList.drop (at_ + 1))[k] = s[E] := by obtain ⟨h', e⟩ := drop_byte s (at_ + 1) k hkl; rw [e]; congr 1
      have hea : at_ + 1 ≤ E := by omega
      have hek : ((E : Int) - (at_ : Int)) - 1 = (k : Int) := by omega
      by_cases h39 : s[E].toNat = 39
      · have g39 : ((s[E].toNat : Int) != 39) = false := by simp [h39]
        have g10 : ((s[E].toNat : Int) == 10) = false := by simp [h39]
        have g10' : ((s[E].toNat : Int) != 10) = true := by simp [h39]
        have HN : Hid (k = spn isIn (s.data.toList.drop (at_ + 1))) := hide (spn_stop (unhide HK) (fun _ => by rw [hget]; unfold isIn; simp [h39]))
        have gl : ((E : Int) == (s.size : Int)) = false := by simp; omega
        by_cases h256 : 256 < k
        · have hq := unhide HNO E k (unhide HN) hE (Or.inr h256)
          subst hq
          have HE := hide hE
          clear hE hget h39 hkl
          go_wp2
          exact bodyPost_ret (v := txV at_ none) (by simp [results, Tryz.results95, go_sem, txV]) rfl ⟨rfl, (Below.refl _ _).alloc (Nat.le_refl _) _⟩
        · have hq := unhide HSO E k (unhide HN) hE hlt h39 h256
          subst hq
          have hem : ((at_ + (k + 2) : Nat) : Int) = (E : Int) + 1 := by omega
          have HEM := hide hem
          have HE := hide hE
          clear hE hget h39 hkl hem
          go_wp2
          exact bodyPost_ret (v := .tuple #[.agg #[.int .i64 3, .string (s.extract (at_ + 1) E), .int .i64 0, .int .i64 (at_ : Int)], .int .i64 ((E : Int) + 1), .bool true]) (by simp [results, Tryz.results95, go_sem]) rfl ⟨by unfold txV; dsimp only; rw [unhide HEM], (Below.refl _ _).alloc (Nat.le_refl _) _⟩
      · have g39 : ((s[E].toNat : Int) != 39) = true := by simp; omega
        by_cases h10 : s[E].toNat = 10
        · have g10 : ((s[E].toNat : Int) == 10) = true := by simp [h10]
          have g10' : ((s[E].toNat : Int) != 10) = false := by simp [h10]
          have HN : Hid (k = spn isIn (s.data.toList.drop (at_ + 1))) := hide (spn_stop (unhide HK) (fun _ => by rw [hget]; unfold isIn; simp [h10]))
          have gl : ((E : Int) == (s.size : Int)) = false := by simp; omega
          have hq := unhide HNO E k (unhide HN) hE (Or.inl fun _ => h39)
          subst hq
          have HE := hide hE
          clear hE hget h39 h10 hkl
          go_wp2
          exact bodyPost_ret (v := txV at_ none) (by simp [results, Tryz.results95, go_sem, txV]) rfl ⟨rfl, (Below.refl _ _).alloc (Nat.le_refl _) _⟩
        · have g10' : ((s[E].toNat : Int) != 10) = true := by simp; omega
          have HN : Hid (k + 1 ≤ spn isIn (s.data.toList.drop (at_ + 1))) := hide (spn_more (unhide HK) hkl (by rw [hget]; unfold isIn; simp [h39, h10]))
          have HE := hide hE
          clear hE hget h39 h10 hkl
          go_wp2
          go_round
          case rel => exact ⟨k + 1, by have := unhide HE; omega, HN, by have := unhide HE; go_num⟩
          case measure => simp [intOf]; omega
    · have HN : Hid (k = spn isIn (s.data.toList.drop (at_ + 1))) := hide (spn_stop (unhide HK) (fun h => by rw [List.length_drop, size_list] at h; omega))
      have hq := unhide HNO E k (unhide HN) hE (Or.inl fun h => absurd h hlt)
      subst hq
      have gl : ((E : Int) == (s.size : Int)) = true := by simp; omega
      have HE := hide hE
      clear hE
      go_wp2
      exact bodyPost_ret (v := txV at_ none) (by simp [results, Tryz.results95, go_sem, txV]) rfl ⟨rfl, (Below.refl _ _).alloc (Nat.le_refl _) _⟩
end Go.Proofs.YtjijhefmbmdbeaaGreatDoor
namespace Go.Proofs.YtjijhefmbmdbeaaGreatDoor
open Go.RowKit

def onesL : List Nat := [40, 41, 58, 59, 46, 43, 45, 42, 60, 61]
theorem ones_fin : ∀ b : Fin 256, isOne (UInt8.ofNat b.val) = onesL.contains b.val := by decide +kernel
theorem ones_is (b : UInt8) : isOne b = onesL.contains b.toNat := by have := ones_fin ⟨b.toNat, b.toNat_lt⟩; simpa using this
theorem ones_at : ∀ k : Fin 10, ((⟨#[40, 41, 58, 59, 46, 43, 45, 42, 60, 61]⟩ : ByteArray)[k.val]'(by exact k.isLt)).toNat = onesL.getD k.val 0 := by decide +kernel
theorem ones_yes (b : UInt8) (k : Nat) (hk : k < 10) (h : onesL.getD k 0 = b.toNat) : isOne b = true := by
  rw [ones_is, List.contains_iff_mem, ← h, List.getD_eq_getElem?_getD, List.getElem?_eq_getElem (by simpa [onesL] using hk)]
  exact List.getElem_mem _
theorem ones_no (b : UInt8) (h : ∀ k, k < 10 → ¬ onesL.getD k 0 = b.toNat) : isOne b = false := by
  rw [ones_is, Bool.eq_false_iff]
  intro hc
  rw [List.contains_iff_mem] at hc
  obtain ⟨i, hi, he⟩ := List.mem_iff_getElem.1 hc
  apply h i (by simpa [onesL] using hi)
  rw [List.getD_eq_getElem?_getD, List.getElem?_eq_getElem hi]
  exact he
/-- A sign of two bytes? -/
def twoB (s : ByteArray) (at_ : Nat) (h : at_ < s.size) : Bool := isTwo s[at_] && decide ((s.data.toList.drop (at_ + 1)).head? = some 61)
/-- What the document's sign is. -/
def sgS (s : ByteArray) (at_ : Nat) (h : at_ < s.size) : ByteArray := if twoB s at_ h = true then s.extract at_ (at_ + 2) else if isOne s[at_] = true then s.extract at_ (at_ + 1) else ⟨#[]⟩
theorem two_is (s : ByteArray) (at_ : Nat) (h : at_ < s.size) : (∀ h1 : at_ + 1 < s.size, s[at_ + 1].toNat = 61 → twoB s at_ h = isTwo s[at_]) ∧ (∀ h1 : at_ + 1 < s.size, ¬ s[at_ + 1].toNat = 61 → twoB s at_ h = false) ∧ (¬ at_ + 1 < s.size → twoB s at_ h = false) := by
  refine ⟨fun h1 h61 => ?_, fun h1 h61 => ?_, fun h1 => ?_⟩
  · unfold twoB
    rw [drop_get s (at_ + 1) h1, List.head?_cons, decide_eq_true (by rw [Option.some.injEq]; exact UInt8.toNat_inj.1 h61), Bool.and_true]
  · unfold twoB
    rw [drop_get s (at_ + 1) h1, List.head?_cons, decide_eq_false (by rw [Option.some.injEq]; intro e; exact h61 (by rw [e]; rfl)), Bool.and_false]
  · unfold twoB
    rw [List.drop_eq_nil_of_le (by rw [size_list]; omega), decide_eq_false (by simp), Bool.and_false]
theorem isTwo_is (b : UInt8) : isTwo b = (decide (b.toNat = 60) || decide (b.toNat = 61) || decide (b.toNat = 33)) := rfl
set_option maxHeartbeats 400000 in
set_option maxRecDepth 100000 in
theorem rSign_any (s : ByteArray) (at_ : Nat) (w : World) (hat : at_ < s.size) (hs : s.size ≤ 140737488351232) :
    Calls Tryz.prog 96 #[.string s, .int .i64 (at_ : Int)] w fun e w' => e = .returned (.string (sgS s at_ hat)) ∧ Below w.heap.size w w' := by
  have HSG : Hid (sgS s at_ hat = if twoB s at_ hat = true then s.extract at_ (at_ + 2) else if isOne s[at_] = true then s.extract at_ (at_ + 1) else ⟨#[]⟩) := hide rfl
  have HTW := hide (two_is s at_ hat)
  have HT2 := hide (isTwo_is s[at_])
  have HT3 : Hid (twoB s at_ hat = true → at_ + 2 ≤ s.size) := hide (fun e => by
    rcases Nat.lt_or_ge (at_ + 1) s.size with h | h
    · omega
    · rw [(two_is s at_ hat).2.2 (by omega)] at e; cases e)
  generalize twoB s at_ hat = TW at *
  generalize sgS s at_ hat = SG at *
  go_enter Tryz.func96, Tryz.ntmps96
  go_upto_region 1 with fail
  go_cut [36] (fun c wx => c = .bool TW ∧ wx = w)
  case first =>
    by_cases h1 : at_ + 1 < s.size
    · by_cases h61 : s[at_ + 1].toNat = 61
      · have e := (unhide HTW).1 h1 h61
        rw [unhide HT2] at e
        have g61 : ((s[at_ + 1].toNat : Int) == 61) = true := by simp [h61]
        by_cases h60 : s[at_].toNat = 60
        · rw [decide_eq_true h60, Bool.true_or, Bool.true_or] at e
          subst e
          have g : ((s[at_].toNat : Int) == 60) = true := by simp [h60]
          clear h60 h61
          go_wp2
          go_meet
          exact ⟨rfl, rfl⟩
        · have g : ((s[at_].toNat : Int) == 60) = false := by simp; omega
          rw [decide_eq_false h60, Bool.false_or] at e
          by_cases h61b : s[at_].toNat = 61
          · rw [decide_eq_true h61b, Bool.true_or] at e
            subst e
            have g2 : ((s[at_].toNat : Int) == 61) = true := by simp [h61b]
            clear h60 h61 h61b
            go_wp2
            go_meet
            exact ⟨rfl, rfl⟩
          · have g2 : ((s[at_].toNat : Int) == 61) = false := by simp; omega
            rw [decide_eq_false h61b, Bool.false_or] at e
            by_cases h33 : s[at_].toNat = 33
            · rw [decide_eq_true h33] at e
              subst e
              have g3 : ((s[at_].toNat : Int) == 33) = true := by simp [h33]
              clear h60 h61 h61b h33
              go_wp2
              go_meet
              exact ⟨rfl, rfl⟩
            · rw [decide_eq_false h33] at e
              subst e
              have g3 : ((s[at_].toNat : Int) == 33) = false := by simp; omega
              clear h60 h61 h61b h33
              go_wp2
              go_meet
              exact ⟨rfl, rfl⟩
      · have e := (unhide HTW).2.1 h1 h61
        subst e
        have g61 : ((s[at_ + 1].toNat : Int) == 61) = false := by simp; omega
        clear h61
        go_wp2
        go_meet
        exact ⟨rfl, rfl⟩
    · have e := (unhide HTW).2.2 h1
      subst e
      go_wp2
      go_meet
      exact ⟨rfl, rfl⟩
  case rest =>
    obtain ⟨rfl, rfl⟩ := hcut
    cases TW with
    | true =>
      have e := unhide HSG
      rw [if_pos rfl] at e
      subst e
      have h2 := unhide HT3 rfl
      clear HSG HTW HT2 HT3
      go_wp2
      go_ret
      exact ⟨rfl, Below.refl _ _⟩
    | false =>
      go_wp2_with fail
      go_loopw [6] (fun i wr => ∃ k : Nat, k ≤ 10 ∧ i = .int .i64 (k : Int) ∧ Below wc.heap.size wc wr ∧ Hid (∀ j, j < k → ¬ onesL.getD j 0 = s[at_].toNat)) (fun i _ => 10 - (intOf i).toNat)
      case atStart => exact ⟨0, by omega, rfl, Below.refl _ _, hide (by intro j hj; omega)⟩
      case round =>
        obtain ⟨k, hk, rfl, hbe, HN⟩ := hrel
        have HBE := hide hbe
        clear hbe
        by_cases hlt : k < 10
        · have hks : k < (⟨#[40, 41, 58, 59, 46, 43, 45, 42, 60, 61]⟩ : ByteArray).size := hlt
          have ho : ((⟨#[40, 41, 58, 59, 46, 43, 45, 42, 60, 61]⟩ : ByteArray)[k]).toNat = onesL.getD k 0 := ones_at ⟨k, hlt⟩
          by_cases heq : onesL.getD k 0 = s[at_].toNat
          · have g : ((((⟨#[40, 41, 58, 59, 46, 43, 45, 42, 60, 61]⟩ : ByteArray)[k]).toNat : Int) == (s[at_].toNat : Int)) = true := by rw [ho, heq]; simp
            have e := unhide HSG
            rw [if_neg (by simp), if_pos (ones_yes _ k hlt heq)] at e
            subst e
            clear HSG HTW HT2 HT3 ho heq HN
            go_wp2_with fail
            go_quiet (fail)
            go_wp2
            go_ret
            exact ⟨rfl, bel_drewN (unhide HBE) _⟩
          · have g : ((((⟨#[40, 41, 58, 59, 46, 43, 45, 42, 60, 61]⟩ : ByteArray)[k]).toNat : Int) == (s[at_].toNat : Int)) = false := by rw [ho, beq_eq_false_iff_ne]; intro hh; exact heq (by exact_mod_cast hh)
            have HN2 : Hid (∀ j, j < k + 1 → ¬ onesL.getD j 0 = s[at_].toNat) := hide (fun j hj => by
              rcases Nat.lt_or_ge j k with h | h
              · exact unhide HN j h
              · obtain rfl : j = k := by omega
                exact heq)
            clear ho heq HN
            go_wp2_with fail
            go_quiet (fail)
            go_wp2
            go_roundw
            case rel => exact ⟨k + 1, by omega, by go_num, bel_drewN (unhide HBE) _, HN2⟩
            case measure => simp [intOf]; omega
        · have e := unhide HSG
          rw [if_neg (by simp), if_neg (by rw [ones_no _ (fun j hj => unhide HN j (by omega))]; simp)] at e
          subst e
          go_wp2
          go_ret
          exact ⟨rfl, unhide HBE⟩
end Go.Proofs.YtjijhefmbmdbeaaGreatDoor
