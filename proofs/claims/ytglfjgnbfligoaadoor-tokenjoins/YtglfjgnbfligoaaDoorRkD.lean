/-
  The document's tokens: sign.
-/
import Derived.Test.YtglfjgnbfligoaaDoorRkC
import Derived.Test.YtglfjgnbfligoaaDoorTkG
import Derived.Deep.DeepCutAuto
import Derived.Deep.QuietTactic
namespace Go.Proofs.YtglfjgnbfligoaaDoor
open Go.RowKit

def onesL : List Nat := [40, 41, 58, 59, 46, 43, 45, 42, 60, 61]
theorem ones_fin : ∀ b : Fin 256, isOne (UInt8.ofNat b.val) = onesL.contains b.val := by decide +kernel
theorem ones_is (b : UInt8) : isOne b = onesL.contains b.toNat := by have := ones_fin ⟨b.toNat, b.toNat_lt⟩; simpa using this
theorem ones_at : ∀ k : Fin 10, ((⟨#[40, 41, 58, 59, 46, 43, 45, 42, 60, 61]⟩ : ByteArray)[k.val]'(by exact k.isLt)).toNat = onesL.getD k.val 0 := by decide +kernel
theorem ones_yes (b : UInt8) (k : Nat) (hk : k < 10) (h : onesL.getD k 0 = b.toNat) : isOne b = true := by
  rw [ones_is, List.contains_iff_mem, ← h, List.getD_eq_getElem?_getD, List.getElem?_eq_getElem (by simpa [onesL] using hk)]
  exact List.getElem_mem _
theorem ones_no (b : UInt8) (h : ∀ k, k < 10 → ¬ onesL.getD k 0 = b.toNat) : isOne b = false := by
  rw [ones_is, Bool.eq_false_iff]
  intro hc
  rw [List.contains_iff_mem] at hc
  obtain ⟨i, hi, he⟩ := List.mem_iff_getElem.1 hc
  apply h i (by simpa [onesL] using hi)
  rw [List.getD_eq_getElem?_getD, List.getElem?_eq_getElem hi]
  exact he
/-- A sign of two bytes? -/
def twoB (s : ByteArray) (at_ : Nat) (h : at_ < s.size) : Bool := isTwo s[at_] && decide ((s.data.toList.drop (at_ + 1)).head? = some 61)
/-- What the document's sign is. -/
def sgS (s : ByteArray) (at_ : Nat) (h : at_ < s.size) : ByteArray := if twoB s at_ h = true then s.extract at_ (at_ + 2) else if isOne s[at_] = true then s.extract at_ (at_ + 1) else ⟨#[]⟩
theorem two_is (s : ByteArray) (at_ : Nat) (h : at_ < s.size) : (∀ h1 : at_ + 1 < s.size, s[at_ + 1].toNat = 61 → twoB s at_ h = isTwo s[at_]) ∧ (∀ h1 : at_ + 1 < s.size, ¬ s[at_ + 1].toNat = 61 → twoB s at_ h = false) ∧ (¬ at_ + 1 < s.size → twoB s at_ h = false) := by
  refine ⟨fun h1 h61 => ?_, fun h1 h61 => ?_, fun h1 => ?_⟩
  · unfold twoB
    rw [drop_get s (at_ + 1) h1, List.head?_cons, decide_eq_true (by rw [Option.some.injEq]; exact UInt8.toNat_inj.1 h61), Bool.and_true]
  · unfold twoB
    rw [drop_get s (at_ + 1) h1, List.head?_cons, decide_eq_false (by rw [Option.some.injEq]; intro e; exact h61 (by rw [e]; rfl)), Bool.and_false]
  · unfold twoB
    rw [List.drop_eq_nil_of_le (by rw [size_list]; omega), decide_eq_false (by simp), Bool.and_false]
theorem isTwo_is (b : UInt8) : isTwo b = (decide (b.toNat = 60) || decide (b.toNat = 61) || decide (b.toNat = 33)) := rfl
set_option maxHeartbeats 400000 in
set_option maxRecDepth 100000 in
theorem rSign_any (s : ByteArray) (at_ : Nat) (w : World) (hat : at_ < s.size) (hs : s.size ≤ 140737488351232) :
    Calls Tryd.prog 40 #[.string s, .int .i64 (at_ : Int)] w fun e w' => e = .returned (.string (sgS s at_ hat)) ∧ Below w.heap.size w w' := by
  have HSG : Hid (sgS s at_ hat = if twoB s at_ hat = true then s.extract at_ (at_ + 2) else if isOne s[at_] = true then s.extract at_ (at_ + 1) else ⟨#[]⟩) := hide rfl
  have HTW := hide (two_is s at_ hat)
  have HT2 := hide (isTwo_is s[at_])
  have HT3 : Hid (twoB s at_ hat = true → at_ + 2 ≤ s.size) := hide (fun e => by
    rcases Nat.lt_or_ge (at_ + 1) s.size with h | h
    · omega
    · rw [(two_is s at_ hat).2.2 (by omega)] at e; cases e)
  generalize twoB s at_ hat = TW at *
  generalize sgS s at_ hat = SG at *
  go_enter Tryd.func40, Tryd.ntmps40
  go_upto_region 1 with fail
  go_cut [36] (fun c wx => c = .bool TW ∧ wx = w)
  case first =>
    by_cases h1 : at_ + 1 < s.size
    · by_cases h61 : s[at_ + 1].toNat = 61
      · have e := (unhide HTW).1 h1 h61
        rw [unhide HT2] at e
        have g61 : ((s[at_ + 1].toNat : Int) == 61) = true := by simp [h61]
        by_cases h60 : s[at_].toNat = 60
        · rw [decide_eq_true h60, Bool.true_or, Bool.true_or] at e
          subst e
          have g : ((s[at_].toNat : Int) == 60) = true := by simp [h60]
          clear h60 h61
          go_wp2
          go_meet
          exact ⟨rfl, rfl⟩
        · have g : ((s[at_].toNat : Int) == 60) = false := by simp; omega
          rw [decide_eq_false h60, Bool.false_or] at e
          by_cases h61b : s[at_].toNat = 61
          · rw [decide_eq_true h61b, Bool.true_or] at e
            subst e
            have g2 : ((s[at_].toNat : Int) == 61) = true := by simp [h61b]
            clear h60 h61 h61b
            go_wp2
            go_meet
            exact ⟨rfl, rfl⟩
          · have g2 : ((s[at_].toNat : Int) == 61) = false := by simp; omega
            rw [decide_eq_false h61b, Bool.false_or] at e
            by_cases h33 : s[at_].toNat = 33
            · rw [decide_eq_true h33] at e
              subst e
              have g3 : ((s[at_].toNat : Int) == 33) = true := by simp [h33]
              clear h60 h61 h61b h33
              go_wp2
              go_meet
              exact ⟨rfl, rfl⟩
            · rw [decide_eq_false h33] at e
              subst e
              have g3 : ((s[at_].toNat : Int) == 33) = false := by simp; omega
              clear h60 h61 h61b h33
              go_wp2
              go_meet
              exact ⟨rfl, rfl⟩
      · have e := (unhide HTW).2.1 h1 h61
        subst e
        have g61 : ((s[at_ + 1].toNat : Int) == 61) = false := by simp; omega
        clear h61
        go_wp2
        go_meet
        exact ⟨rfl, rfl⟩
    · have e := (unhide HTW).2.2 h1
      subst e
      go_wp2
      go_meet
      exact ⟨rfl, rfl⟩
  case rest =>
    obtain ⟨rfl, rfl⟩ := hcut
    cases TW with
    | true =>
      have e := unhide HSG
      rw [if_pos rfl] at e
      subst e
      have h2 := unhide HT3 rfl
      clear HSG HTW HT2 HT3
      go_wp2
      go_ret
      exact ⟨rfl, Below.refl _ _⟩
    | false =>
      go_wp2_with fail
      go_loopw [6] (fun i wr => ∃ k : Nat, k ≤ 10 ∧ i = .int .i64 (k : Int) ∧ Below wc.heap.size wc wr ∧ Hid (∀ j, j < k → ¬ onesL.getD j 0 = s[at_].toNat)) (fun i _ => 10 - (intOf i).toNat)
      case atStart => exact ⟨0, by omega, rfl, Below.refl _ _, hide (by intro j hj; omega)⟩
      case round =>
        obtain ⟨k, hk, rfl, hbe, HN⟩ := hrel
        have HBE := hide hbe
        clear hbe
        by_cases hlt : k < 10
        · have hks : k < (⟨#[40, 41, 58, 59, 46, 43, 45, 42, 60, 61]⟩ : ByteArray).size := hlt
          have ho : ((⟨#[40, 41, 58, 59, 46, 43, 45, 42, 60, 61]⟩ : ByteArray)[k]).toNat = onesL.getD k 0 := ones_at ⟨k, hlt⟩
          by_cases heq : onesL.getD k 0 = s[at_].toNat
          · have g : ((((⟨#[40, 41, 58, 59, 46, 43, 45, 42, 60, 61]⟩ : ByteArray)[k]).toNat : Int) == (s[at_].toNat : Int)) = true := by rw [ho, heq]; simp
            have e := unhide HSG
            rw [if_neg (by simp), if_pos (ones_yes _ k hlt heq)] at e
            subst e
            clear HSG HTW HT2 HT3 ho heq HN
            go_wp2_with fail
            go_quiet (fail)
            go_wp2
            go_ret
            exact ⟨rfl, bel_drewN (unhide HBE) _⟩
          · have g : ((((⟨#[40, 41, 58, 59, 46, 43, 45, 42, 60, 61]⟩ : ByteArray)[k]).toNat : Int) == (s[at_].toNat : Int)) = false := by rw [ho, beq_eq_false_iff_ne]; intro hh; exact heq (by exact_mod_cast hh)
            have HN2 : Hid (∀ j, j < k + 1 → ¬ onesL.getD j 0 = s[at_].toNat) := hide (fun j hj => by
              rcases Nat.lt_or_ge j k with h | h
              · exact unhide HN j h
              · obtain rfl : j = k := by omega
                exact heq)
            clear ho heq HN
            go_wp2_with fail
            go_quiet (fail)
            go_wp2
            go_roundw
            case rel => exact ⟨k + 1, by omega, by go_num, bel_drewN (unhide HBE) _, HN2⟩
            case measure => simp [intOf]; omega
        · have e := unhide HSG
          rw [if_neg (by simp), if_neg (by rw [ones_no _ (fun j hj => unhide HN j (by omega))]; simp)] at e
          subst e
          go_wp2
          go_ret
          exact ⟨rfl, unhide HBE⟩
end Go.Proofs.YtglfjgnbfligoaaDoor
