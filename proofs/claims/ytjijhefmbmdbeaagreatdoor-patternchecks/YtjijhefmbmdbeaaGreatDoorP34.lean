/-
  The document's tokens: text.
  The document's tokens: sign.
  The document's tokens: one.
-/
import Derived.Test.YtjijhefmbmdbeaaGreatDoorP33
import Derived.Test.YtjijhefmbmdbeaaGreatDoorP12
import Derived.Test.YtjijhefmbmdbeaaGreatDoorP29
import Derived.Deep.DeepCutAuto
import Derived.Deep.QuietTactic
namespace Go.Proofs.YtjijhefmbmdbeaaGreatDoor
open Go.RowKit

/-- What the document's text is, at a place. -/
def txV (at_ : Nat) : Option (Tk × Nat) → Value
  | none => .tuple #[.agg #[.int .i64 0, .string ⟨#[]⟩, .int .i64 0, .int .i64 0], .int .i64 0, .bool false]
  | some (t, m) => .tuple #[.agg #[.int .i64 3, .string t.s, .int .i64 0, .int .i64 (at_ : Int)], .int .i64 ((at_ + m : Nat) : Int), .bool true]
theorem tkT_none (s : ByteArray) (at_ E k : Nat) (hk : k = spn isIn (s.data.toList.drop (at_ + 1))) (he : at_ + 1 + k = E) (h : (∀ hE : E < s.size, ¬ s[E].toNat = 39) ∨ 256 < k) : tkT (s.data.toList.drop (at_ + 1)) = none := by
  unfold tkT
  rw [← hk]
  by_cases h256 : 256 < k
  · rw [if_pos h256]
  · rw [if_neg h256]
    rw [if_neg]
    intro e
    rw [List.drop_drop, he] at e
    rcases Nat.lt_or_ge E s.size with hE | hE
    · rw [drop_get s E hE] at e
      rcases h with h | h
      · apply h hE
        simp at e
        rw [e]
        rfl
      · omega
    · rw [List.drop_eq_nil_of_le (by rw [size_list]; exact hE)] at e
      cases e
theorem tkT_some (s : ByteArray) (at_ E k : Nat) (hk : k = spn isIn (s.data.toList.drop (at_ + 1))) (he : at_ + 1 + k = E) (hE : E < s.size) (h39 : s[E].toNat = 39) (h256 : ¬ 256 < k) : tkT (s.data.toList.drop (at_ + 1)) = some (⟨3, s.extract (at_ + 1) E, 0, 0⟩, k + 2) := by
  unfold tkT
  rw [← hk, if_neg h256, if_pos, ← he, ext_seg]
  rw [List.drop_drop, he, drop_get s E hE, List.head?_cons, Option.some.injEq]
  exact UInt8.toNat_inj.1 h39
set_option maxHeartbeats 400000 in
set_option maxRecDepth 100000 in
theorem rText_any (s : ByteArray) (at_ : Nat) (w : World) (hat : at_ < s.size) (hs : s.size ≤ 140737488351232) :
    Calls Tryz.prog 95 #[.string s, .int .i64 (at_ : Int)] w fun e w' => e = .returned (txV at_ (tkT (s.data.toList.drop (at_ + 1)))) ∧ Below w.heap.size w w' := by
  have HNO := hide (tkT_none s at_)
  have HSO := hide (tkT_some s at_)
  generalize tkT (s.data.toList.drop (at_ + 1)) = Q at *
  go_enter Tryz.func95, Tryz.ntmps95
  go_wp2
  go_loop [7] (fun i => ∃ k : Nat, at_ + 1 + k ≤ s.size ∧ Hid (k ≤ spn isIn (s.data.toList.drop (at_ + 1))) ∧ i = .int .i64 ((at_ + 1 + k : Nat) : Int)) (fun i => s.size - (intOf i).toNat)
  case atStart => exact ⟨0, hat, hide (Nat.zero_le _), by go_num⟩
  case round =>
    obtain ⟨k, hk, HK, rfl⟩ := hrel
    generalize hE : at_ + 1 + k = E at *
    by_cases hlt : E < s.size
    · have hkl : k < (s.data.toList.drop (at_ + 1)).length := by rw [List.length_drop, size_list]; omega
      have hget : (s.data.toList.drop (at_ + 1))[k] = s[E] := by obtain ⟨h', e⟩ := drop_byte s (at_ + 1) k hkl; rw [e]; congr 1
      have hea : at_ + 1 ≤ E := by omega
      have hek : ((E : Int) - (at_ : Int)) - 1 = (k : Int) := by omega
      by_cases h39 : s[E].toNat = 39
      · have g39 : ((s[E].toNat : Int) != 39) = false := by simp [h39]
        have g10 : ((s[E].toNat : Int) == 10) = false := by simp [h39]
        have g10' : ((s[E].toNat : Int) != 10) = true := by simp [h39]
        have HN : Hid (k = spn isIn (s.data.toList.drop (at_ + 1))) := hide (spn_stop (unhide HK) (fun _ => by rw [hget]; unfold isIn; simp [h39]))
        have gl : ((E : Int) == (s.size : Int)) = false := by simp; omega
        by_cases h256 : 256 < k
        · have hq := unhide HNO E k (unhide HN) hE (Or.inr h256)
          subst hq
          have HE := hide hE
          clear hE hget h39 hkl
          go_wp2
          exact bodyPost_ret (v := txV at_ none) (by simp [results, Tryz.results95, go_sem, txV]) rfl ⟨rfl, (Below.refl _ _).alloc (Nat.le_refl _) _⟩
        · have hq := unhide HSO E k (unhide HN) hE hlt h39 h256
          subst hq
          have hem : ((at_ + (k + 2) : Nat) : Int) = (E : Int) + 1 := by omega
          have HEM := hide hem
          have HE := hide hE
          clear hE hget h39 hkl hem
          go_wp2
          exact bodyPost_ret (v := .tuple #[.agg #[.int .i64 3, .string (s.extract (at_ + 1) E), .int .i64 0, .int .i64 (at_ : Int)], .int .i64 ((E : Int) + 1), .bool true]) (by simp [results, Tryz.results95, go_sem]) rfl ⟨by unfold txV; dsimp only; rw [unhide HEM], (Below.refl _ _).alloc (Nat.le_refl _) _⟩
      · have g39 : ((s[E].toNat : Int) != 39) = true := by simp; omega
        by_cases h10 : s[E].toNat = 10
        · have g10 : ((s[E].toNat : Int) == 10) = true := by simp [h10]
          have g10' : ((s[E].toNat : Int) != 10) = false := by simp [h10]
          have HN : Hid (k = spn isIn (s.data.toList.drop (at_ + 1))) := hide (spn_stop (unhide HK) (fun _ => by rw [hget]; unfold isIn; simp [h10]))
          have gl : ((E : Int) == (s.size : Int)) = false := by simp; omega
          have hq := unhide HNO E k (unhide HN) hE (Or.inl fun _ => h39)
          subst hq
          have HE := hide hE
          clear hE hget h39 h10 hkl
          go_wp2
          exact bodyPost_ret (v := txV at_ none) (by simp [results, Tryz.results95, go_sem, txV]) rfl ⟨rfl, (Below.refl _ _).alloc (Nat.le_refl _) _⟩
        · have g10' : ((s[E].toNat : Int) != 10) = true := by simp; omega
          have HN : Hid (k + 1 ≤ spn isIn (s.data.toList.drop (at_ + 1))) := hide (spn_more (unhide HK) hkl (by rw [hget]; unfold isIn; simp [h39, h10]))
          have HE := hide hE
          clear hE hget h39 h10 hkl
          go_wp2
          go_round
          case rel => exact ⟨k + 1, by have := unhide HE; omega, HN, by have := unhide HE; go_num⟩
          case measure => simp [intOf]; omega
    · have HN : Hid (k = spn isIn (s.data.toList.drop (at_ + 1))) := hide (spn_stop (unhide HK) (fun h => by rw [List.length_drop, size_list] at h; omega))
      have hq := unhide HNO E k (unhide HN) hE (Or.inl fun h => absurd h hlt)
      subst hq
      have gl : ((E : Int) == (s.size : Int)) = true := by simp; omega
      have HE := hide hE
      clear hE
      go_wp2
      exact bodyPost_ret (v := txV at_ none) (by simp [results, Tryz.results95, go_sem, txV]) rfl ⟨rfl, (Below.refl _ _).alloc (Nat.le_refl _) _⟩
end Go.Proofs.YtjijhefmbmdbeaaGreatDoor
namespace Go.Proofs.YtjijhefmbmdbeaaGreatDoor
open Go.RowKit

def onesL : List Nat := [40, 41, 58, 59, 46, 43, 45, 42, 60, 61]
theorem ones_fin : ∀ b : Fin 256, isOne (UInt8.ofNat b.val) = onesL.contains b.val := by decide +kernel
theorem ones_is (b : UInt8) : isOne b = onesL.contains b.toNat := by have := ones_fin ⟨b.toNat, b.toNat_lt⟩; simpa using this
theorem ones_at : ∀ k : Fin 10, ((⟨#[40, 41, 58, 59, 46, 43, 45, 42, 60, 61]⟩ : ByteArray)[k.val]'(by exact k.isLt)).toNat = onesL.getD k.val 0 := by decide +kernel
theorem ones_yes (b : UInt8) (k : Nat) (hk : k < 10) (h : onesL.getD k 0 = b.toNat) : isOne b = true := by
  rw [ones_is, List.contains_iff_mem, ← h, List.getD_eq_getElem?_getD, List.getElem?_eq_getElem (by simpa [onesL] using hk)]
  exact List.getElem_mem _
theorem ones_no (b : UInt8) (h : ∀ k, k < 10 → ¬ onesL.getD k 0 = b.toNat) : isOne b = false := by
  rw [ones_is, Bool.eq_false_iff]
  intro hc
  rw [List.contains_iff_mem] at hc
  obtain ⟨i, hi, he⟩ := List.mem_iff_getElem.1 hc
  apply h i (by simpa [onesL] using hi)
  rw [List.getD_eq_getElem?_getD, List.getElem?_eq_getElem hi]
  exact he
/-- A sign of two bytes? -/
def twoB (s : ByteArray) (at_ : Nat) (h : at_ < s.size) : Bool := isTwo s[at_] && decide ((s.data.toList.drop (at_ + 1)).head? = some 61)
/-- What the document's sign is. -/
def sgS (s : ByteArray) (at_ : Nat) (h : at_ < s.size) : ByteArray := if twoB s at_ h = true then s.extract at_ (at_ + 2) else if isOne s[at_] = true then s.extract at_ (at_ + 1) else ⟨#[]⟩
theorem two_is (s : ByteArray) (at_ : Nat) (h : at_ < s.size) : (∀ h1 : at_ + 1 < s.size, s[at_ + 1].toNat = 61 → twoB s at_ h = isTwo s[at_]) ∧ (∀ h1 : at_ + 1 < s.size, ¬ s[at_ + 1].toNat = 61 → twoB s at_ h = false) ∧ (¬ at_ + 1 < s.size → twoB s at_ h = false) := by
  refine ⟨fun h1 h61 => ?_, fun h1 h61 => ?_, fun h1 => ?_⟩
  · unfold twoB
    rw [drop_get s (at_ + 1) h1, List.head?_cons, decide_eq_true (by rw [Option.some.injEq]; exact UInt8.toNat_inj.1 h61), Bool.and_true]
  · unfold twoB
    rw [drop_get s (at_ + 1) h1, List.head?_cons, decide_eq_false (by rw [Option.some.injEq]; intro e; exact h61 (by rw [e]; rfl)), Bool.and_false]
  · unfold twoB
    rw [List.drop_eq_nil_of_le (by rw [size_list]; omega), decide_eq_false (by simp), Bool.and_false]
theorem isTwo_is (b : UInt8) : isTwo b = (decide (b.toNat = 60) || decide (b.toNat = 61) || decide (b.toNat = 33)) := rfl
set_option maxHeartbeats 400000 in
set_option maxRecDepth 100000 in
theorem rSign_any (s : ByteArray) (at_ : Nat) (w : World) (hat : at_ < s.size) (hs : s.size ≤ 140737488351232) :
    Calls Tryz.prog 96 #[.string s, .int .i64 (at_ : Int)] w fun e w' => e = .returned (.string (sgS s at_ hat)) ∧ Below w.heap.size w w' := by
  have HSG : Hid (sgS s at_ hat = if twoB s at_ hat = true then s.extract at_ (at_ + 2) else if isOne s[at_] = true then s.extract at_ (at_ + 1) else ⟨#[]⟩) := hide rfl
  have HTW := hide (two_is s at_ hat)
  have HT2 := hide (isTwo_is s[at_])
  have HT3 : Hid (twoB s at_ hat = true → at_ + 2 ≤ s.size) := hide (fun e => by
    rcases Nat.lt_or_ge (at_ + 1) s.size with h | h
    · omega
    · rw [(two_is s at_ hat).2.2 (by omega)] at e; cases e)
  generalize twoB s at_ hat = TW at *
  generalize sgS s at_ hat = SG at *
  go_enter Tryz.func96, Tryz.ntmps96
  go_upto_region 1 with fail
  go_cut [36] (fun c wx => c = .bool TW ∧ wx = w)
  case first =>
    by_cases h1 : at_ + 1 < s.size
    · by_cases h61 : s[at_ + 1].toNat = 61
      · have e := (unhide HTW).1 h1 h61
        rw [unhide HT2] at e
        have g61 : ((s[at_ + 1].toNat : Int) == 61) = true := by simp [h61]
        by_cases h60 : s[at_].toNat = 60
        · rw [decide_eq_true h60, Bool.true_or, Bool.true_or] at e
          subst e
          have g : ((s[at_].toNat : Int) == 60) = true := by simp [h60]
          clear h60 h61
          go_wp2
          go_meet
          exact ⟨rfl, rfl⟩
        · have g : ((s[at_].toNat : Int) == 60) = false := by simp; omega
          rw [decide_eq_false h60, Bool.false_or] at e
          by_cases h61b : s[at_].toNat = 61
          · rw [decide_eq_true h61b, Bool.true_or] at e
            subst e
            have g2 : ((s[at_].toNat : Int) == 61) = true := by simp [h61b]
            clear h60 h61 h61b
            go_wp2
            go_meet
            exact ⟨rfl, rfl⟩
          · have g2 : ((s[at_].toNat : Int) == 61) = false := by simp; omega
            rw [decide_eq_false h61b, Bool.false_or] at e
            by_cases h33 : s[at_].toNat = 33
            · rw [decide_eq_true h33] at e
              subst e
              have g3 : ((s[at_].toNat : Int) == 33) = true := by simp [h33]
              clear h60 h61 h61b h33
              go_wp2
              go_meet
              exact ⟨rfl, rfl⟩
            · rw [decide_eq_false h33] at e
              subst e
              have g3 : ((s[at_].toNat : Int) == 33) = false := by simp; omega
              clear h60 h61 h61b h33
              go_wp2
              go_meet
              exact ⟨rfl, rfl⟩
      · have e := (unhide HTW).2.1 h1 h61
        subst e
        have g61 : ((s[at_ + 1].toNat : Int) == 61) = false := by simp; omega
        clear h61
        go_wp2
        go_meet
        exact ⟨rfl, rfl⟩
    · have e := (unhide HTW).2.2 h1
      subst e
      go_wp2
      go_meet
      exact ⟨rfl, rfl⟩
  case rest =>
    obtain ⟨rfl, rfl⟩ := hcut
    cases TW with
    | true =>
      have e := unhide HSG
      rw [if_pos rfl] at e
      subst e
      have h2 := unhide HT3 rfl
      clear HSG HTW HT2 HT3
      go_wp2
      go_ret
      exact ⟨rfl, Below.refl _ _⟩
    | false =>
      go_wp2_with fail
      go_loopw [6] (fun i wr => ∃ k : Nat, k ≤ 10 ∧ i = .int .i64 (k : Int) ∧ Below wc.heap.size wc wr ∧ Hid (∀ j, j < k → ¬ onesL.getD j 0 = s[at_].toNat)) (fun i _ => 10 - (intOf i).toNat)
      case atStart => exact ⟨0, by omega, rfl, Below.refl _ _, hide (by intro j hj; omega)⟩
      case round =>
        obtain ⟨k, hk, rfl, hbe, HN⟩ := hrel
        have HBE := hide hbe
        clear hbe
        by_cases hlt : k < 10
        · have hks : k < (⟨#[40, 41, 58, 59, 46, 43, 45, 42, 60, 61]⟩ : ByteArray).size := hlt
          have ho : ((⟨#[40, 41, 58, 59, 46, 43, 45, 42, 60, 61]⟩ : ByteArray)[k]).toNat = onesL.getD k 0 := ones_at ⟨k, hlt⟩
          by_cases heq : onesL.getD k 0 = s[at_].toNat
          · have g : ((((⟨#[40, 41, 58, 59, 46, 43, 45, 42, 60, 61]⟩ : ByteArray)[k]).toNat : Int) == (s[at_].toNat : Int)) = true := by rw [ho, heq]; simp
            have e := unhide HSG
            rw [if_neg (by simp), if_pos (ones_yes _ k hlt heq)] at e
            subst e
            clear HSG HTW HT2 HT3 ho heq HN
            go_wp2_with fail
            go_quiet (fail)
            go_wp2
            go_ret
            exact ⟨rfl, bel_drewN (unhide HBE) _⟩
          · have g : ((((⟨#[40, 41, 58, 59, 46, 43, 45, 42, 60, 61]⟩ : ByteArray)[k]).toNat : Int) == (s[at_].toNat : Int)) = false := by rw [ho, beq_eq_false_iff_ne]; intro hh; exact heq (by exact_mod_cast hh)
            have HN2 : Hid (∀ j, j < k + 1 → ¬ onesL.getD j 0 = s[at_].toNat) := hide (fun j hj => by
              rcases Nat.lt_or_ge j k with h | h
              · exact unhide HN j h
              · obtain rfl : j = k := by omega
                exact heq)
            clear ho heq HN
            go_wp2_with fail
            go_quiet (fail)
            go_wp2
            go_roundw
            case rel => exact ⟨k + 1, by omega, by go_num, bel_drewN (unhide HBE) _, HN2⟩
            case measure => simp [intOf]; omega
        · have e := unhide HSG
          rw [if_neg (by simp), if_neg (by rw [ones_no _ (fun j hj => unhide HN j (by omega))]; simp)] at e
          subst e
          go_wp2
          go_ret
          exact ⟨rfl, unhide HBE⟩
end Go.Proofs.YtjijhefmbmdbeaaGreatDoor
namespace Go.Proofs.YtjijhefmbmdbeaaGreatDoor
open Go.RowKit

/-- What the document's token at a place is. -/
def OneOk (l : List UInt8) (at_ : Nat) (T : Tk) (E : Int) (ok : Bool) : Prop := (ok = false ∧ tkR l = none) ∨ (ok = true ∧ ∃ t n, tkR l = some (t, n) ∧ T = t.out (at_ : Int) ∧ E = ((at_ + n : Nat) : Int))
theorem tkR_at (s : ByteArray) (at_ : Nat) (h : at_ < s.size) : tkR (s.data.toList.drop at_) = if isLet s[at_] then tkW (s.data.toList.drop at_) else if isDig s[at_] then tkN (s.data.toList.drop at_) else if s[at_].toNat = 39 then tkT (s.data.toList.drop (at_ + 1)) else tkS s[at_] (s.data.toList.drop (at_ + 1)) := by
  rw [drop_get s at_ h, tkR]
theorem one_word (s : ByteArray) (at_ : Nat) (h : at_ < s.size) (hL : isLet s[at_] = true) : OneOk (s.data.toList.drop at_) at_ ⟨1, s.extract at_ (at_ + spn isAln (s.data.toList.drop at_)), 0, (at_ : Int)⟩ ((at_ + spn isAln (s.data.toList.drop at_) : Nat) : Int) (decide (spn isAln (s.data.toList.drop at_) ≤ 32)) := by
  unfold OneOk
  rw [tkR_at s at_ h, if_pos hL, ext_seg]
  unfold tkW
  by_cases h32 : 32 < spn isAln (s.data.toList.drop at_)
  · exact Or.inl ⟨decide_eq_false (by omega), if_pos h32⟩
  · exact Or.inr ⟨decide_eq_true (by omega), _, _, if_neg h32, rfl, rfl⟩
theorem one_num (s : ByteArray) (at_ : Nat) (h : at_ < s.size) (hL : ¬ isLet s[at_] = true) (hD : isDig s[at_] = true) (x : Int) (hx : nuB s at_ h = true → x = ((dvl 0 ((s.data.toList.drop at_).take (spn isDig (s.data.toList.drop at_))) : Nat) : Int)) :
    OneOk (s.data.toList.drop at_) at_ ⟨2, ⟨#[]⟩, x, (at_ : Int)⟩ ((at_ + spn isDig (s.data.toList.drop at_) : Nat) : Int) (nuB s at_ h) := by
  have h1 : 1 ≤ spn isDig (s.data.toList.drop at_) := by rw [drop_get s at_ h, spn, if_pos hD]; omega
  have hh : (s.data.toList.drop at_).head? = some 48 ↔ s[at_].toNat = 48 := by
    rw [drop_get s at_ h, List.head?_cons, Option.some.injEq]
    exact ⟨fun e => by rw [e]; rfl, fun e => UInt8.toNat_inj.1 e⟩
  have e0 : tkR (s.data.toList.drop at_) = tkN (s.data.toList.drop at_) := by rw [tkR_at s at_ h, if_neg hL, if_pos hD]
  have hdef : nuB s at_ h = (decide (dvl 0 ((s.data.toList.drop at_).take (spn isDig (s.data.toList.drop at_))) ≤ 9223372036854775807) && (decide (¬ s[at_].toNat = 48) || decide (spn isDig (s.data.toList.drop at_) = 1))) := rfl
  unfold OneOk
  rw [e0]
  unfold tkN
  by_cases hz : s[at_].toNat = 48 ∧ 1 < spn isDig (s.data.toList.drop at_)
  · refine Or.inl ⟨?_, if_pos ⟨hh.2 hz.1, hz.2⟩⟩
    rw [hdef, decide_eq_false (p := ¬ s[at_].toNat = 48) (by simpa using hz.1), decide_eq_false (p := spn isDig (s.data.toList.drop at_) = 1) (by omega), Bool.or_false, Bool.and_false]
  · rw [if_neg (fun h => hz ⟨hh.1 h.1, h.2⟩)]
    have hr : (decide (¬ s[at_].toNat = 48) || decide (spn isDig (s.data.toList.drop at_) = 1)) = true := by
      rw [Bool.or_eq_true, decide_eq_true_eq, decide_eq_true_eq]
      omega
    by_cases hv : 9223372036854775807 < dvl 0 ((s.data.toList.drop at_).take (spn isDig (s.data.toList.drop at_)))
    · refine Or.inl ⟨?_, if_pos hv⟩
      rw [hdef, decide_eq_false (by omega), Bool.false_and]
    · have hok : nuB s at_ h = true := by rw [hdef, decide_eq_true (by omega), hr]; rfl
      exact Or.inr ⟨hok, _, _, if_neg hv, by rw [hx hok]; rfl, rfl⟩
theorem one_text (s : ByteArray) (at_ : Nat) (h : at_ < s.size) (hL : ¬ isLet s[at_] = true) (hD : ¬ isDig s[at_] = true) (h39 : s[at_].toNat = 39) : ∃ (k : Int) (t : ByteArray) (n p : Int) (E : Int) (ok : Bool), txV at_ (tkT (s.data.toList.drop (at_ + 1))) = .tuple #[.agg #[.int .i64 k, .string t, .int .i64 n, .int .i64 p], .int .i64 E, .bool ok] ∧ OneOk (s.data.toList.drop at_) at_ ⟨k, t, n, p⟩ E ok := by
  have e0 : tkR (s.data.toList.drop at_) = tkT (s.data.toList.drop (at_ + 1)) := by rw [tkR_at s at_ h, if_neg hL, if_neg hD, if_pos h39]
  unfold OneOk
  rw [e0]
  cases hq : tkT (s.data.toList.drop (at_ + 1)) with
  | none => exact ⟨_, _, _, _, _, _, rfl, Or.inl ⟨rfl, rfl⟩⟩
  | some x =>
    obtain ⟨t, m⟩ := x
    refine ⟨_, _, _, _, _, _, rfl, Or.inr ⟨rfl, t, m, rfl, ?_, rfl⟩⟩
    unfold tkT at hq
    split at hq
    · cases hq
    · split at hq
      · simp only [Option.some.injEq, Prod.mk.injEq] at hq
        rw [← hq.1]
        rfl
      · cases hq
theorem one_sign (s : ByteArray) (at_ : Nat) (h : at_ < s.size) (hL : ¬ isLet s[at_] = true) (hD : ¬ isDig s[at_] = true) (h39 : ¬ s[at_].toNat = 39) : OneOk (s.data.toList.drop at_) at_ ⟨4, sgS s at_ h, 0, (at_ : Int)⟩ ((at_ : Int) + ((sgS s at_ h).size : Int)) (!(sgS s at_ h).toList.isEmpty) := by
  have e0 : tkR (s.data.toList.drop at_) = tkS s[at_] (s.data.toList.drop (at_ + 1)) := by rw [tkR_at s at_ h, if_neg hL, if_neg hD, if_neg h39]
  have hd1 := drop_get s at_ h
  unfold OneOk
  rw [e0]
  unfold tkS sgS
  by_cases h2 : isTwo s[at_] = true ∧ (s.data.toList.drop (at_ + 1)).head? = some 61
  · have ht : twoB s at_ h = true := by unfold twoB; rw [h2.1, decide_eq_true h2.2]; rfl
    have hl : at_ + 1 < s.size := by
      rcases Nat.lt_or_ge (at_ + 1) s.size with h' | h'
      · exact h'
      · rw [List.drop_eq_nil_of_le (by rw [size_list]; exact h')] at h2; exact absurd h2.2 (by simp)
    have hd2 := drop_get s (at_ + 1) hl
    have h61 : s[at_ + 1] = 61 := by have := h2.2; rw [hd2] at this; simpa using this
    have hx : s.extract at_ (at_ + 2) = txt [s[at_], 61] := by rw [ext_seg, hd1, hd2, h61]; rfl
    rw [if_pos ht, if_pos h2, hx]
    exact Or.inr ⟨by rw [ByteArray.toList_eq]; rfl, _, _, rfl, rfl, by rw [txt_size]; simp⟩
  · have ht : ¬ twoB s at_ h = true := by
      unfold twoB
      rw [Bool.and_eq_true, decide_eq_true_eq]
      exact h2
    rw [if_neg ht, if_neg h2]
    by_cases h1 : isOne s[at_] = true
    · have hx : s.extract at_ (at_ + 1) = txt [s[at_]] := by rw [ext_seg, hd1]; rfl
      rw [if_pos h1, if_pos h1, hx]
      exact Or.inr ⟨by rw [ByteArray.toList_eq]; rfl, _, _, rfl, rfl, by rw [txt_size]; simp⟩
    · rw [if_neg h1, if_neg h1]
      exact Or.inl ⟨by rw [ByteArray.toList_eq]; rfl, rfl⟩
set_option maxHeartbeats 1000000 in
set_option maxRecDepth 100000 in
theorem rOne_any (s : ByteArray) (at_ : Nat) (w : World) (hat : at_ < s.size) (hs : s.size ≤ 140737488351232) :
    Calls Tryz.prog 70 #[.string s, .int .i64 (at_ : Int)] w fun e w' => ∃ (k : Int) (t : ByteArray) (n p : Int) (E : Int) (ok : Bool), e = .returned (.tuple #[.agg #[.int .i64 k, .string t, .int .i64 n, .int .i64 p], .int .i64 E, .bool ok]) ∧ OneOk (s.data.toList.drop at_) at_ ⟨k, t, n, p⟩ E ok ∧ Below w.heap.size w w' := by
  have L1 := fun W => rLetter_any s[at_] W
  have D1 := fun W => rDigit_any s[at_] W
  by_cases hL : isLet s[at_] = true
  · have ON := one_word s at_ hat hL
    have RW := fun W => rWord_any s at_ W (Nat.le_of_lt hat) hs
    rw [hL] at L1
    generalize s.extract at_ (at_ + spn isAln (s.data.toList.drop at_)) = X at *
    generalize ((at_ + spn isAln (s.data.toList.drop at_) : Nat) : Int) = E at *
    generalize decide (spn isAln (s.data.toList.drop at_) ≤ 32) = ok at *
    have HL1 := hide L1
    have HRW := hide RW
    have HON := hide ON
    clear L1 D1 RW ON hL
    go_enter Tryz.func70, Tryz.ntmps70
    go_wp2_with fail
    refine (unhide HL1 _).mono ?_
    rintro e w1 ⟨rfl, rfl⟩
    go_wp2_with fail
    refine (unhide HRW _).mono ?_
    rintro e w1 ⟨rfl, hb⟩
    obtain ⟨hb0, q⟩ := rd_left hb
    have q0 := CBox.cell (i := 0) (v := .int .i64 0) q rfl
    have q1 := CBox.cell (i := 1) (v := .string ⟨#[]⟩) q rfl
    have q2 := CBox.cell (i := 2) (v := .int .i64 0) q rfl
    have q3 := CBox.cell (i := 3) (v := .int .i64 0) q rfl
    have f0 := CBox.froz q 0
    have f1 := CBox.froz q 1
    have f2 := CBox.froz q 2
    have f3 := CBox.froz q 3
    have HB0 := hide hb0
    clear hb hb0 q
    go_wp2
    exact bodyPost_ret (v := .tuple #[.agg #[.int .i64 1, .string X, .int .i64 0, .int .i64 (at_ : Int)], .int .i64 E, .bool ok]) (by simp [results, Tryz.results70, go_sem, q0, q1, q2, q3]) rfl ⟨_, _, _, _, _, _, rfl, unhide HON, ((((unhide HB0).setCell (p := ⟨w.heap.size, 0, none⟩) (Nat.le_refl _) _).setCell (p := ⟨w.heap.size, 1, none⟩) (Nat.le_refl _) _).setCell (p := ⟨w.heap.size, 2, none⟩) (Nat.le_refl _) _).setCell (p := ⟨w.heap.size, 3, none⟩) (Nat.le_refl _) _⟩
  · rw [Bool.eq_false_iff.2 hL] at L1
    by_cases hD : isDig s[at_] = true
    · have ON := one_num s at_ hat hL hD
      have RW := fun W => rNumber_any s at_ W hat hs
      rw [hD] at D1
      have HRW := hide RW
      have HON := hide ON
      have HL1 := hide L1
      have HD1 := hide D1
      clear L1 D1 RW ON hL hD
      go_enter Tryz.func70, Tryz.ntmps70
      go_wp2_with fail
      refine (unhide HL1 _).mono ?_
      rintro e w1 ⟨rfl, rfl⟩
      go_wp2_with fail
      refine (unhide HD1 _).mono ?_
      rintro e w1 ⟨rfl, rfl⟩
      go_wp2_with fail
      refine (unhide HRW _).mono ?_
      rintro e w1 ⟨⟨x, rfl, hx⟩, hb⟩
      have ON := unhide HON x hx
      generalize ((at_ + spn isDig (s.data.toList.drop at_) : Nat) : Int) = E at *
      generalize nuB s at_ hat = ok at *
      have HON := hide ON
      clear ON hx HRW
      obtain ⟨hb0, q⟩ := rd_left hb
      have q0 := CBox.cell (i := 0) (v := .int .i64 0) q rfl
      have q1 := CBox.cell (i := 1) (v := .string ⟨#[]⟩) q rfl
      have q2 := CBox.cell (i := 2) (v := .int .i64 0) q rfl
      have q3 := CBox.cell (i := 3) (v := .int .i64 0) q rfl
      have f0 := CBox.froz q 0
      have f1 := CBox.froz q 1
      have f2 := CBox.froz q 2
      have f3 := CBox.froz q 3
      have HB0 := hide hb0
      clear hb hb0 q
      go_wp2
      exact bodyPost_ret (v := .tuple #[.agg #[.int .i64 2, .string ⟨#[]⟩, .int .i64 x, .int .i64 (at_ : Int)], .int .i64 E, .bool ok]) (by simp [results, Tryz.results70, go_sem, q0, q1, q2, q3]) rfl ⟨_, _, _, _, _, _, rfl, unhide HON, ((((unhide HB0).setCell (p := ⟨w.heap.size, 0, none⟩) (Nat.le_refl _) _).setCell (p := ⟨w.heap.size, 1, none⟩) (Nat.le_refl _) _).setCell (p := ⟨w.heap.size, 2, none⟩) (Nat.le_refl _) _).setCell (p := ⟨w.heap.size, 3, none⟩) (Nat.le_refl _) _⟩
    · rw [Bool.eq_false_iff.2 hD] at D1
      by_cases h39 : s[at_].toNat = 39
      · obtain ⟨k, t, n, p, E, ok, he, ON⟩ := one_text s at_ hat hL hD h39
        have RW := fun W => rText_any s at_ W hat hs
        rw [he] at RW
        have g39 : ((s[at_].toNat : Int) == 39) = true := by simp [h39]
        have HRW := hide RW
        have HON := hide ON
        have HL1 := hide L1
        have HD1 := hide D1
        clear L1 D1 RW ON hL hD he h39
        go_enter Tryz.func70, Tryz.ntmps70
        go_wp2_with fail
        refine (unhide HL1 _).mono ?_
        rintro e w1 ⟨rfl, rfl⟩
        go_wp2_with fail
        refine (unhide HD1 _).mono ?_
        rintro e w1 ⟨rfl, rfl⟩
        go_wp2_with fail
        refine (unhide HRW _).mono ?_
        rintro e w1 ⟨rfl, hb⟩
        obtain ⟨hb0, q⟩ := rd_left hb
        have q0 := CBox.cell (i := 0) (v := .int .i64 0) q rfl
        have q1 := CBox.cell (i := 1) (v := .string ⟨#[]⟩) q rfl
        have q2 := CBox.cell (i := 2) (v := .int .i64 0) q rfl
        have q3 := CBox.cell (i := 3) (v := .int .i64 0) q rfl
        have f0 := CBox.froz q 0
        have f1 := CBox.froz q 1
        have f2 := CBox.froz q 2
        have f3 := CBox.froz q 3
        have HB0 := hide hb0
        clear hb hb0 q
        go_wp2
        exact bodyPost_ret (v := .tuple #[.agg #[.int .i64 k, .string t, .int .i64 n, .int .i64 p], .int .i64 E, .bool ok]) (by simp [results, Tryz.results70, go_sem, q0, q1, q2, q3]) rfl ⟨_, _, _, _, _, _, rfl, unhide HON, ((((unhide HB0).setCell (p := ⟨w.heap.size, 0, none⟩) (Nat.le_refl _) _).setCell (p := ⟨w.heap.size, 1, none⟩) (Nat.le_refl _) _).setCell (p := ⟨w.heap.size, 2, none⟩) (Nat.le_refl _) _).setCell (p := ⟨w.heap.size, 3, none⟩) (Nat.le_refl _) _⟩
      · have ON := one_sign s at_ hat hL hD h39
        have RW := fun W => rSign_any s at_ W hat hs
        have g39 : ((s[at_].toNat : Int) == 39) = false := by simp; omega
        have hsz : (sgS s at_ hat).size ≤ 140737488351232 := by
          unfold sgS
          split
          · rw [ByteArray.size_extract]; omega
          · split
            · rw [ByteArray.size_extract]; omega
            · show (0 : Nat) ≤ _; omega
        generalize sgS s at_ hat = X at *
        have HRW := hide RW
        have HON := hide ON
        have HL1 := hide L1
        have HD1 := hide D1
        clear L1 D1 RW ON hL hD h39
        go_enter Tryz.func70, Tryz.ntmps70
        go_wp2_with fail
        refine (unhide HL1 _).mono ?_
        rintro e w1 ⟨rfl, rfl⟩
        go_wp2_with fail
        refine (unhide HD1 _).mono ?_
        rintro e w1 ⟨rfl, rfl⟩
        go_wp2_with fail
        refine (unhide HRW _).mono ?_
        rintro e w1 ⟨rfl, hb⟩
        obtain ⟨hb0, q⟩ := rd_left hb
        have q0 := CBox.cell (i := 0) (v := .int .i64 0) q rfl
        have q1 := CBox.cell (i := 1) (v := .string ⟨#[]⟩) q rfl
        have q2 := CBox.cell (i := 2) (v := .int .i64 0) q rfl
        have q3 := CBox.cell (i := 3) (v := .int .i64 0) q rfl
        have f0 := CBox.froz q 0
        have f1 := CBox.froz q 1
        have f2 := CBox.froz q 2
        have f3 := CBox.froz q 3
        have HB0 := hide hb0
        clear hb hb0 q
        go_wp2
        exact bodyPost_ret (v := .tuple #[.agg #[.int .i64 4, .string X, .int .i64 0, .int .i64 (at_ : Int)], .int .i64 ((at_ : Int) + (X.size : Int)), .bool (!X.toList.isEmpty)]) (by simp [results, Tryz.results70, go_sem, q0, q1, q2, q3]) rfl ⟨_, _, _, _, _, _, rfl, unhide HON, ((((unhide HB0).setCell (p := ⟨w.heap.size, 0, none⟩) (Nat.le_refl _) _).setCell (p := ⟨w.heap.size, 1, none⟩) (Nat.le_refl _) _).setCell (p := ⟨w.heap.size, 2, none⟩) (Nat.le_refl _) _).setCell (p := ⟨w.heap.size, 3, none⟩) (Nat.le_refl _) _⟩
end Go.Proofs.YtjijhefmbmdbeaaGreatDoor
