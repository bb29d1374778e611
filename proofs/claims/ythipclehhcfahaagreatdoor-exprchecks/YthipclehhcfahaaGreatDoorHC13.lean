/-
  The document's tokens: sign.
  The document's tokens: one.
  Tokens that lie somewhere; what Tokens tells: how many tokens, of which sizes.
-/
import Derived.Test.YthipclehhcfahaaGreatDoorHC12
import Derived.Test.YthipclehhcfahaaGreatDoorHC11
import Derived.Deep.DeepCutAuto
import Derived.Deep.QuietTactic
namespace Go.Proofs.YthipclehhcfahaaGreatDoor
open Go.RowKit

def onesL : List Nat := [40, 41, 58, 59, 46, 43, 45, 42, 60, 61]
theorem ones_fin : ∀ b : Fin 256, isOne (UInt8.ofNat b.val) = onesL.contains b.val := by decide +kernel
theorem ones_is (b : UInt8) : isOne b = onesL.contains b.toNat := by have := ones_fin ⟨b.toNat, b.toNat_lt⟩; simpa using this
theorem ones_at : ∀ k : Fin 10, ((⟨#[40, 41, 58, 59, 46, 43, 45, 42, 60, 61]⟩ : ByteArray)[k.val]'(by exact k.isLt)).toNat = onesL.getD k.val 0 := by decide +kernel
theorem ones_yes (b : UInt8) (k : Nat) (hk : k < 10) (h : onesL.getD k 0 = b.toNat) : isOne b = true := by
  rw [ones_is, List.contains_iff_mem, ← h, List.getD_eq_getElem?_getD, List.getElem?_eq_getElem (by simpa [onesL] using hk)]
  exact List.getElem_mem _
theorem ones_no (b : UInt8) (h : ∀ k, k < 10 → ¬ onesL.getD k 0 = b.toNat) : isOne b = false := by
  rw [ones_is, Bool.eq_false_iff]
  intro hc
  rw [List.contains_iff_mem] at hc
  obtain ⟨i, hi, he⟩ := List.mem_iff_getElem.1 hc
  apply h i (by simpa [onesL] using hi)
  rw [List.getD_eq_getElem?_getD, List.getElem?_eq_getElem hi]
  exact he
/-- A sign of two bytes? -/
def twoB (s : ByteArray) (at_ : Nat) (h : at_ < s.size) : Bool := isTwo s[at_] && decide ((s.data.toList.drop (at_ + 1)).head? = some 61)
/-- What the document's sign is. -/
def sgS (s : ByteArray) (at_ : Nat) (h : at_ < s.size) : ByteArray := if twoB s at_ h = true then s.extract at_ (at_ + 2) else if isOne s[at_] = true then s.extract at_ (at_ + 1) else ⟨#[]⟩
theorem two_is (s : ByteArray) (at_ : Nat) (h : at_ < s.size) : (∀ h1 : at_ + 1 < s.size, s[at_ + 1].toNat = 61 → twoB s at_ h = isTwo s[at_]) ∧ (∀ h1 : at_ + 1 < s.size, ¬ s[at_ + 1].toNat = 61 → twoB s at_ h = false) ∧ (¬ at_ + 1 < s.size → twoB s at_ h = false) := by
  refine ⟨fun h1 h61 => ?_, fun h1 h61 => ?_, fun h1 => ?_⟩
  · unfold twoB
    rw [drop_get s (at_ + 1) h1, List.head?_cons, decide_eq_true (by rw [Option.some.injEq]; exact UInt8.toNat_inj.1 h61), Bool.and_true]
  · unfold twoB
    rw [drop_get s (at_ + 1) h1, List.head?_cons, decide_eq_false (by rw [Option.some.injEq]; intro e; exact h61 (by rw [e]; rfl)), Bool.and_false]
  · unfold twoB
    rw [List.drop_eq_nil_of_le (by rw [size_list]; omega), decide_eq_false (by simp), Bool.and_false]
theorem isTwo_is (b : UInt8) : isTwo b = (decide (b.toNat = 60) || decide (b.toNat = 61) || decide (b.toNat = 33)) := rfl
set_option maxHeartbeats 400000 in
set_option maxRecDepth 100000 in
theorem rSign_any (s : ByteArray) (at_ : Nat) (w : World) (hat : at_ < s.size) (hs : s.size ≤ 140737488351232) :
    Calls Tryz.prog 101 #[.string s, .int .i64 (at_ : Int)] w fun e w' => e = .returned (.string (sgS s at_ hat)) ∧ Below w.heap.size w w' := by
  have HSG : Hid (sgS s at_ hat = if twoB s at_ hat = true then s.extract at_ (at_ + 2) else if isOne s[at_] = true then s.extract at_ (at_ + 1) else ⟨#[]⟩) := hide rfl
  have HTW := hide (two_is s at_ hat)
  have HT2 := hide (isTwo_is s[at_])
  have HT3 : Hid (twoB s at_ hat = true → at_ + 2 ≤ s.size) := hide (fun e => by
    rcases Nat.lt_or_ge (at_ + 1) s.size with h | h
    · omega
    · rw [(two_is s at_ hat).2.2 (by omega)] at e; cases e)
  generalize twoB s at_ hat = TW at *
  generalize sgS s at_ hat = SG at *
  go_enter Tryz.func101, Tryz.ntmps101
  go_upto_region 1 with fail
  go_cut [36] (fun c wx => c = .bool TW ∧ wx = w)
  case first =>
    by_cases h1 : at_ + 1 < s.size
    · by_cases h61 : s[at_ + 1].toNat = 61
      · have e := (unhide HTW).1 h1 h61
        rw [unhide HT2] at e
        have g61 : ((s[at_ + 1].toNat : Int) == 61) = true := by simp [h61]
        by_cases h60 : s[at_].toNat = 60
        · rw [decide_eq_true h60, Bool.true_or, Bool.true_or] at e
          subst e
          have g : ((s[at_].toNat : Int) == 60) = true := by simp [h60]
          clear h60 h61
          go_wp2
          go_meet
          exact ⟨rfl, rfl⟩
        · have g : ((s[at_].toNat : Int) == 60) = false := by simp; omega
          rw [decide_eq_false h60, Bool.false_or] at e
          by_cases h61b : s[at_].toNat = 61
          · rw [decide_eq_true h61b, Bool.true_or] at e
            subst e
            have g2 : ((s[at_].toNat : Int) == 61) = true := by simp [h61b]
            clear h60 h61 h61b
            go_wp2
            go_meet
            exact ⟨rfl, rfl⟩
          · have g2 : ((s[at_].toNat : Int) == 61) = false := by simp; omega
            rw [decide_eq_false h61b, Bool.false_or] at e
            by_cases h33 : s[at_].toNat = 33
            · rw [decide_eq_true h33] at e
              subst e
              have g3 : ((s[at_].toNat : Int) == 33) = true := by simp [h33]
              clear h60 h61 h61b h33
              go_wp2
              go_meet
              exact ⟨rfl, rfl⟩
            · rw [decide_eq_false h33] at e
              subst e
              have g3 : ((s[at_].toNat : Int) == 33) = false := by simp; omega
              clear h60 h61 h61b h33
              go_wp2
              go_meet
              exact ⟨rfl, rfl⟩
      · have e := (unhide HTW).2.1 h1 h61
        subst e
        have g61 : ((s[at_ + 1].toNat : Int) == 61) = false := by simp; omega
        clear h61
        go_wp2
        go_meet
        exact ⟨rfl, rfl⟩
    · have e := (unhide HTW).2.2 h1
      subst e
      go_wp2
      go_meet
      exact ⟨rfl, rfl⟩
  case rest =>
    obtain ⟨rfl, rfl⟩ := hcut
    cases TW with
    | true =>
      have e := unhide HSG
      rw [if_pos rfl] at e
      subst e
      have h2 := unhide HT3 rfl
      clear HSG HTW HT2 HT3
      go_wp2
      go_ret
      exact ⟨rfl, Below.refl _ _⟩
    | false =>
      go_wp2_with fail
      go_loopw [6] (fun i wr => ∃ k : Nat, k ≤ 10 ∧ i = .int .i64 (k : Int) ∧ Below wc.heap.size wc wr ∧ Hid (∀ j, j < k → ¬ onesL.getD j 0 = s[at_].toNat)) (fun i _ => 10 - (intOf i).toNat)
      case atStart => exact ⟨0, by omega, rfl, Below.refl _ _, hide (by intro j hj; omega)⟩
      case round =>
        obtain ⟨k, hk, rfl, hbe, HN⟩ := hrel
        have HBE := hide hbe
        clear hbe
        by_cases hlt : k < 10
        · have hks : k < (⟨#[40, 41, 58, 59, 46, 43, 45, 42, 60, 61]⟩ : ByteArray).size := hlt
          have ho : ((⟨#[40, 41, 58, 59, 46, 43, 45, 42, 60, 61]⟩ : ByteArray)[k]).toNat = onesL.getD k 0 := ones_at ⟨k, hlt⟩
          by_cases heq : onesL.getD k 0 = s[at_].toNat
          · have g : ((((⟨#[40, 41, 58, 59, 46, 43, 45, 42, 60, 61]⟩ : ByteArray)[k]).toNat : Int) == (s[at_].toNat : Int)) = true := by rw [ho, heq]; simp
            have e := unhide HSG
            rw [if_neg (by simp), if_pos (ones_yes _ k hlt heq)] at e
            subst e
            clear HSG HTW HT2 HT3 ho heq HN
            go_wp2_with fail
            go_quiet (fail)
            go_wp2
            go_ret
            exact ⟨rfl, bel_drewN (unhide HBE) _⟩
          · have g : ((((⟨#[40, 41, 58, 59, 46, 43, 45, 42, 60, 61]⟩ : ByteArray)[k]).toNat : Int) == (s[at_].toNat : Int)) = false := by rw [ho, beq_eq_false_iff_ne]; intro hh; exact heq (by exact_mod_cast hh)
            have HN2 : Hid (∀ j, j < k + 1 → ¬ onesL.getD j 0 = s[at_].toNat) := hide (fun j hj => by
              rcases Nat.lt_or_ge j k with h | h
              · exact unhide HN j h
              · obtain rfl : j = k := by omega
                exact heq)
            clear ho heq HN
            go_wp2_with fail
            go_quiet (fail)
            go_wp2
            go_roundw
            case rel => exact ⟨k + 1, by omega, by go_num, bel_drewN (unhide HBE) _, HN2⟩
            case measure => simp [intOf]; omega
        · have e := unhide HSG
          rw [if_neg (by simp), if_neg (by rw [ones_no _ (fun j hj => unhide HN j (by omega))]; simp)] at e
          subst e
          go_wp2
          go_ret
          exact ⟨rfl, unhide HBE⟩
end Go.Proofs.YthipclehhcfahaaGreatDoor
namespace Go.Proofs.YthipclehhcfahaaGreatDoor
open Go.RowKit

/-- What the document's token at a place is. -/
def OneOk (l : List UInt8) (at_ : Nat) (T : Tk) (E : Int) (ok : Bool) : Prop := (ok = false ∧ tkR l = none) ∨ (ok = true ∧ ∃ t n, tkR l = some (t, n) ∧ T = t.out (at_ : Int) ∧ E = ((at_ + n : Nat) : Int))
theorem tkR_at (s : ByteArray) (at_ : Nat) (h : at_ < s.size) : tkR (s.data.toList.drop at_) = if isLet s[at_] then tkW (s.data.toList.drop at_) else if isDig s[at_] then tkN (s.data.toList.drop at_) else if s[at_].toNat = 39 then tkT (s.data.toList.drop (at_ + 1)) else tkS s[at_] (s.data.toList.drop (at_ + 1)) := by
  rw [drop_get s at_ h, tkR]
theorem one_word (s : ByteArray) (at_ : Nat) (h : at_ < s.size) (hL : isLet s[at_] = true) : OneOk (s.data.toList.drop at_) at_ ⟨1, s.extract at_ (at_ + spn isAln (s.data.toList.drop at_)), 0, (at_ : Int)⟩ ((at_ + spn isAln (s.data.toList.drop at_) : Nat) : Int) (decide (spn isAln (s.data.toList.drop at_) ≤ 32)) := by
  unfold OneOk
  rw [tkR_at s at_ h, if_pos hL, ext_seg]
  unfold tkW
  by_cases h32 : 32 < spn isAln (s.data.toList.drop at_)
  · exact Or.inl ⟨decide_eq_false (by omega), if_pos h32⟩
  · exact Or.inr ⟨decide_eq_true (by omega), _, _, if_neg h32, rfl, rfl⟩
theorem one_num (s : ByteArray) (at_ : Nat) (h : at_ < s.size) (hL : ¬ isLet s[at_] = true) (hD : isDig s[at_] = true) (x : Int) (hx : nuB s at_ h = true → x = ((dvl 0 ((s.data.toList.drop at_).take (spn isDig (s.data.toList.drop at_))) : Nat) : Int)) :
    OneOk (s.data.toList.drop at_) at_ ⟨2, ⟨#[]⟩, x, (at_ : Int)⟩ ((at_ + spn isDig (s.data.toList.drop at_) : Nat) : Int) (nuB s at_ h) := by
  have h1 : 1 ≤ spn isDig (s.data.toList.drop at_) := by rw [drop_get s at_ h, spn, if_pos hD]; omega
  have hh : (s.data.toList.drop at_).head? = some 48 ↔ s[at_].toNat = 48 := by
    rw [drop_get s at_ h, List.head?_cons, Option.some.injEq]
    exact ⟨fun e => by rw [e]; rfl, fun e => UInt8.toNat_inj.1 e⟩
  have e0 : tkR (s.data.toList.drop at_) = tkN (s.data.toList.drop at_) := by rw [tkR_at s at_ h, if_neg hL, if_pos hD]
  have hdef : nuB s at_ h = (decide (dvl 0 ((s.data.toList.drop at_).take (spn isDig (s.data.toList.drop at_))) ≤ 9223372036854775807) && (decide (¬ s[at_].toNat = 48) || decide (spn isDig (s.data.toList.drop at_) = 1))) := rfl
  unfold OneOk
  rw [e0]
  unfold tkN
  by_cases hz : s[at_].toNat = 48 ∧ 1 < spn isDig (s.data.toList.drop at_)
  · refine Or.inl ⟨?_, if_pos ⟨hh.2 hz.1, hz.2⟩⟩
    rw [hdef, decide_eq_false (p := ¬ s[at_].toNat = 48) (by simpa using hz.1), decide_eq_false (p := spn isDig (s.data.toList.drop at_) = 1) (by omega), Bool.or_false, Bool.and_false]
  · rw [if_neg (fun h => hz ⟨hh.1 h.1, h.2⟩)]
    have hr : (decide (¬ s[at_].toNat = 48) || decide (spn isDig (s.data.toList.drop at_) = 1)) = true := by
      rw [Bool.or_eq_true, decide_eq_true_eq, decide_eq_true_eq]
      omega
    by_cases hv : 9223372036854775807 < dvl 0 ((s.data.toList.drop at_).take (spn isDig (s.data.toList.drop at_)))
    · refine Or.inl ⟨?_, if_pos hv⟩
      rw [hdef, decide_eq_false (by omega), Bool.false_and]
    · have hok : nuB s at_ h = true := by rw [hdef, decide_eq_true (by omega), hr]; rfl
      exact Or.inr ⟨hok, _, _, if_neg hv, by rw [hx hok]; rfl, rfl⟩
theorem one_text (s : ByteArray) (at_ : Nat) (h : at_ < s.size) (hL : ¬ isLet s[at_] = true) (hD : ¬ isDig s[at_] = true) (h39 : s[at_].toNat = 39) : ∃ (k : Int) (t : ByteArray) (n p : Int) (E : Int) (ok : Bool), txV at_ (tkT (s.data.toList.drop (at_ + 1))) = .tuple #[.agg #[.int .i64 k, .string t, .int .i64 n, .int .i64 p], .int .i64 E, .bool ok] ∧ OneOk (s.data.toList.drop at_) at_ ⟨k, t, n, p⟩ E ok := by
  have e0 : tkR (s.data.toList.drop at_) = tkT (s.data.toList.drop (at_ + 1)) := by rw [tkR_at s at_ h, if_neg hL, if_neg hD, if_pos h39]
  unfold OneOk
  rw [e0]
  cases hq : tkT (s.data.toList.drop (at_ + 1)) with
  | none => exact ⟨_, _, _, _, _, _, rfl, Or.inl ⟨rfl, rfl⟩⟩
  | some x =>
    obtain ⟨t, m⟩ := x
    refine ⟨_, _, _, _, _, _, rfl, Or.inr ⟨rfl, t, m, rfl, ?_, rfl⟩⟩
    unfold tkT at hq
    split at hq
    · cases hq
    · split at hq
      · simp only [Option.some.injEq, Prod.mk.injEq] at hq
        rw [← hq.1]
        rfl
      · cases hq
theorem one_sign (s : ByteArray) (at_ : Nat) (h : at_ < s.size) (hL : ¬ isLet s[at_] = true) (hD : ¬ isDig s[at_] = true) (h39 : ¬ s[at_].toNat = 39) : OneOk (s.data.toList.drop at_) at_ ⟨4, sgS s at_ h, 0, (at_ : Int)⟩ ((at_ : Int) + ((sgS s at_ h).size : Int)) (!(sgS s at_ h).toList.isEmpty) := by
  have e0 : tkR (s.data.toList.drop at_) = tkS s[at_] (s.data.toList.drop (at_ + 1)) := by rw [tkR_at s at_ h, if_neg hL, if_neg hD, if_neg h39]
  have hd1 := drop_get s at_ h
  unfold OneOk
  rw [e0]
  unfold tkS sgS
  by_cases h2 : isTwo s[at_] = true ∧ (s.data.toList.drop (at_ + 1)).head? = some 61
  · have ht : twoB s at_ h = true := by unfold twoB; rw [h2.1, decide_eq_true h2.2]; rfl
    have hl : at_ + 1 < s.size := by
      rcases Nat.lt_or_ge (at_ + 1) s.size with h' | h'
      · exact h'
      · rw [List.drop_eq_nil_of_le (by rw [size_list]; exact h')] at h2; exact absurd h2.2 (by simp)
    have hd2 := drop_get s (at_ + 1) hl
    have h61 : s[at_ + 1] = 61 := by have := h2.2; rw [hd2] at this; simpa using this
    have hx : s.extract at_ (at_ + 2) = txt [s[at_], 61] := by rw [ext_seg, hd1, hd2, h61]; rfl
    rw [if_pos ht, if_pos h2, hx]
    exact Or.inr ⟨by rw [ByteArray.toList_eq]; rfl, _, _, rfl, rfl, by rw [txt_size]; simp⟩
  · have ht : ¬ twoB s at_ h = true := by
      unfold twoB
      rw [Bool.and_eq_true, decide_eq_true_eq]
      exact h2
    rw [if_neg ht, if_neg h2]
    by_cases h1 : isOne s[at_] = true
    · have hx : s.extract at_ (at_ + 1) = txt [s[at_]] := by rw [ext_seg, hd1]; rfl
      rw [if_pos h1, if_pos h1, hx]
      exact Or.inr ⟨by rw [ByteArray.toList_eq]; rfl, _, _, rfl, rfl, by rw [txt_size]; simp⟩
    · rw [if_neg h1, if_neg h1]
      exact Or.inl ⟨by rw [ByteArray.toList_eq]; rfl, rfl⟩
set_option maxHeartbeats 1000000 in
set_option maxRecDepth 100000 in
theorem rOne_any (s : ByteArray) (at_ : Nat) (w : World) (hat : at_ < s.size) (hs : s.size ≤ 140737488351232) :
    Calls Tryz.prog 78 #[.string s, .int .i64 (at_ : Int)] w fun e w' => ∃ (k : Int) (t : ByteArray) (n p : Int) (E : Int) (ok : Bool), e = .returned (.tuple #[.agg #[.int .i64 k, .string t, .int .i64 n, .int .i64 p], .int .i64 E, .bool ok]) ∧ OneOk (s.data.toList.drop at_) at_ ⟨k, t, n, p⟩ E ok ∧ Below w.heap.size w w' := by
  have L1 := fun W => rLetter_any s[at_] W
  have D1 := fun W => rDigit_any s[at_] W
  by_cases hL : isLet s[at_] = true
  · have ON := one_word s at_ hat hL
    have RW := fun W => rWord_any s at_ W (Nat.le_of_lt hat) hs
    rw [hL] at L1
    generalize s.extract at_ (at_ + spn isAln (s.data.toList.drop at_)) = X at *
    generalize ((at_ + spn isAln (s.data.toList.drop at_) : Nat) : Int) = E at *
    generalize decide (spn isAln (s.data.toList.drop at_) ≤ 32) = ok at *
    have HL1 := hide L1
    have HRW := hide RW
    have HON := hide ON
    clear L1 D1 RW ON hL
    go_enter Tryz.func78, Tryz.ntmps78
    go_wp2_with fail
    refine (unhide HL1 _).mono ?_
    rintro e w1 ⟨rfl, rfl⟩
    go_wp2_with fail
    refine (unhide HRW _).mono ?_
    rintro e w1 ⟨rfl, hb⟩
    obtain ⟨hb0, q⟩ := rd_left hb
    have q0 := CBox.cell (i := 0) (v := .int .i64 0) q rfl
    have q1 := CBox.cell (i := 1) (v := .string ⟨#[]⟩) q rfl
    have q2 := CBox.cell (i := 2) (v := .int .i64 0) q rfl
    have q3 := CBox.cell (i := 3) (v := .int .i64 0) q rfl
    have f0 := CBox.froz q 0
    have f1 := CBox.froz q 1
    have f2 := CBox.froz q 2
    have f3 := CBox.froz q 3
    have HB0 := hide hb0
    clear hb hb0 q
    go_wp2
    exact bodyPost_ret (v := .tuple #[.agg #[.int .i64 1, .string X, .int .i64 0, .int .i64 (at_ : Int)], .int .i64 E, .bool ok]) (by simp [results, Tryz.results78, go_sem, q0, q1, q2, q3]) rfl ⟨_, _, _, _, _, _, rfl, unhide HON, ((((unhide HB0).setCell (p := ⟨w.heap.size, 0, none⟩) (Nat.le_refl _) _).setCell (p := ⟨w.heap.size, 1, none⟩) (Nat.le_refl _) _).setCell (p := ⟨w.heap.size, 2, none⟩) (Nat.le_refl _) _).setCell (p := ⟨w.heap.size, 3, none⟩) (Nat.le_refl _) _⟩
  · rw [Bool.eq_false_iff.2 hL] at L1
    by_cases hD : isDig s[at_] = true
    · have ON := one_num s at_ hat hL hD
      have RW := fun W => rNumber_any s at_ W hat hs
      rw [hD] at D1
      have HRW := hide RW
      have HON := hide ON
      have HL1 := hide L1
      have HD1 := hide D1
      clear L1 D1 RW ON hL hD
      go_enter Tryz.func78, Tryz.ntmps78
      go_wp2_with fail
      refine (unhide HL1 _).mono ?_
      rintro e w1 ⟨rfl, rfl⟩
      go_wp2_with fail
      refine (unhide HD1 _).mono ?_
      rintro e w1 ⟨rfl, rfl⟩
      go_wp2_with fail
      refine (unhide HRW _).mono ?_
      rintro e w1 ⟨⟨x, rfl, hx⟩, hb⟩
      have ON := unhide HON x hx
      generalize ((at_ + spn isDig (s.data.toList.drop at_) : Nat) : Int) = E at *
      generalize nuB s at_ hat = ok at *
      have HON := hide ON
      clear ON hx HRW
      obtain ⟨hb0, q⟩ := rd_left hb
      have q0 := CBox.cell (i := 0) (v := .int .i64 0) q rfl
      have q1 := CBox.cell (i := 1) (v := .string ⟨#[]⟩) q rfl
      have q2 := CBox.cell (i := 2) (v := .int .i64 0) q rfl
      have q3 := CBox.cell (i := 3) (v := .int .i64 0) q rfl
      have f0 := CBox.froz q 0
      have f1 := CBox.froz q 1
      have f2 := CBox.froz q 2
      have f3 := CBox.froz q 3
      have HB0 := hide hb0
      clear hb hb0 q
      go_wp2
      exact bodyPost_ret (v := .tuple #[.agg #[.int .i64 2, .string ⟨#[]⟩, .int .i64 x, .int .i64 (at_ : Int)], .int .i64 E, .bool ok]) (by simp [results, Tryz.results78, go_sem, q0, q1, q2, q3]) rfl ⟨_, _, _, _, _, _, rfl, unhide HON, ((((unhide HB0).setCell (p := ⟨w.heap.size, 0, none⟩) (Nat.le_refl _) _).setCell (p := ⟨w.heap.size, 1, none⟩) (Nat.le_refl _) _).setCell (p := ⟨w.heap.size, 2, none⟩) (Nat.le_refl _) _).setCell (p := ⟨w.heap.size, 3, none⟩) (Nat.le_refl _) _⟩
    · rw [Bool.eq_false_iff.2 hD] at D1
      by_cases h39 : s[at_].toNat = 39
      · obtain ⟨k, t, n, p, E, ok, he, ON⟩ := one_text s at_ hat hL hD h39
        have RW := fun W => rText_any s at_ W hat hs
        rw [he] at RW
        have g39 : ((s[at_].toNat : Int) == 39) = true := by simp [h39]
        have HRW := hide RW
        have HON := hide ON
        have HL1 := hide L1
        have HD1 := hide D1
        clear L1 D1 RW ON hL hD he h39
        go_enter Tryz.func78, Tryz.ntmps78
        go_wp2_with fail
        refine (unhide HL1 _).mono ?_
        rintro e w1 ⟨rfl, rfl⟩
        go_wp2_with fail
        refine (unhide HD1 _).mono ?_
        rintro e w1 ⟨rfl, rfl⟩
        go_wp2_with fail
        refine (unhide HRW _).mono ?_
        rintro e w1 ⟨rfl, hb⟩
        obtain ⟨hb0, q⟩ := rd_left hb
        have q0 := CBox.cell (i := 0) (v := .int .i64 0) q rfl
        have q1 := CBox.cell (i := 1) (v := .string ⟨#[]⟩) q rfl
        have q2 := CBox.cell (i := 2) (v := .int .i64 0) q rfl
        have q3 := CBox.cell (i := 3) (v := .int .i64 0) q rfl
        have f0 := CBox.froz q 0
        have f1 := CBox.froz q 1
        have f2 := CBox.froz q 2
        have f3 := CBox.froz q 3
        have HB0 := hide hb0
        clear hb hb0 q
        go_wp2
        exact bodyPost_ret (v := .tuple #[.agg #[.int .i64 k, .string t, .int .i64 n, .int .i64 p], .int .i64 E, .bool ok]) (by simp [results, Tryz.results78, go_sem, q0, q1, q2, q3]) rfl ⟨_, _, _, _, _, _, rfl, unhide HON, ((((unhide HB0).setCell (p := ⟨w.heap.size, 0, none⟩) (Nat.le_refl _) _).setCell (p := ⟨w.heap.size, 1, none⟩) (Nat.le_refl _) _).setCell (p := ⟨w.heap.size, 2, none⟩) (Nat.le_refl _) _).setCell (p := ⟨w.heap.size, 3, none⟩) (Nat.le_refl _) _⟩
      · have ON := one_sign s at_ hat hL hD h39
        have RW := fun W => rSign_any s at_ W hat hs
        have g39 : ((s[at_].toNat : Int) == 39) = false := by simp; omega
        have hsz : (sgS s at_ hat).size ≤ 140737488351232 := by
          unfold sgS
          split
          · rw [ByteArray.size_extract]; omega
          · split
            · rw [ByteArray.size_extract]; omega
            · show (0 : Nat) ≤ _; omega
        generalize sgS s at_ hat = X at *
        have HRW := hide RW
        have HON := hide ON
        have HL1 := hide L1
        have HD1 := hide D1
        clear L1 D1 RW ON hL hD h39
        go_enter Tryz.func78, Tryz.ntmps78
        go_wp2_with fail
        refine (unhide HL1 _).mono ?_
        rintro e w1 ⟨rfl, rfl⟩
        go_wp2_with fail
        refine (unhide HD1 _).mono ?_
        rintro e w1 ⟨rfl, rfl⟩
        go_wp2_with fail
        refine (unhide HRW _).mono ?_
        rintro e w1 ⟨rfl, hb⟩
        obtain ⟨hb0, q⟩ := rd_left hb
        have q0 := CBox.cell (i := 0) (v := .int .i64 0) q rfl
        have q1 := CBox.cell (i := 1) (v := .string ⟨#[]⟩) q rfl
        have q2 := CBox.cell (i := 2) (v := .int .i64 0) q rfl
        have q3 := CBox.cell (i := 3) (v := .int .i64 0) q rfl
        have f0 := CBox.froz q 0
        have f1 := CBox.froz q 1
        have f2 := CBox.froz q 2
        have f3 := CBox.froz q 3
        have HB0 := hide hb0
        clear hb hb0 q
        go_wp2
        exact bodyPost_ret (v := .tuple #[.agg #[.int .i64 4, .string X, .int .i64 0, .int .i64 (at_ : Int)], .int .i64 ((at_ : Int) + (X.size : Int)), .bool (!X.toList.isEmpty)]) (by simp [results, Tryz.results78, go_sem, q0, q1, q2, q3]) rfl ⟨_, _, _, _, _, _, rfl, unhide HON, ((((unhide HB0).setCell (p := ⟨w.heap.size, 0, none⟩) (Nat.le_refl _) _).setCell (p := ⟨w.heap.size, 1, none⟩) (Nat.le_refl _) _).setCell (p := ⟨w.heap.size, 2, none⟩) (Nat.le_refl _) _).setCell (p := ⟨w.heap.size, 3, none⟩) (Nat.le_refl _) _⟩
end Go.Proofs.YthipclehhcfahaaGreatDoor
namespace Go.Proofs.YthipclehhcfahaaGreatDoor
open Go.RowKit

def Tk.ok (a : Tk) : Prop := (-9223372036854775808 ≤ a.kd ∧ a.kd ≤ 9223372036854775807) ∧ a.s.size ≤ 9223372036854775807 ∧ (-9223372036854775808 ≤ a.n ∧ a.n ≤ 9223372036854775807) ∧ (-9223372036854775808 ≤ a.pl ∧ a.pl ≤ 9223372036854775807)
def TksAt (w : World) (ad : Option Addr) (l : List Tk) : Prop :=
  l ≠ [] → ∃ b off, ad = some ⟨b, off, none⟩ ∧ b < w.heap.size ∧ ∀ i (h : i < l.length), w.cell? ⟨b, off + i * 4, none⟩ = some (.int .i64 l[i].kd) ∧ w.cell? ⟨b, off + i * 4 + 1, none⟩ = some (.string l[i].s) ∧ w.cell? ⟨b, off + i * 4 + 2, none⟩ = some (.int .i64 l[i].n) ∧ w.cell? ⟨b, off + i * 4 + 3, none⟩ = some (.int .i64 l[i].pl)
theorem TksAt.kp {w w' : World} {ad : Option Addr} {l : List Tk} (h : TksAt w ad l) (hk : Kp [] w w') : TksAt w' ad l := fun hl => by
  obtain ⟨b, off, e, hlt, hc⟩ := h hl
  refine ⟨b, off, e, Nat.lt_of_lt_of_le hlt hk.size, fun i hi => ?_⟩
  obtain ⟨c0, c1, c2, c3⟩ := hc i hi
  exact ⟨hk.cell c0 (by simp), hk.cell c1 (by simp), hk.cell c2 (by simp), hk.cell c3 (by simp)⟩
theorem TksAt.at {w : World} {ad : Option Addr} {l : List Tk} (h : TksAt w ad l) (i : Nat) (hi : i < l.length) : ∃ b off, ad = some ⟨b, off, none⟩ ∧ b < w.heap.size ∧ w.cell? ⟨b, off + i * 4, none⟩ = some (.int .i64 l[i].kd) ∧ w.cell? ⟨b, off + i * 4 + 1, none⟩ = some (.string l[i].s) ∧ w.cell? ⟨b, off + i * 4 + 2, none⟩ = some (.int .i64 l[i].n) ∧ w.cell? ⟨b, off + i * 4 + 3, none⟩ = some (.int .i64 l[i].pl) := by
  obtain ⟨b, off, e, hlt, hc⟩ := h (by intro e; subst e; simp at hi)
  exact ⟨b, off, e, hlt, hc i hi⟩
theorem tkC_get (l : List Tk) (i : Nat) (h : i < l.length) : (tkC l)[i * 4]? = some (.int .i64 l[i].kd) ∧ (tkC l)[i * 4 + 1]? = some (.string l[i].s) ∧ (tkC l)[i * 4 + 2]? = some (.int .i64 l[i].n) ∧ (tkC l)[i * 4 + 3]? = some (.int .i64 l[i].pl) := by
  induction l generalizing i with
  | nil => simp at h
  | cons x r ih =>
    have e : tkC (x :: r) = [.int .i64 x.kd, .string x.s, .int .i64 x.n, .int .i64 x.pl] ++ tkC r := by unfold tkC; rw [List.flatMap_cons]
    cases i with
    | zero => rw [e]; simp
    | succ i =>
      have hi : i < r.length := by simpa using h
      obtain ⟨a, b, c, d⟩ := ih i hi
      rw [e]
      simp only [List.getElem_cons_succ]
      refine ⟨?_, ?_, ?_, ?_⟩
      · rw [List.getElem?_append_right (by simp; omega)]; rw [← a]; congr 1; simp; omega
      · rw [List.getElem?_append_right (by simp; omega)]; rw [← b]; congr 1; simp; omega
      · rw [List.getElem?_append_right (by simp; omega)]; rw [← c]; congr 1; simp; omega
      · rw [List.getElem?_append_right (by simp; omega)]; rw [← d]; congr 1; simp; omega
theorem OwnsK.at {B : Nat} {w : World} {v : Value} {l : List Tk} (h : OwnsK B w v l) : ∃ ad cp, v = .slice ad l.length cp ∧ TksAt w ad l ∧ l.length ≤ cp := by
  obtain ⟨_, ⟨rfl, h0⟩ | ⟨g, cp, cur, rfl, _, _, hcap, _⟩⟩ := id h
  · refine ⟨none, 0, by rw [h0], fun hne => ?_, by omega⟩
    exact absurd (List.eq_nil_of_length_eq_zero h0) hne
  · have hl := World.ownsRow.lt h g rfl
    refine ⟨_, _, rfl, fun _ => ⟨g, 0, rfl, hl.2, fun i hi => ?_⟩, hcap⟩
    obtain ⟨a, b, c, d⟩ := tkC_get l i hi
    simp only [Nat.zero_add]
    refine ⟨?_, ?_, ?_, ?_⟩
    · rw [World.ownsRow.cellAt h (i * 4) (by omega)]; exact a
    · rw [World.ownsRow.cellAt h (i * 4 + 1) (by omega)]; exact b
    · rw [World.ownsRow.cellAt h (i * 4 + 2) (by omega)]; exact c
    · rw [World.ownsRow.cellAt h (i * 4 + 3) (by omega)]; exact d
theorem toks_fit (l : List UInt8) (k c : Nat) (ts : List Tk) (h : toks l k c = .good ts) (hk : k + l.length ≤ 9223372036854775807) : ∀ t ∈ ts, t.ok := by
  revert ts
  refine toks_ind (P := fun l k c => ∀ ts, toks l k c = .good ts → k + l.length ≤ 9223372036854775807 → ∀ t ∈ ts, t.ok) ?_ ?_ ?_ ?_ ?_ l k c |> fun g ts h => g ts h hk
  · intro k c ts h hk
    rw [toks_nil] at h
    cases h
    simp
  · intro b r k c hb ih ts h hk
    rw [toks_blk hb] at h
    exact ih ts h (by simp at hk; omega)
  · intro l k c h0 hb hn ts h
    rw [toks_none hn h0 hb] at h
    cases h
  · intro l k t n hn ts h
    rw [toks_many hn] at h
    cases h
  · intro l k c t n hn hc4 ih ts h hk
    rw [toks_some hn hc4] at h
    obtain ⟨r, hr, rfl⟩ := pre_good h
    obtain ⟨g1, g2, g3, g4, g5, g6, g7, g8, g9, _⟩ := tkR_some hn
    intro u hu
    simp at hu
    rcases hu with rfl | hu
    · unfold Tk.ok Tk.out
      dsimp only
      omega
    · exact ih r hr (by rw [List.length_drop]; omega) u hu
theorem tsL_ok (s : ByteArray) : ∀ t ∈ tsL s.size (tsR s), t.ok := by
  unfold tsR
  split
  · simp [tsL]
  · rename_i h
    cases hR : toks s.data.toList 0 0 with
    | bad k c => simp [tsL]
    | good ts =>
      intro t ht
      unfold tsL at ht
      rcases List.mem_append.1 ht with h1 | h1
      · exact toks_fit _ 0 0 ts hR (by rw [size_list]; omega) t h1
      · simp at h1
        subst h1
        unfold Tk.ok
        dsimp only
        have : (⟨#[]⟩ : ByteArray).size = 0 := rfl
        omega
theorem tsL_len (s : ByteArray) : (tsL s.size (tsR s)).length ≤ 4097 := by
  unfold tsR
  split
  · simp [tsL]
  · cases hR : toks s.data.toList 0 0 with
    | bad k c => simp [tsL]
    | good ts =>
      have := (toks_ok _ 0 0 ts hR (by omega)).1
      simp [tsL]
      omega
theorem tsR_code (s : ByteArray) : (∃ ts, tsR s = .good ts ∧ toks s.data.toList 0 0 = .good ts ∧ s.size ≤ 262144) ∨ (tsL s.size (tsR s) = [] ∧ ¬ tsC (tsR s) = 0) := by
  unfold tsR
  split
  · exact Or.inr ⟨rfl, by simp [tsC]⟩
  · cases hR : toks s.data.toList 0 0 with
    | good ts => exact Or.inl ⟨ts, rfl, rfl, by omega⟩
    | bad k c =>
      refine Or.inr ⟨rfl, ?_⟩
      have key : ∀ l k c p q, toks l k c = .bad p q → q ≠ 0 := by
        intro l k c
        refine toks_ind (P := fun l k c => ∀ p q, toks l k c = .bad p q → q ≠ 0) ?_ ?_ ?_ ?_ ?_ l k c
        · intro k c p q h; cases h
        · intro b r k c hb ih p q h; rw [toks_blk hb] at h; exact ih p q h
        · intro l k c h0 hb hn p q h; rw [toks_none hn h0 hb] at h; cases h; omega
        · intro l k t n hn p q h; rw [toks_many hn] at h; cases h; omega
        · intro l k c t n hn hc ih p q h; rw [toks_some hn hc] at h; exact ih p q (pre_bad h)
      exact key _ _ _ _ _ hR
end Go.Proofs.YthipclehhcfahaaGreatDoor
