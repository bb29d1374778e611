/-
  A meter: Most, Swap, New.
-/
import Derived.Test.YtmeoiljjfmlmgaaMeB
namespace Go.Proofs.Ytmeoiljjfmlmgaa
open Go.RowKit

theorem lift_no (b k : Nat) (c : Nat → Int) (n : Int) (w : World) (hk : k < 8) (h : Mt 57 b c w) (hs : n ≤ c k) : Calls Try.prog 27 #[.pointer (some ⟨b, 0, none⟩), .int .i64 (k : Int), .int .i64 n] w fun e w' => e = .returned (.int .i64 (c k)) ∧ w' = w := by
  have CO := hide (fun W e => meCount_any b k (c k) hk W e)
  have HC := hide (h.cell k hk)
  clear h
  generalize c k = x at *
  go_enter Try.func27, Try.ntmps27
  go_wp2_with fail
  go_loopw [] (fun wr => wr = w) (fun _ => 0)
  case atStart => rfl
  case round =>
    subst hrel
    go_wp2_with fail
    refine (unhide CO _ (unhide HC)).mono ?_
    rintro r w1 ⟨rfl, rfl⟩
    go_wp2
    go_ret
    exact ⟨rfl, rfl⟩
theorem lift_ok (b k : Nat) (c : Nat → Int) (n : Int) (w : World) (hk : k < 8) (h : Mt 57 b c w) (hs : ¬ n ≤ c k) (ht : n ≤ 4611686018427387904) : Calls Try.prog 27 #[.pointer (some ⟨b, 0, none⟩), .int .i64 (k : Int), .int .i64 n] w fun e w' => e = .returned (.int .i64 n) ∧ Mt 57 b (up c k n) w' ∧ Kp [b] w w' := by
  have h0 := h.low k hk
  have CO := hide (fun W e => meCount_any b k (c k) hk W e)
  have CH := hide (meHit_any b k (c k) n hk w (h.cell k hk) (h.box.froz k))
  have HC := hide (h.cell k hk)
  have HM := hide (h.set k hk n (by omega) ht)
  clear h
  generalize up c k n = U at *
  generalize c k = x at *
  go_enter Try.func27, Try.ntmps27
  go_wp2_with fail
  go_loopw [] (fun wr => wr = w) (fun _ => 0)
  case atStart => rfl
  case round =>
    subst hrel
    go_wp2_with fail
    refine (unhide CO _ (unhide HC)).mono ?_
    rintro r w1 ⟨rfl, rfl⟩
    go_wp2_with fail
    refine (unhide CH).mono ?_
    rintro r w1 ⟨rfl, rfl⟩
    go_wp2
    go_ret
    exact ⟨rfl, unhide HM, Kp.set _ _ _ _⟩
/-- What Most answers: the error. -/
def moE (k n : Int) : Int := if inK k then (if mayC n then 0 else 1) else 5
/-- The count. -/
def moN (c : Nat → Int) (k n : Int) : Int := if moE k n = 0 then max (c k.toNat) n else 0
/-- The counts behind it. -/
def moC (c : Nat → Int) (k n : Int) : Nat → Int := if moE k n = 0 then up c k.toNat (max (c k.toNat) n) else c
theorem up_self (c : Nat → Int) (k : Nat) : up c k (c k) = c := by
  funext i
  unfold up
  split
  · rename_i h; rw [h]
  · rfl
theorem most_any (b : Nat) (c : Nat → Int) (k n : Int) (w : World) (h : Mt 57 b c w) : Calls Try.prog 14 #[.pointer (some ⟨b, 0, none⟩), .int .i64 k, .int .i64 n] w fun e w' => e = .returned (.tuple #[.int .i64 (moN c k n), .int .i64 (moE k n)]) ∧ Mt 57 b (moC c k n) w' ∧ Kp [b] w w' := by
  have HA := hide (fun W => meHas_any b k W)
  have MA := hide (fun W => meMay_any n W)
  have HM := hide h
  unfold moC moN moE
  cases hk : inK k with
  | false =>
    rw [hk] at HA
    simp only [Bool.false_eq_true, if_false, show ¬ ((5 : Int) = 0) by decide]
    clear MA
    go_enter Try.func14, Try.ntmps14
    go_wp2_with fail
    refine (unhide HA _).mono ?_
    rintro r w1 ⟨rfl, rfl⟩
    go_wp2
    go_ret2
    exact ⟨rfl, unhide HM, Kp.refl _ _⟩
  | true =>
    rw [hk] at HA
    simp only [if_true]
    obtain ⟨m, rfl, hm8⟩ := inK_nat hk
    clear hk
    cases hn : mayC n with
    | false =>
      rw [hn] at MA
      simp only [Bool.false_eq_true, if_false, show ¬ ((1 : Int) = 0) by decide]
      go_enter Try.func14, Try.ntmps14
      go_wp2_with fail
      refine (unhide HA _).mono ?_
      rintro r w1 ⟨rfl, rfl⟩
      go_wp2_with fail
      refine (unhide MA _).mono ?_
      rintro r w1 ⟨rfl, rfl⟩
      go_wp2
      go_ret2
      exact ⟨rfl, unhide HM, Kp.refl _ _⟩
    | true =>
      rw [hn] at MA
      simp only [if_true, Int.toNat_natCast]
      unfold mayC at hn
      have hn2 := of_decide_eq_true hn
      clear hn
      by_cases hs : n ≤ c m
      · have e1 : max (c m) n = c m := by omega
        rw [e1, up_self]
        have RA := hide (lift_no b m c n w hm8 h hs)
        clear h hs e1 hn2
        generalize c m = V at *
        go_enter Try.func14, Try.ntmps14
        go_wp2_with fail
        refine (unhide HA _).mono ?_
        rintro r w1 ⟨rfl, rfl⟩
        go_wp2_with fail
        refine (unhide MA _).mono ?_
        rintro r w1 ⟨rfl, rfl⟩
        go_wp2_with fail
        refine (unhide RA).mono ?_
        rintro r w1 ⟨rfl, rfl⟩
        go_wp2
        go_ret2
        exact ⟨rfl, unhide HM, Kp.refl _ _⟩
      · have e1 : max (c m) n = n := by omega
        rw [e1]
        have RA := hide (lift_ok b m c n w hm8 h hs hn2.2)
        clear h hs e1 hn2
        generalize up c m n = U at *
        go_enter Try.func14, Try.ntmps14
        go_wp2_with fail
        refine (unhide HA _).mono ?_
        rintro r w1 ⟨rfl, rfl⟩
        go_wp2_with fail
        refine (unhide MA _).mono ?_
        rintro r w1 ⟨rfl, rfl⟩
        go_wp2_with fail
        refine (unhide RA).mono ?_
        rintro r w1 ⟨rfl, hb, hp⟩
        have HB := hide hb
        have HP := hide hp
        clear hb hp RA HA HM
        go_wp2
        go_ret2
        exact ⟨rfl, unhide HB, unhide HP⟩
/-- What Swap answers: the error. -/
def swE (k a z : Int) : Int := if inK k then (if mayC a && mayC z then 0 else 1) else 5
/-- Whether it did. -/
def swB (c : Nat → Int) (k a z : Int) : Bool := decide (swE k a z = 0 ∧ c k.toNat = a)
/-- The counts behind it. -/
def swC (c : Nat → Int) (k a z : Int) : Nat → Int := if swB c k a z then up c k.toNat z else c
theorem swap_any (b : Nat) (c : Nat → Int) (k a z : Int) (w : World) (h : Mt 57 b c w) : Calls Try.prog 15 #[.pointer (some ⟨b, 0, none⟩), .int .i64 k, .int .i64 a, .int .i64 z] w fun e w' => e = .returned (.tuple #[.bool (swB c k a z), .int .i64 (swE k a z)]) ∧ Mt 57 b (swC c k a z) w' ∧ Kp [b] w w' := by
  have HA := hide (fun W => meHas_any b k W)
  have MA := hide (fun W => meMay_any a W)
  have MZ := hide (fun W => meMay_any z W)
  have HM := hide h
  unfold swC swB swE
  cases hk : inK k with
  | false =>
    rw [hk] at HA
    simp only [Bool.false_eq_true, if_false, show ¬ ((5 : Int) = 0) by decide, false_and, decide_false]
    clear MA MZ
    go_enter Try.func15, Try.ntmps15
    go_wp2_with fail
    refine (unhide HA _).mono ?_
    rintro r w1 ⟨rfl, rfl⟩
    go_wp2
    go_ret2
    exact ⟨rfl, unhide HM, Kp.refl _ _⟩
  | true =>
    rw [hk] at HA
    simp only [if_true]
    obtain ⟨m, rfl, hm8⟩ := inK_nat hk
    clear hk
    cases ha : mayC a with
    | false =>
      rw [ha] at MA
      simp only [Bool.false_and, Bool.false_eq_true, if_false, show ¬ ((1 : Int) = 0) by decide, false_and, decide_false]
      go_enter Try.func15, Try.ntmps15
      go_wp2_with fail
      refine (unhide HA _).mono ?_
      rintro r w1 ⟨rfl, rfl⟩
      go_wp2_with fail
      refine (unhide MA _).mono ?_
      rintro r w1 ⟨rfl, rfl⟩
      go_wp2
      go_ret2
      exact ⟨rfl, unhide HM, Kp.refl _ _⟩
    | true =>
      rw [ha] at MA
      cases hz : mayC z with
      | false =>
        rw [hz] at MZ
        simp only [Bool.and_false, Bool.false_eq_true, if_false, show ¬ ((1 : Int) = 0) by decide, false_and, decide_false]
        go_enter Try.func15, Try.ntmps15
        go_wp2_with fail
        refine (unhide HA _).mono ?_
        rintro r w1 ⟨rfl, rfl⟩
        go_wp2_with fail
        refine (unhide MA _).mono ?_
        rintro r w1 ⟨rfl, rfl⟩
        go_wp2_with fail
        refine (unhide MZ _).mono ?_
        rintro r w1 ⟨rfl, rfl⟩
        go_wp2
        go_ret2
        exact ⟨rfl, unhide HM, Kp.refl _ _⟩
      | true =>
        rw [hz] at MZ
        simp only [Bool.and_self, if_true, true_and, Int.toNat_natCast]
        unfold mayC at hz
        have hz2 := of_decide_eq_true hz
        clear hz
        by_cases hs : c m = a
        · have RA := hide (meHit_any b m (c m) z hm8 w (h.cell m hm8) (h.box.froz m))
          have HU := hide (h.set m hm8 z hz2.1 hz2.2)
          rw [hs] at RA
          simp only [hs, decide_true, if_true]
          clear h hs hz2
          generalize up c m z = U at *
          go_enter Try.func15, Try.ntmps15
          go_wp2_with fail
          refine (unhide HA _).mono ?_
          rintro r w1 ⟨rfl, rfl⟩
          go_wp2_with fail
          refine (unhide MA _).mono ?_
          rintro r w1 ⟨rfl, rfl⟩
          go_wp2_with fail
          refine (unhide MZ _).mono ?_
          rintro r w1 ⟨rfl, rfl⟩
          go_wp2_with fail
          refine (unhide RA).mono ?_
          rintro r w1 ⟨rfl, rfl⟩
          go_wp2
          go_ret2
          exact ⟨rfl, unhide HU, Kp.set _ _ _ _⟩
        · have RA := hide (meMiss_any b m (c m) a z hm8 w (h.cell m hm8) (h.box.froz m) hs)
          simp only [hs, decide_false, Bool.false_eq_true, if_false]
          clear h hs hz2
          go_enter Try.func15, Try.ntmps15
          go_wp2_with fail
          refine (unhide HA _).mono ?_
          rintro r w1 ⟨rfl, rfl⟩
          go_wp2_with fail
          refine (unhide MA _).mono ?_
          rintro r w1 ⟨rfl, rfl⟩
          go_wp2_with fail
          refine (unhide MZ _).mono ?_
          rintro r w1 ⟨rfl, rfl⟩
          go_wp2_with fail
          refine (unhide RA).mono ?_
          rintro r w1 ⟨rfl, rfl⟩
          go_wp2
          go_ret2
          exact ⟨rfl, unhide HM, Kp.refl _ _⟩
/-- No counts yet. -/
def c0 : Nat → Int := fun _ => 0
theorem new_any (w : World) : Calls Try.prog 7 #[] w fun e w' => e = .returned (.pointer (some ⟨w.heap.size, 0, none⟩)) ∧ Mt 57 w.heap.size c0 w' ∧ Kp [] w w' := by
  go_enter Try.func7, Try.ntmps7
  go_wp2
  go_ret
  exact ⟨rfl, ⟨CBox.new w _ _, fun _ _ => by unfold c0; decide, fun _ _ => by unfold c0; decide⟩, Kp.alloc _ _⟩
end Go.Proofs.Ytmeoiljjfmlmgaa
