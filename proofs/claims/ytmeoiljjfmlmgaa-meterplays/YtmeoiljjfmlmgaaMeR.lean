/-
  The document's meter: Add, Most, Get, Swap.
-/
import Derived.Test.YtmeoiljjfmlmgaaMeC
namespace Go.Proofs.Ytmeoiljjfmlmgaa
open Go.RowKit

theorem rNone_any (k : Int) (w : World) : Calls Try.prog 29 #[.int .i64 k] w fun e w' => e = .returned (.bool (!inK k)) ∧ w' = w := by
  have HB : Hid ((!inK k) = true ↔ ¬ (0 ≤ k ∧ k < 8)) := hide (by unfold inK; simp; omega)
  generalize (!inK k) = B at *
  go_enter Try.func29, Try.ntmps29
  by_cases h1 : k < 0
  · go_wp2
    go_ret
    exact ⟨ret_bool (Bool.eq_iff_iff.2 (by rw [unhide HB]; simp; omega)), rfl⟩
  · by_cases h2 : 7 < k
    · go_wp2
      go_ret
      exact ⟨ret_bool (Bool.eq_iff_iff.2 (by rw [unhide HB]; simp; omega)), rfl⟩
    · go_wp2
      go_ret
      exact ⟨ret_bool (Bool.eq_iff_iff.2 (by rw [unhide HB]; simp; omega)), rfl⟩
theorem rIn_any (n : Int) (w : World) : Calls Try.prog 30 #[.int .i64 n] w fun e w' => e = .returned (.bool (mayC n)) ∧ w' = w := by
  have HB : Hid (mayC n = true ↔ 0 ≤ n ∧ n ≤ 4611686018427387904) := hide (by unfold mayC; simp)
  generalize mayC n = B at *
  go_enter Try.func30, Try.ntmps30
  by_cases h1 : 0 ≤ n
  · by_cases h2 : n ≤ 4611686018427387904
    · go_wp2
      go_ret
      exact ⟨ret_bool (Bool.eq_iff_iff.2 (by rw [unhide HB]; simp; omega)), rfl⟩
    · go_wp2
      go_ret
      exact ⟨ret_bool (Bool.eq_iff_iff.2 (by rw [unhide HB]; simp; omega)), rfl⟩
  · go_wp2
    go_ret
    exact ⟨ret_bool (Bool.eq_iff_iff.2 (by rw [unhide HB]; simp; omega)), rfl⟩
theorem Mt.setc {t b : Nat} {c : Nat → Int} {w : World} (h : Mt t b c w) (k : Nat) (hk : k < 8) (x : Int) : (w.setCell ⟨b, k, none⟩ (.int .i64 x)).cell? ⟨b, k, none⟩ = some (.int .i64 x) := by
  refine (h.box.set k (.int .i64 x)).cell ?_
  rw [mC_up c k x hk, mC_at _ k hk]
  unfold up
  simp
set_option maxHeartbeats 1000000 in
theorem radd_any (b : Nat) (c : Nat → Int) (k n : Int) (w : World) (hm : n ≤ 9223372036854775807) (h : Mt 28 b c w) : Calls Try.prog 17 #[.pointer (some ⟨b, 0, none⟩), .int .i64 k, .int .i64 n] w fun e w' => e = .returned (.tuple #[.int .i64 (adN c k n), .int .i64 (adE c k n)]) ∧ Mt 28 b (adC c k n) w' ∧ Kp [b] w w' := by
  have HA := hide (fun W => rNone_any k W)
  have HM := hide h
  unfold adC adN adE
  cases hk : inK k with
  | false =>
    rw [hk] at HA
    simp only [Bool.false_eq_true, if_false, show ¬ ((5 : Int) = 0) by decide]
    go_enter Try.func17, Try.ntmps17
    go_wp2_with fail
    refine (unhide HA _).mono ?_
    rintro r w1 ⟨rfl, rfl⟩
    go_wp2
    go_ret2
    exact ⟨rfl, unhide HM, Kp.refl _ _⟩
  | true =>
    rw [hk] at HA
    simp only [if_true]
    obtain ⟨m, rfl, hm8⟩ := inK_nat hk
    clear hk
    have hm8' : (m : Int) < 8 := by omega
    by_cases hn : n < 0
    · simp only [hn, if_true, show ¬ ((1 : Int) = 0) by decide, if_false]
      go_enter Try.func17, Try.ntmps17
      go_wp2_with fail
      refine (unhide HA _).mono ?_
      rintro r w1 ⟨rfl, rfl⟩
      go_wp2
      go_ret2
      exact ⟨rfl, unhide HM, Kp.refl _ _⟩
    · simp only [hn, if_false, Int.toNat_natCast]
      have hc := h.cell m hm8
      have hz := h.box.froz m
      have l0 := h.low m hm8
      have l1 := h.top m hm8
      by_cases hs : c m + n ≤ 4611686018427387904
      · simp only [hs, if_true]
        have HU := hide (h.set m hm8 (c m + n) (by omega) hs)
        have HSC := hide (h.setc m hm8 (c m + n))
        clear h
        generalize up c m (c m + n) = U at *
        generalize c m = x at *
        have h3 : n ≤ 4611686018427387904 - x := by omega
        go_enter Try.func17, Try.ntmps17
        go_wp2_with fail
        refine (unhide HA _).mono ?_
        rintro r w1 ⟨rfl, rfl⟩
        go_wp2_with fail
        go_region
        have hsc : (w1.setCell ⟨b, m, none⟩ (.int .i64 (x + n))).drew.cell? ⟨b, m, none⟩ = some (.int .i64 (x + n)) := unhide HSC
        have HF : Hid (Mt 28 b U (w1.setCell ⟨b, m, none⟩ (.int .i64 (x + n))).drew ∧ Kp [b] w1 (w1.setCell ⟨b, m, none⟩ (.int .i64 (x + n))).drew) := hide ⟨(unhide HU).kp (Kp.drew _) (by simp), (Kp.set _ _ _ _).trans (Kp.drew _) (by simp)⟩
        go_wp2
        go_ret2
        exact ⟨rfl, (unhide HF).1, (unhide HF).2⟩
      · simp only [hs, if_false, show ¬ ((2 : Int) = 0) by decide]
        clear h
        generalize c m = x at *
        have h3 : ¬ n ≤ 4611686018427387904 - x := by omega
        go_enter Try.func17, Try.ntmps17
        go_wp2_with fail
        refine (unhide HA _).mono ?_
        rintro r w1 ⟨rfl, rfl⟩
        go_wp2
        go_ret2
        exact ⟨rfl, unhide HM, Kp.refl _ _⟩
set_option maxHeartbeats 1000000 in
theorem rmost_any (b : Nat) (c : Nat → Int) (k n : Int) (w : World) (h : Mt 28 b c w) : Calls Try.prog 18 #[.pointer (some ⟨b, 0, none⟩), .int .i64 k, .int .i64 n] w fun e w' => e = .returned (.tuple #[.int .i64 (moN c k n), .int .i64 (moE k n)]) ∧ Mt 28 b (moC c k n) w' ∧ Kp [b] w w' := by
  have HA := hide (fun W => rNone_any k W)
  have MA := hide (fun W => rIn_any n W)
  have HM := hide h
  unfold moC moN moE
  cases hk : inK k with
  | false =>
    rw [hk] at HA
    simp only [Bool.false_eq_true, if_false, show ¬ ((5 : Int) = 0) by decide]
    clear MA
    go_enter Try.func18, Try.ntmps18
    go_wp2_with fail
    refine (unhide HA _).mono ?_
    rintro r w1 ⟨rfl, rfl⟩
    go_wp2
    go_ret2
    exact ⟨rfl, unhide HM, Kp.refl _ _⟩
  | true =>
    rw [hk] at HA
    simp only [if_true]
    obtain ⟨m, rfl, hm8⟩ := inK_nat hk
    clear hk
    have hm8' : (m : Int) < 8 := by omega
    cases hn : mayC n with
    | false =>
      rw [hn] at MA
      simp only [Bool.false_eq_true, if_false, show ¬ ((1 : Int) = 0) by decide]
      go_enter Try.func18, Try.ntmps18
      go_wp2_with fail
      refine (unhide HA _).mono ?_
      rintro r w1 ⟨rfl, rfl⟩
      go_wp2_with fail
      refine (unhide MA _).mono ?_
      rintro r w1 ⟨rfl, rfl⟩
      go_wp2
      go_ret2
      exact ⟨rfl, unhide HM, Kp.refl _ _⟩
    | true =>
      rw [hn] at MA
      simp only [if_true, Int.toNat_natCast]
      unfold mayC at hn
      have hn2 := of_decide_eq_true hn
      clear hn
      have hc := h.cell m hm8
      have hz := h.box.froz m
      have l0 := h.low m hm8
      have l1 := h.top m hm8
      have HU := hide (h.set m hm8 (max (c m) n) (by omega) (by omega))
      have HSC := hide (h.setc m hm8 (max (c m) n))
      clear h hn2
      generalize up c m (max (c m) n) = U at *
      generalize c m = x at *
      by_cases hs : x < n
      · have e1 : max x n = n := by omega
        rw [e1] at HU HSC
        rw [e1]
        clear e1
        go_enter Try.func18, Try.ntmps18
        go_wp2_with fail
        refine (unhide HA _).mono ?_
        rintro r w1 ⟨rfl, rfl⟩
        go_wp2_with fail
        refine (unhide MA _).mono ?_
        rintro r w1 ⟨rfl, rfl⟩
        go_wp2_with fail
        go_region
        have hsc : (w1.setCell ⟨b, m, none⟩ (.int .i64 n)).drew.cell? ⟨b, m, none⟩ = some (.int .i64 n) := unhide HSC
        have HF : Hid (Mt 28 b U (w1.setCell ⟨b, m, none⟩ (.int .i64 n)).drew ∧ Kp [b] w1 (w1.setCell ⟨b, m, none⟩ (.int .i64 n)).drew) := hide ⟨(unhide HU).kp (Kp.drew _) (by simp), (Kp.set _ _ _ _).trans (Kp.drew _) (by simp)⟩
        go_wp2
        go_ret2
        exact ⟨rfl, (unhide HF).1, (unhide HF).2⟩
      · have e1 : max x n = x := by omega
        rw [e1] at HU HSC
        rw [e1]
        clear e1
        go_enter Try.func18, Try.ntmps18
        go_wp2_with fail
        refine (unhide HA _).mono ?_
        rintro r w1 ⟨rfl, rfl⟩
        go_wp2_with fail
        refine (unhide MA _).mono ?_
        rintro r w1 ⟨rfl, rfl⟩
        go_wp2_with fail
        go_region
        have hsc : (w1.setCell ⟨b, m, none⟩ (.int .i64 x)).drew.cell? ⟨b, m, none⟩ = some (.int .i64 x) := unhide HSC
        have HF : Hid (Mt 28 b U (w1.setCell ⟨b, m, none⟩ (.int .i64 x)).drew ∧ Kp [b] w1 (w1.setCell ⟨b, m, none⟩ (.int .i64 x)).drew) := hide ⟨(unhide HU).kp (Kp.drew _) (by simp), (Kp.set _ _ _ _).trans (Kp.drew _) (by simp)⟩
        go_wp2
        go_ret2
        exact ⟨rfl, (unhide HF).1, (unhide HF).2⟩
theorem rget_any (b : Nat) (c : Nat → Int) (k : Int) (w : World) (h : Mt 28 b c w) : Calls Try.prog 19 #[.pointer (some ⟨b, 0, none⟩), .int .i64 k] w fun e w' => e = .returned (.tuple #[.int .i64 (geN c k), .int .i64 (geE k)]) ∧ Mt 28 b c w' ∧ Kp [] w w' := by
  have HA := hide (fun W => rNone_any k W)
  have HM := hide h
  unfold geE geN
  cases hk : inK k with
  | false =>
    rw [hk] at HA
    simp only [Bool.false_eq_true, if_false]
    go_enter Try.func19, Try.ntmps19
    go_wp2_with fail
    refine (unhide HA _).mono ?_
    rintro r w1 ⟨rfl, rfl⟩
    go_wp2
    go_ret2
    exact ⟨rfl, unhide HM, Kp.refl _ _⟩
  | true =>
    rw [hk] at HA
    obtain ⟨m, rfl, hm8⟩ := inK_nat hk
    clear hk
    have hm8' : (m : Int) < 8 := by omega
    simp only [if_true, Int.toNat_natCast]
    have hc := h.cell m hm8
    clear h
    generalize c m = x at *
    go_enter Try.func19, Try.ntmps19
    go_wp2_with fail
    refine (unhide HA _).mono ?_
    rintro r w1 ⟨rfl, rfl⟩
    go_wp2
    go_ret2
    exact ⟨rfl, unhide HM, Kp.refl _ _⟩
set_option maxHeartbeats 1000000 in
theorem rswap_any (b : Nat) (c : Nat → Int) (k a z : Int) (w : World) (h : Mt 28 b c w) : Calls Try.prog 20 #[.pointer (some ⟨b, 0, none⟩), .int .i64 k, .int .i64 a, .int .i64 z] w fun e w' => e = .returned (.tuple #[.bool (swB c k a z), .int .i64 (swE k a z)]) ∧ Mt 28 b (swC c k a z) w' ∧ Kp [b] w w' := by
  have HA := hide (fun W => rNone_any k W)
  have MA := hide (fun W => rIn_any a W)
  have MZ := hide (fun W => rIn_any z W)
  have HM := hide h
  unfold swC swB swE
  cases hk : inK k with
  | false =>
    rw [hk] at HA
    simp only [Bool.false_eq_true, if_false, show ¬ ((5 : Int) = 0) by decide, false_and, decide_false]
    clear MA MZ
    go_enter Try.func20, Try.ntmps20
    go_wp2_with fail
    refine (unhide HA _).mono ?_
    rintro r w1 ⟨rfl, rfl⟩
    go_wp2
    go_ret2
    exact ⟨rfl, unhide HM, Kp.refl _ _⟩
  | true =>
    rw [hk] at HA
    simp only [if_true]
    obtain ⟨m, rfl, hm8⟩ := inK_nat hk
    clear hk
    have hm8' : (m : Int) < 8 := by omega
    cases ha : mayC a with
    | false =>
      rw [ha] at MA
      simp only [Bool.false_and, Bool.false_eq_true, if_false, show ¬ ((1 : Int) = 0) by decide, false_and, decide_false]
      go_enter Try.func20, Try.ntmps20
      go_wp2_with fail
      refine (unhide HA _).mono ?_
      rintro r w1 ⟨rfl, rfl⟩
      go_wp2_with fail
      refine (unhide MA _).mono ?_
      rintro r w1 ⟨rfl, rfl⟩
      go_wp2
      go_ret2
      exact ⟨rfl, unhide HM, Kp.refl _ _⟩
    | true =>
      rw [ha] at MA
      cases hz : mayC z with
      | false =>
        rw [hz] at MZ
        simp only [Bool.and_false, Bool.false_eq_true, if_false, show ¬ ((1 : Int) = 0) by decide, false_and, decide_false]
        go_enter Try.func20, Try.ntmps20
        go_wp2_with fail
        refine (unhide HA _).mono ?_
        rintro r w1 ⟨rfl, rfl⟩
        go_wp2_with fail
        refine (unhide MA _).mono ?_
        rintro r w1 ⟨rfl, rfl⟩
        go_wp2_with fail
        refine (unhide MZ _).mono ?_
        rintro r w1 ⟨rfl, rfl⟩
        go_wp2
        go_ret2
        exact ⟨rfl, unhide HM, Kp.refl _ _⟩
      | true =>
        rw [hz] at MZ
        simp only [Bool.and_self, if_true, true_and, Int.toNat_natCast]
        unfold mayC at hz
        have hz2 := of_decide_eq_true hz
        clear hz
        have hc := h.cell m hm8
        have hf := h.box.froz m
        by_cases hs : c m = a
        · have HU := hide (h.set m hm8 z hz2.1 hz2.2)
          simp only [hs, decide_true, if_true]
          rw [hs] at hc
          clear h hs hz2
          generalize up c m z = U at *
          go_enter Try.func20, Try.ntmps20
          go_wp2_with fail
          refine (unhide HA _).mono ?_
          rintro r w1 ⟨rfl, rfl⟩
          go_wp2_with fail
          refine (unhide MA _).mono ?_
          rintro r w1 ⟨rfl, rfl⟩
          go_wp2_with fail
          refine (unhide MZ _).mono ?_
          rintro r w1 ⟨rfl, rfl⟩
          go_wp2
          go_ret2
          exact ⟨rfl, unhide HU, Kp.set _ _ _ _⟩
        · simp only [hs, decide_false, Bool.false_eq_true, if_false]
          clear h hz2
          generalize c m = x at *
          go_enter Try.func20, Try.ntmps20
          go_wp2_with fail
          refine (unhide HA _).mono ?_
          rintro r w1 ⟨rfl, rfl⟩
          go_wp2_with fail
          refine (unhide MA _).mono ?_
          rintro r w1 ⟨rfl, rfl⟩
          go_wp2_with fail
          refine (unhide MZ _).mono ?_
          rintro r w1 ⟨rfl, rfl⟩
          go_wp2
          go_ret2
          exact ⟨rfl, unhide HM, Kp.refl _ _⟩
end Go.Proofs.Ytmeoiljjfmlmgaa
