/-
  A meter: New, Get, Add, Most, Swap.
-/
import Derived.Test.YtmeoiljjfmlmgaaMeA
namespace Go.Proofs.Ytmeoiljjfmlmgaa
open Go.RowKit

theorem raise_ok (b k : Nat) (c : Nat → Int) (n : Int) (w : World) (hk : k < 8) (h : Mt 57 b c w) (hn : 0 ≤ n) (hs : c k + n ≤ 4611686018427387904) : Calls Try.prog 24 #[.pointer (some ⟨b, 0, none⟩), .int .i64 (k : Int), .int .i64 n] w fun e w' => e = .returned (.tuple #[.int .i64 (c k + n), .int .i64 0]) ∧ Mt 57 b (up c k (c k + n)) w' ∧ Kp [b] w w' := by
  have h0 := h.low k hk
  have CO := hide (fun W e => meCount_any b k (c k) hk W e)
  have FI := hide (fun W => meFits_any (c k) n hn (by omega) W)
  have CH := hide (meHit_any b k (c k) (c k + n) hk w (h.cell k hk) (h.box.froz k))
  have HC := hide (h.cell k hk)
  have HM := hide (h.set k hk (c k + n) (by omega) hs)
  have hd : decide (c k + n ≤ 4611686018427387904) = true := by simpa using hs
  rw [hd] at FI
  clear hd h
  generalize up c k (c k + n) = U at *
  generalize c k = x at *
  go_enter Try.func24, Try.ntmps24
  go_wp2_with fail
  go_loopw [] (fun wr => wr = w) (fun _ => 0)
  case atStart => rfl
  case round =>
    subst hrel
    go_wp2_with fail
    refine (unhide CO _ (unhide HC)).mono ?_
    rintro r w1 ⟨rfl, rfl⟩
    go_wp2_with fail
    refine (unhide FI _).mono ?_
    rintro r w1 ⟨rfl, rfl⟩
    go_wp2_with fail
    refine (unhide CH).mono ?_
    rintro r w1 ⟨rfl, rfl⟩
    go_wp2
    go_ret2
    exact ⟨rfl, unhide HM, Kp.set _ _ _ _⟩
theorem raise_no (b k : Nat) (c : Nat → Int) (n : Int) (w : World) (hk : k < 8) (h : Mt 57 b c w) (hn : 0 ≤ n) (hm : n ≤ 9223372036854775807) (hs : ¬ c k + n ≤ 4611686018427387904) : Calls Try.prog 24 #[.pointer (some ⟨b, 0, none⟩), .int .i64 (k : Int), .int .i64 n] w fun e w' => e = .returned (.tuple #[.int .i64 0, .int .i64 2]) ∧ w' = w := by
  have CO := hide (fun W e => meCount_any b k (c k) hk W e)
  have FI := hide (fun W => meFits_any (c k) n hn hm W)
  have HC := hide (h.cell k hk)
  have hd : decide (c k + n ≤ 4611686018427387904) = false := by simpa using hs
  rw [hd] at FI
  clear hd h
  generalize c k = x at *
  go_enter Try.func24, Try.ntmps24
  go_wp2_with fail
  go_loopw [] (fun wr => wr = w) (fun _ => 0)
  case atStart => rfl
  case round =>
    subst hrel
    go_wp2_with fail
    refine (unhide CO _ (unhide HC)).mono ?_
    rintro r w1 ⟨rfl, rfl⟩
    go_wp2_with fail
    refine (unhide FI _).mono ?_
    rintro r w1 ⟨rfl, rfl⟩
    go_wp2
    go_ret2
    exact ⟨rfl, rfl⟩
/-- What Add answers: the error. -/
def adE (c : Nat → Int) (k n : Int) : Int := if inK k then (if n < 0 then 1 else if c k.toNat + n ≤ 4611686018427387904 then 0 else 2) else 5
/-- The count. -/
def adN (c : Nat → Int) (k n : Int) : Int := if adE c k n = 0 then c k.toNat + n else 0
/-- The counts behind it. -/
def adC (c : Nat → Int) (k n : Int) : Nat → Int := if adE c k n = 0 then up c k.toNat (c k.toNat + n) else c
theorem inK_nat {k : Int} (h : inK k = true) : ∃ m : Nat, k = (m : Int) ∧ m < 8 := by
  unfold inK at h
  have := of_decide_eq_true h
  exact ⟨k.toNat, by omega, by omega⟩
theorem inK_of (m : Nat) (h : m < 8) : inK (m : Int) = true := by
  unfold inK
  simp
  omega
theorem add_any (b : Nat) (c : Nat → Int) (k n : Int) (w : World) (hm : n ≤ 9223372036854775807) (h : Mt 57 b c w) : Calls Try.prog 12 #[.pointer (some ⟨b, 0, none⟩), .int .i64 k, .int .i64 n] w fun e w' => e = .returned (.tuple #[.int .i64 (adN c k n), .int .i64 (adE c k n)]) ∧ Mt 57 b (adC c k n) w' ∧ Kp [b] w w' := by
  have HA := hide (fun W => meHas_any b k W)
  have HM := hide h
  unfold adC adN adE
  cases hk : inK k with
  | false =>
    rw [hk] at HA
    simp only [Bool.false_eq_true, if_false, show ¬ ((5 : Int) = 0) by decide]
    go_enter Try.func12, Try.ntmps12
    go_wp2_with fail
    refine (unhide HA _).mono ?_
    rintro r w1 ⟨rfl, rfl⟩
    go_wp2
    go_ret2
    exact ⟨rfl, unhide HM, Kp.refl _ _⟩
  | true =>
    rw [hk] at HA
    simp only [if_true]
    obtain ⟨m, rfl, hm8⟩ := inK_nat hk
    clear hk
    by_cases hn : n < 0
    · simp only [hn, if_true, show ¬ ((1 : Int) = 0) by decide, if_false]
      go_enter Try.func12, Try.ntmps12
      go_wp2_with fail
      refine (unhide HA _).mono ?_
      rintro r w1 ⟨rfl, rfl⟩
      go_wp2
      go_ret2
      exact ⟨rfl, unhide HM, Kp.refl _ _⟩
    · simp only [hn, if_false, Int.toNat_natCast]
      by_cases hs : c m + n ≤ 4611686018427387904
      · simp only [hs, if_true]
        have RA := hide (raise_ok b m c n w hm8 h (by omega) hs)
        clear h hs
        generalize up c m (c m + n) = U at *
        generalize c m + n = V at *
        go_enter Try.func12, Try.ntmps12
        go_wp2_with fail
        refine (unhide HA _).mono ?_
        rintro r w1 ⟨rfl, rfl⟩
        go_wp2_with fail
        refine (unhide RA).mono ?_
        rintro r w1 ⟨rfl, hb, hp⟩
        have HB := hide hb
        have HP := hide hp
        clear hb hp RA HA HM
        go_wp2
        go_ret2
        exact ⟨rfl, unhide HB, unhide HP⟩
      · simp only [hs, if_false, show ¬ ((2 : Int) = 0) by decide]
        have RA := hide (raise_no b m c n w hm8 h (by omega) hm hs)
        clear h hs
        go_enter Try.func12, Try.ntmps12
        go_wp2_with fail
        refine (unhide HA _).mono ?_
        rintro r w1 ⟨rfl, rfl⟩
        go_wp2_with fail
        refine (unhide RA).mono ?_
        rintro r w1 ⟨rfl, rfl⟩
        go_wp2
        go_ret2
        exact ⟨rfl, unhide HM, Kp.refl _ _⟩
/-- What Get answers. -/
def geE (k : Int) : Int := if inK k then 0 else 5
def geN (c : Nat → Int) (k : Int) : Int := if inK k then c k.toNat else 0
theorem get_any (b : Nat) (c : Nat → Int) (k : Int) (w : World) (h : Mt 57 b c w) : Calls Try.prog 16 #[.pointer (some ⟨b, 0, none⟩), .int .i64 k] w fun e w' => e = .returned (.tuple #[.int .i64 (geN c k), .int .i64 (geE k)]) ∧ Mt 57 b c w' ∧ Kp [] w w' := by
  have HA := hide (fun W => meHas_any b k W)
  have HM := hide h
  unfold geE geN
  cases hk : inK k with
  | false =>
    rw [hk] at HA
    simp only [Bool.false_eq_true, if_false]
    go_enter Try.func16, Try.ntmps16
    go_wp2_with fail
    refine (unhide HA _).mono ?_
    rintro r w1 ⟨rfl, rfl⟩
    go_wp2
    go_ret2
    exact ⟨rfl, unhide HM, Kp.refl _ _⟩
  | true =>
    rw [hk] at HA
    obtain ⟨m, rfl, hm8⟩ := inK_nat hk
    clear hk
    simp only [if_true, Int.toNat_natCast]
    have CO := hide (fun W e => meCount_any b m (c m) hm8 W e)
    have HC := hide (h.cell m hm8)
    clear h
    generalize c m = x at *
    go_enter Try.func16, Try.ntmps16
    go_wp2_with fail
    refine (unhide HA _).mono ?_
    rintro r w1 ⟨rfl, rfl⟩
    go_wp2_with fail
    refine (unhide CO _ (unhide HC)).mono ?_
    rintro r w1 ⟨rfl, rfl⟩
    go_wp2
    go_ret2
    exact ⟨rfl, unhide HM, Kp.refl _ _⟩
end Go.Proofs.Ytmeoiljjfmlmgaa
