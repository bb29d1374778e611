/-
  slices.Compare of numbers, slices.CompareFunc of lists of numbers with it, cmp.Or: as the plain functions have it.
-/
import Derived.Test.YtnikkjbjidhhlaaEvM
namespace Go.Proofs.Ytnikkjbjidhhlaa
open Go.RowKit

set_option maxHeartbeats 1000000 in
theorem sCompare_any (a1 a2 : Option Addr) (c1 c2 : Nat) (xs ys : List Int) (w : World) (hl1 : xs.length ≤ 9223372036854775807) (_hl2 : ys.length ≤ 9223372036854775807) (h1 : IntsAt w a1 xs) (h2 : IntsAt w a2 ys) :
    Calls Try.prog 39 #[.slice a1 xs.length c1, .slice a2 ys.length c2] w fun e w' => e = .returned (.int .i64 (cL Lib.compareInt xs ys)) ∧ w' = w := by
  generalize hR : cL Lib.compareInt xs ys = R
  have HR := hide hR
  have H1 := hide h1
  have H2 := hide h2
  clear hR h1 h2
  go_enter Try.func39, Try.ntmps39
  go_wp2
  go_loop [11] (fun i => ∃ k : Nat, k ≤ xs.length ∧ k ≤ ys.length ∧ i = .int .i64 (k : Int) ∧ Hid (cL Lib.compareInt (xs.drop k) (ys.drop k) = R)) (fun i => xs.length - (intOf i).toNat)
  case atStart => exact ⟨0, Nat.zero_le _, Nat.zero_le _, rfl, HR⟩
  case round =>
    obtain ⟨k, hk1, hk2, rfl, HK⟩ := hrel
    by_cases hx : k < xs.length
    · obtain ⟨b1, o1, rfl, _, q1⟩ := unhide H1 (fun e => by rw [e] at hx; simp at hx)
      have x1 := q1 k hx
      have hK := unhide HK
      rw [List.drop_eq_getElem_cons hx] at hK
      clear q1 H1 HK HR
      generalize xs[k] = x at *
      by_cases hy : k < ys.length
      · obtain ⟨b2, o2, rfl, _, q2⟩ := unhide H2 (fun e => by rw [e] at hy; simp at hy)
        have y1 := q2 k hy
        rw [List.drop_eq_getElem_cons hy] at hK
        clear q2 H2
        generalize ys[k] = y at *
        simp only [cL] at hK
        have hc := fun w => Try.cmp_Compare_int x y w
        by_cases h0 : Lib.compareInt x y = 0
        · rw [if_pos h0] at hK
          simp only [h0] at hc
          have HC := hide hc
          have HK := hide hK
          clear hc hK h0
          go_wp2_with fail
          refine (unhide HC _).mono ?_
          rintro e w1 ⟨rfl, rfl⟩
          go_wp2
          go_round
          case rel => exact ⟨k + 1, by omega, by omega, by go_num, HK⟩
          case measure => simp [intOf]; omega
        · rw [if_neg h0] at hK
          rw [hK] at hc h0
          have g : (R != 0) = true := by rw [bne_iff_ne]; exact h0
          have HC := hide hc
          clear hc hK h0
          go_wp2_with fail
          refine (unhide HC _).mono ?_
          rintro e w1 ⟨rfl, rfl⟩
          go_wp2
          go_ret
          exact ⟨rfl, rfl⟩
      · have hd : ys.drop k = [] := List.drop_of_length_le (by omega)
        rw [hd] at hK
        simp only [cL] at hK
        subst hK
        clear H2 hd
        go_wp2
        go_ret
        exact ⟨rfl, rfl⟩
    · have hK := unhide HK
      rw [List.drop_of_length_le (by omega)] at hK
      clear HK HR H1 H2
      by_cases hy : k < ys.length
      · rw [List.drop_eq_getElem_cons hy] at hK
        simp only [cL] at hK
        subst hK
        have hlt : (xs.length : Int) < (ys.length : Int) := by omega
        go_wp2
        go_ret
        exact ⟨rfl, rfl⟩
      · rw [List.drop_of_length_le (by omega)] at hK
        simp only [cL] at hK
        subst hK
        have hlt : ¬ ((xs.length : Int) < (ys.length : Int)) := by omega
        go_wp2
        go_ret
        exact ⟨rfl, rfl⟩
set_option maxHeartbeats 1000000 in
theorem sCompareFunc_any (a1 a2 : Option Addr) (c1 c2 : Nat) (xs ys : List (List Int)) (w : World) (hl1 : xs.length ≤ 9223372036854775807) (_hl2 : ys.length ≤ 9223372036854775807) (hp1 : ∀ p ∈ xs, p.length ≤ 9223372036854775807) (hp2 : ∀ p ∈ ys, p.length ≤ 9223372036854775807) (h1 : StagesAt w a1 xs) (h2 : StagesAt w a2 ys) :
    Calls Try.prog 38 #[.slice a1 xs.length c1, .slice a2 ys.length c2, .func (.func 39) #[] #[]] w fun e w' => e = .returned (.int .i64 (cL (cL Lib.compareInt) xs ys)) ∧ w' = w := by
  generalize hR : cL (cL Lib.compareInt) xs ys = R
  have HR := hide hR
  have H1 := hide h1
  have H2 := hide h2
  have P1 := hide hp1
  have P2 := hide hp2
  clear hR h1 h2 hp1 hp2
  go_enter Try.func38, Try.ntmps38
  go_wp2
  go_loop [13] (fun i => ∃ k : Nat, k ≤ xs.length ∧ k ≤ ys.length ∧ i = .int .i64 (k : Int) ∧ Hid (cL (cL Lib.compareInt) (xs.drop k) (ys.drop k) = R)) (fun i => xs.length - (intOf i).toNat)
  case atStart => exact ⟨0, Nat.zero_le _, Nat.zero_le _, rfl, HR⟩
  case round =>
    obtain ⟨k, hk1, hk2, rfl, HK⟩ := hrel
    by_cases hx : k < xs.length
    · obtain ⟨b1, o1, rfl, _, q1⟩ := unhide H1 (fun e => by rw [e] at hx; simp at hx)
      obtain ⟨p1, m1, x1, i1⟩ := q1 k hx
      have l1 := unhide P1 xs[k] (List.getElem_mem hx)
      have hK := unhide HK
      rw [List.drop_eq_getElem_cons hx] at hK
      clear q1 H1 HK HR P1
      generalize xs[k] = x at *
      by_cases hy : k < ys.length
      · obtain ⟨b2, o2, rfl, _, q2⟩ := unhide H2 (fun e => by rw [e] at hy; simp at hy)
        obtain ⟨p2, m2, y1, i2⟩ := q2 k hy
        have l2 := unhide P2 ys[k] (List.getElem_mem hy)
        rw [List.drop_eq_getElem_cons hy] at hK
        clear q2 H2 P2
        generalize ys[k] = y at *
        simp only [cL] at hK
        have hc := sCompare_any p1 p2 m1 m2 x y w l1 l2 i1 i2
        by_cases h0 : cL Lib.compareInt x y = 0
        · rw [if_pos h0] at hK
          rw [h0] at hc
          have HC := hide hc
          have HK := hide hK
          clear hc hK h0 i1 i2
          generalize x.length = nx at *
          generalize y.length = ny at *
          go_wp2_with fail
          refine (unhide HC).mono ?_
          rintro e w1 ⟨rfl, rfl⟩
          go_wp2
          go_round
          case rel => exact ⟨k + 1, by omega, by omega, by go_num, HK⟩
          case measure => simp [intOf]; omega
        · rw [if_neg h0] at hK
          rw [hK] at hc h0
          have g : (R != 0) = true := by rw [bne_iff_ne]; exact h0
          have HC := hide hc
          clear hc hK h0 i1 i2
          generalize x.length = nx at *
          generalize y.length = ny at *
          go_wp2_with fail
          refine (unhide HC).mono ?_
          rintro e w1 ⟨rfl, rfl⟩
          go_wp2
          go_ret
          exact ⟨rfl, rfl⟩
      · have hd : ys.drop k = [] := List.drop_of_length_le (by omega)
        rw [hd] at hK
        simp only [cL] at hK
        subst hK
        clear H2 hd i1 P2
        generalize x.length = nx at *
        go_wp2
        go_ret
        exact ⟨rfl, rfl⟩
    · have hK := unhide HK
      rw [List.drop_of_length_le (by omega)] at hK
      clear HK HR H1 H2 P1 P2
      by_cases hy : k < ys.length
      · rw [List.drop_eq_getElem_cons hy] at hK
        simp only [cL] at hK
        subst hK
        have hlt : (xs.length : Int) < (ys.length : Int) := by omega
        go_wp2
        go_ret
        exact ⟨rfl, rfl⟩
      · rw [List.drop_of_length_le (by omega)] at hK
        simp only [cL] at hK
        subst hK
        have hlt : ¬ ((xs.length : Int) < (ys.length : Int)) := by omega
        go_wp2
        go_ret
        exact ⟨rfl, rfl⟩
def orL : List Int → Int
  | [] => 0
  | x :: r => if x = 0 then orL r else x
set_option maxHeartbeats 1000000 in
theorem or_any (a1 : Option Addr) (c1 : Nat) (xs : List Int) (w : World) (hl1 : xs.length ≤ 9223372036854775807) (h1 : IntsAt w a1 xs) :
    Calls Try.prog 35 #[.slice a1 xs.length c1] w fun e w' => e = .returned (.int .i64 (orL xs)) ∧ w' = w := by
  generalize hR : orL xs = R
  have HR := hide hR
  have H1 := hide h1
  clear hR h1
  go_enter Try.func35, Try.ntmps35
  go_wp2
  go_loop [8] (fun i => ∃ k : Nat, k ≤ xs.length ∧ i = .int .i64 (k : Int) ∧ Hid (orL (xs.drop k) = R)) (fun i => xs.length - (intOf i).toNat)
  case atStart => exact ⟨0, Nat.zero_le _, rfl, HR⟩
  case round =>
    obtain ⟨k, hk1, rfl, HK⟩ := hrel
    by_cases hx : k < xs.length
    · obtain ⟨b1, o1, rfl, _, q1⟩ := unhide H1 (fun e => by rw [e] at hx; simp at hx)
      have x1 := q1 k hx
      have hK := unhide HK
      rw [List.drop_eq_getElem_cons hx, orL] at hK
      clear q1 H1 HK HR
      generalize xs[k] = x at *
      by_cases h0 : x = 0
      · rw [if_pos h0] at hK
        subst h0
        have HK := hide hK
        clear hK
        go_wp2
        go_round
        case rel => exact ⟨k + 1, by omega, by go_num, HK⟩
        case measure => simp [intOf]; omega
      · rw [if_neg h0] at hK
        subst hK
        have g : (x != 0) = true := by rw [bne_iff_ne]; exact h0
        clear h0
        go_wp2
        go_ret
        exact ⟨rfl, rfl⟩
    · have hK := unhide HK
      rw [List.drop_of_length_le (by omega), orL] at hK
      subst hK
      clear HK HR H1
      go_wp2
      go_ret
      exact ⟨rfl, rfl⟩
end Go.Proofs.Ytnikkjbjidhhlaa
