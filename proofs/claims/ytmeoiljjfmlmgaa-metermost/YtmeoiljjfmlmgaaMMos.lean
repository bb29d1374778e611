/-
  MeterMost: the walk.
-/
import Derived.Test.YtmeoiljjfmlmgaaMeW
import Derived.Test.YtmeoiljjfmlmgaaIntsIn
namespace Go.Proofs.Ytmeoiljjfmlmgaa
open Go.RowKit

/-- A meter of the call's own of which one count alone was lifted. -/
def MK (b K : Nat) (m : Int) (w0 w : World) : Prop := ∃ c, Mt 57 b c w ∧ c K = m ∧ (∀ i, i < 8 → i ≠ K → c i = 0) ∧ Kp [] w0 w
theorem MK.kp {b K : Nat} {m : Int} {w0 w w' : World} (h : MK b K m w0 w) (hk : Kp [] w w') : MK b K m w0 w' := by
  obtain ⟨c, h1, h2, h3, h4⟩ := h
  exact ⟨c, h1.kp hk (by simp), h2, h3, kp_tr h4 hk⟩
theorem MK.bounds {b K : Nat} {m : Int} {w0 w : World} (h : MK b K m w0 w) (hK : K < 8) : 0 ≤ m ∧ m ≤ 4611686018427387904 := by
  obtain ⟨c, h1, rfl, _⟩ := h
  exact ⟨h1.low K hK, h1.top K hK⟩
theorem mk_no (b K : Nat) (m x : Int) (w0 w : World) (hK : K < 8) (h : MK b K m w0 w) (hb : w0.heap.size ≤ b) (hx : ¬ (0 ≤ x ∧ x ≤ 4611686018427387904)) : Calls Try.prog 14 #[.pointer (some ⟨b, 0, none⟩), .int .i64 (K : Int), .int .i64 x] w fun e w' => e = .returned (.tuple #[.int .i64 0, .int .i64 1]) ∧ MK b K m w0 w' := by
  obtain ⟨c, h1, h2, h3, h4⟩ := h
  have e0 : mayC x = false := by unfold mayC; simpa using hx
  have e1 : moE (K : Int) x = 1 := by unfold moE; rw [inK_of K hK, e0]; rfl
  refine (most_any b c K x w h1).mono fun r w' hh => ?_
  unfold moN moC at hh
  rw [e1] at hh
  exact ⟨hh.1, c, hh.2.1, h2, h3, kp_own h4 hh.2.2 hb⟩
theorem mk_yes (b K : Nat) (m x : Int) (w0 w : World) (hK : K < 8) (h : MK b K m w0 w) (hb : w0.heap.size ≤ b) (h0 : 0 ≤ x) (hx : x ≤ 4611686018427387904) : Calls Try.prog 14 #[.pointer (some ⟨b, 0, none⟩), .int .i64 (K : Int), .int .i64 x] w fun e w' => e = .returned (.tuple #[.int .i64 (max m x), .int .i64 0]) ∧ MK b K (max m x) w0 w' := by
  obtain ⟨c, h1, rfl, h3, h4⟩ := h
  have e0 : mayC x = true := by unfold mayC; simp; exact ⟨h0, hx⟩
  have e1 : moE (K : Int) x = 0 := by unfold moE; rw [inK_of K hK, e0]; rfl
  refine (most_any b c K x w h1).mono fun r w' hh => ?_
  unfold moN moC at hh
  rw [e1, if_pos rfl, if_pos rfl, Int.toNat_natCast] at hh
  exact ⟨hh.1, _, hh.2.1, by unfold up; simp, fun i hi hne => by unfold up; rw [if_neg hne]; exact h3 i hi hne, kp_own h4 hh.2.2 hb⟩
theorem mk_all (b K : Nat) (m : Int) (w0 w : World) (h : MK b K m w0 w) : Calls Try.prog 10 #[.pointer (some ⟨b, 0, none⟩)] w fun e w' => ∃ c : Nat → Int, e = .returned (.agg #[.int .i64 (c 0), .int .i64 (c 1), .int .i64 (c 2), .int .i64 (c 3), .int .i64 (c 4), .int .i64 (c 5), .int .i64 (c 6), .int .i64 (c 7)]) ∧ c K = m ∧ (∀ i, i < 8 → i ≠ K → c i = 0) ∧ Kp [] w0 w' := by
  obtain ⟨c, h1, h2, h3, h4⟩ := h
  exact (all_any b c w h1).mono fun r w' hh => ⟨c, hh.1, h2, h3, kp_tr h4 hh.2.2⟩
theorem IntsAt.one {w w' : World} {ad : Option Addr} {l : List Int} (h : IntsAt w ad l) (hk : Kp [] w w') (i : Nat) (hi : i < l.length) : ∃ b off, ad = some ⟨b, off, none⟩ ∧ w'.cell? ⟨b, off + i, none⟩ = some (.int .i64 l[i]) := by
  obtain ⟨b, off, e, _, hc⟩ := h (by intro e; subst e; simp at hi)
  exact ⟨b, off, e, hk.cell (hc i hi) (by simp)⟩
set_option maxHeartbeats 4000000 in
set_option maxRecDepth 100000 in
theorem most_walk (ad : Option Addr) (cap : Nat) (l : List Int) (k : Int) (w : World) (_hl : l.length ≤ 9223372036854775807) (hA : IntsAt w ad l) (_hok : ∀ y ∈ l, -9223372036854775808 ≤ y ∧ y ≤ 9223372036854775807) :
    Calls Try.prog 5 #[.slice ad l.length cap, .int .i64 k] w fun e w' => e = .returned (.bool true) ∧ Below w.heap.size w w' := by
  have NW := hide (new_any w)
  have WK := hide meWorks_any
  have AM := hide (fun W => meAmong_any k 8 W (by decide) (by decide))
  obtain ⟨K, hK, hK8⟩ : ∃ K : Nat, k % 8 = (K : Int) ∧ K < 8 := ⟨(k % 8).toNat, by omega, by omega⟩
  rw [hK] at AM
  clear hK
  have HA := hide hA
  clear hA
  go_enter Try.func5, Try.ntmps5
  go_wp2_with fail
  refine (unhide NW).mono ?_
  rintro r w1 ⟨rfl, hm, hk⟩
  have HM1 := hide hm
  have HK1 := hide hk
  clear hm hk NW
  go_wp2_with fail
  refine (unhide WK w1).mono ?_
  rintro r w2 ⟨rfl, hk⟩
  have HS : Hid (MK w.heap.size K 0 w w2) := hide ⟨c0, (unhide HM1).kp hk (by simp), rfl, fun _ _ _ => rfl, kp_tr (unhide HK1) hk⟩
  clear hk WK HM1 HK1
  go_wp2_with fail
  refine (unhide AM w2).mono ?_
  rintro r w3 ⟨rfl, rfl⟩
  clear AM
  go_wp2_with fail
  go_loopw [6, 7] (fun mo i wr => ∃ (j : Nat) (m : Int), j ≤ l.length ∧ i = .int .i64 (j : Int) ∧ mo = .int .i64 m ∧ Hid (MK w.heap.size K m w wr)) (fun _ i _ => l.length - (intOf i).toNat)
  case atStart => exact ⟨0, 0, Nat.zero_le _, rfl, rfl, HS⟩
  case round =>
    clear HS
    obtain ⟨j, m, hj, rfl, rfl, HC⟩ := hrel
    by_cases hlt : j < l.length ∧ j < 200
    · obtain ⟨hlt, h200⟩ := hlt
      have hli : (j : Int) < (l.length : Int) := by omega
      obtain ⟨c, hcm, hcK, hcz, hkw⟩ := unhide HC
      obtain ⟨b, off, rfl, hx⟩ := (unhide HA).one hkw j hlt
      have hHA := unhide HA
      have NO := hide (mk_no w.heap.size K m l[j] w wr hK8 (unhide HC) (Nat.le_refl _))
      have YE := hide (mk_yes w.heap.size K m l[j] w wr hK8 (unhide HC) (Nat.le_refl _))
      have HX2 : Hid (∀ W, MK w.heap.size K m w W → W.cell? ⟨b, off + j, none⟩ = some (.int .i64 l[j])) := hide (fun W hW => by
        obtain ⟨_, _, _, _, hk2⟩ := hW
        obtain ⟨b', off', e, hx'⟩ := hHA.one hk2 j hlt
        injection e with e; injection e with e1 e2; subst e1 e2; exact hx')
      have HX3 : Hid (∀ W, MK w.heap.size K (max m l[j]) w W → W.cell? ⟨b, off + j, none⟩ = some (.int .i64 l[j])) := hide (fun W hW => by
        obtain ⟨_, _, _, _, hk2⟩ := hW
        obtain ⟨b', off', e, hx'⟩ := hHA.one hk2 j hlt
        injection e with e; injection e with e1 e2; subst e1 e2; exact hx')
      clear hcm hcK hcz hkw hHA HC HA
      generalize l[j] = x at *
      by_cases hr : 0 ≤ x ∧ x ≤ 4611686018427387904
      · obtain ⟨hr0, hr1⟩ := hr
        clear NO HX2
        by_cases hmx : m < x
        · have e1 : max m x = x := by omega
          rw [e1] at YE HX3
          clear e1
          go_wp2_with fail
          refine (unhide YE hr0 hr1).mono ?_
          rintro r w4 ⟨rfl, hm4⟩
          have hx4 := unhide HX3 w4 hm4
          have HN := hide hm4
          have hr3 : ¬ x < 0 := by omega
          have hr4 : ¬ (4611686018427387904 : Int) < x := by omega
          clear hm4 YE HX3 hx hr0 hr1
          go_wp2
          go_roundw
          case rel => exact ⟨j + 1, x, by omega, by go_num, rfl, HN⟩
          case measure => simp [intOf]; omega
        · have e1 : max m x = m := by omega
          rw [e1] at YE HX3
          clear e1
          go_wp2_with fail
          refine (unhide YE hr0 hr1).mono ?_
          rintro r w4 ⟨rfl, hm4⟩
          have hx4 := unhide HX3 w4 hm4
          have HN := hide hm4
          have hr3 : ¬ x < 0 := by omega
          have hr4 : ¬ (4611686018427387904 : Int) < x := by omega
          clear hm4 YE HX3 hx hr0 hr1
          go_wp2
          go_roundw
          case rel => exact ⟨j + 1, m, by omega, by go_num, rfl, HN⟩
          case measure => simp [intOf]; omega
      · clear YE HX3
        go_wp2_with fail
        refine (unhide NO hr).mono ?_
        rintro r w4 ⟨rfl, hm4⟩
        have hx4 := unhide HX2 w4 hm4
        have HN := hide hm4
        clear hm4 NO HX2 hx
        by_cases hx0 : x < 0
        · clear hr
          go_wp2
          go_roundw
          case rel => exact ⟨j + 1, m, by omega, by go_num, rfl, HN⟩
          case measure => simp [intOf]; omega
        · have hx1 : (4611686018427387904 : Int) < x := by omega
          clear hr
          go_wp2
          go_roundw
          case rel => exact ⟨j + 1, m, by omega, by go_num, rfl, HN⟩
          case measure => simp [intOf]; omega
    · have AL := hide (mk_all w.heap.size K m w wr (unhide HC))
      clear HC HA
      by_cases hlt2 : j < l.length
      · have hli : (j : Int) < (l.length : Int) := by omega
        have h200 : (200 : Int) ≤ (j : Int) := by omega
        clear hlt
        go_wp2_with fail
        refine (unhide AL).mono ?_
        rintro r w5 ⟨c, rfl, hcK, hcz, hk5⟩
        have HCK := hide (And.intro hcK hcz)
        have HK5 : Hid (Kp [] w w5) := hide hk5
        clear hcK hcz hk5 AL
        go_wp2_with fail
        have HS : Hid (Kp [] w (w5.alloc (.cells (mC c) 26))) := hide (kp_tr (unhide HK5) (Kp.alloc _ _))
        clear HK5
        have IX := hide (index8 c)
        go_loopw [76] (fun i wr2 => ∃ z : Nat, z ≤ 8 ∧ i = .int .i64 (z : Int) ∧ Hid (Kp [] w wr2)) (fun i _ => 8 - (intOf i).toNat)
        case atStart => exact ⟨0, by decide, rfl, HS⟩
        case round =>
          clear HS
          obtain ⟨z, hz, rfl, HR⟩ := hrel
          by_cases hz8 : z < 8
          · have h1 : (z : Int) < 8 := by omega
            have ix := unhide IX z hz8
            by_cases hzK : z = K
            · have e : c z = m := by rw [hzK]; exact (unhide HCK).1
              rw [e] at ix
              clear HCK e
              subst hzK
              go_wp2
              go_roundw
              case rel => exact ⟨z + 1, by omega, by go_num, HR⟩
              case measure => simp [intOf]; omega
            · have e : c z = 0 := (unhide HCK).2 z hz8 hzK
              have hzK' : ¬ ((z : Int) = (K : Int)) := by omega
              rw [e] at ix
              clear HCK e
              go_wp2
              go_roundw
              case rel => exact ⟨z + 1, by omega, by go_num, HR⟩
              case measure => simp [intOf]; omega
          · clear HCK IX
            go_wp2
            go_ret
            exact ⟨rfl, (unhide HR).below (Nat.le_refl _) (by simp)⟩
      · have hli : ¬ ((j : Int) < (l.length : Int)) := by omega
        clear hlt
        go_wp2_with fail
        refine (unhide AL).mono ?_
        rintro r w5 ⟨c, rfl, hcK, hcz, hk5⟩
        have HCK := hide (And.intro hcK hcz)
        have HK5 : Hid (Kp [] w w5) := hide hk5
        clear hcK hcz hk5 AL
        go_wp2_with fail
        have HS : Hid (Kp [] w (w5.alloc (.cells (mC c) 26))) := hide (kp_tr (unhide HK5) (Kp.alloc _ _))
        clear HK5
        have IX := hide (index8 c)
        go_loopw [76] (fun i wr2 => ∃ z : Nat, z ≤ 8 ∧ i = .int .i64 (z : Int) ∧ Hid (Kp [] w wr2)) (fun i _ => 8 - (intOf i).toNat)
        case atStart => exact ⟨0, by decide, rfl, HS⟩
        case round =>
          clear HS
          obtain ⟨z, hz, rfl, HR⟩ := hrel
          by_cases hz8 : z < 8
          · have h1 : (z : Int) < 8 := by omega
            have ix := unhide IX z hz8
            by_cases hzK : z = K
            · have e : c z = m := by rw [hzK]; exact (unhide HCK).1
              rw [e] at ix
              clear HCK e
              subst hzK
              go_wp2
              go_roundw
              case rel => exact ⟨z + 1, by omega, by go_num, HR⟩
              case measure => simp [intOf]; omega
            · have e : c z = 0 := (unhide HCK).2 z hz8 hzK
              have hzK' : ¬ ((z : Int) = (K : Int)) := by omega
              rw [e] at ix
              clear HCK e
              go_wp2
              go_roundw
              case rel => exact ⟨z + 1, by omega, by go_num, HR⟩
              case measure => simp [intOf]; omega
          · clear HCK IX
            go_wp2
            go_ret
            exact ⟨rfl, (unhide HR).below (Nat.le_refl _) (by simp)⟩
end Go.Proofs.Ytmeoiljjfmlmgaa
