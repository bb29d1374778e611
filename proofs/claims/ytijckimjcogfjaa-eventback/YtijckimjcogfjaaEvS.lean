/-
  SameInts and SameMatch return whether they are the same; nothing that was there has changed.
-/
import Derived.Test.YtijckimjcogfjaaEvX
namespace Go.Proofs.Ytijckimjcogfjaa
open Go.RowKit

theorem take_ext {α : Type} {xs ys : List α} {k : Nat} (h1 : k < xs.length) (h2 : k < ys.length) (h : xs.take k = ys.take k) (he : xs[k] = ys[k]) : xs.take (k + 1) = ys.take (k + 1) := by
  rw [List.take_succ_eq_append_getElem h1, List.take_succ_eq_append_getElem h2, h, he]
set_option maxHeartbeats 1000000 in
theorem sameInts_any (a1 a2 : Option Addr) (c1 c2 : Nat) (xs ys : List Int) (w : World) (hl1 : xs.length ≤ 9223372036854775807) (_hl2 : ys.length ≤ 9223372036854775807) (h1 : IntsAt w a1 xs) (h2 : IntsAt w a2 ys) :
    Calls Try.prog 36 #[.slice a1 xs.length c1, .slice a2 ys.length c2] w fun e w' => e = .returned (.bool (decide (xs = ys))) ∧ ∃ n, w' = w.drewN n := by
  have H1 := hide h1
  have H2 := hide h2
  clear h1 h2
  by_cases hlen : xs.length = ys.length
  · rw [← hlen]
    generalize hR : decide (xs = ys) = R
    have HR := hide hR
    have HL := hide hlen
    clear hR hlen
    go_enter Try.func36, Try.ntmps36
    go_wp2
    go_loopw [5] (fun i wr => ∃ k n : Nat, k ≤ xs.length ∧ i = .int .i64 (k : Int) ∧ wr = w.drewN n ∧ Hid (xs.take k = ys.take k)) (fun i _ => xs.length - (intOf i).toNat)
    case atStart => exact ⟨0, 0, Nat.zero_le _, rfl, rfl, hide (by simp)⟩
    case round =>
      obtain ⟨k, n, hk, rfl, rfl, HK⟩ := hrel
      by_cases hlt : k < xs.length
      · have hlt2 : k < ys.length := by have := unhide HL; omega
        obtain ⟨b1, o1, rfl, _, q1⟩ := unhide H1 (fun e => by rw [e] at hlt; simp at hlt)
        obtain ⟨b2, o2, rfl, _, q2⟩ := unhide H2 (fun e => by rw [e] at hlt2; simp at hlt2)
        have x1 := q1 k hlt
        have y1 := q2 k hlt2
        have hstep := fun he => take_ext hlt hlt2 (unhide HK) he
        have hdiff : xs[k] ≠ ys[k] → xs ≠ ys := fun hne e => hne (by simp [e])
        have HST := hide hstep
        have HDI := hide hdiff
        have hli : (k : Int) < (xs.length : Int) := by omega
        clear q1 q2 HK hstep hdiff H1 H2
        generalize xs[k] = x at *
        generalize ys[k] = y at *
        by_cases he : x = y
        · have HT := hide (unhide HST he)
          clear HST HDI
          subst he
          go_wp2
          go_quiet (fail)
          go_wp2
          go_roundw
          case rel => exact ⟨k + 1, _, by omega, by go_num, rfl, HT⟩
          case measure => simp [intOf]; omega
        · have hR := unhide HR
          rw [decide_eq_false (unhide HDI he)] at hR
          subst hR
          have g : (x != y) = true := by rw [bne_iff_ne]; exact he
          clear he HR HDI HST
          go_wp2
          go_quiet (fail)
          go_wp2
          go_ret
          exact ⟨rfl, _, World.drewN_drewN _ _ _⟩
      · have hall : xs = ys := by
          have := unhide HK
          have hl := unhide HL
          rw [List.take_of_length_le (by omega), List.take_of_length_le (by omega)] at this
          exact this
        have hR := unhide HR
        rw [decide_eq_true hall] at hR
        subst hR
        clear HR HK hall H1 H2 HL
        go_wp2
        go_ret
        exact ⟨rfl, n, rfl⟩
  · have hne : xs ≠ ys := fun e => hlen (by rw [e])
    rw [decide_eq_false hne]
    have g : ((xs.length : Int) != (ys.length : Int)) = true := by rw [bne_iff_ne]; omega
    clear hlen hne H1 H2
    go_enter Try.func36, Try.ntmps36
    go_wp2
    go_ret
    exact ⟨rfl, 0, rfl⟩
theorem below_drewN' {B : Nat} {a w : World} (h : Below B a w) (n : Nat) : Below B a (w.drewN n) := ⟨h.os, h.tape, h.output, h.size, h.block⟩
theorem CmpS.drewN {w : World} {g1 g2 : Nat} {k1 : ByteArray} {a1 : Option Addr} {n1 c1 : Nat} {k2 : ByteArray} {a2 : Option Addr} {n2 c2 : Nat} {W : World} (h : CmpS w g1 g2 k1 a1 n1 c1 k2 a2 n2 c2 W) (n : Nat) : CmpS w g1 g2 k1 a1 n1 c1 k2 a2 n2 c2 (W.drewN n) := ⟨below_drewN' h.bel n, h.b1, h.b2⟩
theorem ba_ne {a b : ByteArray} (h : a ≠ b) : (a.toList == b.toList) = false := by
  rw [beq_eq_false_iff_ne]
  intro e
  refine h (ByteArray.ext (Array.ext' ?_))
  rw [← ByteArray.toList_eq, ← ByteArray.toList_eq]
  exact e
set_option maxHeartbeats 2000000 in
theorem sameMatch_any (k1 : ByteArray) (a1 : Option Addr) (c1 : Nat) (s1 : List (List Int)) (k2 : ByteArray) (a2 : Option Addr) (c2 : Nat) (s2 : List (List Int)) (w : World) (ok1 : MtOk k1 s1) (ok2 : MtOk k2 s2) (h1 : StagesAt w a1 s1) (h2 : StagesAt w a2 s2) :
    Calls Try.prog 17 #[.agg #[.string k1, .slice a1 s1.length c1], .agg #[.string k2, .slice a2 s2.length c2]] w fun e w' => e = .returned (.bool (decide (k1 = k2 ∧ s1 = s2))) ∧ Below w.heap.size w w' := by
  have s0 : CmpS w w.heap.size (w.heap.size + 1) k1 a1 s1.length c1 k2 a2 s2.length c2 ((w.alloc (.cells #[.string k1, .slice a1 s1.length c1] 35)).alloc (.cells #[.string k2, .slice a2 s2.length c2] 35)) := by
    refine ⟨((Below.refl _ _).alloc (Nat.le_refl _) _).alloc (by simp) _, MBox.alloc (heap_alloc_new w _) _, ?_⟩
    have := heap_alloc_new (w.alloc (.cells #[.string k1, .slice a1 s1.length c1] 35)) (.cells #[.string k2, .slice a2 s2.length c2] 35)
    unfold MBox
    simpa using this
  by_cases hk : k1 = k2
  · by_cases hlen : s1.length = s2.length
    · subst hk
      generalize hR : decide (k1 = k1 ∧ s1 = s2) = R
      have HR := hide hR
      have H1 := hide h1
      have H2 := hide h2
      have P1 := hide ok1
      have P2 := hide ok2
      have h8 := ok1.2.1
      have HL := hide hlen
      rw [← hlen] at s0 ⊢
      clear hR h1 h2 ok1 ok2 hlen
      go_enter Try.func17, Try.ntmps17
      go_wp2_with fail
      generalize ((w.alloc (.cells #[.string k1, .slice a1 s1.length c1] 35)).alloc (.cells #[.string k1, .slice a2 s1.length c2] 35)) = W0 at *
      go_loopw [5] (fun i wr => ∃ k : Nat, k ≤ s1.length ∧ i = .int .i64 (k : Int) ∧ CmpS w w.heap.size (w.heap.size + 1) k1 a1 s1.length c1 k1 a2 s1.length c2 wr ∧ Hid (s1.take k = s2.take k)) (fun i _ => s1.length - (intOf i).toNat)
      case atStart => exact ⟨0, Nat.zero_le _, rfl, s0, hide (by simp)⟩
      case round =>
        clear s0
        obtain ⟨k, hk, rfl, s0, HK⟩ := hrel
        have f0 := s0.full.2
        by_cases hlt : k < s1.length
        · have hlt2 : k < s2.length := by have := unhide HL; omega
          obtain ⟨b1, o1, rfl, _, q1⟩ := (unhide H1).below s0.bel (Nat.le_refl _) (fun e => by rw [e] at hlt; simp at hlt)
          obtain ⟨b2, o2, rfl, _, q2⟩ := (unhide H2).below s0.bel (Nat.le_refl _) (fun e => by rw [e] at hlt2; simp at hlt2)
          obtain ⟨p1, m1, x1, i1⟩ := q1 k hlt
          obtain ⟨p2, m2, y1, i2⟩ := q2 k hlt2
          have l1 := (unhide P1).2.2 s1[k] (List.getElem_mem hlt)
          have l2 := (unhide P2).2.2 s2[k] (List.getElem_mem hlt2)
          have hstep := fun he => take_ext hlt hlt2 (unhide HK) he
          have hdiff : s1[k] ≠ s2[k] → s1 ≠ s2 := fun hne e => hne (by simp [e])
          have HST := hide hstep
          have HDI := hide hdiff
          have hli : (k : Int) < (s1.length : Int) := by omega
          clear q1 q2 HK hstep hdiff H1 H2 P1 P2
          generalize s1[k] = x at *
          generalize s2[k] = y at *
          have hc := fun q => sameInts_any p1 p2 m1 m2 x y (wr.drewN q) l1 l2 i1 i2
          by_cases he : x = y
          · have HT := hide (unhide HST he)
            clear HST HDI
            subst he
            simp only [decide_true] at hc
            have HC := hide hc
            clear hc i1 i2
            generalize x.length = nx at *
            go_wp2
            go_quiet (first | (go_at_call 36; exact Calls.quiet_of (unhide HC _)))
            go_wp2
            go_roundw
            case rel => exact ⟨k + 1, by omega, by go_num, s0.drewN _, HT⟩
            case measure => simp [intOf]; omega
          · have hR := unhide HR
            rw [decide_eq_false (fun h => unhide HDI he h.2)] at hR
            subst hR
            simp only [decide_eq_false he] at hc
            have HC := hide hc
            clear hc i1 i2 HDI HST he HR
            generalize x.length = nx at *
            generalize y.length = ny at *
            go_wp2
            go_quiet (first | (go_at_call 36; exact Calls.quiet_of (unhide HC _)))
            go_wp2
            go_ret
            exact ⟨rfl, below_drewN' s0.bel _⟩
        · have hall : s1 = s2 := by
            have := unhide HK
            have hl := unhide HL
            rw [List.take_of_length_le (by omega), List.take_of_length_le (by omega)] at this
            exact this
          have hR := unhide HR
          rw [decide_eq_true ⟨trivial, hall⟩] at hR
          subst hR
          clear HR HK hall H1 H2 HL P1 P2
          go_wp2
          go_ret
          exact ⟨rfl, s0.bel⟩
    · have hne : ¬ (k1 = k2 ∧ s1 = s2) := fun h => hlen (by rw [h.2])
      rw [decide_eq_false hne]
      have g : ((s1.length : Int) != (s2.length : Int)) = true := by rw [bne_iff_ne]; omega
      subst hk
      clear hlen hne h1 h2 ok1 ok2
      go_enter Try.func17, Try.ntmps17
      go_wp2
      go_ret
      exact ⟨rfl, s0.bel⟩
  · have hne : ¬ (k1 = k2 ∧ s1 = s2) := fun h => hk h.1
    rw [decide_eq_false hne]
    have g := ba_ne hk
    clear hk hne h1 h2 ok1 ok2
    go_enter Try.func17, Try.ntmps17
    go_wp2
    go_ret
    exact ⟨rfl, s0.bel⟩
end Go.Proofs.Ytijckimjcogfjaa
