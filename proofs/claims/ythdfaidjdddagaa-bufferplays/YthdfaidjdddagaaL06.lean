/-
  A buffer: an entry more, an entry less, a sweep.
-/
import Derived.Test.YthdfaidjdddagaaL04
import Derived.Test.YthdfaidjdddagaaL05
import Derived.Deep.RegionHeld3
import Derived.Deep.RegionLaw
namespace Go.Proofs.Ythdfaidjdddagaa
open Go.RowKit

theorem adE_first (c : Nat → Ent) (i : Nat) (s p : Int) : adE c i s p (-1) = setE c i ⟨s, p, -1, 1, 0⟩ := by unfold adE; rw [if_pos rfl]
theorem adE_behind (c : Nat → Ent) (i j : Nat) (s p : Int) : adE c i s p (j : Int) = kdE (setE c i ⟨s, p, (j : Int), 1, 0⟩) j 1 := by
  unfold adE
  rw [if_neg (by omega)]
  simp
set_option maxHeartbeats 1000000 in
set_option maxRecDepth 100000 in
theorem addFirst_any (b i : Nat) (s p : Int) (c : Nat → Ent) (m : Int) (w : World) (h : Bu b c m w) (hS : Sml c) (hm : 0 ≤ m ∧ m < 4096) (hi : i < 4096) (hv : lvE (c i) = false) (hf : ∀ j, j < i → lvE (c j) = true) : Calls Try.prog 28 #[.pointer (some ⟨b, 0, none⟩), .agg #[.int .i64 s, .int .i64 p, .int .i64 (-1)]] w fun e w' => e = .returned (.int .i64 (i : Int)) ∧ Bu b (adE c i s p (-1)) (m + 1) w' ∧ Kp [b] w w' := by
  rw [adE_first]
  obtain ⟨hm0, hm1⟩ := hm
  have hii : (i : Int) < 4096 := by omega
  have k0 := Kp.alloc w (.cells #[.int .i64 s, .int .i64 p, .int .i64 (-1)] 54)
  have hb1 := h.kp k0 (by simp)
  have x1 := CBox.new w #[.int .i64 s, .int .i64 p, .int .i64 (-1)] 54
  have hbx : b ≠ w.heap.size := Nat.ne_of_lt h.lt
  have HBX := hide hbx
  have FR := hide (free_any b c m i _ hb1 hS hi hv hf)
  have HU := hide hb1
  have HX := hide x1
  have HK := hide k0
  clear h k0 hb1 x1 hbx
  go_enter Try.func28, Try.ntmps28
  go_wp2_with fail
  refine (unhide FR).mono ?_
  rintro r w1 ⟨rfl, HK1⟩
  have b1 := (unhide HU).kp HK1 (by simp)
  have x1 := (unhide HX).kp HK1 (by simp)
  have HKA : Hid (Kp [] w w1) := hide ((unhide HK).trans HK1 (by simp))
  have y1 := x1.cell (i := 0) (v := .int .i64 s) rfl
  have y2 := x1.cell (i := 1) (v := .int .i64 p) rfl
  have y3 := x1.cell (i := 2) (v := .int .i64 (-1)) rfl
  have f0 := b1.froz (i * 5)
  have f1 := b1.froz (i * 5 + 1)
  have f2 := b1.froz (i * 5 + 2)
  have f3 := b1.froz (i * 5 + 3)
  have f4 := b1.froz (i * 5 + 4)
  have s0 := b1.s i hi
  have s1 := b1.p i hi
  have s2 := b1.q i hi
  have s3 := b1.h i hi
  have s4 := b1.k i hi
  have HB1 := hide b1
  have HX1 := hide x1
  clear FR HU HX HK b1 x1 HK1
  go_upto_region 2 with fail
  go_cut [] (fun wc => Hid (Bu b (setE c i ⟨s, p, (-1), 1, 0⟩) m wc) ∧ Hid (Kp [b] w wc) ∧ Hid (CBox w.heap.size #[.int .i64 s, .int .i64 p, .int .i64 (-1)] 54 wc))
  case first =>
    go_region
    all_goals
      go_wp2_with fail
      go_meet
      exact ⟨hide (((unhide HB1).put i hi ⟨s, p, (-1), 1, 0⟩).kp (Kp.drew _) (by simp)), hide ((((unhide HKA).mono (by simp)).trans (Kp.put5 b i ⟨s, p, (-1), 1, 0⟩ w1) (by simp)).trans (Kp.drew _) (by simp)), hide (((unhide HX1).kp (Kp.put5 b i ⟨s, p, (-1), 1, 0⟩ w1) (by simpa using Ne.symm (unhide HBX))).kp (Kp.drew _) (by simp))⟩
  case rest =>
    obtain ⟨HB2, HK2, HX2⟩ := hcut
    clear HB1 HKA HX1 y1 y2 y3 f0 f1 f2 f3 f4 s0 s1 s2 s3 s4
    generalize wc = w2 at *
    have y1 := (unhide HX2).cell (i := 0) (v := .int .i64 s) rfl
    have y2 := (unhide HX2).cell (i := 1) (v := .int .i64 p) rfl
    have y3 := (unhide HX2).cell (i := 2) (v := .int .i64 (-1)) rfl
    have IF := hide (isFirst_any s p (-1) w2)
    rw [show decide ((-1) = (-1 : Int)) = true from rfl] at IF
    go_wp2_with fail
    refine (unhide IF).mono ?_
    rintro r w3 ⟨rfl, HK3⟩
    have b3 := (unhide HB2).kp HK3 (by simp)
    have HK3 : Hid (Kp [b] w w3) := hide ((unhide HK2).trans HK3 (by simp))
    have c20 := b3.m
    have f20 := b3.froz 20480
    have HN := hide (b3.setM (m + 1))
    clear b3 HB2 HX2 HK2 IF y1 y2 y3
    go_wp2_with fail
    go_ret
    exact ⟨rfl, unhide HN, (unhide HK3).trans (Kp.set _ _ _ _) (by simp)⟩
set_option maxHeartbeats 1000000 in
set_option maxRecDepth 100000 in
theorem addBehind_any (b i j : Nat) (s p : Int) (c : Nat → Ent) (m : Int) (w : World) (h : Bu b c m w) (hS : Sml c) (hm : 0 ≤ m ∧ m < 4096) (hi : i < 4096) (hv : lvE (c i) = false) (hf : ∀ j, j < i → lvE (c j) = true) (hj : j < 4096) (hji : j ≠ i) : Calls Try.prog 28 #[.pointer (some ⟨b, 0, none⟩), .agg #[.int .i64 s, .int .i64 p, .int .i64 (j : Int)]] w fun e w' => e = .returned (.int .i64 (i : Int)) ∧ Bu b (adE c i s p (j : Int)) (m + 1) w' ∧ Kp [b] w w' := by
  rw [adE_behind]
  obtain ⟨hm0, hm1⟩ := hm
  have hii : (i : Int) < 4096 := by omega
  have k0 := Kp.alloc w (.cells #[.int .i64 s, .int .i64 p, .int .i64 (j : Int)] 54)
  have hb1 := h.kp k0 (by simp)
  have x1 := CBox.new w #[.int .i64 s, .int .i64 p, .int .i64 (j : Int)] 54
  have hbx : b ≠ w.heap.size := Nat.ne_of_lt h.lt
  have HBX := hide hbx
  have FR := hide (free_any b c m i _ hb1 hS hi hv hf)
  have HU := hide hb1
  have HX := hide x1
  have HK := hide k0
  clear h k0 hb1 x1 hbx
  go_enter Try.func28, Try.ntmps28
  go_wp2_with fail
  refine (unhide FR).mono ?_
  rintro r w1 ⟨rfl, HK1⟩
  have b1 := (unhide HU).kp HK1 (by simp)
  have x1 := (unhide HX).kp HK1 (by simp)
  have HKA : Hid (Kp [] w w1) := hide ((unhide HK).trans HK1 (by simp))
  have y1 := x1.cell (i := 0) (v := .int .i64 s) rfl
  have y2 := x1.cell (i := 1) (v := .int .i64 p) rfl
  have y3 := x1.cell (i := 2) (v := .int .i64 (j : Int)) rfl
  have f0 := b1.froz (i * 5)
  have f1 := b1.froz (i * 5 + 1)
  have f2 := b1.froz (i * 5 + 2)
  have f3 := b1.froz (i * 5 + 3)
  have f4 := b1.froz (i * 5 + 4)
  have s0 := b1.s i hi
  have s1 := b1.p i hi
  have s2 := b1.q i hi
  have s3 := b1.h i hi
  have s4 := b1.k i hi
  have HB1 := hide b1
  have HX1 := hide x1
  clear FR HU HX HK b1 x1 HK1
  go_upto_region 2 with fail
  go_cut [] (fun wc => Hid (Bu b (setE c i ⟨s, p, (j : Int), 1, 0⟩) m wc) ∧ Hid (Kp [b] w wc) ∧ Hid (CBox w.heap.size #[.int .i64 s, .int .i64 p, .int .i64 (j : Int)] 54 wc))
  case first =>
    go_region
    all_goals
      go_wp2_with fail
      go_meet
      exact ⟨hide (((unhide HB1).put i hi ⟨s, p, (j : Int), 1, 0⟩).kp (Kp.drew _) (by simp)), hide ((((unhide HKA).mono (by simp)).trans (Kp.put5 b i ⟨s, p, (j : Int), 1, 0⟩ w1) (by simp)).trans (Kp.drew _) (by simp)), hide (((unhide HX1).kp (Kp.put5 b i ⟨s, p, (j : Int), 1, 0⟩ w1) (by simpa using Ne.symm (unhide HBX))).kp (Kp.drew _) (by simp))⟩
  case rest =>
    obtain ⟨HB2, HK2, HX2⟩ := hcut
    clear HB1 HKA HX1 y1 y2 y3 f0 f1 f2 f3 f4 s0 s1 s2 s3 s4
    generalize wc = w2 at *
    have y1 := (unhide HX2).cell (i := 0) (v := .int .i64 s) rfl
    have y2 := (unhide HX2).cell (i := 1) (v := .int .i64 p) rfl
    have y3 := (unhide HX2).cell (i := 2) (v := .int .i64 (j : Int)) rfl
    have IF := hide (isFirst_any s p (j : Int) w2)
    rw [show decide ((j : Int) = (-1 : Int)) = false from (by simp)] at IF
    go_wp2_with fail
    refine (unhide IF).mono ?_
    rintro r w3 ⟨rfl, HK3'⟩
    have b3 := (unhide HB2).kp HK3' (by simp)
    have HK3 : Hid (Kp [b] w w3) := hide ((unhide HK2).trans HK3' (by simp))
    have x3 := (unhide HX2).kp HK3' (by simp)
    have y3 := x3.cell (i := 2) (v := .int .i64 (j : Int)) rfl
    have hjj : (j : Int) < 4096 := by omega
    have kj := b3.k j hj
    rw [setE_ne _ _ hji] at kj
    have fj := b3.froz (j * 5 + 4)
    obtain ⟨g1, g2, g3, g4⟩ := hS j hj
    have HB3 := hide b3
    clear b3 HB2 HX2 HK2 IF y1 y2 x3 g1 g2
    go_upto_region 4 with fail
    go_cut [] (fun wc => Hid (Bu b (kdE (setE c i ⟨s, p, (j : Int), 1, 0⟩) j 1) m wc) ∧ Hid (Kp [b] w wc))
    case first =>
      go_region
      all_goals
        go_wp2_with fail
        go_meet
        have e := ((unhide HB3).setK j hj ((c j).k + 1)).kp (Kp.drew _) (by simp)
        refine ⟨hide ?_, hide (((unhide HK3).trans (Kp.set _ _ _ _) (by simp)).trans (Kp.drew _) (by simp))⟩
        unfold kdE
        rw [setE_ne _ _ hji] at e ⊢
        exact e
    case rest =>
      obtain ⟨HB4, HK4⟩ := hcut
      clear HB3 HK3 kj fj y3
      generalize wc = w4 at *
      have c20 := (unhide HB4).m
      have f20 := (unhide HB4).froz 20480
      have HN := hide ((unhide HB4).setM (m + 1))
      clear HB4
      go_wp2_with fail
      go_ret
      exact ⟨rfl, unhide HN, (unhide HK4).trans (Kp.set _ _ _ _) (by simp)⟩
set_option maxHeartbeats 1000000 in
set_option maxRecDepth 100000 in
theorem remove_any (b i : Nat) (c : Nat → Ent) (m : Int) (w : World) (h : Bu b c m w) (hS : Sml c) (hm : 0 < m ∧ m ≤ 4096) (hi : i < 4096) (hq : (c i).q = -1 ∨ ∃ j : Nat, (c i).q = (j : Int) ∧ j < 4096 ∧ j ≠ i) : Calls Try.prog 38 #[.pointer (some ⟨b, 0, none⟩), .int .i64 (i : Int)] w fun e w' => e = .returned (.int .i64 (c i).q) ∧ Bu b (rmE c i) (m - 1) w' ∧ Kp [b] w w' := by
  obtain ⟨hm0, hm1⟩ := hm
  have hii : (i : Int) < 4096 := by omega
  have s2 := h.q i hi
  have f0 := h.froz (i * 5)
  have f1 := h.froz (i * 5 + 1)
  have f2 := h.froz (i * 5 + 2)
  have f3 := h.froz (i * 5 + 3)
  have f4 := h.froz (i * 5 + 4)
  have s0 := h.s i hi
  have s1 := h.p i hi
  have s3 := h.h i hi
  have s4 := h.k i hi
  have HB := hide (h.put i hi zeE)
  have HK := hide (Kp.put5 b i zeE w)
  clear h
  generalize hQ : (c i).q = Q at *
  have HQ := hide hQ
  clear hQ
  go_enter Try.func38, Try.ntmps38
  go_upto_region 2 with fail
  go_cut [] (fun wc => Hid (Bu b (setE c i zeE) m wc) ∧ Hid (Kp [b] w wc))
  case first =>
    go_wp2_with fail
    go_meet
    exact ⟨HB, HK⟩
  case rest =>
    obtain ⟨HB2, HK2⟩ := hcut
    clear HB HK s0 s1 s2 s3 s4 f0 f1 f2 f3 f4
    generalize wc = w2 at *
    have c20 := (unhide HB2).m
    have f20 := (unhide HB2).froz 20480
    have HB3 := hide ((unhide HB2).setM (m - 1))
    have HK3 := hide ((unhide HK2).trans (Kp.set w2 b 20480 (.int .i64 (m - 1))) (by simp))
    clear HB2 HK2
    go_upto_region 3 with fail
    go_cut [] (fun wc => Hid (Bu b (setE c i zeE) (m - 1) wc) ∧ Hid (Kp [b] w wc))
    case first =>
      go_wp2_with fail
      go_meet
      exact ⟨HB3, HK3⟩
    case rest =>
      obtain ⟨HB4, HK4⟩ := hcut
      clear HB3 HK3 c20 f20
      generalize wc = w3 at *
      rcases hq with rfl | ⟨j, rfl, hj, hji⟩
      · have HR : Hid (rmE c i = setE c i zeE) := hide (by unfold rmE; rw [if_pos (unhide HQ)])
        go_wp2_with fail
        go_ret
        exact ⟨rfl, by rw [unhide HR]; exact unhide HB4, unhide HK4⟩
      · have HR : Hid (rmE c i = kdE (setE c i zeE) j (-1)) := hide (by unfold rmE; rw [if_neg (by rw [unhide HQ]; omega), unhide HQ]; simp)
        have hjj : (j : Int) < 4096 := by omega
        have hj1 : ¬ (j : Int) = -1 := by omega
        have kj := (unhide HB4).k j hj
        rw [setE_ne _ _ hji] at kj
        have fj := (unhide HB4).froz (j * 5 + 4)
        obtain ⟨g1, g2, g3, g4⟩ := hS j hj
        clear g1 g2
        go_upto_region 5 with fail
        go_cut [] (fun wc => Hid (Bu b (kdE (setE c i zeE) j (-1)) (m - 1) wc) ∧ Hid (Kp [b] w wc))
        case first =>
          go_region
          all_goals
            go_wp2_with fail
            go_meet
            have e := ((unhide HB4).setK j hj ((c j).k - 1)).kp (Kp.drew _) (by simp)
            refine ⟨hide ?_, hide (((unhide HK4).trans (Kp.set _ _ _ _) (by simp)).trans (Kp.drew _) (by simp))⟩
            unfold kdE
            rw [setE_ne _ _ hji] at e ⊢
            exact e
        case rest =>
          obtain ⟨HB5, HK5⟩ := hcut
          clear HB4 HK4 kj fj
          generalize wc = w4 at *
          go_wp2_with fail
          go_ret
          exact ⟨rfl, by rw [unhide HR]; exact unhide HB5, unhide HK5⟩
set_option maxHeartbeats 1000000 in
set_option maxRecDepth 100000 in
theorem sweep_any (b i : Nat) (c : Nat → Ent) (m : Nat) (B : Int) (w : World) (h : Bu b c (m : Int) w) (hI : BIv c (i : Int) m B) (hB0 : 0 ≤ B) (hB : B ≤ 2305843009213693952) : Calls Try.prog 32 #[.pointer (some ⟨b, 0, none⟩), .int .i64 (i : Int)] w fun e w' => ∃ (n : Nat) (d : Nat → Ent), e = .returned (.int .i64 (n : Int)) ∧ n ≤ m ∧ Hid (Swp c (i : Int) n d) ∧ Bu b d ((m - n : Nat) : Int) w' ∧ Hid (BIv d (-1) (m - n) B) ∧ Kp [b] w w' := by
  have hml := hI.mle
  have HU := hide h
  have HI := hide hI
  clear h hI
  go_enter Try.func32, Try.ntmps32
  go_wp2_with fail
  go_loopw [1, 5] (fun v g wr => ∃ (x : Int) (k : Nat) (d : Nat → Ent), v = .int .i64 x ∧ k ≤ m ∧ g = .int .i64 (k : Int) ∧ Hid (∀ n e, Swp d x n e → Swp c (i : Int) (k + n) e) ∧ Hid (BIv d x (m - k) B) ∧ Hid (Bu b d ((m - k : Nat) : Int) wr) ∧ Hid (Kp [b] w wr)) (fun _ g _ => m - (intOf g).toNat)
  case atStart => exact ⟨i, 0, c, rfl, Nat.zero_le _, rfl, hide (fun n e hs => by simpa using hs), HI, HU, hide (Kp.refl _ _)⟩
  case round =>
    clear HU HI
    obtain ⟨x, k, d, rfl, hk, rfl, H1, H2, H3, H4⟩ := hrel
    rcases (unhide H2).xs with rfl | ⟨j, rfl, hj⟩
    · go_wp2_with fail
      go_ret
      exact ⟨k, d, rfl, hk, hide (by simpa using unhide H1 0 d (Swp.none d)), unhide H3, H2, unhide H4⟩
    · have hj1 : ¬ (j : Int) = -1 := by omega
      have HA := hide (has_any b (j : Int) d _ wr (unhide H3) ((unhide H2).sml hB))
      rw [hasE_nat d j hj] at HA
      cases hv : lvE (d j) with
      | true =>
        rw [hv] at HA
        go_wp2_with fail
        refine (unhide HA).mono ?_
        rintro r w1 ⟨rfl, HK1⟩
        have HK1 := hide HK1
        clear HA
        go_wp2_with fail
        go_ret
        exact ⟨k, d, rfl, hk, hide (by simpa using unhide H1 0 d (Swp.there d j hv)), (unhide H3).kp (unhide HK1) (by simp), hide ((unhide H2).stop (Or.inr ⟨j, rfl, hv⟩)), (unhide H4).trans (unhide HK1) (by simp)⟩
      | false =>
        rw [hv] at HA
        obtain ⟨hI2, hpos⟩ := (unhide H2).remove hB0 hj hv
        have HI2 := hide hI2
        have hkm : k < m := by omega
        have RM : Hid (∀ W, Bu b d ((m - k : Nat) : Int) W → _) := hide (fun W hW => remove_any b j d ((m - k : Nat) : Int) W hW ((unhide H2).sml hB) (by omega) hj (by
          rcases (unhide H2).par j hj (prE_self d j) with h1 | ⟨a, h1, h2, _, _, h5⟩
          · exact Or.inl h1
          · exact Or.inr ⟨a, h1, h2, fun e => by subst e; omega⟩))
        clear hI2 hpos
        go_wp2_with fail
        refine (unhide HA).mono ?_
        rintro r w1 ⟨rfl, HK1⟩
        have HK1 := hide HK1
        have RM1 := hide (unhide RM w1 ((unhide H3).kp (unhide HK1) (by simp)))
        clear HA RM
        go_wp2_with fail
        refine (unhide RM1).mono ?_
        rintro r w2 ⟨rfl, HB2, HK2⟩
        have HB2 := hide HB2
        have HK2 := hide HK2
        clear RM1
        go_wp2_with fail
        go_roundw
        case rel =>
          refine ⟨_, k + 1, rmE d j, rfl, by omega, by go_num, hide (fun n e hs => ?_), by rw [show m - (k + 1) = m - k - 1 by omega]; exact HI2, ?_, hide (((unhide H4).trans (unhide HK1) (by simp)).trans (unhide HK2) (by simp))⟩
          · rw [show k + 1 + n = k + (n + 1) by omega]
            exact unhide H1 _ _ (Swp.step d e j n hv hs)
          · rw [show ((m - (k + 1) : Nat) : Int) = ((m - k : Nat) : Int) - 1 by omega]
            exact HB2
        case measure => simp [intOf]; omega
end Go.Proofs.Ythdfaidjdddagaa
