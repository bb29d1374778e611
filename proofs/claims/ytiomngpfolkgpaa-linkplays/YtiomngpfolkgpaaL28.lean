/-
  LinkPlays: the walk.
-/
import Derived.Test.YtiomngpfolkgpaaL27
import Derived.Test.YtiomngpfolkgpaaL18
import Derived.BigQuiet
import Derived.Deep.RegionHeld3
namespace Go.Proofs.Ytiomngpfolkgpaa
open Go.RowKit Lk

theorem a19_at {w W : World} {b o : Nat} {l : List A19} (h : A19At w (some ⟨b, o, none⟩) l) (hb : Below w.heap.size w W) (i : Nat) (hi : i < l.length) : W.cell? ⟨b, o + i * 4, none⟩ = some (.int .i64 l[i].k) ∧ W.cell? ⟨b, o + i * 4 + 1, none⟩ = some (.int .i64 l[i].n) ∧ W.cell? ⟨b, o + i * 4 + 2, none⟩ = some (.string l[i].t) ∧ W.cell? ⟨b, o + i * 4 + 3, none⟩ = some (.bool l[i].own) := by
  obtain ⟨b', o', e, _, c0, c1, c2, c3⟩ := h.at i hi
  injection e with e
  injection e with e1 e2
  subst e1 e2
  have hk : Kp [] w W := Kp.ofBelow hb
  exact ⟨hk.cell c0 (by simp), hk.cell c1 (by simp), hk.cell c2 (by simp), hk.cell c3 (by simp)⟩
/-- All, and an act's box. -/
structure LpA (w W : World) (sb mb rb nb g : Nat) (s s2 : Snd) (r r2 : Rcv) (tv : Value) (told : List ByteArray) (a : A19) : Prop where
  st : LpS w W sb mb rb nb s s2 r r2 tv told
  box : CBox g #[.int .i64 a.k, .int .i64 a.n, .string a.t, .bool a.own] 41 W
theorem LpA.cells {w W : World} {sb mb rb nb g : Nat} {s s2 : Snd} {r r2 : Rcv} {tv : Value} {told : List ByteArray} {a : A19} (h : LpA w W sb mb rb nb g s s2 r r2 tv told a) : W.cell? ⟨g, 0, none⟩ = some (.int .i64 a.k) ∧ W.cell? ⟨g, 1, none⟩ = some (.int .i64 a.n) ∧ W.cell? ⟨g, 2, none⟩ = some (.string a.t) ∧ W.cell? ⟨g, 3, none⟩ = some (.bool a.own) := ⟨h.box.cell rfl, h.box.cell rfl, h.box.cell rfl, h.box.cell rfl⟩
theorem LpA.kp {w W W' : World} {sb mb rb nb g : Nat} {s s2 : Snd} {r r2 : Rcv} {tv : Value} {told : List ByteArray} {a : A19} (h : LpA w W sb mb rb nb g s s2 r r2 tv told a) (k : Kp [] W W') : LpA w W' sb mb rb nb g s s2 r r2 tv told a := ⟨h.st.kp k, h.box.kp k (by simp)⟩
theorem LpA.msd {w W W' : World} {sb mb rb nb g : Nat} {s s2 s' : Snd} {r r2 : Rcv} {tv : Value} {told : List ByteArray} {a : A19} (h : LpA w W sb mb rb nb g s s2 r r2 tv told a) (x : SdAt w.heap.size W' sb s') (k : Ko sdO w.heap.size W W') (ho : SOk s') : LpA w W' sb mb rb nb g s' s2 r r2 tv told a := ⟨h.st.msd x k ho, h.box.kept k (Or.inr rfl)⟩
theorem LpA.mrs {w W W' : World} {sb mb rb nb g : Nat} {s s2 s' : Snd} {r r2 : Rcv} {tv : Value} {told : List ByteArray} {a : A19} (h : LpA w W sb mb rb nb g s s2 r r2 tv told a) (x : RsAt w.heap.size W' mb s') (k : Ko rsO w.heap.size W W') : LpA w W' sb mb rb nb g s s' r r2 tv told a := ⟨h.st.mrs x k, h.box.kept k (Or.inr rfl)⟩
set_option maxHeartbeats 16000000 in
set_option maxRecDepth 100000 in
theorem lplays_walk (ep ot wi wd pt : Int) (ad : Option Addr) (cap : Nat) (l : List A19) (w : World) (_hl : l.length ≤ 9223372036854775807) (hA : A19At w ad l) (_hok : ∀ y ∈ l, y.ok) :
    Calls Try.prog 3 #[.agg #[.int .i64 ep, .int .i64 ot, .int .i64 wi, .int .i64 wd, .int .i64 pt], .slice ad l.length cap] w fun e w' => e = .returned (.bool true) ∧ Below w.heap.size w w' := by
  have WK := hide lworks_any
  have HL := hide hA
  clear hA
  obtain ⟨P, hP⟩ : ∃ P : World, P = w.alloc (.cells #[.int .i64 ep, .int .i64 ot, .int .i64 wi, .int .i64 wd, .int .i64 pt] 23) := ⟨_, rfl⟩
  have HP : Hid (Kp [] w P ∧ ∀ W, Kp [] P W → W.cell? ⟨w.heap.size, 0, none⟩ = some (.int .i64 ep) ∧ W.cell? ⟨w.heap.size, 1, none⟩ = some (.int .i64 ot) ∧ W.cell? ⟨w.heap.size, 2, none⟩ = some (.int .i64 wi) ∧ W.cell? ⟨w.heap.size, 3, none⟩ = some (.int .i64 wd) ∧ W.cell? ⟨w.heap.size, 4, none⟩ = some (.int .i64 pt)) := hide (by
    subst hP
    refine ⟨Kp.alloc _ _, fun W hk => ?_⟩
    have := (CBox.new w #[.int .i64 ep, .int .i64 ot, .int .i64 wi, .int .i64 wd, .int .i64 pt] 23).kp hk (by simp)
    exact ⟨this.cell rfl, this.cell rfl, this.cell rfl, this.cell rfl, this.cell rfl⟩)
  have hPP := hide hP
  clear hP
  cases hS : (lepB ep && (lstB wi && lstB pt)) with
  | false =>
    have N1 := hide (newSender_not ep wi pt P hS)
    have N2 := hide (fun W => rNewSender_not ep wi pt W hS)
    cases hR : (lepB ot && lstB wd) with
    | false =>
      have N3 := hide (fun W => newReceiver_not ot wd W hR)
      have N4 := hide (fun W => rNewReceiver_not ot wd W hR)
      clear hS hR
      obtain ⟨pb, hpb⟩ : ∃ pb, pb = w.heap.size := ⟨_, rfl⟩
      rw [← hpb] at HP
      have HPB := hide hpb
      clear hpb
      go_enter Try.func3, Try.ntmps3
      go_upto_region 1 with fail
      rw [← unhide hPP, ← unhide HPB]
      have HB0 := hide (unhide HP).1
      obtain ⟨p0, p1, p2, p3, p4⟩ := (unhide HP).2 _ (Kp.refl _ _)
      have HC := hide (unhide HP).2
      clear hPP HP
      go_wp2_with fail
      refine (unhide N1).mono ?_
      rintro _ w1 ⟨rfl, hw1⟩
      obtain rfl := hw1.symm
      clear N1
      go_wp2_with fail
      refine (unhide N2 _).mono ?_
      rintro _ w2 ⟨rfl, hw2⟩
      obtain rfl := hw2.symm
      have K12 := hide (Kp.refl [] P)
      clear N2
      go_wp2_with fail
      refine (unhide N3 _).mono ?_
      rintro _ w3 ⟨rfl, hw3⟩
      obtain rfl := hw3.symm
      clear N3
      go_wp2_with fail
      refine (unhide N4 _).mono ?_
      rintro _ w4 ⟨rfl, hw4⟩
      obtain rfl := hw4.symm
      have K14 := K12
      clear N4
      have KW := hide ((unhide HB0).trans (unhide K14) (by simp))
      clear HL HC HPB
      try clear A1
      try clear A2
      try clear A3
      try clear A4
      try clear K1
      try clear K2
      try clear K3
      try clear K4
      try clear K12
      try clear K13
      try clear K14
      go_wp2_with fail
      refine (unhide WK _).mono ?_
      rintro _ w9 ⟨rfl, k9⟩
      have HF := hide (((unhide KW).trans k9 (by simp)).below (Nat.le_refl _) (by simp))
      clear WK KW k9
      go_wp2
      go_ret
      exact ⟨rfl, unhide HF⟩
    | true =>
      have N3 := hide (fun W => newReceiver_ok ot wd W hR)
      have N4 := hide (fun W => rNewReceiver_at ot wd W hR)
      clear hS hR
      obtain ⟨pb, hpb⟩ : ∃ pb, pb = w.heap.size := ⟨_, rfl⟩
      rw [← hpb] at HP
      have HPB := hide hpb
      clear hpb
      go_enter Try.func3, Try.ntmps3
      go_upto_region 1 with fail
      rw [← unhide hPP, ← unhide HPB]
      have HB0 := hide (unhide HP).1
      obtain ⟨p0, p1, p2, p3, p4⟩ := (unhide HP).2 _ (Kp.refl _ _)
      have HC := hide (unhide HP).2
      clear hPP HP
      go_wp2_with fail
      refine (unhide N1).mono ?_
      rintro _ w1 ⟨rfl, hw1⟩
      obtain rfl := hw1.symm
      clear N1
      go_wp2_with fail
      refine (unhide N2 _).mono ?_
      rintro _ w2 ⟨rfl, hw2⟩
      obtain rfl := hw2.symm
      have K12 := hide (Kp.refl [] P)
      clear N2
      go_wp2_with fail
      refine (unhide N3 _).mono ?_
      rintro _ w3 ⟨rb, rfl, a3, k3⟩
      have A3 := hide a3
      have K3 := hide k3
      have K13 := hide ((unhide K12).trans k3 (by simp))
      clear N3 a3 k3 p0 p1 p2 p3 p4
      obtain ⟨p0, p1, p2, p3, p4⟩ := unhide HC _ (unhide K13)
      go_wp2_with fail
      refine (unhide N4 _).mono ?_
      rintro _ w4 ⟨rfl, a4, k4⟩
      have A4 := hide a4
      have K4 := hide k4
      have K14 := hide ((unhide K13).trans k4 (by simp))
      clear N4 a4 k4 p0 p1 p2 p3 p4
      have KW := hide ((unhide HB0).trans (unhide K14) (by simp))
      clear HL HC HPB
      try clear A1
      try clear A2
      try clear A3
      try clear A4
      try clear K1
      try clear K2
      try clear K3
      try clear K4
      try clear K12
      try clear K13
      try clear K14
      go_wp2_with fail
      refine (unhide WK _).mono ?_
      rintro _ w9 ⟨rfl, k9⟩
      have HF := hide (((unhide KW).trans k9 (by simp)).below (Nat.le_refl _) (by simp))
      clear WK KW k9
      go_wp2
      go_ret
      exact ⟨rfl, unhide HF⟩
  | true =>
    have N1 := hide (newSender_ok ep wi pt P hS)
    have N2 := hide (fun W => rNewSender_at ep wi pt W hS)
    cases hR : (lepB ot && lstB wd) with
    | false =>
      have N3 := hide (fun W => newReceiver_not ot wd W hR)
      have N4 := hide (fun W => rNewReceiver_not ot wd W hR)
      clear hS hR
      obtain ⟨pb, hpb⟩ : ∃ pb, pb = w.heap.size := ⟨_, rfl⟩
      rw [← hpb] at HP
      have HPB := hide hpb
      clear hpb
      go_enter Try.func3, Try.ntmps3
      go_upto_region 1 with fail
      rw [← unhide hPP, ← unhide HPB]
      have HB0 := hide (unhide HP).1
      obtain ⟨p0, p1, p2, p3, p4⟩ := (unhide HP).2 _ (Kp.refl _ _)
      have HC := hide (unhide HP).2
      clear hPP HP
      go_wp2_with fail
      refine (unhide N1).mono ?_
      rintro _ w1 ⟨sb, rfl, a1, k1⟩
      have A1 := hide a1
      have K1 := hide k1
      clear N1 a1 p0 p1 p2 p3 p4
      obtain ⟨p0, p1, p2, p3, p4⟩ := unhide HC _ k1
      clear k1
      go_wp2_with fail
      refine (unhide N2 _).mono ?_
      rintro _ w2 ⟨rfl, a2, k2⟩
      have A2 := hide a2
      have K2 := hide k2
      have K12 := hide ((unhide K1).trans k2 (by simp))
      clear N2 a2 k2 p0 p1 p2 p3 p4
      obtain ⟨p0, p1, p2, p3, p4⟩ := unhide HC _ (unhide K12)
      go_wp2_with fail
      refine (unhide N3 _).mono ?_
      rintro _ w3 ⟨rfl, hw3⟩
      obtain rfl := hw3.symm
      clear N3
      go_wp2_with fail
      refine (unhide N4 _).mono ?_
      rintro _ w4 ⟨rfl, hw4⟩
      obtain rfl := hw4.symm
      have K14 := K12
      clear N4
      have KW := hide ((unhide HB0).trans (unhide K14) (by simp))
      clear HL HC HPB
      try clear A1
      try clear A2
      try clear A3
      try clear A4
      try clear K1
      try clear K2
      try clear K3
      try clear K4
      try clear K12
      try clear K13
      try clear K14
      go_wp2_with fail
      refine (unhide WK _).mono ?_
      rintro _ w9 ⟨rfl, k9⟩
      have HF := hide (((unhide KW).trans k9 (by simp)).below (Nat.le_refl _) (by simp))
      clear WK KW k9
      go_wp2
      go_ret
      exact ⟨rfl, unhide HF⟩
    | true =>
      have N3 := hide (fun W => newReceiver_ok ot wd W hR)
      have N4 := hide (fun W => rNewReceiver_at ot wd W hR)
      have OS := hide (sd0_ok hS)
      have OR := hide (rc0_ok hR)
      clear hS hR
      obtain ⟨pb, hpb⟩ : ∃ pb, pb = w.heap.size := ⟨_, rfl⟩
      rw [← hpb] at HP
      have HPB := hide hpb
      clear hpb
      go_enter Try.func3, Try.ntmps3
      go_upto_region 1 with fail
      rw [← unhide hPP, ← unhide HPB]
      have HB0 := hide (unhide HP).1
      obtain ⟨p0, p1, p2, p3, p4⟩ := (unhide HP).2 _ (Kp.refl _ _)
      have HC := hide (unhide HP).2
      clear hPP HP
      go_wp2_with fail
      refine (unhide N1).mono ?_
      rintro _ w1 ⟨sb, rfl, a1, k1⟩
      have A1 := hide a1
      have K1 := hide k1
      clear N1 a1 p0 p1 p2 p3 p4
      obtain ⟨p0, p1, p2, p3, p4⟩ := unhide HC _ k1
      clear k1
      go_wp2_with fail
      refine (unhide N2 _).mono ?_
      rintro _ w2 ⟨rfl, a2, k2⟩
      have A2 := hide a2
      have K2 := hide k2
      have K12 := hide ((unhide K1).trans k2 (by simp))
      clear N2 a2 k2 p0 p1 p2 p3 p4
      obtain ⟨p0, p1, p2, p3, p4⟩ := unhide HC _ (unhide K12)
      go_wp2_with fail
      refine (unhide N3 _).mono ?_
      rintro _ w3 ⟨rb, rfl, a3, k3⟩
      have A3 := hide a3
      have K3 := hide k3
      have K13 := hide ((unhide K12).trans k3 (by simp))
      clear N3 a3 k3 p0 p1 p2 p3 p4
      obtain ⟨p0, p1, p2, p3, p4⟩ := unhide HC _ (unhide K13)
      go_wp2_with fail
      refine (unhide N4 _).mono ?_
      rintro _ w4 ⟨rfl, a4, k4⟩
      have A4 := hide a4
      have K4 := hide k4
      have K14 := hide ((unhide K13).trans k4 (by simp))
      clear N4 a4 k4 p0 p1 p2 p3 p4
      have HS0 : Hid (LpS w w4 sb w1.heap.size rb w3.heap.size (sd0 ep wi pt) (sd0 ep wi pt) (rc0 ot wd) (rc0 ot wd) (.slice none 0 0) []) := hide (by
        have k02 := (unhide HB0).trans (unhide K1) (by simp)
        have k24 := (unhide K3).trans (unhide K4) (by simp)
        have k23 := (unhide K2).trans k24 (by simp)
        exact ⟨((unhide A1).kp k23).lower (unhide HB0).size, ((unhide A2).kp k24).lower k02.size, ((unhide A3).kp (unhide K4)).lower (k02.trans (unhide K2) (by simp)).size, (unhide A4).lower ((k02.trans (unhide K2) (by simp)).trans (unhide K3) (by simp)).size, Or.inl ⟨rfl, rfl⟩, ((unhide HB0).trans (unhide K14) (by simp)).below (Nat.le_refl _) (by simp), unhide OS, unhide OR, fun d hd => by cases hd⟩)
      clear HC HPB A1 A2 A3 A4 K1 K2 K3 K4 K12 K13 K14 HB0 OS OR
      generalize w1.heap.size = mb at *
      generalize w3.heap.size = nb at *
      generalize sd0 ep wi pt = s0 at *
      generalize rc0 ot wd = r0 at *
      go_wp2_with fail
      go_loopw [13, 14] (fun tv iv wr => ∃ (k : Nat) (s : Snd) (r : Rcv) (told : List ByteArray), k ≤ l.length ∧ k ≤ 200 ∧ told.length ≤ k * 257 ∧ iv = .int .i64 (k : Int) ∧ (∃ ta tc, tv = .slice ta told.length tc) ∧ Hid (LpS w wr sb mb rb nb s s r r tv told)) (fun _ iv _ => l.length - (intOf iv).toNat)
      case atStart => exact ⟨0, s0, r0, [], Nat.zero_le _, by decide, by simp, rfl, ⟨none, 0, rfl⟩, HS0⟩
      case round =>
        clear HS0
        obtain ⟨k, s, r, told, hkl, hk, htl, rfl, ⟨ta, tc, rfl⟩, HR⟩ := hrel
        by_cases h1 : k < l.length ∧ k < 200
        · obtain ⟨h1, h2⟩ := h1
          have h1i : (k : Int) < (l.length : Int) := by omega
          have h2i : (k : Int) < 200 := by omega
          obtain ⟨lb, lo, rfl⟩ : ∃ lb lo, ad = some ⟨lb, lo, none⟩ := by
            obtain ⟨lb, lo, e, _⟩ := (unhide HL).at k h1
            exact ⟨lb, lo, e⟩
          obtain ⟨x0, x1, x2, x3⟩ := a19_at (unhide HL) (unhide HR).be k h1
          have HQ : Hid (LpA w (wr.alloc (.cells #[.int .i64 l[k].k, .int .i64 l[k].n, .string l[k].t, .bool l[k].own] 41)) sb mb rb nb wr.heap.size s s r r (.slice ta told.length tc) told l[k]) := hide ⟨(unhide HR).kp (Kp.alloc _ _), CBox.new _ _ _⟩
          clear HR
          generalize l[k] = y at *
          go_upto_region 14 with fail
          clear x0 x1 x2 x3
          obtain ⟨g, hg⟩ : ∃ g, g = wr.heap.size := ⟨_, rfl⟩
          rw [← hg] at HQ ⊢
          clear hg
          generalize wr.alloc (.cells #[.int .i64 y.k, .int .i64 y.n, .string y.t, .bool y.own] 41) = W1 at *
          obtain ⟨x0, x1, x2, x3⟩ := (unhide HQ).cells
          by_cases h7 : 70000 < y.t.size
          · have h7i : (70000 : Int) < (y.t.size : Int) := by omega
            have HB := hide (unhide HQ).st.be
            have WKr := hide (unhide WK W1)
            clear HQ HL WK
            go_wp2_with fail
            refine (unhide WKr).mono ?_
            rintro _ w9 ⟨rfl, k9⟩
            have HF := hide ((unhide HB).trans (k9.below (unhide HB).size (by simp)))
            clear WKr HB k9
            go_wp2
            go_ret
            exact ⟨rfl, unhide HF⟩
          · have h7i : ¬ (70000 : Int) < (y.t.size : Int) := by omega
            have hy7 : y.t.size ≤ 70000 := by omega
            clear h7
            -- which bytes
            have AN := hide (fun n W (hn : 0 < n) (hn1 : n ≤ 1099511627776) => lAmong_any y.n n W hn hn1)
            have AK := hide (fun W => lAmong_any y.k 4 W (by decide) (by decide))
            obtain ⟨z, hz⟩ : ∃ z : Nat, y.k % 4 = (z : Int) := ⟨(y.k % 4).toNat, by have := Int.emod_nonneg y.k (show (4 : Int) ≠ 0 by decide); omega⟩
            rw [hz] at AK
            have hzl : z < 4 := by have := Int.emod_lt_of_pos y.k (show (0 : Int) < 4 by decide); omega
            clear hz
            go_upto_region 17 with fail
            go_cut [121] (fun qv wc => ∃ c : Bool, qv = .bool c ∧ (c = true → 0 < told.length) ∧ wc = W1)
            case first =>
              clear HL WK AK AN HQ
              cases hown : y.own with
              | false =>
                rw [hown] at x3
                go_wp2
                go_meet
                exact ⟨false, rfl, by simp, rfl⟩
              | true =>
                rw [hown] at x3
                go_wp2
                go_meet
                exact ⟨decide (0 < told.length), rfl, fun h => of_decide_eq_true h, rfl⟩
            case rest =>
             obtain ⟨c, rfl, hct, hwc⟩ := hcut
             obtain rfl := hwc.symm
             go_upto_if 121 with fail
             go_cut [16] (fun bv wc => ∃ bs : ByteArray, bv = .string bs ∧ bs.size ≤ 70000 ∧ wc = W1)
             case first =>
               clear HL WK AK
               cases c with
               | false =>
                 go_wp2
                 go_meet
                 exact ⟨_, rfl, hy7, rfl⟩
               | true =>
                 have h0 := hct rfl
                 have h0i : (0 : Int) < (told.length : Int) := by omega
                 have hne : (told.length : Int) ≠ 0 := by omega
                 obtain ⟨q, hq⟩ : ∃ q : Nat, y.n % (told.length : Int) = (q : Int) := ⟨(y.n % (told.length : Int)).toNat, by have := Int.emod_nonneg y.n hne; omega⟩
                 have hql : q < told.length := by have := Int.emod_lt_of_pos y.n h0i; omega
                 have hqi : (q : Int) < (told.length : Int) := by omega
                 have AN2 := hide (unhide AN (told.length : Int) W1 h0i (by omega))
                 rw [hq] at AN2
                 obtain ⟨tg, tof, tc', e, _, _, _, _, hc⟩ := (unhide HQ).st.tx.cells (by omega)
                 injection e with e1 e2 e3
                 subst e1 e3
                 have hcq := hc q hql
                 have hsz := (unhide HQ).st.tz _ (List.getElem_mem hql)
                 have HSZ := hide hsz
                 clear AN hne hq hsz hc h0 HQ hct
                 generalize hd : told[q] = d at *
                 clear hd
                 generalize told.length = tl at *
                 go_wp2_with fail
                 refine (unhide AN2).mono ?_
                 rintro _ w6 ⟨rfl, hw6⟩
                 obtain rfl := hw6.symm
                 clear AN2
                 go_wp2
                 go_meet
                 exact ⟨_, rfl, unhide HSZ, rfl⟩
             case rest =>
               obtain ⟨bs, rfl, hbs, hwc⟩ := hcut
               obtain rfl := hwc.symm
               clear AN hct
               go_wp2_with fail
               refine (unhide AK _).mono ?_
               rintro _ w6 ⟨rfl, hw6⟩
               obtain rfl := hw6.symm
               clear AK h7i
               have hhs := (unhide HQ).st.size
               rcases (by omega : z = 0 ∨ z = 1 ∨ z = 2 ∨ z = 3) with rfl | rfl | rfl | rfl
               · clear hzl
                 have A1 := hide (fun W h => lPush_any w.heap.size sb s y.t W h (unhide HQ).st.so (by omega))
                 have A2 := hide (fun W h (hb : w.heap.size ≤ W.heap.size) => rPush_any w.heap.size mb s y.t W h (unhide HQ).st.so (by omega) hb)
                 have OS := hide ((unhide HQ).st.so.luS y.t)
                 have HD := hide ((unhide HQ).kp (Kp.drew _))
                 have y0 := (unhide HD).cells.2.2.1
                 clear HQ x0 x1 x3
                 generalize luE s y.t = E at *
                 generalize luS s y.t = s' at *
                 have hbn : (E != E) = false := bne_self_eq_false _
                 go_wp2_with fail
                 go_region_held3 (fun W => W.cell? ⟨g, 2, none⟩ = some (.string y.t)) (first | with_reducible exact y0 | with_reducible exact y1 | with_reducible exact y2 | exact x2)
                   (first
                     | (go_at_call 11; refine (unhide A2 _ (unhide HB2).st.rs (unhide HB2).st.size).mono ?_; rintro _ w8 ⟨rfl, m2, k2⟩; have HB3 := hide ((unhide HB2).mrs m2 k2); have y2 := (unhide HB3).cells.2.2.1; clear m2 k2)
                     | (go_at_call 10; refine (unhide A1 _ (unhide HD).st.sd).mono ?_; rintro _ w7 ⟨rfl, m1, k1⟩; have HB2 := hide ((unhide HD).msd m1 k1 (unhide OS)); have y1 := (unhide HB2).cells.2.2.1; clear m1 k1))
                 have HE := hide (unhide HB3).st
                 clear A1 A2 OS HD HB2 HB3 y0 y1 y2 x2 hbn
                 obtain ⟨v8, hv8, _⟩ := (unhide HE).sd
                 obtain ⟨v9, hv9, _⟩ := (unhide HE).rs
                 obtain ⟨q8, hr8, _⟩ := (unhide HE).rc
                 obtain ⟨u9, hr9, _⟩ := (unhide HE).rr
                 obtain ⟨a9, c9, rfl⟩ := hv9.row.slice
                 have LF := hide (fun n => lLeft_any sb v8 s' ((w8).drewN n) ⟨hv8.box.kp (Kp.drewQ _ n) (by simp), hv8.row.kp (Kp.drewQ _ n) (by simp)⟩)
                 have NX := hide (fun n => lNextR_any rb q8 r ((w8).drewN n) ⟨hr8.box.kp (Kp.drewQ _ n) (by simp), hr8.map.kp (Kp.drewQ _ n) (by simp)⟩)
                 have m3 : (w8).cell? ⟨mb, 3, none⟩ = some (.slice a9 (s').left.length c9) := hv9.box.cell (i := 3) rfl
                 have n2 : (w8).cell? ⟨nb, 2, none⟩ = some (.int .i64 ((r).next : Int)) := hr9.box.cell (i := 2) rfl
                 clear hv8 hv9 hr8 hr9
                 have HE2 := hide (fun n => (unhide HE).kp (Kp.drewQ (w8) n))
                 have HLE := hide (show (told).length ≤ (k + 1) * 257 from by omega)
                 clear HE
                 generalize (s').left.length = sl at *
                 generalize (r).next = rn at *
                 have hb1 : ((sl : Int) != (sl : Int)) = false := bne_self_eq_false _
                 have hb2 : ((rn : Int) != (rn : Int)) = false := bne_self_eq_false _
                 go_wp2_with fail
                 go_quiet (first
                   | (go_at_call 19; exact Calls.quiet_of_same (unhide LF _))
                   | (go_at_call 20; exact Calls.quiet_of_same (unhide NX _)))
                 clear LF NX m3 n2 hb1 hb2
                 go_wp2
                 go_roundw
                 case rel => exact ⟨k + 1, s', r, told, by omega, by omega, unhide HLE, by go_num, ⟨_, _, rfl⟩, hide (unhide HE2 _)⟩
                 case measure => simp [intOf]; omega
               · clear hzl
                 have A1 := hide (lDue_any w.heap.size sb s y.n W1 (unhide HQ).st.sd (unhide HQ).st.so)
                 have A2 := hide (fun W h (hb : w.heap.size ≤ W.heap.size) => rDue_any w.heap.size mb s y.n W h (unhide HQ).st.so hb)
                 have OS := hide ((unhide HQ).st.so.ldS y.n)
                 have OZ := hide (ldO_size (unhide HQ).st.so y.n)
                 have hfew := ldO_few (unhide HQ).st.so y.n
                 generalize ldE s y.n = E at *
                 generalize ldS s y.n = s' at *
                 generalize ldO s y.n = ts at *
                 go_wp2_with fail
                 refine (unhide A1).mono ?_
                 rintro _ w7 ⟨xv, rfl, t1, m1, k1⟩
                 have T1 := hide t1
                 have HB2 := hide ((unhide HQ).msd m1 k1 (unhide OS))
                 clear A1 HQ t1 m1 k1 x0 x1 x2 x3
                 obtain ⟨x0, x1, x2, x3⟩ := (unhide HB2).cells
                 go_wp2_with fail
                 refine (unhide A2 w7 (unhide HB2).st.rs (unhide HB2).st.size).mono ?_
                 rintro _ w8 ⟨yv, rfl, t2, m2, k2⟩
                 have T2 := hide t2
                 have T1b := hide ((unhide T1).kept k2 (fun _ => rfl))
                 have HB3 := hide ((unhide HB2).mrs m2 k2).st
                 clear A2 HB2 t2 m2 k2 x0 x1 x2 x3 T1 OS
                 obtain ⟨xa, xc, rfl, _, hx⟩ := (unhide T1b).strs
                 obtain ⟨ya, yc, rfl, _, hyy⟩ := (unhide T2).strs
                 have SM := hide (sameStrs_true xa ya xc yc ts w8 hx hyy (by omega))
                 clear T1b hx hyy
                 go_wp2_with fail
                 refine (unhide SM).mono ?_
                 rintro _ w9 ⟨rfl, k9⟩
                 have HB4 := hide ((unhide HB3).kp k9)
                 have T3 := hide ((unhide T2).kp k9 (by simp))
                 clear SM HB3 T2 k9
                 obtain ⟨na, nc, W9, run9, q1, q2, _⟩ := (unhide HB4).tx.app (unhide HB4).size ((unhide T3).lower (Nat.zero_le _)) (by omega) 39
                 have hnl : (told ++ ts).length = told.length + ts.length := List.length_append
                 have HE : Hid (LpS w W9 sb mb rb nb s' s' r r (.slice na (told.length + ts.length) nc) (told ++ ts)) := hide ((unhide HB4).put q1 q2 (fun d hd => by
                   rcases List.mem_append.1 hd with hd | hd
                   · exact (unhide HB4).tz d hd
                   · exact unhide OZ d hd))
                 rw [← hnl] at HE run9
                 have RUN9 := hide run9
                 have hfin : (told ++ ts).length ≤ (k + 1) * 257 := by omega
                 have HFIN := hide hfin
                 clear HB4 T3 OZ q1 q2 run9 hfin
                 generalize told ++ ts = told2 at *
                 generalize told.length = tl at *
                 generalize ts.length = sl0 at *
                 clear hnl
                 generalize hnn : told2.length = nn at *
                 have HNN := hide hnn
                 clear hnn
                 go_wp2_with (at_builtin; refine wpList_app_run rfl _ _ 39 rfl rfl rfl (unhide RUN9) ?_)
                 clear RUN9
                 obtain ⟨v8, hv8, _⟩ := (unhide HE).sd
                 obtain ⟨v9, hv9, _⟩ := (unhide HE).rs
                 obtain ⟨q8, hr8, _⟩ := (unhide HE).rc
                 obtain ⟨u9, hr9, _⟩ := (unhide HE).rr
                 obtain ⟨a9, c9, rfl⟩ := hv9.row.slice
                 have LF := hide (fun n => lLeft_any sb v8 s' ((W9).drewN n) ⟨hv8.box.kp (Kp.drewQ _ n) (by simp), hv8.row.kp (Kp.drewQ _ n) (by simp)⟩)
                 have NX := hide (fun n => lNextR_any rb q8 r ((W9).drewN n) ⟨hr8.box.kp (Kp.drewQ _ n) (by simp), hr8.map.kp (Kp.drewQ _ n) (by simp)⟩)
                 have m3 : (W9).cell? ⟨mb, 3, none⟩ = some (.slice a9 (s').left.length c9) := hv9.box.cell (i := 3) rfl
                 have n2 : (W9).cell? ⟨nb, 2, none⟩ = some (.int .i64 ((r).next : Int)) := hr9.box.cell (i := 2) rfl
                 clear hv8 hv9 hr8 hr9
                 have HE2 := hide (fun n => (unhide HE).kp (Kp.drewQ (W9) n))
                 have HLE := hide (show (told2).length ≤ (k + 1) * 257 from by rw [unhide HNN]; exact unhide HFIN)
                 clear HE
                 generalize (s').left.length = sl at *
                 generalize (r).next = rn at *
                 have hb1 : ((sl : Int) != (sl : Int)) = false := bne_self_eq_false _
                 have hb2 : ((rn : Int) != (rn : Int)) = false := bne_self_eq_false _
                 go_wp2_with fail
                 go_quiet (first
                   | (go_at_call 19; exact Calls.quiet_of_same (unhide LF _))
                   | (go_at_call 20; exact Calls.quiet_of_same (unhide NX _)))
                 clear LF NX m3 n2 hb1 hb2
                 go_wp2
                 go_roundw
                 case rel => exact ⟨k + 1, s', r, told2, by omega, by omega, unhide HLE, by go_num, ⟨na, nc, by rw [unhide HNN]⟩, hide (unhide HE2 _)⟩
                 case measure => simp [intOf]; omega
               · clear hzl
                 have A1 := hide (lHeard_any w.heap.size sb s bs W1 (unhide HQ).st.sd (unhide HQ).st.so (by omega))
                 have A2 := hide (fun W h (hb : w.heap.size ≤ W.heap.size) => rHeard_any w.heap.size mb s bs W h (unhide HQ).st.so (by omega) hb)
                 have OS := hide ((unhide HQ).st.so.lhS bs)
                 clear x0 x1 x2 x3
                 generalize lhE s bs = E at *
                 generalize lhS s bs = s' at *
                 go_wp2_with fail
                 refine (unhide A1).mono ?_
                 rintro _ w7 ⟨rfl, m1, k1⟩
                 have HB2 := hide ((unhide HQ).msd m1 k1 (unhide OS))
                 clear A1 HQ m1 k1
                 go_wp2_with fail
                 refine (unhide A2 w7 (unhide HB2).st.rs (unhide HB2).st.size).mono ?_
                 rintro _ w8 ⟨rfl, m2, k2⟩
                 have HE := hide ((unhide HB2).mrs m2 k2).st
                 clear A2 HB2 m2 k2 OS
                 obtain ⟨v8, hv8, _⟩ := (unhide HE).sd
                 obtain ⟨v9, hv9, _⟩ := (unhide HE).rs
                 obtain ⟨q8, hr8, _⟩ := (unhide HE).rc
                 obtain ⟨u9, hr9, _⟩ := (unhide HE).rr
                 obtain ⟨a9, c9, rfl⟩ := hv9.row.slice
                 have LF := hide (fun n => lLeft_any sb v8 s' ((w8).drewN n) ⟨hv8.box.kp (Kp.drewQ _ n) (by simp), hv8.row.kp (Kp.drewQ _ n) (by simp)⟩)
                 have NX := hide (fun n => lNextR_any rb q8 r ((w8).drewN n) ⟨hr8.box.kp (Kp.drewQ _ n) (by simp), hr8.map.kp (Kp.drewQ _ n) (by simp)⟩)
                 have m3 : (w8).cell? ⟨mb, 3, none⟩ = some (.slice a9 (s').left.length c9) := hv9.box.cell (i := 3) rfl
                 have n2 : (w8).cell? ⟨nb, 2, none⟩ = some (.int .i64 ((r).next : Int)) := hr9.box.cell (i := 2) rfl
                 clear hv8 hv9 hr8 hr9
                 have HE2 := hide (fun n => (unhide HE).kp (Kp.drewQ (w8) n))
                 have HLE := hide (show (told).length ≤ (k + 1) * 257 from by omega)
                 clear HE
                 generalize (s').left.length = sl at *
                 generalize (r).next = rn at *
                 have hb1 : ((sl : Int) != (sl : Int)) = false := bne_self_eq_false _
                 have hb2 : ((rn : Int) != (rn : Int)) = false := bne_self_eq_false _
                 go_wp2_with fail
                 go_quiet (first
                   | (go_at_call 19; exact Calls.quiet_of_same (unhide LF _))
                   | (go_at_call 20; exact Calls.quiet_of_same (unhide NX _)))
                 clear LF NX m3 n2 hb1 hb2
                 go_wp2
                 go_roundw
                 case rel => exact ⟨k + 1, s', r, told, by omega, by omega, unhide HLE, by go_num, ⟨_, _, rfl⟩, hide (unhide HE2 _)⟩
                 case measure => simp [intOf]; omega
               · clear hzl
                 have A1 := hide (lTake_any w.heap.size rb r bs W1 (unhide HQ).st.rc (unhide HQ).st.ro (by omega))
                 have A2 := hide (fun W h (hb : w.heap.size ≤ W.heap.size) => rTake_any w.heap.size nb r bs W h (unhide HQ).st.ro (by omega) hb)
                 have OR := hide ((unhide HQ).st.ro.ltR bs)
                 have OZ := hide (ltA_size (unhide HQ).st.ro bs)
                 have HST := hide (unhide HQ).st
                 have hlen : (ltO r bs).length ≤ 9223372036854775807 := ltO_len r bs (unhide HQ).st.ro
                 clear x0 x1 x2 x3 HQ
                 generalize ltE r bs = E at *
                 generalize ltR r bs = r' at *
                 generalize ltO r bs = ts at *
                 generalize ltA r bs = ak at *
                 go_wp2_with fail
                 refine (unhide A1).mono ?_
                 rintro _ w7 ⟨xv, rfl, t1, m1, k1⟩
                 have T1 := hide t1
                 have HB2 := hide ((unhide HST).mrc m1 k1 (unhide OR))
                 clear A1 HST t1 m1 k1
                 go_wp2_with fail
                 refine (unhide A2 w7 (unhide HB2).rr (unhide HB2).size).mono ?_
                 rintro _ w8 ⟨yv, rfl, t2, m2, k2⟩
                 have T2 := hide t2
                 have T1b := hide ((unhide T1).kept k2 (fun _ => rfl))
                 have HB3 := hide ((unhide HB2).mrr m2 k2)
                 clear A2 HB2 t2 m2 k2 T1 OR
                 obtain ⟨xa, xc, rfl, _, hx⟩ := (unhide T1b).strs
                 obtain ⟨ya, yc, rfl, _, hyy⟩ := (unhide T2).strs
                 have SM := hide (sameStrs_true xa ya xc yc ts w8 hx hyy hlen)
                 clear T1b hx hyy T2
                 generalize ts.length = sl0 at *
                 go_wp2_with fail
                 refine (unhide SM).mono ?_
                 rintro _ w9 ⟨rfl, k9⟩
                 have HB4 := hide ((unhide HB3).kp k9)
                 have HB5 := hide ((unhide HB4).kp (Kp.alloc w9 (.cells #[.string ak] 9)))
                 clear SM HB3 k9
                 obtain ⟨na, nc, W9, run9, q1, q2, _⟩ := (unhide HB5).tx.app (unhide HB5).size (x := .slice (some ⟨w9.heap.size, 0, none⟩) 1 1) (ys := [ak]) ⟨rfl, Or.inr ⟨w9.heap.size, 1, #[.string ak], rfl, Nat.zero_le _, CBox.new w9 _ _, Nat.le_refl _, by decide, rfl, rfl⟩⟩ (by simp; omega) 39
                 have hnl : (told ++ [ak]).length = told.length + [ak].length := List.length_append
                 have HE : Hid (LpS w W9 sb mb rb nb s s r' r' (.slice na (told.length + [ak].length) nc) (told ++ [ak])) := hide ((unhide HB5).put q1 q2 (fun d hd => by
                   rcases List.mem_append.1 hd with hd | hd
                   · exact (unhide HB5).tz d hd
                   · rw [List.mem_singleton] at hd; subst hd; exact unhide OZ))
                 rw [← hnl] at HE run9
                 have RUN9 := hide run9
                 have HFIN : Hid ((told ++ [ak]).length ≤ (k + 1) * 257) := hide (by rw [hnl, List.length_singleton]; omega)
                 clear HB4 HB5 OZ q1 q2 run9 hnl
                 generalize told ++ [ak] = told2 at *
                 generalize told.length = tl at *
                 generalize hnn : told2.length = nn at *
                 have HNN := hide hnn
                 clear hnn
                 go_wp2_with (at_builtin; refine wpList_app_run rfl _ _ 39 rfl rfl rfl (unhide RUN9) ?_)
                 clear RUN9
                 obtain ⟨v8, hv8, _⟩ := (unhide HE).sd
                 obtain ⟨v9, hv9, _⟩ := (unhide HE).rs
                 obtain ⟨q8, hr8, _⟩ := (unhide HE).rc
                 obtain ⟨u9, hr9, _⟩ := (unhide HE).rr
                 obtain ⟨a9, c9, rfl⟩ := hv9.row.slice
                 have LF := hide (fun n => lLeft_any sb v8 s ((W9).drewN n) ⟨hv8.box.kp (Kp.drewQ _ n) (by simp), hv8.row.kp (Kp.drewQ _ n) (by simp)⟩)
                 have NX := hide (fun n => lNextR_any rb q8 r' ((W9).drewN n) ⟨hr8.box.kp (Kp.drewQ _ n) (by simp), hr8.map.kp (Kp.drewQ _ n) (by simp)⟩)
                 have m3 : (W9).cell? ⟨mb, 3, none⟩ = some (.slice a9 (s).left.length c9) := hv9.box.cell (i := 3) rfl
                 have n2 : (W9).cell? ⟨nb, 2, none⟩ = some (.int .i64 ((r').next : Int)) := hr9.box.cell (i := 2) rfl
                 clear hv8 hv9 hr8 hr9
                 have HE2 := hide (fun n => (unhide HE).kp (Kp.drewQ (W9) n))
                 have HLE := hide (show (told2).length ≤ (k + 1) * 257 from by rw [unhide HNN]; exact unhide HFIN)
                 clear HE
                 generalize (s).left.length = sl at *
                 generalize (r').next = rn at *
                 have hb1 : ((sl : Int) != (sl : Int)) = false := bne_self_eq_false _
                 have hb2 : ((rn : Int) != (rn : Int)) = false := bne_self_eq_false _
                 go_wp2_with fail
                 go_quiet (first
                   | (go_at_call 19; exact Calls.quiet_of_same (unhide LF _))
                   | (go_at_call 20; exact Calls.quiet_of_same (unhide NX _)))
                 clear LF NX m3 n2 hb1 hb2
                 go_wp2
                 go_roundw
                 case rel => exact ⟨k + 1, s, r', told2, by omega, by omega, unhide HLE, by go_num, ⟨na, nc, by rw [unhide HNN]⟩, hide (unhide HE2 _)⟩
                 case measure => simp [intOf]; omega
        · have hout : ¬ (k : Int) < (l.length : Int) ∨ ¬ (k : Int) < 200 := by omega
          have WKr := hide (unhide WK wr)
          have HB := hide (unhide HR).be
          clear HL HR WK
          by_cases h5 : (k : Int) < (l.length : Int)
          · have h6 : ¬ (k : Int) < 200 := hout.resolve_left (fun h => h h5)
            clear hout
            go_wp2_with fail
            refine (unhide WKr).mono ?_
            rintro _ w9 ⟨rfl, k9⟩
            have HF := hide ((unhide HB).trans (k9.below (unhide HB).size (by simp)))
            clear WKr HB k9
            go_wp2
            go_ret
            exact ⟨rfl, unhide HF⟩
          · clear hout
            go_wp2_with fail
            refine (unhide WKr).mono ?_
            rintro _ w9 ⟨rfl, k9⟩
            have HF := hide ((unhide HB).trans (k9.below (unhide HB).size (by simp)))
            clear WKr HB k9
            go_wp2
            go_ret
            exact ⟨rfl, unhide HF⟩
end Go.Proofs.Ytiomngpfolkgpaa
