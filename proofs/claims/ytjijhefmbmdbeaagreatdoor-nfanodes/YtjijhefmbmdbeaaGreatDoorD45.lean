/-
  The document's answer for nodes: Go.
  The document's answer for nodes: Begun, Step, Final.
  The document's search for nodes, plainly: what is known is sound, and at the end closed.
-/
import Derived.Test.YtjijhefmbmdbeaaGreatDoorD44
import Derived.Test.YtjijhefmbmdbeaaGreatDoorD21
namespace Go.Proofs.YtjijhefmbmdbeaaGreatDoor
open Go.RowKit Go.Shelf

theorem StB.fl0 {w W : World} {pc : Array Value} {n : Nd} {s : Sps} (h : StB w W pc n s) : StB w (W.setCell ⟨w.heap.size + 1 + 1 + 1, 9, none⟩ (.bool true)) pc n ⟨s.lp, s.tk, s.wt, true, s.ct, s.cw⟩ := h.put (Kp.set _ _ _ _) (h.s.set 9 (.bool true))
theorem StB.fl1 {w W : World} {pc : Array Value} {n : Nd} {s : Sps} (h : StB w W pc n s) : StB w (W.setCell ⟨w.heap.size + 1 + 1 + 1, 10, none⟩ (.bool true)) pc n ⟨s.lp, s.tk, s.wt, s.cl, true, s.cw⟩ := h.put (Kp.set _ _ _ _) (h.s.set 10 (.bool true))
theorem StB.nd0 {w W : World} {pc : Array Value} {n : Nd} {s : Sps} (h : StB w W pc n s) (x : Nd) : StB w (((W.setCell ⟨w.heap.size + 1 + 1 + 1, 0, none⟩ (.int .i64 x.st)).setCell ⟨w.heap.size + 1 + 1 + 1, 1, none⟩ (.bool x.lp)).setCell ⟨w.heap.size + 1 + 1 + 1, 2, none⟩ (.bool x.tk)) pc n ⟨x, s.tk, s.wt, s.cl, s.ct, s.cw⟩ := h.put (Kp.set3 _ _ _ _ _) (((h.s.set 0 (.int .i64 x.st)).set 1 (.bool x.lp)).set 2 (.bool x.tk))
theorem StB.nd1 {w W : World} {pc : Array Value} {n : Nd} {s : Sps} (h : StB w W pc n s) (x : Nd) : StB w (((W.setCell ⟨w.heap.size + 1 + 1 + 1, 3, none⟩ (.int .i64 x.st)).setCell ⟨w.heap.size + 1 + 1 + 1, 4, none⟩ (.bool x.lp)).setCell ⟨w.heap.size + 1 + 1 + 1, 5, none⟩ (.bool x.tk)) pc n ⟨s.lp, x, s.wt, s.cl, s.ct, s.cw⟩ := h.put (((Kp.set _ _ _ _).trans (Kp.set _ _ _ _) (by simp)).trans (Kp.set _ _ _ _) (by simp)) (((h.s.set 3 (.int .i64 x.st)).set 4 (.bool x.lp)).set 5 (.bool x.tk))
theorem StB.fl2 {w W : World} {pc : Array Value} {n : Nd} {s : Sps} (h : StB w W pc n s) : StB w (W.setCell ⟨w.heap.size + 1 + 1 + 1, 11, none⟩ (.bool true)) pc n ⟨s.lp, s.tk, s.wt, s.cl, s.ct, true⟩ := h.put (Kp.set _ _ _ _) (h.s.set 11 (.bool true))
theorem StB.nd2 {w W : World} {pc : Array Value} {n : Nd} {s : Sps} (h : StB w W pc n s) (x : Nd) : StB w (((W.setCell ⟨w.heap.size + 1 + 1 + 1, 6, none⟩ (.int .i64 x.st)).setCell ⟨w.heap.size + 1 + 1 + 1, 7, none⟩ (.bool x.lp)).setCell ⟨w.heap.size + 1 + 1 + 1, 8, none⟩ (.bool x.tk)) pc n ⟨s.lp, s.tk, x, s.cl, s.ct, s.cw⟩ := h.put (((Kp.set _ _ _ _).trans (Kp.set _ _ _ _) (by simp)).trans (Kp.set _ _ _ _) (by simp)) (((h.s.set 6 (.int .i64 x.st)).set 7 (.bool x.lp)).set 8 (.bool x.tk))
theorem StB.far {w W : World} {pc : Array Value} {n : Nd} {s : Sps} (h : StB w W pc n s) {gw : Nat} (hg : w.heap.size + 1 + 1 + 1 < gw) (i : Nat) (v : Value) : StB w (W.setCell ⟨gw, i, none⟩ v) pc n s :=
  ⟨h.p.kp (Kp.set _ _ _ _) (by simp; omega), h.n.kp (Kp.set _ _ _ _) (by simp; omega), h.r.kp (Kp.set _ _ _ _) (by simp; omega), h.s.kp (Kp.set _ _ _ _) (by simp; omega), h.k.trans (Kp.set _ _ _ _) (fun x hx => Or.inr (by simp only [List.mem_singleton] at hx; omega))⟩
set_option maxHeartbeats 2000000 in
set_option maxRecDepth 100000 in
theorem rgo_any (sa : Option Addr) (sc : Nat) (l : List SR) (wi : Int) (n : Nd) (lo ta : Bool) (w : World) (h : StsAt w sa l) (hl : l.length ≤ 9223372036854775807) (hm : mayN (stgs l) n = true) :
    Calls Tryz.prog 27 #[.agg #[.slice sa l.length sc, .int .i64 wi], .agg n.c, .bool lo, .bool ta] w fun e w' => e = .returned (.agg (stpN (stgs l) n lo ta).c) ∧ Kp [] w w' := by
  obtain ⟨m1, m2, m3⟩ := may_split hm
  obtain ⟨g1, g2⟩ := isS_iff.1 m1
  rw [stgs_len] at g2 m3
  have TK1 : Hid (∀ W, Kp [] w W → Calls Tryz.prog 31 #[.agg #[.slice sa l.length sc, .int .i64 wi], .int .i64 n.st] W fun e w' => e = .returned (.agg (bgN (stgs l) n.st.toNat).c) ∧ Kp [] W w') := hide (fun W hk => by
    have := rbegun1_any sa sc l wi n.st.toNat W (h.kp hk) hl (by omega) (by omega)
    rwa [show ((n.st.toNat : Nat) : Int) = n.st by omega] at this)
  have TK2 : Hid (n.tk = true → ∀ W, Kp [] w W → Calls Tryz.prog 31 #[.agg #[.slice sa l.length sc, .int .i64 wi], .int .i64 (n.st + 1)] W fun e w' => e = .returned (.agg (bgN (stgs l) (n.st.toNat + 1)).c) ∧ Kp [] W w') := hide (fun hs W hk => by
    have h3 := m3 hs
    have := rbegun1_any sa sc l wi (n.st.toNat + 1) W (h.kp hk) hl (by omega) (by omega)
    rwa [show ((n.st.toNat + 1 : Nat) : Int) = n.st + 1 by omega] at this)
  obtain ⟨k, hk⟩ : ∃ k : Nat, n.st = (k : Int) + 1 := ⟨n.st.toNat - 1, by omega⟩
  have hkl : k < l.length := by omega
  obtain ⟨bq, oq, hsa, hbl, xs0, xs1, xs2, xs3, -⟩ := h.at k hkl
  have hw1 : hwAt (stgs l) (n.st.toNat - 1) = l[k].s.hw := by rw [hwAt_get (by rw [stgs_len]; omega)]; have := stgs_at hkl; simp only [show n.st.toNat - 1 = k by omega, this]
  have RS := hide (fun (nm : ByteArray) (hh : Int) (mn : Bool) (v : Value) (b : Bool) W => rstays_any nm hh mn v b W)
  have HST1 : Hid (∃ (nm : ByteArray) (mn : Bool) (v : Value), ∀ W, Kp [] w W → W.cell? ⟨bq, oq + k * 4, none⟩ = some (.string nm) ∧ W.cell? ⟨bq, oq + k * 4 + 1, none⟩ = some (.int .i64 (hwAt (stgs l) (n.st.toNat - 1))) ∧ W.cell? ⟨bq, oq + k * 4 + 2, none⟩ = some (.bool mn) ∧ W.cell? ⟨bq, oq + k * 4 + 3, none⟩ = some v ∧ v.oneCell' = true) := hide ⟨_, _, _, fun W hW => ⟨hW.cell xs0 (by simp), by rw [hw1]; exact hW.cell xs1 (by simp), hW.cell xs2 (by simp), hW.cell xs3 (by simp), rfl⟩⟩
  have HST2 : Hid (n.tk = true → k + 1 < l.length ∧ ∃ (nm : ByteArray) (mn : Bool) (v : Value), ∀ W, Kp [] w W → W.cell? ⟨bq, oq + (k + 1) * 4, none⟩ = some (.string nm) ∧ W.cell? ⟨bq, oq + (k + 1) * 4 + 1, none⟩ = some (.int .i64 (hwAt (stgs l) n.st.toNat)) ∧ W.cell? ⟨bq, oq + (k + 1) * 4 + 2, none⟩ = some (.bool mn) ∧ W.cell? ⟨bq, oq + (k + 1) * 4 + 3, none⟩ = some v ∧ v.oneCell' = true) := hide (fun hs => by
    have hk1 : k + 1 < l.length := by have := m3 hs; omega
    obtain ⟨b', off', e', -, y0, y1, y2, y3, -⟩ := h.at (k + 1) hk1
    rw [hsa] at e'
    injection e' with e'
    injection e' with e1 e2
    subst e1 e2
    have hw2 : hwAt (stgs l) n.st.toNat = l[k + 1].s.hw := by rw [hwAt_get (by rw [stgs_len]; omega)]; have := stgs_at hk1; simp only [show n.st.toNat = k + 1 by omega, this]
    exact ⟨hk1, _, _, _, fun W hW => ⟨hW.cell y0 (by simp), by rw [hw2]; exact hW.cell y1 (by simp), hW.cell y2 (by simp), hW.cell y3 (by simp), rfl⟩⟩)
  have HWR : Hid (n.tk = true → IntKind.i64.wrap (n.st + 1) = n.st + 1) := hide (fun hs => by have h3 := m3 hs; simp only [IntKind.wrap_i64]; omega)
  have HKN : Hid (n.st = (k : Int) + 1 ∧ k < l.length ∧ l.length ≤ 9223372036854775807 ∧ bq < w.heap.size ∧ sa = some ⟨bq, oq, none⟩) := hide ⟨hk, hkl, hl, hbl, hsa⟩
  have HPN : Hid (psN (stgs l) n lo ta = ⟨n.st, n.lp && stay (hwAt (stgs l) (n.st.toNat - 1)) lo, n.tk && stay (hwAt (stgs l) n.st.toNat) ta⟩) := hide rfl
  have HS : Hid (stpN (stgs l) n lo ta = ⟨if (n.lp && lo) = true then bgN (stgs l) n.st.toNat else zN, if (n.tk && ta) = true then bgN (stgs l) (n.st.toNat + 1) else zN, if (psN (stgs l) n lo ta).live = true then psN (stgs l) n lo ta else zN, n.lp && lo, n.tk && ta, (psN (stgs l) n lo ta).live⟩) := hide rfl
  have B0 := StB.new w #[.slice sa l.length sc, .int .i64 wi] n
  generalize stpN (stgs l) n lo ta = R at *
  generalize psN (stgs l) n lo ta = PN at *
  generalize bgN (stgs l) n.st.toNat = T1 at *
  generalize bgN (stgs l) (n.st.toNat + 1) = T2 at *
  generalize hwAt (stgs l) (n.st.toNat - 1) = H1 at *
  generalize hwAt (stgs l) n.st.toNat = H2 at *
  clear h hm m1 m2 m3 g1 g2 hl hk hkl hsa hbl xs0 xs1 xs2 xs3 hw1
  generalize l.length = nn at *
  obtain ⟨⟨p0, p1⟩, c0, c1, c2⟩ := B0.cells
  have HB0 := hide B0
  obtain ⟨st, a, bb⟩ := n
  clear B0
  unfold Nd.c zS zN Sps.c at HB0 p0 p1 c0 c1 c2
  unfold Nd.c at TK1 TK2 ⊢
  dsimp only at HB0 p0 p1 c0 c1 c2 TK1 TK2 HS HWR HST2 HKN HPN ⊢
  go_enter Tryz.func27, Tryz.ntmps27
  go_upto_region 2 with fail
  go_cut [15] (fun v wc => v = .bool (a && lo) ∧ Hid (StB w wc #[.slice sa nn sc, .int .i64 wi] ⟨st, a, bb⟩ zS))
  case first =>
    clear TK1 TK2 RS HS HWR HST1 HST2 HPN
    cases a <;> (go_wp2; go_meet; exact ⟨rfl, HB0⟩)
  case rest =>
  obtain ⟨rfl, HB1⟩ := hcut
  clear HB0 p0 p1 c0 c1 c2
  go_upto_if 15 with fail
  go_cut [] (fun wc => Hid (StB w wc #[.slice sa nn sc, .int .i64 wi] ⟨st, a, bb⟩ ⟨if (a && lo) = true then T1 else zN, zN, zN, a && lo, false, false⟩))
  case first =>
    clear TK2 RS HS HWR HST1 HST2 HPN
    generalize (a && lo) = A at *
    cases A with
    | true =>
      obtain ⟨⟨-, -, -, x9⟩, fz0⟩ := (unhide HB1).s0
      have f9 := fz0 9
      have HBF := hide ((unhide HB1).fl0)
      obtain ⟨⟨p0, p1⟩, c0, c1, c2⟩ := (unhide HBF).cells
      have T := hide (unhide TK1 _ (unhide HBF).k)
      dsimp only at c0 c1 c2
      clear TK1 fz0
      go_wp2_with fail
      refine (unhide T).mono ?_
      rintro e w1 ⟨rfl, hk1⟩
      have B1 := (unhide HBF).kp hk1
      obtain ⟨⟨x0, x1, x2, -⟩, fz⟩ := B1.s0
      have f0 := fz 0
      have f1 := fz 1
      have f2 := fz 2
      have B2 := hide (B1.nd0 T1)
      clear B1 hk1 HB1 HBF T fz p0 p1 c0 c1 c2 x9 f9
      go_wp2
      go_meet
      exact B2
    | false =>
      clear TK1
      go_wp2
      go_meet
      exact HB1
  case rest =>
  have HB2 := hcut
  clear hcut HB1 TK1
  obtain ⟨s1, hs1⟩ : ∃ s1 : Sps, s1 = ⟨if (a && lo) = true then T1 else zN, zN, zN, a && lo, false, false⟩ := ⟨_, rfl⟩
  rw [← hs1] at HB2
  have HS1 := hide hs1
  clear hs1
  obtain ⟨-, c0, c1, c2⟩ := (unhide HB2).cells
  dsimp only at c0 c1 c2
  go_upto_region 5 with fail
  go_cut [26] (fun v wc => v = .bool (bb && ta) ∧ Hid (StB w wc #[.slice sa nn sc, .int .i64 wi] ⟨st, a, bb⟩ s1))
  case first =>
    clear TK2 RS HS HWR HST1 HST2 HPN
    cases bb <;> (go_wp2; go_meet; exact ⟨rfl, HB2⟩)
  case rest =>
  obtain ⟨rfl, HB3⟩ := hcut
  clear HB2 c0 c1 c2
  go_upto_if 26 with fail
  go_cut [] (fun wc => Hid (StB w wc #[.slice sa nn sc, .int .i64 wi] ⟨st, a, bb⟩ ⟨s1.lp, if (bb && ta) = true then T2 else s1.tk, s1.wt, s1.cl, if (bb && ta) = true then true else s1.ct, s1.cw⟩))
  case first =>
    clear RS HS HST1 HST2 HPN
    cases bb with
    | true =>
      cases ta with
      | true =>
        obtain ⟨⟨-, -, -, x9⟩, fz0⟩ := (unhide HB3).s1
        have f9 := fz0 10
        have HBF := hide ((unhide HB3).fl1)
        obtain ⟨⟨p0, p1⟩, c0, c1, c2⟩ := (unhide HBF).cells
        have T := hide (unhide TK2 rfl _ (unhide HBF).k)
        have hwr := unhide HWR rfl
        dsimp only at c0 c1 c2
        clear TK2 HWR fz0
        go_wp2_with fail
        refine (unhide T).mono ?_
        rintro e w1 ⟨rfl, hk1⟩
        have B1 := (unhide HBF).kp hk1
        obtain ⟨⟨x0, x1, x2, -⟩, fz⟩ := B1.s1
        have f0 := fz 3
        have f1 := fz 4
        have f2 := fz 5
        have B2 := hide (B1.nd1 T2)
        clear B1 hk1 HB3 HBF T fz p0 p1 c0 c1 c2 x9 f9
        go_wp2
        go_meet
        exact B2
      | false =>
        clear TK2 HWR
        go_wp2
        go_meet
        exact HB3
    | false =>
      clear TK2 HWR
      cases ta <;> (go_wp2; go_meet; exact HB3)
  case rest =>
  have HB4 := hcut
  clear hcut HB3 TK2 HWR
  obtain ⟨s2, hs2⟩ : ∃ s2 : Sps, s2 = ⟨s1.lp, if (bb && ta) = true then T2 else s1.tk, s1.wt, s1.cl, if (bb && ta) = true then true else s1.ct, s1.cw⟩ := ⟨_, rfl⟩
  rw [← hs2] at HB4
  have HS2 := hide hs2
  clear hs2
  obtain ⟨⟨p0, p1⟩, c0, c1, c2⟩ := (unhide HB4).cells
  dsimp only at c0 c1 c2
  obtain ⟨gw, hgw⟩ : ∃ gw, wc.heap.size = gw := ⟨_, rfl⟩
  have HB5 := hide (And.intro ((unhide HB4).kp (Kp.alloc wc (.cells #[.int .i64 st, .bool false, .bool false] 26))) (And.intro (CBox.new wc #[.int .i64 st, .bool false, .bool false] 26) (show w.heap.size + 1 + 1 + 1 < wc.heap.size from (Array.getElem?_eq_some_iff.1 (unhide HB4).s).1)))
  rw [hgw] at HB5
  clear HB4
  go_upto_region 9 with fail
  generalize wc.alloc (.cells #[.int .i64 st, .bool false, .bool false] 26) = wc at *
  clear hgw p0 p1 c0 c1 c2
  go_cut [] (fun wc => Hid (StB w wc #[.slice sa nn sc, .int .i64 wi] ⟨st, a, bb⟩ s2 ∧ CBox gw #[.int .i64 st, .bool (a && stay H1 lo), .bool false] 26 wc ∧ w.heap.size + 1 + 1 + 1 < gw))
  case first =>
    obtain ⟨hstb, hgb, hgl⟩ := unhide HB5
    have hgs : gw < wc.heap.size := (Array.getElem?_eq_some_iff.1 hgb).1
    obtain ⟨⟨p0, p1⟩, c0, c1, c2⟩ := hstb.cells
    dsimp only at c0 c1 c2
    cases a with
    | true =>
      obtain ⟨nm, mn, v, hv⟩ := unhide HST1
      obtain ⟨v0, v1, v2, v3, hv1⟩ := hv _ hstb.k
      obtain ⟨hk, hkl, hnn, hbl, hsa⟩ := unhide HKN
      subst hk hsa
      have hli : (k : Int) < (nn : Int) := by omega
      have hsub : IntKind.i64.wrap ((k : Int) + 1 - 1) = (k : Int) := by simp only [IntKind.wrap_i64]; omega
      have hbl2 := Nat.lt_of_lt_of_le hbl hstb.k.size
      have RS1 := hide (unhide RS nm H1 mn v lo)
      have z3 := v3
      clear RS HST1 HST2 HS HS1 HS2 HPN HKN
      go_wp2_with fail
      refine (unhide RS1 _).mono ?_
      rintro e w1 ⟨rfl, hk1⟩
      have hgb1 := hgb.kp hk1 (by simp)
      have hst1 := hstb.kp hk1
      have r0 := hgb1.cell (i := 0) (v := .int .i64 ((k : Int) + 1)) rfl
      have r1 := hgb1.cell (i := 1) (v := .bool false) rfl
      have r2 := hgb1.cell (i := 2) (v := .bool false) rfl
      have f1 := hgb1.froz 1
      have HF := hide (And.intro (hst1.far (gw := gw) hgl 1 (.bool (stay H1 lo))) (And.intro (hgb1.set 1 (.bool (stay H1 lo))) hgl))
      clear hgb1 hst1 hgb hstb HB5 RS1 hk1 p0 p1 c0 c1 c2 v0 v1 v2 v3 hv1
      go_wp2
      go_meet
      exact HF
    | false =>
      have r1 := hgb.cell (i := 1) (v := .bool false) rfl
      have r2 := hgb.cell (i := 2) (v := .bool false) rfl
      have f1 := hgb.froz 1
      have HF := hide (And.intro (hstb.far (gw := gw) hgl 1 (.bool false)) (And.intro (hgb.set 1 (.bool false)) hgl))
      clear RS HST1 HST2 HS HS1 HS2 HPN HKN HB5 hgb hstb
      go_wp2
      go_meet
      exact HF
  case rest =>
  have HB6 := hcut
  clear hcut HB5
  obtain ⟨X1, hX1⟩ : ∃ X1, (a && stay H1 lo) = X1 := ⟨_, rfl⟩
  rw [hX1] at HB6 HPN
  clear hX1
  go_upto_region 10 with fail
  go_cut [] (fun wc => Hid (StB w wc #[.slice sa nn sc, .int .i64 wi] ⟨st, a, bb⟩ s2 ∧ CBox gw #[.int .i64 st, .bool X1, .bool (bb && stay H2 ta)] 26 wc ∧ w.heap.size + 1 + 1 + 1 < gw))
  case first =>
    obtain ⟨hstb, hgb, hgl⟩ := unhide HB6
    have hgs : gw < wc.heap.size := (Array.getElem?_eq_some_iff.1 hgb).1
    obtain ⟨⟨p0, p1⟩, c0, c1, c2⟩ := hstb.cells
    dsimp only at c0 c1 c2
    cases bb with
    | true =>
      obtain ⟨hk1', nm, mn, v, hv⟩ := unhide HST2 rfl
      obtain ⟨v0, v1, v2, v3, hv1⟩ := hv _ hstb.k
      obtain ⟨hk, hkl, hnn, hbl, hsa⟩ := unhide HKN
      subst hk hsa
      have hli : (k : Int) + 1 < (nn : Int) := by omega
      have hbl2 := Nat.lt_of_lt_of_le hbl hstb.k.size
      have RS1 := hide (unhide RS nm H2 mn v ta)
      have z3 := v3
      clear RS HST1 HST2 HS HS1 HS2 HPN HKN
      go_wp2_with fail
      refine (unhide RS1 _).mono ?_
      rintro e w1 ⟨rfl, hk1⟩
      have hgb1 := hgb.kp hk1 (by simp)
      have hst1 := hstb.kp hk1
      have r0 := hgb1.cell (i := 0) (v := .int .i64 ((k : Int) + 1)) rfl
      have r1 := hgb1.cell (i := 1) (v := .bool X1) rfl
      have r2 := hgb1.cell (i := 2) (v := .bool false) rfl
      have f2 := hgb1.froz 2
      have HF := hide (And.intro (hst1.far (gw := gw) hgl 2 (.bool (stay H2 ta))) (And.intro (hgb1.set 2 (.bool (stay H2 ta))) hgl))
      clear hgb1 hst1 hgb hstb HB6 RS1 hk1 p0 p1 c0 c1 c2 v0 v1 v2 v3 hv1
      go_wp2
      go_meet
      exact HF
    | false =>
      have r1 := hgb.cell (i := 1) (v := .bool X1) rfl
      have r2 := hgb.cell (i := 2) (v := .bool false) rfl
      have f2 := hgb.froz 2
      have HF := hide (And.intro (hstb.far (gw := gw) hgl 2 (.bool false)) (And.intro (hgb.set 2 (.bool false)) hgl))
      clear RS HST1 HST2 HS HS1 HS2 HPN HKN HB6 hgb hstb
      go_wp2
      go_meet
      exact HF
  case rest =>
  have HB7' := hcut
  clear hcut HB6
  obtain ⟨X2, hX2⟩ : ∃ X2, (bb && stay H2 ta) = X2 := ⟨_, rfl⟩
  rw [hX2] at HB7' HPN
  clear hX2 RS HST1 HST2 HKN
  have hPN : PN = ⟨st, X1, X2⟩ := unhide HPN
  obtain ⟨hstb, hgb, hgl⟩ := unhide HB7'
  have r1 := hgb.cell (i := 1) (v := .bool X1) rfl
  have r2 := hgb.cell (i := 2) (v := .bool X2) rfl
  go_upto_region 11 with fail
  go_cut [69] (fun v wc' => v = .bool (X1 || X2) ∧ wc' = wc)
  case first =>
    clear HS HS1 HS2 HPN hPN HB7' hstb hgb
    cases X1 <;> (go_wp2; go_meet; exact ⟨rfl, rfl⟩)
  case rest =>
  obtain ⟨rfl, hwc⟩ := hcut
  subst hwc
  have HB7 := hide hstb
  have HGB := hide hgb
  clear HB7' hstb hgb r1 r2
  have HLV : Hid (PN.live = (X1 || X2)) := hide (by rw [hPN]; rfl)
  have HPQ := hide hPN
  clear hPN
  go_upto_if 69 with fail
  go_cut [] (fun wc => Hid (StB w wc #[.slice sa nn sc, .int .i64 wi] ⟨st, a, bb⟩ ⟨s2.lp, s2.tk, if PN.live = true then PN else s2.wt, s2.cl, s2.ct, if PN.live = true then true else s2.cw⟩))
  case first =>
    clear HS HS1 HS2 HPN
    generalize (X1 || X2) = XX at *
    cases XX with
    | true =>
      obtain ⟨⟨-, -, -, x9⟩, fz0⟩ := (unhide HB7).s2
      have f9 := fz0 11
      have B1 := (unhide HB7).fl2
      have hgb1 := (unhide HGB).kp (Kp.set wc (w.heap.size + 1 + 1 + 1) 11 (.bool true)) (by simp; omega)
      have r0 := hgb1.cell (i := 0) (v := .int .i64 st) rfl
      have r1 := hgb1.cell (i := 1) (v := .bool X1) rfl
      have r2 := hgb1.cell (i := 2) (v := .bool X2) rfl
      obtain ⟨⟨x0, x1, x2, -⟩, fz⟩ := B1.s2
      have f0 := fz 6
      have f1 := fz 7
      have f2 := fz 8
      have B2 := hide (B1.nd2 ⟨st, X1, X2⟩)
      clear B1 hgb1 HB7 HGB fz fz0
      go_wp2
      go_meet
      rw [unhide HLV, unhide HPQ]
      exact B2
    | false =>
      go_wp2
      go_meet
      rw [unhide HLV]
      exact HB7
  case rest =>
  have HB8 := hcut
  have hR : R = ⟨s2.lp, s2.tk, if PN.live = true then PN else s2.wt, s2.cl, s2.ct, if PN.live = true then true else s2.cw⟩ := by
    rw [unhide HS, unhide HS2, unhide HS1]
    dsimp only
    generalize (bb && ta) = X
    generalize PN.live = Y
    cases X <;> cases Y <;> rfl
  rw [← hR] at HB8
  clear hcut HB7 HS HS1 HS2 hR HPN HPQ HLV
  have bs := (unhide HB8).s
  have br := (unhide HB8).r
  have HK := hide (unhide HB8).k
  obtain ⟨⟨l0, l1, l2⟩, ⟨t0, t1, t2⟩, ⟨v0, v1, v2⟩, cl, ct, cw⟩ := R
  unfold Sps.c at bs br
  unfold zS zN at br
  dsimp only at bs br
  have z0 := br.cell (i := 0) (v := .int .i64 0) rfl
  have z1 := br.cell (i := 1) (v := .bool false) rfl
  have z2 := br.cell (i := 2) (v := .bool false) rfl
  have z3 := br.cell (i := 3) (v := .int .i64 0) rfl
  have z4 := br.cell (i := 4) (v := .bool false) rfl
  have z5 := br.cell (i := 5) (v := .bool false) rfl
  have z6 := br.cell (i := 6) (v := .int .i64 0) rfl
  have z7 := br.cell (i := 7) (v := .bool false) rfl
  have z8 := br.cell (i := 8) (v := .bool false) rfl
  have z9 := br.cell (i := 9) (v := .bool false) rfl
  have z10 := br.cell (i := 10) (v := .bool false) rfl
  have z11 := br.cell (i := 11) (v := .bool false) rfl
  have f0 := br.froz 0
  have f1 := br.froz 1
  have f2 := br.froz 2
  have f3 := br.froz 3
  have f4 := br.froz 4
  have f5 := br.froz 5
  have f6 := br.froz 6
  have f7 := br.froz 7
  have f8 := br.froz 8
  have f9 := br.froz 9
  have f10 := br.froz 10
  have f11 := br.froz 11
  have s0 := bs.cell (i := 0) (v := .int .i64 l0) rfl
  have s1 := bs.cell (i := 1) (v := .bool l1) rfl
  have s2 := bs.cell (i := 2) (v := .bool l2) rfl
  have s3 := bs.cell (i := 3) (v := .int .i64 t0) rfl
  have s4 := bs.cell (i := 4) (v := .bool t1) rfl
  have s5 := bs.cell (i := 5) (v := .bool t2) rfl
  have s6 := bs.cell (i := 6) (v := .int .i64 v0) rfl
  have s7 := bs.cell (i := 7) (v := .bool v1) rfl
  have s8 := bs.cell (i := 8) (v := .bool v2) rfl
  have s9 := bs.cell (i := 9) (v := .bool cl) rfl
  have s10 := bs.cell (i := 10) (v := .bool ct) rfl
  have s11 := bs.cell (i := 11) (v := .bool cw) rfl
  have HE := hide (put12 br (.int .i64 l0) (.bool l1) (.bool l2) (.int .i64 t0) (.bool t1) (.bool t2) (.int .i64 v0) (.bool v1) (.bool v2) (.bool cl) (.bool ct) (.bool cw))
  have HG := hide (fun W (hk : Kp [w.heap.size + 1 + 1] wc W) => (unhide HK).trans hk (fun x hx => Or.inr (by simp only [List.mem_singleton] at hx; omega)))
  clear bs br HB8 HK
  go_wp2
  obtain ⟨hx, hy⟩ := unhide HE
  exact bodyPost_ret (results_cell_row Tryz.results27 _ _ (w.heap.size + 1 + 1) 29 _ (0, 0) _ rfl hx Tryz.underlying29 rfl info_steps) rfl ⟨rfl, unhide HG _ hy⟩
end Go.Proofs.YtjijhefmbmdbeaaGreatDoor
namespace Go.Proofs.YtjijhefmbmdbeaaGreatDoor
open Go.RowKit Go.Shelf

end Go.Proofs.YtjijhefmbmdbeaaGreatDoor
namespace Go.Proofs.YtjijhefmbmdbeaaGreatDoor

/-- All nodes that may be, in order. -/
def mayL (l : List Stg) : List Nd := (allN l.length).filter (mayN l)
theorem mayL_has {l : List Stg} {n : Nd} : n ∈ mayL l ↔ mayN l n = true := by
  unfold mayL
  rw [List.mem_filter]
  refine ⟨fun h => h.2, fun h => ⟨?_, h⟩⟩
  obtain ⟨h1, _⟩ := may_split h
  obtain ⟨g1, g2⟩ := isS_iff.1 h1
  exact allN_has g1 g2
/-- A node waitsN into another one. -/
def waitsN (l : List Stg) (x y : Nd) : Prop := ∃ lo ta, (psN l x lo ta).live = true ∧ psN l x lo ta = y
/-- What is known is sound. -/
def KnS (l : List Stg) (all : List Nd) (kn : List Bool) : Prop := kn.length = all.length ∧ ∀ i (h : i < all.length) (h' : i < kn.length), kn[i] = true → rch l all[i] = true
/-- Nothing that is known tells this one. -/
def Far (l : List Stg) (all : List Nd) (kn : List Bool) (y : Nd) : Prop := y ≠ bgN l y.st.toNat ∧ ∀ i (h : i < all.length) (h' : i < kn.length), kn[i] = true → ¬ waitsN l all[i] y
theorem bg_may {l : List Stg} {s : Nat} (h1 : 1 ≤ s) (h2 : s ≤ l.length) : mayN l (bgN l s) = true := rch_may (rch_tk h1 h2)
/-- Where nothing more comes, just what comes out is known. -/
theorem KnS.fin {l : List Stg} {kn : List Bool} (h : KnS l (mayL l) kn) (hf : ∀ i (h : i < (mayL l).length) (h' : i < kn.length), kn[i] = false → Far l (mayL l) kn (mayL l)[i]) (i : Nat) (hi : i < (mayL l).length) (hi' : i < kn.length) : kn[i] = rch l (mayL l)[i] := by
  cases hk : kn[i] with
  | true => exact (h.2 i hi hi' hk).symm
  | false =>
    obtain ⟨f1, f2⟩ := hf i hi hi' hk
    cases hr : rch l (mayL l)[i] with
    | false => rfl
    | true =>
      exfalso
      rcases rch_comes hr with e | ⟨e, hl⟩
      · exact f1 e
      · obtain ⟨g1, _⟩ := rch_split hr
        obtain ⟨s1, s2⟩ := isS_iff.1 g1
        have hm : bgN l (mayL l)[i].st.toNat ∈ mayL l := mayL_has.2 (bg_may (by omega) (by omega))
        obtain ⟨j, hj, ej⟩ := List.getElem_of_mem hm
        have hj' : j < kn.length := by rw [h.1]; exact hj
        cases hkj : kn[j] with
        | true =>
          refine f2 j hj hj' hkj ⟨!(mayL l)[i].lp, !(mayL l)[i].tk, ?_, ?_⟩
          · rw [ej, ← e]; exact hl
          · rw [ej]; exact e.symm
        | false =>
          have := (hf j hj hj' hkj).1
          rw [ej] at this
          exact this (by
            show bgN l _ = bgN l (bgN l (mayL l)[i].st.toNat).st.toNat
            rfl)
theorem KnS.set {l : List Stg} {all : List Nd} {kn : List Bool} (h : KnS l all kn) (i : Nat) (b : Bool) (hb : b = true → ∀ (hi : i < all.length), rch l all[i] = true) : KnS l all (kn.set i b) := by
  refine ⟨by rw [List.length_set]; exact h.1, fun j hj hj' hk => ?_⟩
  rw [List.getElem_set] at hk
  split at hk
  · rename_i e
    subst e
    exact hb hk hj
  · exact h.2 j hj (by simpa using hj') hk
def falses (kn : List Bool) : Nat := (kn.filter fun b => !b).length
theorem falses_set {kn : List Bool} {i : Nat} (hi : i < kn.length) (hk : kn[i] = false) : falses (kn.set i true) + 1 = falses kn := by
  induction kn generalizing i with
  | nil => simp at hi
  | cons b kn ih =>
    cases i with
    | zero =>
      simp only [List.getElem_cons_zero] at hk
      subst hk
      simp [falses]
    | succ i =>
      have := ih (i := i) (by simpa using hi) (by simpa using hk)
      unfold falses at this ⊢
      rw [List.set_cons_succ, List.filter_cons, List.filter_cons]
      split
      · simp only [List.length_cons]; omega
      · exact this
theorem set_same {kn : List Bool} {i : Nat} (hi : i < kn.length) (hk : kn[i] = false) : kn.set i false = kn := by
  apply List.ext_getElem?
  intro j
  rw [List.getElem?_set]
  split
  · rename_i e
    subst e
    rw [List.getElem?_eq_getElem hi, hk]
  · rfl
/-- Those that are known, told in order, are the nodes that come out. -/
theorem told_nds {l : List Stg} {kn : List Bool} (hl : kn.length = (mayL l).length) (h : ∀ i (hi : i < (mayL l).length) (hi' : i < kn.length), kn[i] = rch l (mayL l)[i]) : (((mayL l).zip kn).filter (·.2)).map (·.1) = ndsR l := by
  have e : kn = (mayL l).map (rch l) := by
    apply List.ext_getElem
    · rw [List.length_map]; exact hl
    · intro i h1 h2
      rw [List.getElem_map]
      exact h i (by rw [← hl]; exact h1) h1
  rw [e]
  have gen : ∀ L : List Nd, ((L.zip (L.map (rch l))).filter (·.2)).map (·.1) = L.filter (rch l) := by
    intro L
    induction L with
    | nil => rfl
    | cons a L ih =>
      rw [List.map_cons, List.zip_cons_cons, List.filter_cons, List.filter_cons]
      split
      · rw [List.map_cons, ih]
      · exact ih
  rw [gen]
  unfold mayL ndsR
  rw [List.filter_filter]
  refine List.filter_congr fun n _ => ?_
  cases hr : rch l n with
  | false => rfl
  | true => rw [rch_may hr]; rfl
end Go.Proofs.YtjijhefmbmdbeaaGreatDoor
