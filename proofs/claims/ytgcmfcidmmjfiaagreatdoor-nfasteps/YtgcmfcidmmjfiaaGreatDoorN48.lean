/-
  A slice of numbers that comes in as an argument: its numbers lie where it says.
  NfaTakes: an event that is taken opens all roads of its stage that may be; one that is not taken opens none.
  The document's answers: the words of fields, which words name no stage, the signs, the kind of an operation.
-/
import Derived.Test.YtgcmfcidmmjfiaaGreatDoorN47
import Derived.ProofKit
import Derived.OpenShut
import Derived.Deep.Slices
import Derived.Test.YtgcmfcidmmjfiaaGreatDoorN07
namespace Go.Proofs.YtgcmfcidmmjfiaaGreatDoor
open Go.RowKit Go.Deep

theorem cells_int : Tryz.prog.cellsOf 3 = 1 := by kernel_rfl
section
variable {H : Type} {enc : TypeId × Value → H} {W : World} {spare : Nat → Bool} {held : Bool} {fuel : Nat} {v : Value} {x : DataW H × List MemPlace}
theorem open_ints (h : DataW.trod enc Tryz.prog W 0 spare held fuel 45 [v] = some x) :
    ∃ (ad : Option Addr) (cap : Nat) (l : List Int), v = .slice ad l.length cap ∧ l.length ≤ 9223372036854775807 ∧ IntsAt W ad l ∧ (∀ y ∈ l, -9223372036854775808 ≤ y ∧ y ≤ 9223372036854775807) ∧ (ad = none → cap = 0) := by
  rcases open_slice1 Tryz.underlying45 cells_int h with ⟨hcs, _⟩ | ⟨a, len, cap, m, n, V, D, Pl, hcs, hb, hl, hm, hmm, _, hx⟩
  · simp only [List.cons.injEq, and_true] at hcs
    subst hcs
    exact ⟨none, 0, [], rfl, by simp, fun hne => absurd rfl hne, by simp, fun _ => rfl⟩
  · simp only [List.cons.injEq, and_true] at hcs
    subst hcs
    have hlm : len ≤ m := by rw [hmm]; split <;> omega
    have each : ∀ i, i < len → ∃ y : Int, W.cell? (a.add i) = some (.int .i64 y) ∧ -9223372036854775808 ≤ y ∧ y ≤ 9223372036854775807 := by
      intro i hi
      obtain ⟨h1, h2⟩ := hx i (by omega)
      obtain ⟨k1, q1, _, wf⟩ := DataW.trod_int Tryz.underlying3 h2
      simp only [List.cons.injEq, and_true] at q1
      rw [q1] at h1
      have := bounds_i64 wf
      exact ⟨k1, h1, this.1, by omega⟩
    have hinh : Inhabited Int := ⟨0⟩
    obtain ⟨q, hq⟩ := choose_lt each
    refine ⟨some a, cap, (List.range len).map q, by simp, by simp; unfold maxLen at hm; omega, fun hne => ?_, fun y hy => ?_, fun e => by cases e⟩
    · have h0 : 0 < len := by
        rcases Nat.eq_zero_or_pos len with e | e
        · subst e; simp at hne
        · exact e
      obtain ⟨b, off, spot⟩ := a
      have hc0 := (hq 0 h0).1
      have hspot : spot = none := by simpa [Addr.add] using World.cell?_spot hc0
      subst hspot
      refine ⟨b, off, rfl, ?_, fun i hi => ?_⟩
      · rcases Nat.lt_or_ge b W.heap.size with hlt | hge
        · exact hlt
        · exfalso
          rw [Go.WideShapes.add_plain] at hc0
          simp [World.cell?, Array.getElem?_eq_none hge] at hc0
      · have hi' : i < len := by simpa using hi
        obtain ⟨c0, _⟩ := hq i hi'
        rw [Go.WideShapes.add_plain] at c0
        simp only [List.getElem_map, List.getElem_range]
        exact c0
    · obtain ⟨i, hi, rfl⟩ := List.mem_map.1 hy
      exact (hq i (List.mem_range.1 hi)).2
theorem open_intsB (h : DataW.trod enc Tryz.prog W 0 spare held fuel 45 [v] = some x) :
    ∃ (ad : Option Addr) (cap : Nat) (l : List Int), v = .slice ad l.length cap ∧ l.length ≤ 9223372036854775807 ∧ IntsAt W ad l ∧ ∀ y ∈ l, -9223372036854775808 ≤ y ∧ y ≤ 9223372036854775807 :=
  let ⟨ad, cap, l, h1, h2, h3, h4, _⟩ := open_ints h
  ⟨ad, cap, l, h1, h2, h3, h4⟩
end
end Go.Proofs.YtgcmfcidmmjfiaaGreatDoor
namespace Go.Proofs.YtgcmfcidmmjfiaaGreatDoor
open Go.RowKit Go.Shelf

/-- What a step tells, road by road. -/
structure TkF (l : List Stg) (n : Nd) (lo ta : Bool) (H1 H2 : Int) (Y : Sps) : Prop where
  cl : Y.cl = (n.lp && lo)
  ct : Y.ct = (n.tk && ta)
  lp : Y.cl = true → Y.lp = bgN l n.st.toNat
  tk : Y.ct = true → Y.tk = bgN l (n.st.toNat + 1)
  wl : Y.wt.lp = true → n.lp = true ∧ stay H1 lo = true
  w3 : n.lp = true → H1 = 3 → Y.wt.lp = true
  vl : Y.wt.tk = true → n.tk = true ∧ stay H2 ta = true
  v3 : n.tk = true → H2 = 3 → Y.wt.tk = true
theorem tk_facts (l : List Stg) (n : Nd) (lo ta : Bool) : TkF l n lo ta (hwAt l (n.st.toNat - 1)) (hwAt l n.st.toNat) (stpN l n lo ta) := by
  have e1 : (psN l n lo ta).lp = (n.lp && stay (hwAt l (n.st.toNat - 1)) lo) := rfl
  have e2 : (psN l n lo ta).tk = (n.tk && stay (hwAt l n.st.toNat) ta) := rfl
  refine ⟨rfl, rfl, fun h => ?_, fun h => ?_, fun h => ?_, fun h h3 => ?_, fun h => ?_, fun h h3 => ?_⟩
  · unfold stpN at h ⊢; dsimp only at h ⊢; rw [if_pos h]
  · unfold stpN at h ⊢; dsimp only at h ⊢; rw [if_pos h]
  · unfold stpN at h; dsimp only at h
    split at h
    · rw [e1] at h; simpa using h
    · cases h
  · have hp : (psN l n lo ta).lp = true := by rw [e1, h, h3]; rfl
    unfold stpN; dsimp only
    rw [if_pos (by unfold Nd.live; rw [hp]; rfl)]
    exact hp
  · unfold stpN at h; dsimp only at h
    split at h
    · rw [e2] at h; simpa using h
    · cases h
  · have hp : (psN l n lo ta).tk = true := by rw [e2, h, h3]; rfl
    unfold stpN; dsimp only
    rw [if_pos (by unfold Nd.live; rw [hp]; simp)]
    exact hp
set_option maxHeartbeats 4000000 in
set_option maxRecDepth 100000 in
theorem ntakes_walk (sa : Option Addr) (sc : Nat) (l : List SR) (wi : Int) (n : Nd) (E : Int) (w : World) (hl : l.length ≤ 9223372036854775807) (h : StsAt w sa l) (hok : ∀ r ∈ l, r.s.ok) (hT : TbE w) :
    Calls Tryz.prog 7 #[.agg #[.slice sa l.length sc, .int .i64 wi], .agg n.c, .int .i64 E] w fun e w' => e = .returned (.bool true) ∧ Kp [] w w' := by
  have B0 := PnB.new w #[.slice sa l.length sc, .int .i64 wi] n
  have WK := hide (nworks_any _ (hT.kp B0.k (by simp)))
  have CK := hide (fun W (hk : Kp [] w W) => ncheck_any sa sc l wi n W (h.kp hk) (hT.kp hk (by simp)) hok hl)
  have ALL : Hid (nkE ⟨stgs l, wi⟩ n = 0 → ∃ (k : Nat) (H1 H2 : Int) (b off : Nat), n.st = (k : Int) + 1 ∧ k < l.length ∧ sa = some ⟨b, off, none⟩ ∧ b < w.heap.size ∧ (0 ≤ H1 ∧ H1 ≤ 3) ∧ (0 ≤ H2 ∧ H2 ≤ 3) ∧ (n.tk = true → k + 1 < l.length) ∧ (∀ W, Kp [] w W → W.cell? ⟨b, off + k * 4 + 1, none⟩ = some (.int .i64 H1)) ∧ (k + 1 < l.length → ∀ W, Kp [] w W → W.cell? ⟨b, off + (k + 1) * 4 + 1, none⟩ = some (.int .i64 H2)) ∧ (∀ (lo ta : Bool) W, Kp [] w W → Calls Tryz.prog 10 #[.agg #[.slice sa l.length sc, .int .i64 wi], .agg n.c, .bool lo, .bool ta] W fun e w' => ∃ Y : Sps, e = .returned (.tuple #[.agg Y.c, .int .i64 0]) ∧ Kp [] W w' ∧ Hid (TkF (stgs l) n lo ta H1 H2 Y)) ∧ (∀ W, Kp [] w W → Calls Tryz.prog 14 #[.agg #[.slice sa l.length sc, .int .i64 wi], .int .i64 n.st] W fun e w' => e = .returned (.tuple #[.agg (bgN (stgs l) n.st.toNat).c, .int .i64 0]) ∧ Kp [] W w') ∧ (n.tk = true → ∀ W, Kp [] w W → Calls Tryz.prog 14 #[.agg #[.slice sa l.length sc, .int .i64 wi], .int .i64 (n.st + 1)] W fun e w' => e = .returned (.tuple #[.agg (bgN (stgs l) (n.st.toNat + 1)).c, .int .i64 0]) ∧ Kp [] W w')) := hide (fun h0 => by
    obtain ⟨q1, q2⟩ := nk_ok h0
    obtain ⟨m1, m2, m3⟩ := may_split q2
    obtain ⟨g1, g2⟩ := isS_iff.1 m1
    dsimp only at q1 q2 m1 m2 m3 g1 g2
    rw [stgs_len] at g2 m3
    obtain ⟨k, hk⟩ : ∃ k : Nat, n.st = (k : Int) + 1 := ⟨n.st.toNat - 1, by omega⟩
    have hkl : k < l.length := by omega
    obtain ⟨-, -, -, hst⟩ := pc_ok q1
    dsimp only at hst
    have hrg : ∀ i (hi : i < l.length), 0 ≤ l[i].s.hw ∧ l[i].s.hw ≤ 3 := fun i hi => by
      have := (st_ok (hst i (by rw [stgs_len]; exact hi))).2.1
      rwa [stgs_at hi] at this
    have e1 : hwAt (stgs l) (n.st.toNat - 1) = l[k].s.hw := by rw [hwAt_get (by rw [stgs_len]; omega)]; have := stgs_at hkl; simp only [show n.st.toNat - 1 = k by omega, this]
    have e2 : ∀ hk1 : k + 1 < l.length, hwAt (stgs l) n.st.toNat = l[k + 1].s.hw := fun hk1 => by rw [hwAt_get (by rw [stgs_len]; omega)]; have := stgs_at hk1; simp only [show n.st.toNat = k + 1 by omega, this]
    have hr2 : 0 ≤ hwAt (stgs l) n.st.toNat ∧ hwAt (stgs l) n.st.toNat ≤ 3 := by
      by_cases hk1 : k + 1 < l.length
      · rw [e2 hk1]; exact hrg _ hk1
      · unfold hwAt; rw [List.getElem?_eq_none (by rw [stgs_len]; omega)]; exact ⟨Int.le_refl 0, by decide⟩
    obtain ⟨b, off, hsa, hbl, -, x1, -, -, -⟩ := h.at k hkl
    refine ⟨k, hwAt (stgs l) (n.st.toNat - 1), hwAt (stgs l) n.st.toNat, b, off, hk, hkl, hsa, hbl, by rw [e1]; exact hrg _ hkl, hr2, fun e => by have := m3 e; omega, fun W hW => by rw [e1]; exact hW.cell x1 (by simp), fun hk1 W hW => ?_, fun lo ta W hW => ?_, fun W hW => ?_, fun e W hW => ?_⟩
    · obtain ⟨b', off', e', -, -, y1, -, -, -⟩ := h.at (k + 1) hk1
      rw [hsa] at e'
      injection e' with e'
      injection e' with e3 e4
      subst e3 e4
      rw [e2 hk1]
      exact hW.cell y1 (by simp)
    · refine (nstep_any sa sc l wi n lo ta W (h.kp hW) (hT.kp hW (by simp)) hok hl).mono fun e w' ⟨he, hk'⟩ => ?_
      have hs : nsS ⟨stgs l, wi⟩ n lo ta = stpN (stgs l) n lo ta := by unfold nsS; rw [if_pos h0]
      rw [h0, hs] at he
      exact ⟨_, he, hk', hide (tk_facts _ _ _ _)⟩
    · have hz : nbE ⟨stgs l, wi⟩ n.st = 0 := by unfold nbE; rw [if_pos q1, if_pos m1]
      have hb : nbN ⟨stgs l, wi⟩ n.st = bgN (stgs l) n.st.toNat := by unfold nbN; rw [if_pos hz]
      have := nbegun_any sa sc l wi n.st W (h.kp hW) (hT.kp hW (by simp)) hok hl
      rwa [hz, hb] at this
    · have h3 := m3 e
      have hi : isS (stgs l) (n.st + 1) = true := isS_iff.2 ⟨by omega, by rw [stgs_len]; omega⟩
      have hz : nbE ⟨stgs l, wi⟩ (n.st + 1) = 0 := by unfold nbE; rw [if_pos q1, if_pos hi]
      have hb : nbN ⟨stgs l, wi⟩ (n.st + 1) = bgN (stgs l) (n.st.toNat + 1) := by unfold nbN; rw [if_pos hz, show (n.st + 1).toNat = n.st.toNat + 1 by omega]
      have := nbegun_any sa sc l wi (n.st + 1) W (h.kp hW) (hT.kp hW (by simp)) hok hl
      rwa [hz, hb] at this)
  generalize nkE ⟨stgs l, wi⟩ n = R at *
  have HLL := hide hl
  clear h hok hT hl
  obtain ⟨L, hL⟩ : ∃ L, stgs l = L := ⟨_, rfl⟩
  rw [hL] at ALL
  clear hL
  generalize l.length = nn at *
  obtain ⟨⟨p0, p1⟩, c0, c1, c2⟩ := B0.cells
  have HB0 := hide B0
  have HNC : Hid (n.c = #[.int .i64 n.st, .bool n.lp, .bool n.tk]) := hide rfl
  rw [unhide HNC] at HB0 p0 p1 c0 c1 c2 WK CK ⊢
  clear B0
  go_enter Tryz.func7, Tryz.ntmps7
  go_wp2_with fail
  refine (unhide WK).mono ?_
  rintro e w1 ⟨rfl, hk1⟩
  have HB1 := hide ((unhide HB0).kp hk1)
  obtain ⟨⟨d0, d1⟩, d2, d3, d4⟩ := (unhide HB1).cells
  have CK1 := hide (unhide CK w1 (unhide HB1).k)
  clear WK CK HB0 p0 p1 c0 c1 c2 hk1
  go_wp2_with fail
  refine (unhide CK1).mono ?_
  rintro e w2 ⟨rfl, hk2⟩
  have HB2 := hide ((unhide HB1).kp hk2)
  clear CK1 HB1 hk2 d0 d1 d2 d3 d4
  by_cases h0 : R = 0
  · subst h0
    obtain ⟨k, H1, H2, b, off, hk, hkl, rfl, hbl, hr1, hr2, hm3, hx1, hx2, hst, hbg, hbg2⟩ := unhide ALL rfl
    rw [unhide HNC] at hst
    have HST := hide hst
    have HBG := hide hbg
    have HBG2 := hide hbg2
    have HX1 := hide hx1
    have HX2 := hide hx2
    have HM3 := hide hm3
    have HR1 := hide hr1
    have HR2 := hide hr2
    have HKL := hide (⟨hkl, unhide HLL⟩ : k < nn ∧ nn ≤ 9223372036854775807)
    have HTF : Hid (∀ lo ta Y, TkF L n lo ta H1 H2 Y → TkF L ⟨(k : Int) + 1, n.lp, n.tk⟩ lo ta H1 H2 Y) := hide (fun lo ta Y hh => by
      have : n = ⟨(k : Int) + 1, n.lp, n.tk⟩ := Nd.ext3 hk rfl rfl
      rwa [this] at hh)
    clear ALL hst hbg hbg2 hx1 hx2 hm3 hr1 hr2 HLL HNC
    obtain ⟨st, a, bb⟩ := n
    dsimp only at hk HST HBG HBG2 HM3 HTF
    subst hk
    go_upto_region 5 with fail
    go_cut [7, 8] (fun u v wc => ∃ lo ta : Bool, u = .bool lo ∧ v = .bool ta ∧ Hid (PnB w wc #[.slice (some ⟨b, off, none⟩) nn sc, .int .i64 wi] ⟨(k : Int) + 1, a, bb⟩))
    case first =>
      clear HST HBG HBG2 HX1 HX2 HM3 HR1 HR2 HKL HTF
      go_wp2
      go_meet
      exact ⟨_, _, rfl, rfl, HB2⟩
    case rest =>
    obtain ⟨lo, ta, rfl, rfl, HB3⟩ := hcut
    obtain ⟨⟨d0, d1⟩, d2, d3, d4⟩ := (unhide HB3).cells
    have ST1 := hide (unhide HST lo ta wc (unhide HB3).k)
    clear HST HB2
    dsimp only at d2 d3 d4
    go_wp2_with fail
    refine (unhide ST1).mono ?_
    rintro e w3 ⟨Y, rfl, hk3, HY⟩
    have HY1 := hide (unhide HTF lo ta Y (unhide HY))
    have HB4 := hide (((unhide HB3).kp hk3).kp (Kp.alloc w3 (.cells Y.c 29)))
    have HYB := hide (CBox.new w3 Y.c 29)
    have hlt3 : w.heap.size + 1 < w3.heap.size := ((unhide HB3).kp hk3).lt
    have HGX : Hid (w3.heap.size = w3.heap.size) := hide rfl
    obtain ⟨gx, hgx⟩ : ∃ gx, w3.heap.size = gx := ⟨_, rfl⟩
    have HS := hide (And.intro (unhide HB4) (unhide HYB))
    rw [hgx] at HS hlt3
    have hgl : gx < (w3.alloc (.cells Y.c 29)).heap.size := by simp; omega
    have HC : Hid (Y.c = #[.int .i64 Y.lp.st, .bool Y.lp.lp, .bool Y.lp.tk, .int .i64 Y.tk.st, .bool Y.tk.lp, .bool Y.tk.tk, .int .i64 Y.wt.st, .bool Y.wt.lp, .bool Y.wt.tk, .bool Y.cl, .bool Y.ct, .bool Y.cw]) := hide rfl
    clear ST1 HB3 hk3 d0 d1 d2 d3 d4 HY HTF HB4 HYB HGX
    rw [unhide HC]
    have h9 := (unhide HS).2.cell (i := 9) (v := .bool Y.cl) rfl
    have h10 := (unhide HS).2.cell (i := 10) (v := .bool Y.ct) rfl
    obtain ⟨-, d2, d3, d4⟩ := (unhide HS).1.cells
    rw [(unhide HY1).cl] at h9
    rw [(unhide HY1).ct] at h10
    dsimp only at h9 h10 d2 d3 d4
    rw [unhide HC] at HS h9 h10 d2 d3 d4 hgl
    go_upto_region 7 with fail
    generalize w3.alloc (.cells #[.int .i64 Y.lp.st, .bool Y.lp.lp, .bool Y.lp.tk, .int .i64 Y.tk.st, .bool Y.tk.lp, .bool Y.tk.tk, .int .i64 Y.wt.st, .bool Y.wt.lp, .bool Y.wt.tk, .bool Y.cl, .bool Y.ct, .bool Y.cw] 29) = V at *
    rw [← unhide HC] at HS
    clear hgx
    go_cut [58] (fun v wc => v = .bool false ∧ Hid (PnB w wc #[.slice (some ⟨b, off, none⟩) nn sc, .int .i64 wi] ⟨(k : Int) + 1, a, bb⟩ ∧ CBox gx Y.c 29 wc))
    case first =>
      clear HBG HBG2 HX1 HX2 HM3 HR1 HR2 HKL HY1 HC
      have n1 : (lo != lo) = false := by simp
      have n2 : (ta != ta) = false := by simp
      cases a <;> cases bb <;> (simp only [Bool.true_and, Bool.false_and] at h9 h10; as_aux_lemma => (go_wp2; go_meet; exact ⟨rfl, HS⟩))
    case rest =>
    obtain ⟨rfl, HS1⟩ := hcut
    clear HS h9 h10 d2 d3 d4 hgl
    have h9 := (unhide HS1).2.cell (i := 9) (v := .bool Y.cl) rfl
    go_upto_if 60 with fail
    go_cut [] (fun wc => Hid (PnB w wc #[.slice (some ⟨b, off, none⟩) nn sc, .int .i64 wi] ⟨(k : Int) + 1, a, bb⟩ ∧ CBox gx Y.c 29 wc))
    case first =>
      clear HBG2 HX1 HX2 HM3 HR1 HR2 HKL
      cases hcl : Y.cl with
      | true =>
        have BG := hide (unhide HBG wc (unhide HS1).1.k)
        have hlp := (unhide HY1).lp hcl
        rw [← hlp] at BG
        have EQ := fun W => eqN 9998 Y.lp Y.lp W
        rw [ndE_self] at EQ
        obtain ⟨⟨e0, e1⟩, e2, -, -⟩ := (unhide HS1).1.cells
        dsimp only at e2
        unfold Nd.c at EQ BG
        clear HBG HY1 hlp h9 hcl
        go_wp2_with fail
        refine (unhide BG).mono ?_
        rintro e w4 ⟨rfl, hk4⟩
        have hyb := (unhide HS1).2.kp hk4 (by simp)
        have hpb := (unhide HS1).1.kp hk4
        have hgl : gx < w4.heap.size := (Array.getElem?_eq_some_iff.1 hyb).1
        have ka := Kp.alloc w4 (.cells #[.int .i64 Y.lp.st, .bool Y.lp.lp, .bool Y.lp.tk] 26)
        have HF := hide (And.intro (hpb.kp ka) (hyb.kp ka (by simp)))
        have y0 := (hyb.kp ka (by simp)).cell (i := 0) (v := .int .i64 Y.lp.st) rfl
        have y1 := (hyb.kp ka (by simp)).cell (i := 1) (v := .bool Y.lp.lp) rfl
        have y2 := (hyb.kp ka (by simp)).cell (i := 2) (v := .bool Y.lp.tk) rfl
        have hbx := CBox.new w4 #[.int .i64 Y.lp.st, .bool Y.lp.lp, .bool Y.lp.tk] 26
        have v0 := hbx.cell (i := 0) (v := .int .i64 Y.lp.st) rfl
        have v1 := hbx.cell (i := 1) (v := .bool Y.lp.lp) rfl
        have v2 := hbx.cell (i := 2) (v := .bool Y.lp.tk) rfl
        clear BG HS1 hyb hpb ka hk4 hbx e0 e1 e2
        go_wp2
        go_meet
        exact HF
      | false =>
        rw [hcl] at h9
        clear HBG HY1 hcl
        go_wp2
        go_meet
        exact HS1
    case rest =>
    have HS2 := hcut
    clear hcut HS1 HBG h9
    have h10 := (unhide HS2).2.cell (i := 10) (v := .bool Y.ct) rfl
    go_upto_if 77 with fail
    go_cut [] (fun wc => Hid (PnB w wc #[.slice (some ⟨b, off, none⟩) nn sc, .int .i64 wi] ⟨(k : Int) + 1, a, bb⟩ ∧ CBox gx Y.c 29 wc))
    case first =>
      clear HX1 HX2 HR1 HR2
      cases hct : Y.ct with
      | true =>
        have hbb : bb = true := by
          have := (unhide HY1).ct
          rw [hct] at this
          dsimp only at this
          cases bb with
          | true => rfl
          | false => simp at this
        subst hbb
        have BG := hide (unhide HBG2 rfl wc (unhide HS2).1.k)
        have htk := (unhide HY1).tk hct
        rw [← htk] at BG
        have hwr : IntKind.i64.wrap ((k : Int) + 1 + 1) = (k : Int) + 1 + 1 := by
          have := unhide HM3 rfl
          have := (unhide HKL).2
          simp only [IntKind.wrap_i64]
          omega
        have EQ := fun W => eqN 9998 Y.tk Y.tk W
        rw [ndE_self] at EQ
        obtain ⟨⟨e0, e1⟩, e2, -, -⟩ := (unhide HS2).1.cells
        dsimp only at e2
        unfold Nd.c at EQ BG
        clear HBG2 HY1 htk h10 hct HM3 HKL
        go_wp2_with fail
        refine (unhide BG).mono ?_
        rintro e w4 ⟨rfl, hk4⟩
        have hyb := (unhide HS2).2.kp hk4 (by simp)
        have hpb := (unhide HS2).1.kp hk4
        have hgl : gx < w4.heap.size := (Array.getElem?_eq_some_iff.1 hyb).1
        have ka := Kp.alloc w4 (.cells #[.int .i64 Y.tk.st, .bool Y.tk.lp, .bool Y.tk.tk] 26)
        have HF := hide (And.intro (hpb.kp ka) (hyb.kp ka (by simp)))
        have y0 := (hyb.kp ka (by simp)).cell (i := 3) (v := .int .i64 Y.tk.st) rfl
        have y1 := (hyb.kp ka (by simp)).cell (i := 4) (v := .bool Y.tk.lp) rfl
        have y2 := (hyb.kp ka (by simp)).cell (i := 5) (v := .bool Y.tk.tk) rfl
        have hbx := CBox.new w4 #[.int .i64 Y.tk.st, .bool Y.tk.lp, .bool Y.tk.tk] 26
        have v0 := hbx.cell (i := 0) (v := .int .i64 Y.tk.st) rfl
        have v1 := hbx.cell (i := 1) (v := .bool Y.tk.lp) rfl
        have v2 := hbx.cell (i := 2) (v := .bool Y.tk.tk) rfl
        clear BG HS2 hyb hpb ka hk4 hbx e0 e1 e2
        go_wp2
        go_meet
        exact HF
      | false =>
        rw [hct] at h10
        clear HBG2 HY1 hct HM3 HKL
        go_wp2
        go_meet
        exact HS2
    case rest =>
    have HS3 := hcut
    clear hcut HS2 HBG2 h10
    have hsub : IntKind.i64.wrap ((k : Int) + 1 - 1) = (k : Int) := by have := (unhide HKL).1; have := (unhide HKL).2; simp only [IntKind.wrap_i64]; omega
    have hli : (k : Int) < (nn : Int) := by have := (unhide HKL).1; omega
    have hnn := (unhide HKL).2
    have q1 := unhide HX1 wc (unhide HS3).1.k
    have hbl3 := Nat.lt_of_lt_of_le hbl (unhide HS3).1.k.size
    obtain ⟨⟨e0, -⟩, e2, e3, e4⟩ := (unhide HS3).1.cells
    dsimp only at e2 e3 e4
    have h7 := (unhide HS3).2.cell (i := 7) (v := .bool Y.wt.lp) rfl
    have h8 := (unhide HS3).2.cell (i := 8) (v := .bool Y.wt.tk) rfl
    have h10 := (unhide HS3).2.cell (i := 10) (v := .bool Y.ct) rfl
    go_upto_region 18 with fail
    go_cut [133] (fun v wc' => v = .bool false ∧ wc' = wc)
    case first =>
      have hr1 := unhide HR1
      have hwl := (unhide HY1).wl
      have hw3 := (unhide HY1).w3
      dsimp only at hwl hw3
      generalize Y.wt.lp = WL at *
      clear HX1 HX2 HM3 HR1 HR2 HKL HY1 HS3 q1 h8 h10 e4
      cases WL with
      | true =>
        obtain ⟨ha, hs⟩ := hwl rfl
        subst ha
        have h4 : H1 = 3 ∨ (H1 = 2 ∧ lo = false) := by
          unfold stay at hs
          cases lo <;> simp at hs
          · exact hs.elim Or.inl (fun h => Or.inr ⟨h, rfl⟩)
          · exact Or.inl hs
        clear hwl hw3 hs hr1
        rcases h4 with rfl | ⟨rfl, rfl⟩
        · as_aux_lemma => (go_wp2; go_meet; exact ⟨rfl, rfl⟩)
        · as_aux_lemma => (go_wp2; go_meet; exact ⟨rfl, rfl⟩)
      | false =>
        cases a with
        | false =>
          clear hwl hw3 hr1
          as_aux_lemma => (go_wp2; go_meet; exact ⟨rfl, rfl⟩)
        | true =>
          have h3 : (H1 == 3) = false := by
            by_cases h3 : H1 = 3
            · have := hw3 rfl h3; cases this
            · simp [h3]
          clear hwl hw3 hr1
          as_aux_lemma => (go_wp2; go_meet; exact ⟨rfl, rfl⟩)
    case rest =>
    obtain ⟨rfl, hwc⟩ := hcut
    subst hwc
    clear h7 q1
    by_cases hend : (k : Int) + 1 = (nn : Int)
    · have hbf : bb = false := by
        cases hb : bb with
        | false => rfl
        | true => exact absurd (unhide HM3 hb) (by omega)
      have hv : Y.wt.tk = false := by
        cases hb : Y.wt.tk with
        | false => rfl
        | true => have := ((unhide HY1).vl hb).1; rw [hbf] at this; cases this
      have hc : Y.ct = false := by rw [(unhide HY1).ct, hbf]; rfl
      rw [hv] at h8
      rw [hc] at h10
      have HW := hide (unhide HS3).1.k
      clear HX1 HX2 HM3 HR1 HR2 HKL HY1 HS3 hv hc hbf
      go_wp2
      go_ret
      exact ⟨rfl, unhide HW⟩
    · have hk1 : k + 1 < nn := by have := (unhide HKL).1; omega
      have hli1 : (k : Int) + 1 < (nn : Int) := by omega
      have q2 := unhide HX2 hk1 wc (unhide HS3).1.k
      have hr2 := unhide HR2
      have hvl := (unhide HY1).vl
      have hv3 := (unhide HY1).v3
      dsimp only at hvl hv3
      generalize Y.wt.tk = VL at *
      have HW := hide (unhide HS3).1.k
      have hne : ((k : Int) + 1 == (nn : Int)) = false := by simp; omega
      clear HX1 HX2 HM3 HR1 HR2 HKL HY1 HS3 h10 hend
      cases VL with
      | true =>
        obtain ⟨ha, hs⟩ := hvl rfl
        subst ha
        have h4 : H2 = 3 ∨ (H2 = 2 ∧ ta = false) := by
          unfold stay at hs
          cases ta <;> simp at hs
          · exact hs.elim Or.inl (fun h => Or.inr ⟨h, rfl⟩)
          · exact Or.inl hs
        clear hvl hv3 hs hr2
        rcases h4 with rfl | ⟨rfl, rfl⟩
        · as_aux_lemma => (go_wp2; go_ret; exact ⟨rfl, unhide HW⟩)
        · as_aux_lemma => (go_wp2; go_ret; exact ⟨rfl, unhide HW⟩)
      | false =>
        cases bb with
        | false =>
          clear hvl hv3 hr2
          as_aux_lemma => (go_wp2; go_ret; exact ⟨rfl, unhide HW⟩)
        | true =>
          have h3 : (H2 == 3) = false := by
            by_cases h3 : H2 = 3
            · have := hv3 rfl h3; cases this
            · simp [h3]
          clear hvl hv3 hr2
          as_aux_lemma => (go_wp2; go_ret; exact ⟨rfl, unhide HW⟩)
  · have g : (R != 0) = true := by simp [h0]
    have HW := hide (unhide HB2).k
    clear ALL
    go_wp2
    go_ret
    exact ⟨rfl, unhide HW⟩
end Go.Proofs.YtgcmfcidmmjfiaaGreatDoor
namespace Go.Proofs.YtgcmfcidmmjfiaaGreatDoor
open Go.RowKit

def fldV : Array Value := #[.string ⟨#[110, 48]⟩, .string ⟨#[110, 49]⟩, .string ⟨#[110, 50]⟩, .string ⟨#[110, 51]⟩, .string ⟨#[116, 121, 112, 101]⟩, .string ⟨#[116, 101, 120, 116]⟩]
theorem fldV_at (k : Nat) (h : k < 6) : fldV[k]? = some (.string (txt (fldW.getD k []))) := by
  rcases (show k = 0 ∨ k = 1 ∨ k = 2 ∨ k = 3 ∨ k = 4 ∨ k = 5 by omega) with rfl | rfl | rfl | rfl | rfl | rfl <;> rfl
theorem fldOf_at (k : Nat) (h : k < 6) : fldOf (fldW.getD k []) = (k : Int) := by
  rcases (show k = 0 ∨ k = 1 ∨ k = 2 ∨ k = 3 ∨ k = 4 ∨ k = 5 by omega) with rfl | rfl | rfl | rfl | rfl | rfl <;> decide
theorem rFields_any (w : World) : Calls Tryz.prog 91 #[] w fun e w' => e = .returned (.slice (some ⟨w.heap.size, 0, none⟩) 6 6) ∧ CBox w.heap.size fldV 9 w' ∧ Kp [] w w' := by
  go_enter Tryz.func91, Tryz.ntmps91
  go_wp2
  go_ret
  exact ⟨rfl, CBox.new w _ _, Kp.alloc _ _⟩
set_option maxHeartbeats 1000000 in
set_option maxRecDepth 100000 in
theorem rField_any (s : ByteArray) (w : World) : Calls Tryz.prog 111 #[.string s] w fun e w' => e = .returned (.int .i64 (fldOf s.data.toList)) ∧ Kp [] w w' := by
  have tl := toList_data s
  generalize hl : s.data.toList = l at tl ⊢
  clear hl
  obtain ⟨F, hF⟩ : ∃ F, fldOf l = F := ⟨_, rfl⟩
  rw [hF]
  have HF := hide hF
  have HTL := hide tl
  clear hF tl
  go_enter Tryz.func111, Tryz.ntmps111
  go_wp2_with fail
  refine (rFields_any w).mono ?_
  rintro e w1 ⟨rfl, hbx, hk⟩
  have HBX := hide hbx
  have HK := hide hk
  have hlt := (Array.getElem?_eq_some_iff.1 hbx).1
  clear hbx hk
  go_wp2_with fail
  go_loop [4] (fun i => ∃ k : Nat, k ≤ 6 ∧ Hid (noFd l k) ∧ i = .int .i64 (k : Int)) (fun i => 6 - (intOf i).toNat)
  case atStart => exact ⟨0, by omega, hide (fun j hj => by omega), rfl⟩
  case round =>
    obtain ⟨k, hk, HN, rfl⟩ := hrel
    by_cases hlt6 : k < 6
    · have c := (unhide HBX).cell (fldV_at k hlt6)
      have hli : (k : Int) < 6 := by omega
      by_cases e : l = fldW.getD k []
      · have g2 : ((txt (fldW.getD k [])).toList == s.toList) = true := by rw [toList_data, txt_list, unhide HTL, e]; exact beq_self_eq_true _
        obtain rfl : F = (k : Int) := by rw [← unhide HF, e]; exact fldOf_at k hlt6
        clear e HF HN
        generalize txt (fldW.getD k []) = FS at *
        go_wp2
        go_ret
        exact ⟨rfl, unhide HK⟩
      · have g2 : ((txt (fldW.getD k [])).toList == s.toList) = false := by rw [toList_data, txt_list, unhide HTL]; exact beq_eq_false_iff_ne.2 (fun h => e h.symm)
        have HN2 : Hid (noFd l (k + 1)) := hide (noFd_next (unhide HN) e)
        clear e
        generalize txt (fldW.getD k []) = FS at *
        go_wp2
        go_round
        case rel => exact ⟨k + 1, by omega, HN2, by go_num⟩
        case measure => simp [intOf]; omega
    · obtain rfl : k = 6 := by omega
      obtain rfl : F = -1 := by rw [← unhide HF]; exact fldOf_no (unhide HN)
      go_wp2
      go_ret
      exact ⟨rfl, unhide HK⟩
/-- Does a word name no stage? -/
theorem rKeyword_any (s : ByteArray) (w : World) : Calls Tryz.prog 86 #[.string s] w fun e w' => e = .returned (.bool (!freeW s.data.toList)) ∧ Kp [] w w' := by
  have FA := hide (rField_any s w)
  have tl := toList_data s
  obtain ⟨R, hR⟩ : ∃ R, (!freeW s.data.toList) = R := ⟨_, rfl⟩
  rw [hR]
  unfold freeW at hR
  generalize s.data.toList = l at *
  have q1 : (s.toList == [111, 114]) = decide (l = [111, 114]) := by rw [tl, Bool.eq_iff_iff, beq_iff_eq, decide_eq_true_eq]
  have q2 : (s.toList == [97, 110, 100]) = decide (l = [97, 110, 100]) := by rw [tl, Bool.eq_iff_iff, beq_iff_eq, decide_eq_true_eq]
  have q3 : (s.toList == [110, 111, 116]) = decide (l = [110, 111, 116]) := by rw [tl, Bool.eq_iff_iff, beq_iff_eq, decide_eq_true_eq]
  generalize decide (l = [111, 114]) = b1 at *
  generalize decide (l = [97, 110, 100]) = b2 at *
  generalize decide (l = [110, 111, 116]) = b3 at *
  generalize fldOf l = F at *
  have HR := hide hR
  clear hR tl
  by_cases hf : 0 ≤ F
  · have g : (0 ≤ F) = True := eq_true hf
    have e : R = true := by rw [← unhide HR, decide_eq_false (by omega)]; simp
    subst e
    go_enter Tryz.func86, Tryz.ntmps86
    go_wp2_with fail
    refine (unhide FA).mono ?_
    rintro e w1 ⟨rfl, hk⟩
    clear FA HR
    go_wp2
    go_ret
    exact ⟨rfl, hk⟩
  · have g : (0 ≤ F) = False := eq_false hf
    have e : R = (b1 || b2 || b3) := by rw [← unhide HR, decide_eq_true (by omega)]; simp
    subst e
    clear HR
    cases b1 <;> cases b2 <;> cases b3
    all_goals
      go_enter Tryz.func86, Tryz.ntmps86
      go_wp2_with fail
      refine (unhide FA).mono ?_
      rintro e w1 ⟨rfl, hk⟩
      clear FA
      go_wp2
      go_ret
      exact ⟨rfl, hk⟩
end Go.Proofs.YtgcmfcidmmjfiaaGreatDoor
