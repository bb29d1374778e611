/-
  NfaReaches: all nodes that come out along any events are among a pattern's nodes, each of which may be.
-/
import Derived.Test.YtjijhefmbmdbeaaGreatDoorR39
namespace Go.Proofs.YtjijhefmbmdbeaaGreatDoor
open Go.RowKit Go.Shelf

set_option maxHeartbeats 4000000 in
set_option maxRecDepth 100000 in
theorem nreaches_walk (sa : Option Addr) (sc : Nat) (l : List SR) (wi : Int) (ad : Option Addr) (cap : Nat) (ev : List Int) (w : World) (hl : l.length ≤ 9223372036854775807) (h : StsAt w sa l) (hok : ∀ r ∈ l, r.s.ok) (_hle : ev.length ≤ 9223372036854775807) (hE : IntsAt w ad ev) (_ : ∀ y ∈ ev, -9223372036854775808 ≤ y ∧ y ≤ 9223372036854775807) (hTB : TbE w ∧ Both w) :
    Calls Tryz.prog 5 #[.agg #[.slice sa l.length sc, .int .i64 wi], .slice ad ev.length cap] w fun e w' => e = .returned (.bool true) ∧ Kp [] w w' := by
  obtain ⟨hT, hbo⟩ := hTB
  have k0 := Kp.alloc w (.cells #[.slice sa l.length sc, .int .i64 wi] 24)
  have hb0 := CBox.new w #[.slice sa l.length sc, .int .i64 wi] 24
  have WK := hide (nworks_any _ (hT.kp k0 (by simp)))
  have ND := hide (fun W (hk : Kp [] w W) => nnodes_any sa sc l wi W (h.kp hk) (hT.kp hk (by simp)) (hbo.kp hk (by simp)) hok hl)
  have HE0 : Hid (nnE ⟨stgs l, wi⟩ ≠ 0 → nnL ⟨stgs l, wi⟩ = []) := hide (fun e => by unfold nnL; unfold nnE at e; rw [if_neg e])
  have ALL : Hid (nnE ⟨stgs l, wi⟩ = 0 → (nnL ⟨stgs l, wi⟩).length ≤ 32 ∧ ∃ RC : Nd → Bool, (∀ x, x ∈ nnL ⟨stgs l, wi⟩ ↔ RC x = true) ∧ RC (bgN (stgs l) 1) = true ∧ (∀ x, RC x = true → ∀ W, Kp [] w W → Calls Tryz.prog 14 #[.agg #[.slice sa l.length sc, .int .i64 wi], .agg x.c] W fun e w' => e = .returned (.int .i64 0) ∧ Kp [] W w') ∧ (∀ W, Kp [] w W → Calls Tryz.prog 12 #[.agg #[.slice sa l.length sc, .int .i64 wi], .int .i64 1] W fun e w' => e = .returned (.tuple #[.agg (bgN (stgs l) 1).c, .int .i64 0]) ∧ Kp [] W w') ∧ (∀ x, RC x = true → ∀ (lo ta : Bool) W, Kp [] w W → Calls Tryz.prog 8 #[.agg #[.slice sa l.length sc, .int .i64 wi], .agg x.c, .bool lo, .bool ta] W fun e w' => ∃ Y : Sps, e = .returned (.tuple #[.agg Y.c, .int .i64 0]) ∧ Kp [] W w' ∧ Hid ((Y.cl = true → RC Y.lp = true) ∧ (Y.ct = true → RC Y.tk = true) ∧ (Y.cw = true → RC Y.wt = true)))) := hide (fun h0 => by
    have q1 : (pcR ⟨stgs l, wi⟩).2 = 0 := h0
    obtain ⟨p1, p2, -, -⟩ := pc_ok q1
    dsimp only at p1 p2
    have hL : nnL ⟨stgs l, wi⟩ = ndsR (stgs l) := by unfold nnL; rw [if_pos q1]
    have hz : ∀ x, rch (stgs l) x = true → nkE ⟨stgs l, wi⟩ x = 0 := fun x hx => by unfold nkE; rw [if_pos q1, if_pos (rch_may hx)]
    rw [hL]
    refine ⟨by have := ndsR_len (stgs l); omega, rch (stgs l), fun x => ndsR_has, rch_tk (by omega) p1, fun x hx W hk => ?_, fun W hk => ?_, fun x hx lo ta W hk => ?_⟩
    · have := ncheck_any sa sc l wi x W (h.kp hk) (hT.kp hk (by simp)) hok hl
      rwa [hz x hx] at this
    · have hi : isS (stgs l) 1 = true := isS_iff.2 ⟨by omega, by omega⟩
      have hz1 : nbE ⟨stgs l, wi⟩ 1 = 0 := by unfold nbE; rw [if_pos q1, if_pos hi]
      have hb : nbN ⟨stgs l, wi⟩ 1 = bgN (stgs l) 1 := by unfold nbN; rw [if_pos hz1]; rfl
      have := nbegun_any sa sc l wi 1 W (h.kp hk) (hT.kp hk (by simp)) hok hl
      rwa [hz1, hb] at this
    · refine (nstep_any sa sc l wi x lo ta W (h.kp hk) (hT.kp hk (by simp)) hok hl).mono fun e w' ⟨he, hk'⟩ => ?_
      have hs : nsS ⟨stgs l, wi⟩ x lo ta = stpN (stgs l) x lo ta := by unfold nsS; rw [if_pos (hz x hx)]
      rw [hz x hx, hs] at he
      refine ⟨_, he, hk', hide ⟨fun e => rch_out hx lo ta ?_, fun e => rch_out hx lo ta ?_, fun e => rch_out hx lo ta ?_⟩⟩
      · unfold outs; rw [if_pos e]; simp
      · unfold outs; rw [if_pos e]; simp
      · unfold outs; rw [if_pos e]; simp)
  have HE := hide hE
  generalize nnE ⟨stgs l, wi⟩ = R at *
  generalize nnL ⟨stgs l, wi⟩ = LL at *
  generalize bgN (stgs l) 1 = BG1 at *
  have HK0 := hide k0
  have HB0 := hide hb0
  clear h hok hl hE hT hbo k0 hb0
  generalize l.length = nn at *
  obtain ⟨m, hm⟩ : ∃ m, ev.length = m := ⟨_, rfl⟩
  have HM := hide hm
  rw [hm] at _hle ⊢
  clear hm
  go_enter Tryz.func5, Tryz.ntmps5
  go_wp2_with fail
  refine (unhide WK).mono ?_
  rintro e w1 ⟨rfl, hk1⟩
  have HK1 := hide ((unhide HK0).trans hk1 (by simp))
  have HB1 := hide ((unhide HB0).kp hk1 (by simp))
  have p0 := (unhide HB1).cell (i := 0) (v := .slice sa nn sc) rfl
  have p1 := (unhide HB1).cell (i := 1) (v := .int .i64 wi) rfl
  have ND1 := hide (unhide ND w1 (unhide HK1))
  clear WK ND HK0 HB0 hk1
  go_wp2_with fail
  refine (unhide ND1).mono ?_
  rintro e w2 ⟨v, rfl, hov, hk2⟩
  have HK2 := hide (((unhide HK1).trans hk2 (by simp)).trans (Kp.alloc w2 (.cells #[v] 41)) (by simp))
  have HB2 := hide (((unhide HB1).kp hk2 (by simp)).kp (Kp.alloc w2 (.cells #[v] 41)) (by simp))
  have HO2 := hide ((hov.kp (Kp.alloc w2 (.cells #[v] 41))).base (Nat.zero_le _))
  have hc2 := (CBox.new w2 #[v] 41).cell (i := 0) (v := v) rfl
  have hpb : w.heap.size < w2.heap.size := by have := (unhide HK1).size; have := (Array.getElem?_eq_some_iff.1 ((unhide HB1).kp hk2 (by simp))).1; omega
  clear ND1 hov hk2 HK1 HB1 p0 p1
  by_cases h0 : R = 0
  · subst h0
    obtain ⟨h32, RC, hin, hrb, hck, hbg, hst⟩ := unhide ALL rfl
    have hne : LL ≠ [] := fun e => by have := (hin BG1).2 hrb; rw [e] at this; cases this
    obtain ⟨g, cp, hv⟩ : ∃ g cp, v = .slice (some ⟨g, 0, none⟩) LL.length cp := by
      rcases (unhide HO2).at with ⟨_, e⟩ | ⟨g, cp, e, _⟩
      · exact absurd e hne
      · exact ⟨g, cp, e⟩
    subst hv
    have HIN := hide hin
    have HRB := hide hrb
    have HCK := hide hck
    have HBG := hide hbg
    have HST := hide hst
    have HLL := hide h32
    obtain ⟨ga, hga⟩ : ∃ ga, w2.heap.size = ga := ⟨_, rfl⟩
    rw [hga] at hc2 hpb
    obtain ⟨N, hN⟩ : ∃ N, LL.length = N := ⟨_, rfl⟩
    have HLN := hide hN
    have HRI : Hid (RowIn (w2.alloc (.cells #[.slice (some ⟨g, 0, none⟩) LL.length cp] 41)) ga g cp LL) := hide ⟨hc2, unhide HO2⟩
    rw [hN] at hc2 HK2 HB2 HO2 HRI h32 ⊢
    have p0 := (unhide HB2).cell (i := 0) (v := .slice sa nn sc) rfl
    have p1 := (unhide HB2).cell (i := 1) (v := .int .i64 wi) rfl
    clear ALL HE0 hin hrb hck hbg hst hne HO2 hN
    go_wp2_with fail
    generalize w2.alloc (.cells #[.slice (some ⟨g, 0, none⟩) N cp] 41) = V at *
    clear hga
    have HV : Hid (∀ W, Kp [] V W → (W.cell? ⟨w.heap.size, 0, none⟩ = some (.slice sa nn sc) ∧ W.cell? ⟨w.heap.size, 1, none⟩ = some (.int .i64 wi) ∧ W.cell? ⟨ga, 0, none⟩ = some (.slice (some ⟨g, 0, none⟩) N cp)) ∧ Hid (Kp [] w W ∧ RowIn W ga g cp LL)) := hide (fun W hk => ⟨⟨hk.cell p0 (by simp), hk.cell p1 (by simp), hk.cell hc2 (by simp)⟩, hide ⟨(unhide HK2).trans hk (by simp), (unhide HRI).kp hk⟩⟩)
    clear p0 p1 hc2 HK2 HB2 HRI
    go_loopw [28] (fun i wr => ∃ k : Nat, k ≤ N ∧ i = .int .i64 (k : Int) ∧ Hid (Kp [] V wr)) (fun i _ => N - (intOf i).toNat)
    case atStart => exact ⟨0, Nat.zero_le _, rfl, hide (Kp.refl _ _)⟩
    case round =>
      obtain ⟨k, hk, rfl, HK⟩ := hrel
      by_cases hlt : k < N
      · have hkl : k < LL.length := by rw [unhide HLN]; exact hlt
        have hli : (k : Int) < (N : Int) := by omega
        have hrc := (unhide HIN LL[k]).1 (List.getElem_mem hkl)
        have hVk := unhide HV wr (unhide HK)
        obtain ⟨x0, x1, x2⟩ := (unhide hVk.2).2.r.get k hkl
        obtain ⟨⟨d0, d1, d2⟩, -⟩ := hVk
        have CK1 := hide (fun W (hk : Kp [] wr W) => unhide HCK LL[k] hrc W ((unhide (unhide HV wr (unhide HK)).2).1.trans hk (by simp)))
        generalize LL[k] = X at *
        have HSK : Hid (∀ W, Kp [] wr W → W.cell? ⟨w.heap.size, 0, none⟩ = some (.slice sa nn sc) ∧ W.cell? ⟨w.heap.size, 1, none⟩ = some (.int .i64 wi) ∧ W.cell? ⟨ga, 0, none⟩ = some (.slice (some ⟨g, 0, none⟩) N cp) ∧ W.cell? ⟨g, k * 3, none⟩ = some (.int .i64 X.st) ∧ W.cell? ⟨g, k * 3 + 1, none⟩ = some (.bool X.lp) ∧ W.cell? ⟨g, k * 3 + 2, none⟩ = some (.bool X.tk)) := hide (fun W hk => ⟨hk.cell d0 (by simp), hk.cell d1 (by simp), hk.cell d2 (by simp), hk.cell x0 (by simp), hk.cell x1 (by simp), hk.cell x2 (by simp)⟩)
        have HK0 : Hid (Kp [] wr wr.drew) := hide (Kp.drew wr)
        unfold Nd.c at CK1
        clear d0 d1 d2 x0 x1 x2 hrc HIN HRB HCK HBG HST HLL HV HE
        go_wp2_with fail
        go_region_held3 (fun W => W.cell? ⟨w.heap.size, 0, none⟩ = some (.slice sa nn sc) ∧ W.cell? ⟨w.heap.size, 1, none⟩ = some (.int .i64 wi) ∧ W.cell? ⟨ga, 0, none⟩ = some (.slice (some ⟨g, 0, none⟩) N cp) ∧ W.cell? ⟨g, k * 3, none⟩ = some (.int .i64 X.st) ∧ W.cell? ⟨g, k * 3 + 1, none⟩ = some (.bool X.lp) ∧ W.cell? ⟨g, k * 3 + 2, none⟩ = some (.bool X.tk))
          (first | exact unhide HSK _ (unhide (by with_reducible assumption)))
          (first | (go_at_call 14; (refine (unhide CK1 _ (unhide HK0)).mono ?_); rintro r z1 ⟨rfl, hz1⟩; have HK1 := hide ((unhide HK0).trans hz1 (by simp)); clear hz1))
        go_wp2_with fail
        go_roundw
        case rel => exact ⟨k + 1, by omega, by go_num, hide ((unhide HK).trans (unhide HK1) (by simp))⟩
        case measure => simp [intOf]; omega
      · obtain ⟨⟨d0, d1, d2⟩, HW⟩ := unhide HV wr (unhide HK)
        have BG := hide (unhide HBG wr (unhide HW).1)
        have HHS : Hid (∀ x, RC x = true → ∀ W, Kp [] V W → Calls Tryz.prog 20 #[.agg x.c, .pointer (some ⟨ga, 0, none⟩)] W fun e w' => e = .returned (.bool true) ∧ Kp [] W w') := hide (fun x hx W hk => has_any x ga g cp LL W (unhide (unhide HV W hk).2).2 ((unhide HIN x).2 hx) (by have := unhide HLL; omega))
        have hnl : ((k : Int) < (N : Int)) = False := by simp; omega
        clear HCK HBG HIN
        go_wp2_with fail
        refine (unhide BG).mono ?_
        rintro e w3 ⟨rfl, hk3⟩
        have HKV := hide ((unhide HK).trans hk3 (by simp))
        have HKA := hide ((unhide HKV).trans (Kp.alloc w3 (.cells BG1.c 26)) (by simp))
        have HNB := hide (CBox.new w3 BG1.c 26)
        obtain ⟨gn, hgn⟩ : ∃ gn, w3.heap.size = gn := ⟨_, rfl⟩
        rw [hgn] at HNB
        have hgV : V.heap.size ≤ gn := by have := (unhide HKV).size; omega
        have HH1 := hide (unhide HHS BG1 (unhide HRB) _ (unhide HKA))
        have n0 := (unhide HNB).cell (i := 0) (v := .int .i64 BG1.st) rfl
        have n1 := (unhide HNB).cell (i := 1) (v := .bool BG1.lp) rfl
        have n2 := (unhide HNB).cell (i := 2) (v := .bool BG1.tk) rfl
        have HNC : Hid (BG1.c = #[.int .i64 BG1.st, .bool BG1.lp, .bool BG1.tk]) := hide rfl
        rw [unhide HNC] at HKA HNB HH1 n0 n1 n2 ⊢
        clear BG hk3 HKV HW d0 d1 d2 HK
        go_wp2_with fail
        refine (unhide HH1).mono ?_
        rintro e w4 ⟨rfl, hk4⟩
        have HK4 := hide ((unhide HKA).trans hk4 (by simp))
        have HN4 := hide ((unhide HNB).kp hk4 (by simp))
        clear HH1 HKA HNB n0 n1 n2 hk4
        go_wp2_with fail
        clear hgn
        go_loopw [10] (fun i wr => ∃ (k : Nat) (x : Nd), k ≤ m ∧ k ≤ 60 ∧ i = .int .i64 (k : Int) ∧ Hid (Kp [] V wr ∧ CBox gn x.c 26 wr) ∧ Hid (RC x = true)) (fun i _ => 60 - (intOf i).toNat)
        case atStart => exact ⟨0, BG1, Nat.zero_le _, Nat.zero_le _, rfl, hide ⟨unhide HK4, unhide HN4⟩, HRB⟩
        case round =>
          obtain ⟨k, x, hk, hk60, rfl, HB, HX⟩ := hrel
          clear HK4 HN4 HRB HNC
          by_cases hlt : k < m
          · have hli : (k : Int) < (m : Int) := by omega
            by_cases h60 : k < 60
            · have h6 : (k : Int) < 60 := by omega
              obtain ⟨b, off, rfl, hbl, hce⟩ := (unhide HE).got k (by rw [unhide HM]; exact hlt)
              obtain ⟨⟨d0, d1, -⟩, HWr⟩ := unhide HV wr (unhide HB).1
              have q := hce _ (unhide HWr).1
              have hbw : b < V.heap.size ∧ b ≠ gn := ⟨Nat.lt_of_lt_of_le hbl (by have := (unhide (unhide HV V (Kp.refl _ _)).2).1.size; omega), by have := (unhide (unhide HV V (Kp.refl _ _)).2).1.size; omega⟩
              generalize ev[k]'(by rw [unhide HM]; exact hlt) = E at *
              have ST1 := hide (fun lo ta W (hk : Kp [] wr W) => unhide HST x (unhide HX) lo ta W ((unhide HWr).1.trans hk (by simp)))
              obtain ⟨xs, xl, xt⟩ := x
              have hnb := (unhide HB).2
              unfold Nd.c at hnb ST1
              dsimp only at hnb ST1
              have d2 := hnb.cell (i := 0) (v := .int .i64 xs) rfl
              have d3 := hnb.cell (i := 1) (v := .bool xl) rfl
              have d4 := hnb.cell (i := 2) (v := .bool xt) rfl
              have HSK : Hid (∀ W, Kp [] wr W → W.cell? ⟨w.heap.size, 0, none⟩ = some (.slice sa nn sc) ∧ W.cell? ⟨w.heap.size, 1, none⟩ = some (.int .i64 wi) ∧ W.cell? ⟨gn, 0, none⟩ = some (.int .i64 xs) ∧ W.cell? ⟨gn, 1, none⟩ = some (.bool xl) ∧ W.cell? ⟨gn, 2, none⟩ = some (.bool xt) ∧ W.cell? ⟨b, off + k, none⟩ = some (.int .i64 E)) := hide (fun W hk => ⟨hk.cell d0 (by simp), hk.cell d1 (by simp), hk.cell d2 (by simp), hk.cell d3 (by simp), hk.cell d4 (by simp), hk.cell q (by simp)⟩)
              have HST0 : Hid (∀ W, Kp [] wr W → Kp [] V W ∧ CBox gn #[.int .i64 xs, .bool xl, .bool xt] 26 W ∧ W.cell? ⟨b, off + k, none⟩ = some (.int .i64 E)) := hide (fun W hk => ⟨(unhide HB).1.trans hk (by simp), hnb.kp hk (by simp), hk.cell q (by simp)⟩)
              have hB2 : b < wr.heap.size := World.block_lt_of_cell? _ _ q
              have HK0 : Hid (Kp [] wr wr.drew) := hide (Kp.drew wr)
              have HKA : Hid (Kp [] wr (wr.alloc (.cells #[.int .i64 0, .bool false, .bool false, .int .i64 0, .bool false, .bool false, .int .i64 0, .bool false, .bool false, .bool false, .bool false, .bool false] 29)).drew) := hide ((Kp.alloc _ _).trans (Kp.drew _) (by simp))
              have HZB : Hid (CBox wr.heap.size zS.c 29 (wr.alloc (.cells #[.int .i64 0, .bool false, .bool false, .int .i64 0, .bool false, .bool false, .int .i64 0, .bool false, .bool false, .bool false, .bool false, .bool false] 29)).drew) := hide ((CBox.new wr zS.c 29).kp (Kp.drew _) (by simp))
              clear d0 d1 d2 d3 d4 q hce hnb HB HWr HX
              go_upto_region 19 with fail
              go_cut [11, 12] (fun v8 v9 wc => ∃ (gx : Nat) (Y : Sps), v8 = .pointer (some ⟨gx, 0, none⟩) ∧ v9 = .int .i64 0 ∧ Hid (Kp [] V wc ∧ CBox gn #[.int .i64 xs, .bool xl, .bool xt] 26 wc ∧ CBox gx Y.c 29 wc ∧ wc.cell? ⟨b, off + k, none⟩ = some (.int .i64 E)) ∧ Hid ((Y.cl = true → RC Y.lp = true) ∧ (Y.ct = true → RC Y.tk = true) ∧ (Y.cw = true → RC Y.wt = true)))
              case first =>
                clear HHS HV HE HST
                go_region_held3 (fun W => W.cell? ⟨w.heap.size, 0, none⟩ = some (.slice sa nn sc) ∧ W.cell? ⟨w.heap.size, 1, none⟩ = some (.int .i64 wi) ∧ W.cell? ⟨gn, 0, none⟩ = some (.int .i64 xs) ∧ W.cell? ⟨gn, 1, none⟩ = some (.bool xl) ∧ W.cell? ⟨gn, 2, none⟩ = some (.bool xt) ∧ W.cell? ⟨b, off + k, none⟩ = some (.int .i64 E))
                  (first | exact unhide HSK _ (unhide (by with_reducible assumption)))
                  (first
                    | (go_at_call 8; (with_reducible refine (unhide ST1 _ _ _ (unhide HKA)).mono ?_); rintro r z3 ⟨Y, rfl, hk3, HY⟩; have HK3 := hide ((unhide HKA).trans hk3 (by simp)); have hzb := (unhide HZB).kp hk3 (by simp); obtain ⟨⟨z0, z1, z2, z3', z4, z5, z6, z7, z8, z9, z10, z11⟩, f0, f1, f2, f3, f4, f5, f6, f7, f8, f9, f10, f11⟩ := zs_cells hzb; have HK5 := hide (steps_put (unhide HK3) hzb (Nat.le_refl _) Y).2; have HEND := hide (And.intro (unhide HST0 _ (unhide HK5)).1 (And.intro (unhide HST0 _ (unhide HK5)).2.1 (And.intro (steps_put (unhide HK3) hzb (Nat.le_refl _) Y).1 (unhide HST0 _ (unhide HK5)).2.2))); unfold putS at HK5 HEND; unfold Sps.c; clear hk3 hzb)
                    | (go_at_call 8; (with_reducible refine (unhide ST1 _ _ _ (unhide HK0)).mono ?_); rintro r z3 ⟨Y, rfl, hk3, HY⟩; have HK3 := hide ((unhide HK0).trans hk3 (by simp)); have HK4 := hide ((unhide HK3).trans (Kp.alloc z3 (.cells zS.c 29)) (by simp)); have HK5 := hide ((unhide HK3).trans (Kp.alloc z3 (.cells Y.c 29)) (by simp)); have HEND := hide (And.intro (unhide HST0 _ (unhide HK5)).1 (And.intro (unhide HST0 _ (unhide HK5)).2.1 (And.intro (CBox.new z3 Y.c 29) (unhide HST0 _ (unhide HK5)).2.2))); unfold zS zN Sps.c at HK4; unfold Sps.c at HK5; unfold Sps.c; dsimp only at HK4 HK5; clear hk3))
                all_goals (go_wp2; go_meet; exact ⟨_, Y, rfl, rfl, HEND, HY⟩)
              case rest =>
              obtain ⟨gx, Y, rfl, rfl, HQ, HY⟩ := hcut
              clear HSK HST0 HK0 HKA HZB ST1 hB2
              have hYB := (unhide HQ).2.2.1
              have hgx : gx < wc.heap.size := (Array.getElem?_eq_some_iff.1 hYB).1
              have HYC : Hid (∀ W, Kp [] wc W → W.cell? ⟨gx, 0, none⟩ = some (.int .i64 Y.lp.st) ∧ W.cell? ⟨gx, 1, none⟩ = some (.bool Y.lp.lp) ∧ W.cell? ⟨gx, 2, none⟩ = some (.bool Y.lp.tk) ∧ W.cell? ⟨gx, 3, none⟩ = some (.int .i64 Y.tk.st) ∧ W.cell? ⟨gx, 4, none⟩ = some (.bool Y.tk.lp) ∧ W.cell? ⟨gx, 5, none⟩ = some (.bool Y.tk.tk) ∧ W.cell? ⟨gx, 6, none⟩ = some (.int .i64 Y.wt.st) ∧ W.cell? ⟨gx, 7, none⟩ = some (.bool Y.wt.lp) ∧ W.cell? ⟨gx, 8, none⟩ = some (.bool Y.wt.tk) ∧ W.cell? ⟨gx, 9, none⟩ = some (.bool Y.cl) ∧ W.cell? ⟨gx, 10, none⟩ = some (.bool Y.ct) ∧ W.cell? ⟨gx, 11, none⟩ = some (.bool Y.cw)) := hide (fun W hk => st12_cells (hYB.kp hk (by simp)))
              have HQK : Hid (∀ W, Kp [] wc W → (Kp [] V W ∧ CBox gn #[.int .i64 xs, .bool xl, .bool xt] 26 W ∧ CBox gx Y.c 29 W ∧ W.cell? ⟨b, off + k, none⟩ = some (.int .i64 E))) := hide (fun W hk => ⟨(unhide HQ).1.trans hk (by simp), (unhide HQ).2.1.kp hk (by simp), hYB.kp hk (by simp), hk.cell (unhide HQ).2.2.2 (by simp)⟩)
              have HHcl : Hid (Y.cl = true → ∀ W, Kp [] wc W → Calls Tryz.prog 20 #[.agg #[.int .i64 Y.lp.st, .bool Y.lp.lp, .bool Y.lp.tk], .pointer (some ⟨ga, 0, none⟩)] W fun e w' => e = .returned (.bool true) ∧ Kp [] W w') := hide (fun e W hk => unhide HHS Y.lp ((unhide HY).1 e) W ((unhide HQ).1.trans hk (by simp)))
              have HHct : Hid (Y.ct = true → ∀ W, Kp [] wc W → Calls Tryz.prog 20 #[.agg #[.int .i64 Y.tk.st, .bool Y.tk.lp, .bool Y.tk.tk], .pointer (some ⟨ga, 0, none⟩)] W fun e w' => e = .returned (.bool true) ∧ Kp [] W w') := hide (fun e W hk => unhide HHS Y.tk ((unhide HY).2.1 e) W ((unhide HQ).1.trans hk (by simp)))
              have HHcw : Hid (Y.cw = true → ∀ W, Kp [] wc W → Calls Tryz.prog 20 #[.agg #[.int .i64 Y.wt.st, .bool Y.wt.lp, .bool Y.wt.tk], .pointer (some ⟨ga, 0, none⟩)] W fun e w' => e = .returned (.bool true) ∧ Kp [] W w') := hide (fun e W hk => unhide HHS Y.wt ((unhide HY).2.2 e) W ((unhide HQ).1.trans hk (by simp)))
              obtain ⟨y0, y1, y2, y3, y4, y5, y6, y7, y8, y9, y10, y11⟩ := unhide HYC wc (Kp.refl _ _)
              go_upto_region 20 with fail
              go_cut [115] (fun v wc => v = .bool false ∧ Hid (Kp [] V wc ∧ CBox gn #[.int .i64 xs, .bool xl, .bool xt] 26 wc ∧ CBox gx Y.c 29 wc ∧ wc.cell? ⟨b, off + k, none⟩ = some (.int .i64 E)))
              case first =>
                clear HHS HV HE HST hYB HQ HY
                obtain ⟨lp, tk, wt, CL, CT, CW⟩ := Y
                dsimp only at y0 y1 y2 y3 y4 y5 y6 y7 y8 y9 y10 y11 HHcl HHct HHcw HYC
                cases CL <;> cases CT <;> cases CW
                · as_aux_lemma =>
                  go_wp2
                  go_meet
                  exact ⟨rfl, hide (unhide HQK _ (Kp.refl _ _))⟩
                · as_aux_lemma =>
                  go_wp2_with fail
                  refine (unhide HHcw (by trivial) _ (Kp.refl _ _)).mono ?_
                  rintro e z1 ⟨rfl, hz1⟩
                  have HZ1 := hide hz1
                  obtain ⟨y0, y1, y2, y3, y4, y5, y6, y7, y8, y9, y10, y11⟩ := unhide HYC _ (unhide HZ1)
                  clear hz1
                  go_wp2
                  go_meet
                  exact ⟨rfl, hide (unhide HQK _ (unhide HZ1))⟩
                · as_aux_lemma =>
                  go_wp2_with fail
                  refine (unhide HHct (by trivial) _ (Kp.refl _ _)).mono ?_
                  rintro e z1 ⟨rfl, hz1⟩
                  have HZ1 := hide hz1
                  obtain ⟨y0, y1, y2, y3, y4, y5, y6, y7, y8, y9, y10, y11⟩ := unhide HYC _ (unhide HZ1)
                  clear hz1
                  go_wp2
                  go_meet
                  exact ⟨rfl, hide (unhide HQK _ (unhide HZ1))⟩
                · as_aux_lemma =>
                  go_wp2_with fail
                  refine (unhide HHct (by trivial) _ (Kp.refl _ _)).mono ?_
                  rintro e z1 ⟨rfl, hz1⟩
                  have HZ1 := hide hz1
                  obtain ⟨y0, y1, y2, y3, y4, y5, y6, y7, y8, y9, y10, y11⟩ := unhide HYC _ (unhide HZ1)
                  clear hz1
                  go_wp2_with fail
                  refine (unhide HHcw (by trivial) _ (unhide HZ1)).mono ?_
                  rintro e z2 ⟨rfl, hz2⟩
                  have HZ2 := hide ((unhide HZ1).trans hz2 (by simp))
                  obtain ⟨y0, y1, y2, y3, y4, y5, y6, y7, y8, y9, y10, y11⟩ := unhide HYC _ (unhide HZ2)
                  clear hz2
                  go_wp2
                  go_meet
                  exact ⟨rfl, hide (unhide HQK _ (unhide HZ2))⟩
                · as_aux_lemma =>
                  go_wp2_with fail
                  refine (unhide HHcl (by trivial) _ (Kp.refl _ _)).mono ?_
                  rintro e z1 ⟨rfl, hz1⟩
                  have HZ1 := hide hz1
                  obtain ⟨y0, y1, y2, y3, y4, y5, y6, y7, y8, y9, y10, y11⟩ := unhide HYC _ (unhide HZ1)
                  clear hz1
                  go_wp2
                  go_meet
                  exact ⟨rfl, hide (unhide HQK _ (unhide HZ1))⟩
                · as_aux_lemma =>
                  go_wp2_with fail
                  refine (unhide HHcl (by trivial) _ (Kp.refl _ _)).mono ?_
                  rintro e z1 ⟨rfl, hz1⟩
                  have HZ1 := hide hz1
                  obtain ⟨y0, y1, y2, y3, y4, y5, y6, y7, y8, y9, y10, y11⟩ := unhide HYC _ (unhide HZ1)
                  clear hz1
                  go_wp2_with fail
                  refine (unhide HHcw (by trivial) _ (unhide HZ1)).mono ?_
                  rintro e z2 ⟨rfl, hz2⟩
                  have HZ2 := hide ((unhide HZ1).trans hz2 (by simp))
                  obtain ⟨y0, y1, y2, y3, y4, y5, y6, y7, y8, y9, y10, y11⟩ := unhide HYC _ (unhide HZ2)
                  clear hz2
                  go_wp2
                  go_meet
                  exact ⟨rfl, hide (unhide HQK _ (unhide HZ2))⟩
                · as_aux_lemma =>
                  go_wp2_with fail
                  refine (unhide HHcl (by trivial) _ (Kp.refl _ _)).mono ?_
                  rintro e z1 ⟨rfl, hz1⟩
                  have HZ1 := hide hz1
                  obtain ⟨y0, y1, y2, y3, y4, y5, y6, y7, y8, y9, y10, y11⟩ := unhide HYC _ (unhide HZ1)
                  clear hz1
                  go_wp2_with fail
                  refine (unhide HHct (by trivial) _ (unhide HZ1)).mono ?_
                  rintro e z2 ⟨rfl, hz2⟩
                  have HZ2 := hide ((unhide HZ1).trans hz2 (by simp))
                  obtain ⟨y0, y1, y2, y3, y4, y5, y6, y7, y8, y9, y10, y11⟩ := unhide HYC _ (unhide HZ2)
                  clear hz2
                  go_wp2
                  go_meet
                  exact ⟨rfl, hide (unhide HQK _ (unhide HZ2))⟩
                · as_aux_lemma =>
                  go_wp2_with fail
                  refine (unhide HHcl (by trivial) _ (Kp.refl _ _)).mono ?_
                  rintro e z1 ⟨rfl, hz1⟩
                  have HZ1 := hide hz1
                  obtain ⟨y0, y1, y2, y3, y4, y5, y6, y7, y8, y9, y10, y11⟩ := unhide HYC _ (unhide HZ1)
                  clear hz1
                  go_wp2_with fail
                  refine (unhide HHct (by trivial) _ (unhide HZ1)).mono ?_
                  rintro e z2 ⟨rfl, hz2⟩
                  have HZ2 := hide ((unhide HZ1).trans hz2 (by simp))
                  obtain ⟨y0, y1, y2, y3, y4, y5, y6, y7, y8, y9, y10, y11⟩ := unhide HYC _ (unhide HZ2)
                  clear hz2
                  go_wp2_with fail
                  refine (unhide HHcw (by trivial) _ (unhide HZ2)).mono ?_
                  rintro e z3 ⟨rfl, hz3⟩
                  have HZ3 := hide ((unhide HZ2).trans hz3 (by simp))
                  obtain ⟨y0, y1, y2, y3, y4, y5, y6, y7, y8, y9, y10, y11⟩ := unhide HYC _ (unhide HZ3)
                  clear hz3
                  go_wp2
                  go_meet
                  exact ⟨rfl, hide (unhide HQK _ (unhide HZ3))⟩
              case rest =>
              obtain ⟨rfl, HQ2⟩ := hcut
              clear HQ HQK HYC HHcl HHct HHcw hYB y0 y1 y2 y3 y4 y5 y6 y7 y8 y9 y10 y11
              obtain ⟨qk, qn, qy, qe⟩ := unhide HQ2
              obtain ⟨y0, y1, y2, y3, y4, y5, y6, y7, y8, y9, y10, y11⟩ := st12_cells qy
              have hgx2 : gx < wc.heap.size := (Array.getElem?_eq_some_iff.1 qy).1
              have hgn2 : gn < wc.heap.size := (Array.getElem?_eq_some_iff.1 qn).1
              have hbw2 : b < wc.heap.size := World.block_lt_of_cell? _ _ qe
              have n0 := qn.cell (i := 0) (v := .int .i64 xs) rfl
              have n1 := qn.cell (i := 1) (v := .bool xl) rfl
              have n2 := qn.cell (i := 2) (v := .bool xt) rfl
              have f0 := qn.froz 0
              have f1 := qn.froz 1
              have f2 := qn.froz 2
              have HNX : Hid (∀ x : Nd, RC x = true → Hid (Kp [] V (((wc.setCell ⟨gn, 0, none⟩ (.int .i64 x.st)).setCell ⟨gn, 1, none⟩ (.bool x.lp)).setCell ⟨gn, 2, none⟩ (.bool x.tk)) ∧ CBox gn x.c 26 (((wc.setCell ⟨gn, 0, none⟩ (.int .i64 x.st)).setCell ⟨gn, 1, none⟩ (.bool x.lp)).setCell ⟨gn, 2, none⟩ (.bool x.tk))) ∧ Hid (RC x = true)) := hide (fun x hx => ⟨hide ⟨qk.trans (Kp.set3 wc gn _ _ _) (fun y hy => Or.inr (by simp only [List.mem_singleton] at hy; omega)), qn.set3 _ _ _⟩, hide hx⟩)
              have HRY := HY
              have HW := hide (unhide (unhide HV wc qk).2).1
              clear HHS HV HE HST HQ2 qk qn qy HY
              have HR1 : Hid (Y.cl = true → RC Y.lp = true) := hide (unhide HRY).1
              have HR2 : Hid (Y.ct = true → RC Y.tk = true) := hide (unhide HRY).2.1
              have HR3 : Hid (Y.cw = true → RC Y.wt = true) := hide (unhide HRY).2.2
              generalize Y.lp = LP at *
              generalize Y.tk = TK at *
              generalize Y.wt = WT at *
              generalize Y.cl = CL at *
              generalize Y.ct = CT at *
              generalize Y.cw = CW at *
              clear HRY
              go_upto_region 23 with fail
              go_cut [116] (fun v wc' => ∃ c : Bool, v = .bool c ∧ (c = true → CT = true) ∧ wc' = wc)
              case first =>
                clear HNX HR1 HR2 HR3 HW
                cases CT with
                | true => (as_aux_lemma => (go_wp2; go_meet; exact ⟨_, rfl, by first | trivial | simp, rfl⟩))
                | false => (as_aux_lemma => (go_wp2; go_meet; exact ⟨false, rfl, by first | trivial | simp, rfl⟩))
              case rest =>
              obtain ⟨c1, rfl, hc1, hwc⟩ := hcut
              subst hwc
              have HC1 := hide hc1
              clear hc1
              cases c1 with
              | true =>
                have hx := unhide HR2 (unhide HC1 rfl)
                have HA := (unhide HNX TK hx).1
                have HB9 := (unhide HNX TK hx).2
                clear hx HNX HR1 HR2 HR3 HW
                as_aux_lemma =>
                  go_wp2_with fail
                  go_roundw
                  case rel => exact ⟨k + 1, TK, by omega, by omega, by go_num, HA, HB9⟩
                  case measure => simp [intOf]; omega
              | false =>
                clear HC1
                go_upto_region 25 with fail
                go_cut [130] (fun v wc' => ∃ c : Bool, v = .bool c ∧ (c = true → CL = true) ∧ wc' = wc)
                case first =>
                  clear HNX HR1 HR2 HR3 HW
                  cases CL with
                  | true => (as_aux_lemma => (go_wp2; go_meet; exact ⟨_, rfl, by first | trivial | simp, rfl⟩))
                  | false => (as_aux_lemma => (go_wp2; go_meet; exact ⟨false, rfl, by first | trivial | simp, rfl⟩))
                case rest =>
                obtain ⟨c2, rfl, hc2, hwc⟩ := hcut
                subst hwc
                have HC2 := hide hc2
                clear hc2
                cases c2 with
                | true =>
                  have hx := unhide HR1 (unhide HC2 rfl)
                  have HA := (unhide HNX LP hx).1
                  have HB9 := (unhide HNX LP hx).2
                  clear hx HNX HR1 HR2 HR3 HW
                  as_aux_lemma =>
                    go_wp2_with fail
                    go_roundw
                    case rel => exact ⟨k + 1, LP, by omega, by omega, by go_num, HA, HB9⟩
                    case measure => simp [intOf]; omega
                | false =>
                  clear HC2
                  cases CW with
                  | true =>
                    have hx := unhide HR3 (rfl)
                    have HA := (unhide HNX WT hx).1
                    have HB9 := (unhide HNX WT hx).2
                    clear hx HNX HR1 HR2 HR3 HW
                    as_aux_lemma =>
                      go_wp2_with fail
                      go_roundw
                      case rel => exact ⟨k + 1, WT, by omega, by omega, by go_num, HA, HB9⟩
                      case measure => simp [intOf]; omega
                  | false =>
                    clear HNX HR1 HR2 HR3
                    as_aux_lemma =>
                      go_wp2
                      go_ret
                      exact ⟨rfl, unhide HW⟩
            · have h6 : ((k : Int) < 60) = False := by simp; omega
              have HW := hide (unhide (unhide HV wr (unhide HB).1).2).1
              clear HB HX HST HE HHS HV
              go_wp2
              go_ret
              exact ⟨rfl, unhide HW⟩
          · have hli : ((k : Int) < (m : Int)) = False := by simp; omega
            have HW := hide (unhide (unhide HV wr (unhide HB).1).2).1
            clear HB HX HST HE HHS HV
            go_wp2
            go_ret
            exact ⟨rfl, unhide HW⟩
  · have hLL := unhide HE0 h0
    have g : (R != 0) = true := by simp [h0]
    have hv : ∃ a c, v = .slice a 0 c := by
      rcases (unhide HO2).at with ⟨e, _⟩ | ⟨g, cp, e, _⟩
      · exact ⟨_, _, e⟩
      · rw [hLL] at e; exact ⟨_, _, e⟩
    obtain ⟨a, c, rfl⟩ := hv
    have HW := hide (unhide HK2)
    clear ALL HE0 HO2 hLL h0
    go_wp2
    go_ret
    exact ⟨rfl, unhide HW⟩
end Go.Proofs.YtjijhefmbmdbeaaGreatDoor
