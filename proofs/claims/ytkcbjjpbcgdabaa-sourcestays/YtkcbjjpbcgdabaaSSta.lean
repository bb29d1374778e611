/-
  SourceStays: the walk.
-/
import Derived.Test.YtkcbjjpbcgdabaaSSt1
namespace Go.Proofs.Ytkcbjjpbcgdabaa
open Go.RowKit

set_option maxHeartbeats 8000000 in
set_option maxRecDepth 100000 in
theorem stays_walk (parts : Int) (ad : Option Addr) (cap : Nat) (l : List Ev) (cut : Int) (w : World) (_hl : l.length ≤ 9223372036854775807) (hA : EvsAt w ad l) (hok : ∀ e ∈ l, e.ok) :
    Calls Try.prog 6 #[.int .i64 parts, .slice ad l.length cap, .int .i64 cut] w fun e w' => e = .returned (.bool true) ∧ Below w.heap.size w w' := by
  have WK := hide (soWorks_any w)
  have AM := hide (fun W => soAmong_any parts 8 W (by decide) (by decide))
  obtain ⟨n, hn, h1, h2⟩ : ∃ n : Nat, 1 + parts % 8 = (n : Int) ∧ 1 ≤ n ∧ n ≤ 8 := ⟨(1 + parts % 8).toNat, by omega, by omega, by omega⟩
  have NW := hide (fun W => snew_own n h1 (by omega) W)
  obtain ⟨h, hh, hle, hh50⟩ : ∃ h : Nat, (min (l.length : Int) 100).tdiv 2 = (h : Int) ∧ h ≤ l.length ∧ h ≤ 50 := ⟨min l.length 100 / 2, by
    rw [Int.tdiv_eq_ediv_of_nonneg (by omega)]
    omega, by omega, by omega⟩
  have HA := hide hA
  have HOK := hide hok
  have HST : Hid (∀ W1 W2 g, Kp [] w W1 → OwnSo W1 W2 g (soNew n) → OwnSo w W2 g (soNew n)) := hide (fun W1 W2 g hk ho => by
    obtain ⟨F, hd, hk2, hF⟩ := ho
    have hs := hk.size
    exact ⟨F, hd, hk.trans hk2 (by simp), fun k hkk => by have := hF k hkk; omega⟩)
  clear hA hok
  go_enter Try.func6, Try.ntmps6
  go_wp2_with fail
  refine (unhide WK).mono ?_
  rintro r w1 ⟨rfl, hk1⟩
  have HK1 := hide hk1
  clear hk1 WK
  go_wp2_with fail
  refine (unhide AM w1).mono ?_
  rintro r w2 ⟨rfl, rfl⟩
  go_wp2_with fail
  (try rw [hn])
  refine (unhide NW w2).mono ?_
  rintro r w3 ⟨g, rfl, ho⟩
  have HO3 := hide (unhide HST w2 w3 g (unhide HK1) ho)
  clear ho HST NW AM HK1
  go_wp2_with fail
  go_loopw [10] (fun i wr => ∃ (k : Nat) (ps : List (List Ev)), k ≤ h ∧ i = .int .i64 (k : Int) ∧ ps.length = n ∧ Hid (OwnSo w wr g ps)) (fun i _ => h - (intOf i).toNat)
  case atStart => exact ⟨0, _, Nat.zero_le _, rfl, soNew_len n, HO3⟩
  case round =>
    clear HO3
    obtain ⟨k, ps, hk, rfl, hps, HO⟩ := hrel
    by_cases hlt : k < h
    · have hli : (k : Int) < (l.length : Int) := by omega
      have hlh : (k : Int) < (h : Int) := by omega
      have hkl : k < l.length := by omega
      obtain ⟨b, off, rfl, x0, x1, x2, x3, x4, x5, x6⟩ := ((unhide HA).kp (unhide HO).bel (by simp)).seven k hkl
      have PU := hide ((unhide HO).put l[k] (unhide HOK _ (List.getElem_mem _)))
      have hpl := puS_len ps l[k]
      rw [hps] at hpl
      clear HA HOK HO
      generalize l[k] = y at *
      generalize puS ps y = PS at *
      generalize puA ps y = pa at *
      generalize puO ps y = po at *
      generalize puE ps y = pe at *
      obtain ⟨yk, yt, n0, n1, n2, n3, yx⟩ := y
      unfold Ev.c at PU
      dsimp only at x0 x1 x2 x3 x4 x5 x6 PU
      go_wp2_with fail
      refine (unhide PU).mono ?_
      rintro r w5 ⟨rfl, ho5⟩
      have HO5 := hide ho5
      clear ho5 PU x0 x1 x2 x3 x4 x5 x6
      go_wp2
      go_roundw
      case rel => exact ⟨k + 1, PS, by omega, by go_num, hpl, HO5⟩
      case measure => simp [intOf]; omega
    · obtain rfl : k = h := by omega
      have hkk : ¬ (k : Int) < (k : Int) := by omega
      have EN := hide ((unhide HO).ends)
      have hof := unhide HO
      go_wp2_with fail
      refine (unhide EN).mono ?_
      rintro r w5 ⟨rfl, hbe, ho5, hk5⟩
      have hS0 : StS w w5 g wr.heap.size (.slice none 0 0) [] ps ps [wr.heap.size] := by
        have hbel := hof.bel
        have hsz := hbel.size
        obtain ⟨F, hd, hk2, hF⟩ := ho5
        have hlt5 : wr.heap.size < w5.heap.size := (Array.getElem?_eq_some_iff.1 hbe).1
        refine ⟨⟨F, hd, fun k hk => ⟨hF k hk, ?_⟩⟩, hk2, World.ownsRow_nil _ _ _ _, by simp, hbe, by simp [Value.ownBlock], by simp, by simp, fun k hk => ?_⟩
        · intro hm
          simp at hm
          subst hm
          exact hd.no hbe (by decide) (by decide) (by decide) hk
        · simp at hk
          subst hk
          exact ⟨hsz, hlt5⟩
      have HS0 := hide hS0
      have hlim := hof.lim
      clear hS0 hbe ho5 hk5 EN HO hof
      rw [hps]
      go_wp2_with fail
      generalize wr.heap.size = BE at *
      have hlm : ∀ (j : Nat) (hj : j < ps.length), ps[j].length ≤ 4096 := fun j hj => hlim _ (List.getElem_mem _)
      have HLM := hide hlm
      obtain ⟨i0, hi0, hz0, hz1, hz2⟩ := info_parts info_events
      clear hlim hlm
      go_loopw [12, 61] (fun v i wx => ∃ (j : Nat) (xs : List Value) (X : List Nat), j ≤ n ∧ i = .int .i64 (j : Int) ∧ Hid (xs.length = j) ∧ Hid (StS w wx g BE v xs ps ps X)) (fun _ i _ => n - (intOf i).toNat)
      case atStart => exact ⟨0, [], _, Nat.zero_le _, rfl, hide rfl, HS0⟩
      case round =>
        clear HS0
        obtain ⟨j, xs, X, hj, rfl, HXL, HS⟩ := hrel
        by_cases hjn : j < n
        · have hji : (j : Int) < (n : Int) := by omega
          have hjp : j < ps.length := by omega
          have ce := (unhide HS).endCell j hjp
          have hm := unhide HLM j hjp
          obtain ⟨hE, hL⟩ := rd_some ps j hjp 0 ps[j].length (Nat.zero_le _)
          rw [List.drop_zero, List.take_of_length_le (Nat.le_refl _)] at hL
          have RD := (unhide HS).read (j : Int) ((0 : Nat) : Int) (ps[j].length : Int) (by unfold inW; omega) (by unfold inW; omega)
          rw [hE, hL] at RD
          have hec : ∀ W X', StS w W g BE u12 xs ps ps X' → W.cell? ⟨BE, j, none⟩ = some (.int .i64 ((ps[j].length : Nat) : Int)) := fun W X' hW => hW.endCell j hjp
          have hpq : ps[xs.length]? = some ps[j] := by rw [unhide HXL]; exact List.getElem?_eq_getElem hjp
          have HPQ := hide hpq
          have HEC := hide hec
          have hxl : xs.length ≤ 8 := by rw [unhide HXL]; omega
          have RD' := hide RD
          clear RD hE hL hpq hec HLM
          generalize ps[j] = pj at *
          clear hjp
          simp only [Int.ofNat_zero] at RD'
          go_wp2_with fail
          refine (unhide RD').mono ?_
          rintro r w6 ⟨ax, cx, X', rfl, hr6, hx6, hX6, hs6, _⟩
          have c6 := unhide HEC w6 X' hs6
          have hrow := hs6.row
          have HR6 := hide hr6
          have HX6 := hide hx6
          have HS6 := hide hs6
          clear hr6 hx6 hX6 hs6 RD' HEC HS ce
          go_wp2_with (at_builtin; refine wpList_append_lies _ rfl _ _ 63 rfl 0 51 i0 (.slice none 0 0) 1 24 Try.underlying63 hi0 hz0 hz1 hz2 rfl (by decide) u12 xs.length xs rfl (hrow.alloc _) ⟨w6.heap.size, 0, none⟩ 1 1 [.slice ax pj.length cx] rfl rfl (one_new _ _ _) (by intro u hu; simp at hu; subst hu; rfl) (by omega) (by unfold maxLen; omega) (by omega) (by simp) _ rfl ?_; intro g7 cap7 w7 hown7 hgrow7 hat7 hlt7; have HAT := hide hat7; clear hat7)
          have S7 := hide ((unhide HS6).push (unhide HR6) (unhide HX6) (unhide HPQ) hown7 hgrow7 (unhide HAT))
          clear hown7 hgrow7 HAT hlt7 HS6 HR6 HX6 HPQ hrow c6
          go_wp2
          go_roundw
          case rel => exact ⟨j + 1, _, _, by omega, by go_num, hide (by rw [List.length_append, unhide HXL]; rfl), S7⟩
          case measure => simp [intOf]; omega
        · obtain rfl : j = n := by omega
          have hnn : ¬ (j : Int) < (j : Int) := by omega
          have HXN := HXL
          obtain ⟨gv, cv, hv⟩ : ∃ gv cv, u12 = .slice (some ⟨gv, 0, none⟩) xs.length cv := by
            obtain ⟨_, ⟨_, h0⟩ | ⟨gv, cp, cur, e, _⟩⟩ := (unhide HS).row
            · have := unhide HXL; omega
            · exact ⟨gv, cp, e⟩
          rw [unhide HXL] at hv
          subst hv
          have HG0 := hide (Grew.refl ps)
          clear hi0 hz0 hz1 hz2
          go_wp2_with fail
          go_loopw [16] (fun i wx => ∃ (t : Nat) (ps2 : List (List Ev)), t ≤ l.length ∧ i = .int .i64 (t : Int) ∧ Hid (Grew ps ps2) ∧ Hid (StS w wx g BE (.slice (some ⟨gv, 0, none⟩) j cv) xs ps ps2 X)) (fun i _ => l.length - (intOf i).toNat)
          case atStart => exact ⟨k, ps, by omega, rfl, HG0, HS⟩
          case round =>
            clear HS HG0
            obtain ⟨t, ps2, ht, rfl, HG, HS⟩ := hrel
            by_cases htl : t < l.length ∧ t < 100
            · have hti : (t : Int) < (l.length : Int) := by omega
              have ht1 : (t : Int) < 100 := by omega
              obtain ⟨b, off, rfl, x0, x1, x2, x3, x4, x5, x6⟩ := ((unhide HA).kp (unhide HS).kp (by simp)).seven t htl.1
              have PU := hide ((unhide HS).put l[t] (unhide HOK _ (List.getElem_mem _)))
              have HG2 := hide ((unhide HG).put l[t])
              clear HA HOK HS HLM HG
              generalize l[t] = y at *
              generalize puS ps2 y = PS at *
              obtain ⟨yk, yt, n0, n1, n2, n3, yx⟩ := y
              unfold Ev.c at PU
              dsimp only at x0 x1 x2 x3 x4 x5 x6 PU
              go_wp2_with fail
              refine (unhide PU).mono ?_
              rintro r w5 ⟨⟨pa, po, pe, rfl⟩, ho5⟩
              have HO5 := hide ho5
              clear ho5 PU x0 x1 x2 x3 x4 x5 x6
              go_wp2
              go_roundw
              case rel => exact ⟨t + 1, PS, by omega, by go_num, HG2, HO5⟩
              case measure => simp [intOf]; omega
            · have hstop : (t : Int) < (l.length : Int) → (100 : Int) ≤ (t : Int) := fun h => by omega
              clear HA HOK
              by_cases htl2 : t < l.length
              · have hti : (t : Int) < (l.length : Int) := by omega
                have ht1 : ¬ (t : Int) < 100 := by omega
                clear hstop
                go_wp2_with fail
                go_loopw [108] (fun i wx => ∃ (c : Nat) (X2 : List Nat), c ≤ j ∧ i = .int .i64 (c : Int) ∧ Hid (StS w wx g BE (.slice (some ⟨gv, 0, none⟩) j cv) xs ps ps2 X2)) (fun i _ => j - (intOf i).toNat)
                case atStart => exact ⟨0, X, Nat.zero_le _, rfl, HS⟩
                case round =>
                  clear HS
                  obtain ⟨c, X2, hc, rfl, HS⟩ := hrel
                  by_cases hcj : c < j
                  · have hci : (c : Int) < (j : Int) := by omega
                    have hcp : c < ps.length := by omega
                    have hcq : c < ps2.length := by rw [← (unhide HG).1]; exact hcp
                    have hpre := (unhide HG).2 c _ _ (List.getElem?_eq_getElem hcp) (List.getElem?_eq_getElem hcq)
                    have hm := unhide HLM c hcp
                    have ce := (unhide HS).endCell c hcp
                    have hcx : c < xs.length := by rw [unhide HXN]; exact hcj
                    have hxrow := (unhide HS).inn c xs[c] ps[c] (List.getElem?_eq_getElem hcx) (List.getElem?_eq_getElem hcp)
                    obtain ⟨adx, cpx, hxv, _⟩ := hxrow.form
                    have hxc : ∀ W X', StS w W g BE (.slice (some ⟨gv, 0, none⟩) j cv) xs ps ps2 X' → W.cell? ⟨gv, c, none⟩ = some (.slice adx ps[c].length cpx) ∧ EvsAt W adx ps[c] ∧ W.cell? ⟨BE, c, none⟩ = some (.int .i64 ((ps[c].length : Nat) : Int)) := fun W X' hW => by
                      have h1 := hW.row
                      have h2 := hW.inn c xs[c] ps[c] (List.getElem?_eq_getElem hcx) (List.getElem?_eq_getElem hcp)
                      rw [hxv] at h2
                      refine ⟨?_, h2.evs, hW.endCell c hcp⟩
                      rw [← unhide HXN] at h1
                      rw [World.ownsRow.cellAt h1 c (by omega), List.getElem?_eq_getElem hcx, hxv]
                    obtain ⟨nn, hnn2, hnm⟩ : ∃ nn : Nat, cut % ((ps[c].length : Int) + 1) = (nn : Int) ∧ nn ≤ ps[c].length := ⟨(cut % ((ps[c].length : Int) + 1)).toNat, by
                      have := Int.emod_nonneg cut (show ((ps[c].length : Int) + 1) ≠ 0 by omega)
                      omega, by
                      have := Int.emod_lt_of_pos cut (show (0 : Int) < ((ps[c].length : Int) + 1) by omega)
                      omega⟩
                    have AM := hide (fun W => soAmong_any cut ((ps[c].length : Int) + 1) W (by omega) (by omega))
                    rw [hnn2] at AM
                    have hlq : ps[c].length ≤ ps2[c].length := hpre.length_le
                    obtain ⟨hE1, hL1⟩ := rd_some ps2 c hcq 0 nn (Nat.zero_le _)
                    obtain ⟨hE2, hL2⟩ := rd_some ps2 c hcq nn (ps[c].length - nn) (by omega)
                    have R1 := fun W X' (hW : StS w W g BE (.slice (some ⟨gv, 0, none⟩) j cv) xs ps ps2 X') => hW.read (c : Int) ((0 : Nat) : Int) (nn : Int) (by unfold inW; omega) (by unfold inW; omega)
                    have R2 := fun W X' (hW : StS w W g BE (.slice (some ⟨gv, 0, none⟩) j cv) xs ps ps2 X') => hW.read (c : Int) (nn : Int) ((ps[c].length - nn : Nat) : Int) (by unfold inW; omega) (by unfold inW; omega)
                    rw [hE1, hL1] at R1
                    rw [hE2, hL2] at R2
                    have hjoin := in_parts hpre nn hnm
                    have hcast : ((ps[c].length - nn : Nat) : Int) = (ps[c].length : Int) - (nn : Int) := by omega
                    rw [hcast] at R2
                    simp only [Int.ofNat_zero] at R1
                    have hla : ((ps2[c].drop 0).take nn).length ≤ 4096 := by rw [List.length_take]; omega
                    have hlb : ((ps2[c].drop nn).take (ps[c].length - nn)).length ≤ 4096 := by rw [List.length_take]; omega
                    have HR1 := hide R1
                    have HR2 := hide R2
                    have HXC := hide hxc
                    have HJ := hide hjoin
                    have HLA := hide hla
                    have HLB := hide hlb
                    clear R1 R2 hxc hjoin hla hlb hE1 hE2 hL1 hL2 hpre hxv hxrow hcast hlq hcx
                    generalize (ps2[c].drop 0).take nn = La at *
                    generalize (ps2[c].drop nn).take (ps[c].length - nn) = Lb at *
                    generalize ps[c] = pc at *
                    clear hcp hcq
                    have hnm' : (nn : Int) ≤ (pc.length : Int) := by omega
                    go_wp2_with fail
                    refine (unhide AM wr).mono ?_
                    rintro r w5 ⟨rfl, rfl⟩
                    go_wp2_with fail
                    refine (unhide HR1 w5 X2 (unhide HS)).mono ?_
                    rintro r w6 ⟨a6, c6, X6, rfl, hr6, hx6, hX6, hs6, _⟩
                    have ce6 := (unhide HXC w6 X6 hs6).2.2
                    have HR6 := hide hr6
                    have HS6 := hide hs6
                    clear hr6 hx6 hX6 hs6 HR1 HS ce AM
                    go_wp2_with fail
                    refine (unhide HR2 w6 X6 (unhide HS6)).mono ?_
                    rintro r w7 ⟨a7, c7, X7, rfl, hr7, hx7, hX7, hs7, hk7⟩
                    have hk8 := Kp.drew w7
                    have hs8 := hs7.next hk8
                    have cX := (unhide HXC w7.drew X7 hs8).1
                    have ra := ((unhide HR6).kp hk7 (by simp)).kp hk8 (by simp)
                    have rb := hr7.kp hk8 (by simp)
                    have CALL : Hid (∀ w11 g11 N cap11, Kp [] w7.drew w11 → N = (([] ++ La) ++ Lb).length → EvRow w11 (.slice (some ⟨g11, 0, none⟩) N cap11) (([] ++ La) ++ Lb) → Calls Try.prog 20 #[.slice (some ⟨g11, 0, none⟩) N cap11, .slice adx pc.length cpx] w11 fun r w12 => r = .returned (.bool true) ∧ Kp [] w7.drew w12 ∧ w12.cell? ⟨gv, c, none⟩ = some (.slice adx pc.length cpx)) := hide (fun w11 g11 N cap11 hk hN hrow => by
                      have hj2 : ([] ++ La) ++ Lb = pc := unhide HJ
                      rw [hj2] at hrow hN
                      subst hN
                      refine (sameEvs_any _ adx cap11 cpx pc w11 (by omega) hrow.evs (unhide HXC w11 X7 (hs8.next hk)).2.1).mono fun r w12 hh => ⟨hh.1, hk.trans hh.2 (by simp), ?_⟩
                      exact (unhide HXC w12 X7 ((hs8.next hk).next hh.2)).1)
                    have HS8 := hide hs8
                    have cX2 : ∀ w10, Kp [] w7.drew w10 → w10.cell? ⟨gv, c, none⟩ = some (.slice adx pc.length cpx) := fun w10 hk => (unhide HXC w10 X7 (hs8.next hk)).1
                    have cXe : (w7.alloc (.cells #[] 45)).drew.cell? ⟨gv, c, none⟩ = some (.slice adx pc.length cpx) := cX2 _ (Kp.alloc w7.drew (.cells #[] 45))
                    have HCX := hide cX2
                    have hrae : EvRow (w7.alloc (.cells #[] 45)).drew (.slice a6 La.length c6) La := ra.kp (Kp.alloc w7.drew (.cells #[] 45)) (by simp)
                    have HRB := hide rb
                    have hr0 : EvRow (w7.alloc (.cells #[] 45)).drew (.slice (some ⟨w7.heap.size, 0, none⟩) 0 0) [] := EvRow.empty w7.drew
                    have STAY : Hid (∀ g10 w10, (w7.alloc (.cells #[] 45)).drew.grownBy w10 (Value.slice (some ⟨w7.heap.size, 0, none⟩) 0 0).ownBlock → (some g10 = (Value.slice (some ⟨w7.heap.size, 0, none⟩) 0 0).ownBlock ∨ g10 = (w7.alloc (.cells #[] 45)).drew.heap.size) → Kp [] w7.drew w10 ∧ w7.drew.heap.size ≤ g10) := hide (fun g10 w10 h1 h2 => stay1 (W := w7.drew) h1 h2)
                    have hlaa := unhide HLA
                    have hlbb := unhide HLB
                    have hl0 : ([] : List Ev).length + La.length ≤ 1000000 := by rw [List.length_nil]; omega
                    have hl1 : ([] ++ La : List Ev).length + Lb.length ≤ 1000000 := by rw [List.nil_append]; omega
                    clear hk8 hs8 ra rb hr7 hx7 hX7 hs7 hk7 HR2 HR6 HS6 ce6 cX2 HXC
                    go_wp2_with fail
                    go_region_held3 (fun W => W.cell? ⟨gv, c, none⟩ = some (.slice adx pc.length cpx))
                      (first | with_reducible exact cX | with_reducible exact cXe | with_reducible exact cX10 | with_reducible exact cX11 | with_reducible exact cX12)
                      (first
                        | (go_at_call 20; refine (unhide CALL w11 g11 N11 cap11 (unhide HK11) (unhide HN11) (unhide HR11)).mono ?_; rintro r w12 ⟨rfl, hk12, cX12⟩; have HK12 := hide hk12; clear hk12)
                        | (refine step_evs rfl (.tmp 147) (.tmp 148) rfl rfl rfl hrb10 (unhide HR10) (slice_ne _ _ _) hl1 ?_; intro g11 cap11 N11 w11 HN11 HR11 HG11 HAT11; have HK11 := hide (stay2 (unhide HK10) (unhide HL10) (unhide HG11)); have cX11 := unhide HCX w11 (unhide HK11))
                        | (refine step_evs rfl (.tmp 145) (.tmp 146) rfl rfl rfl hrae hr0 (slice_ne _ _ _) hl0 ?_; intro g10 cap10 N10 w10 HN10 HR10 HG10 HAT10; have HK10 := hide (unhide STAY g10 w10 (unhide HG10) (unhide HAT10)).1; have HL10 := hide (unhide STAY g10 w10 (unhide HG10) (unhide HAT10)).2; have hrb10 := (unhide HRB).kp (unhide HK10) (by simp); have cX10 := unhide HCX w10 (unhide HK10)))
                    have HS12 := hide ((unhide HS8).next (unhide HK12))
                    clear HS8 HK12 CALL HCX HRB hr0 hrae cX cXe
                    go_wp2
                    go_roundw
                    case rel => exact ⟨c + 1, X7, by omega, by go_num, HS12⟩
                    case measure => simp [intOf]; omega
                  · obtain rfl : c = j := by omega
                    have hcc : ¬ (c : Int) < (c : Int) := by omega
                    have KB := hide (unhide HS).kp
                    clear HS HG HLM HXN HXL
                    go_wp2
                    go_ret
                    exact ⟨rfl, (unhide KB).below (Nat.le_refl _) (by simp)⟩
              · have hti : ¬ (t : Int) < (l.length : Int) := by omega
                clear hstop
                go_wp2_with fail
                go_loopw [108] (fun i wx => ∃ (c : Nat) (X2 : List Nat), c ≤ j ∧ i = .int .i64 (c : Int) ∧ Hid (StS w wx g BE (.slice (some ⟨gv, 0, none⟩) j cv) xs ps ps2 X2)) (fun i _ => j - (intOf i).toNat)
                case atStart => exact ⟨0, X, Nat.zero_le _, rfl, HS⟩
                case round =>
                  clear HS
                  obtain ⟨c, X2, hc, rfl, HS⟩ := hrel
                  by_cases hcj : c < j
                  · have hci : (c : Int) < (j : Int) := by omega
                    have hcp : c < ps.length := by omega
                    have hcq : c < ps2.length := by rw [← (unhide HG).1]; exact hcp
                    have hpre := (unhide HG).2 c _ _ (List.getElem?_eq_getElem hcp) (List.getElem?_eq_getElem hcq)
                    have hm := unhide HLM c hcp
                    have ce := (unhide HS).endCell c hcp
                    have hcx : c < xs.length := by rw [unhide HXN]; exact hcj
                    have hxrow := (unhide HS).inn c xs[c] ps[c] (List.getElem?_eq_getElem hcx) (List.getElem?_eq_getElem hcp)
                    obtain ⟨adx, cpx, hxv, _⟩ := hxrow.form
                    have hxc : ∀ W X', StS w W g BE (.slice (some ⟨gv, 0, none⟩) j cv) xs ps ps2 X' → W.cell? ⟨gv, c, none⟩ = some (.slice adx ps[c].length cpx) ∧ EvsAt W adx ps[c] ∧ W.cell? ⟨BE, c, none⟩ = some (.int .i64 ((ps[c].length : Nat) : Int)) := fun W X' hW => by
                      have h1 := hW.row
                      have h2 := hW.inn c xs[c] ps[c] (List.getElem?_eq_getElem hcx) (List.getElem?_eq_getElem hcp)
                      rw [hxv] at h2
                      refine ⟨?_, h2.evs, hW.endCell c hcp⟩
                      rw [← unhide HXN] at h1
                      rw [World.ownsRow.cellAt h1 c (by omega), List.getElem?_eq_getElem hcx, hxv]
                    obtain ⟨nn, hnn2, hnm⟩ : ∃ nn : Nat, cut % ((ps[c].length : Int) + 1) = (nn : Int) ∧ nn ≤ ps[c].length := ⟨(cut % ((ps[c].length : Int) + 1)).toNat, by
                      have := Int.emod_nonneg cut (show ((ps[c].length : Int) + 1) ≠ 0 by omega)
                      omega, by
                      have := Int.emod_lt_of_pos cut (show (0 : Int) < ((ps[c].length : Int) + 1) by omega)
                      omega⟩
                    have AM := hide (fun W => soAmong_any cut ((ps[c].length : Int) + 1) W (by omega) (by omega))
                    rw [hnn2] at AM
                    have hlq : ps[c].length ≤ ps2[c].length := hpre.length_le
                    obtain ⟨hE1, hL1⟩ := rd_some ps2 c hcq 0 nn (Nat.zero_le _)
                    obtain ⟨hE2, hL2⟩ := rd_some ps2 c hcq nn (ps[c].length - nn) (by omega)
                    have R1 := fun W X' (hW : StS w W g BE (.slice (some ⟨gv, 0, none⟩) j cv) xs ps ps2 X') => hW.read (c : Int) ((0 : Nat) : Int) (nn : Int) (by unfold inW; omega) (by unfold inW; omega)
                    have R2 := fun W X' (hW : StS w W g BE (.slice (some ⟨gv, 0, none⟩) j cv) xs ps ps2 X') => hW.read (c : Int) (nn : Int) ((ps[c].length - nn : Nat) : Int) (by unfold inW; omega) (by unfold inW; omega)
                    rw [hE1, hL1] at R1
                    rw [hE2, hL2] at R2
                    have hjoin := in_parts hpre nn hnm
                    have hcast : ((ps[c].length - nn : Nat) : Int) = (ps[c].length : Int) - (nn : Int) := by omega
                    rw [hcast] at R2
                    simp only [Int.ofNat_zero] at R1
                    have hla : ((ps2[c].drop 0).take nn).length ≤ 4096 := by rw [List.length_take]; omega
                    have hlb : ((ps2[c].drop nn).take (ps[c].length - nn)).length ≤ 4096 := by rw [List.length_take]; omega
                    have HR1 := hide R1
                    have HR2 := hide R2
                    have HXC := hide hxc
                    have HJ := hide hjoin
                    have HLA := hide hla
                    have HLB := hide hlb
                    clear R1 R2 hxc hjoin hla hlb hE1 hE2 hL1 hL2 hpre hxv hxrow hcast hlq hcx
                    generalize (ps2[c].drop 0).take nn = La at *
                    generalize (ps2[c].drop nn).take (ps[c].length - nn) = Lb at *
                    generalize ps[c] = pc at *
                    clear hcp hcq
                    have hnm' : (nn : Int) ≤ (pc.length : Int) := by omega
                    go_wp2_with fail
                    refine (unhide AM wr).mono ?_
                    rintro r w5 ⟨rfl, rfl⟩
                    go_wp2_with fail
                    refine (unhide HR1 w5 X2 (unhide HS)).mono ?_
                    rintro r w6 ⟨a6, c6, X6, rfl, hr6, hx6, hX6, hs6, _⟩
                    have ce6 := (unhide HXC w6 X6 hs6).2.2
                    have HR6 := hide hr6
                    have HS6 := hide hs6
                    clear hr6 hx6 hX6 hs6 HR1 HS ce AM
                    go_wp2_with fail
                    refine (unhide HR2 w6 X6 (unhide HS6)).mono ?_
                    rintro r w7 ⟨a7, c7, X7, rfl, hr7, hx7, hX7, hs7, hk7⟩
                    have hk8 := Kp.drew w7
                    have hs8 := hs7.next hk8
                    have cX := (unhide HXC w7.drew X7 hs8).1
                    have ra := ((unhide HR6).kp hk7 (by simp)).kp hk8 (by simp)
                    have rb := hr7.kp hk8 (by simp)
                    have CALL : Hid (∀ w11 g11 N cap11, Kp [] w7.drew w11 → N = (([] ++ La) ++ Lb).length → EvRow w11 (.slice (some ⟨g11, 0, none⟩) N cap11) (([] ++ La) ++ Lb) → Calls Try.prog 20 #[.slice (some ⟨g11, 0, none⟩) N cap11, .slice adx pc.length cpx] w11 fun r w12 => r = .returned (.bool true) ∧ Kp [] w7.drew w12 ∧ w12.cell? ⟨gv, c, none⟩ = some (.slice adx pc.length cpx)) := hide (fun w11 g11 N cap11 hk hN hrow => by
                      have hj2 : ([] ++ La) ++ Lb = pc := unhide HJ
                      rw [hj2] at hrow hN
                      subst hN
                      refine (sameEvs_any _ adx cap11 cpx pc w11 (by omega) hrow.evs (unhide HXC w11 X7 (hs8.next hk)).2.1).mono fun r w12 hh => ⟨hh.1, hk.trans hh.2 (by simp), ?_⟩
                      exact (unhide HXC w12 X7 ((hs8.next hk).next hh.2)).1)
                    have HS8 := hide hs8
                    have cX2 : ∀ w10, Kp [] w7.drew w10 → w10.cell? ⟨gv, c, none⟩ = some (.slice adx pc.length cpx) := fun w10 hk => (unhide HXC w10 X7 (hs8.next hk)).1
                    have cXe : (w7.alloc (.cells #[] 45)).drew.cell? ⟨gv, c, none⟩ = some (.slice adx pc.length cpx) := cX2 _ (Kp.alloc w7.drew (.cells #[] 45))
                    have HCX := hide cX2
                    have hrae : EvRow (w7.alloc (.cells #[] 45)).drew (.slice a6 La.length c6) La := ra.kp (Kp.alloc w7.drew (.cells #[] 45)) (by simp)
                    have HRB := hide rb
                    have hr0 : EvRow (w7.alloc (.cells #[] 45)).drew (.slice (some ⟨w7.heap.size, 0, none⟩) 0 0) [] := EvRow.empty w7.drew
                    have STAY : Hid (∀ g10 w10, (w7.alloc (.cells #[] 45)).drew.grownBy w10 (Value.slice (some ⟨w7.heap.size, 0, none⟩) 0 0).ownBlock → (some g10 = (Value.slice (some ⟨w7.heap.size, 0, none⟩) 0 0).ownBlock ∨ g10 = (w7.alloc (.cells #[] 45)).drew.heap.size) → Kp [] w7.drew w10 ∧ w7.drew.heap.size ≤ g10) := hide (fun g10 w10 h1 h2 => stay1 (W := w7.drew) h1 h2)
                    have hlaa := unhide HLA
                    have hlbb := unhide HLB
                    have hl0 : ([] : List Ev).length + La.length ≤ 1000000 := by rw [List.length_nil]; omega
                    have hl1 : ([] ++ La : List Ev).length + Lb.length ≤ 1000000 := by rw [List.nil_append]; omega
                    clear hk8 hs8 ra rb hr7 hx7 hX7 hs7 hk7 HR2 HR6 HS6 ce6 cX2 HXC
                    go_wp2_with fail
                    go_region_held3 (fun W => W.cell? ⟨gv, c, none⟩ = some (.slice adx pc.length cpx))
                      (first | with_reducible exact cX | with_reducible exact cXe | with_reducible exact cX10 | with_reducible exact cX11 | with_reducible exact cX12)
                      (first
                        | (go_at_call 20; refine (unhide CALL w11 g11 N11 cap11 (unhide HK11) (unhide HN11) (unhide HR11)).mono ?_; rintro r w12 ⟨rfl, hk12, cX12⟩; have HK12 := hide hk12; clear hk12)
                        | (refine step_evs rfl (.tmp 147) (.tmp 148) rfl rfl rfl hrb10 (unhide HR10) (slice_ne _ _ _) hl1 ?_; intro g11 cap11 N11 w11 HN11 HR11 HG11 HAT11; have HK11 := hide (stay2 (unhide HK10) (unhide HL10) (unhide HG11)); have cX11 := unhide HCX w11 (unhide HK11))
                        | (refine step_evs rfl (.tmp 145) (.tmp 146) rfl rfl rfl hrae hr0 (slice_ne _ _ _) hl0 ?_; intro g10 cap10 N10 w10 HN10 HR10 HG10 HAT10; have HK10 := hide (unhide STAY g10 w10 (unhide HG10) (unhide HAT10)).1; have HL10 := hide (unhide STAY g10 w10 (unhide HG10) (unhide HAT10)).2; have hrb10 := (unhide HRB).kp (unhide HK10) (by simp); have cX10 := unhide HCX w10 (unhide HK10)))
                    have HS12 := hide ((unhide HS8).next (unhide HK12))
                    clear HS8 HK12 CALL HCX HRB hr0 hrae cX cXe
                    go_wp2
                    go_roundw
                    case rel => exact ⟨c + 1, X7, by omega, by go_num, HS12⟩
                    case measure => simp [intOf]; omega
                  · obtain rfl : c = j := by omega
                    have hcc : ¬ (c : Int) < (c : Int) := by omega
                    have KB := hide (unhide HS).kp
                    clear HS HG HLM HXN HXL
                    go_wp2
                    go_ret
                    exact ⟨rfl, (unhide KB).below (Nat.le_refl _) (by simp)⟩
end Go.Proofs.Ytkcbjjpbcgdabaa
