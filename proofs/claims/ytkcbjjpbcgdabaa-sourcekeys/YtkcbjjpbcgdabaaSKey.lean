/-
  SourceKeys: the walk.
-/
import Derived.Test.YtkcbjjpbcgdabaaSKy3
namespace Go.Proofs.Ytkcbjjpbcgdabaa
open Go.RowKit

set_option maxHeartbeats 8000000 in
set_option maxRecDepth 100000 in
theorem keys_walk (parts : Int) (ad : Option Addr) (cap : Nat) (l : List Ev) (adO : Option Addr) (capO : Nat) (os : List Int) (w : World) (_hl : l.length ≤ 9223372036854775807) (hA : EvsAt w ad l) (hok : ∀ e ∈ l, e.ok) (hol : os.length ≤ 9223372036854775807) (hO : IntsAt w adO os) (_hoo : ∀ o ∈ os, inW o) :
    Calls Try.prog 7 #[.int .i64 parts, .slice ad l.length cap, .slice adO os.length capO] w fun e w' => e = .returned (.bool true) ∧ Below w.heap.size w w' := by
  have WK := hide (soWorks_any w)
  have AM := hide (fun W => soAmong_any parts 8 W (by decide) (by decide))
  obtain ⟨n, hn, h1, h2⟩ : ∃ n : Nat, 1 + parts % 8 = (n : Int) ∧ 1 ≤ n ∧ n ≤ 8 := ⟨(1 + parts % 8).toNat, by omega, by omega, by omega⟩
  have NW := hide (fun W => snew_own n h1 (by omega) W)
  have HA := hide hA
  have HOK := hide hok
  have HO := hide hO
  have HST : Hid (∀ W1 W2 g, Kp [] w W1 → OwnSo W1 W2 g (soNew n) → KyS w (W2.alloc (.map #[] 0)) g W2.heap.size (.slice none 0 0) [] [] (soNew n)) := hide (fun W1 W2 g hk ho => by
    obtain ⟨F, hd, hk2, hF⟩ := ho
    have hs := hk.size
    have hs2 := hk2.size
    have hkA := Kp.alloc W2 (.map #[] 0)
    exact ⟨⟨F, hd.kp hkA (by simp), fun k hkk => by have := hF k hkk; omega⟩, (hk.trans hk2 (by simp)).trans hkA (by simp), World.ownsRow_nil _ _ _ _, SeenIs.new W2, by omega⟩)
  clear hA hok hO
  go_enter Try.func7, Try.ntmps7
  go_wp2_with fail
  refine (unhide WK).mono ?_
  rintro r w1 ⟨rfl, hk1⟩
  have HK1 := hide hk1
  clear hk1 WK
  go_wp2_with fail
  refine (unhide AM w1).mono ?_
  rintro r w2 ⟨rfl, rfl⟩
  go_wp2_with fail
  (try rw [hn])
  refine (unhide NW w2).mono ?_
  rintro r w3 ⟨g, rfl, ho⟩
  have hky := unhide HST w2 w3 g (unhide HK1) ho
  have HKI0 := hide (KInv.new n)
  have hmm : ∀ W : World, (Instr.makeMap 66 none).run Try.prog W = .ok (.map (some W.heap.size)) (W.alloc (.map #[] 0)) := fun W => run_makeMap _ W
  clear ho HST NW AM HK1
  go_wp2_with fail
  clear hmm
  have hbm : w3.heap.size = w3.heap.size := rfl
  generalize w3.alloc (.map #[] 0) = W4 at *
  generalize w3.heap.size = bm at *
  clear hbm
  obtain ⟨i0, hi0, hz0, hz1, hz2⟩ := info_parts info_str1
  go_loopw [9, 11] (fun v i wr => ∃ (k : Nat) (ks : List ByteArray) (ps : List (List Ev)), k ≤ l.length ∧ i = .int .i64 (k : Int) ∧ (ks.length ≤ k ∧ k ≤ 100) ∧ Hid (KyS w wr g bm v ks ks ps) ∧ ps.length = n ∧ Hid (KInv ks ps ∧ ks.Nodup ∧ ∀ s ∈ ks, s.size ≤ 9223372036854775807)) (fun _ i _ => l.length - (intOf i).toNat)
  case atStart => exact ⟨0, [], soNew n, Nat.zero_le _, rfl, by simp, hide hky, soNew_len n, hide ⟨unhide HKI0, List.nodup_nil, by simp⟩⟩
  case round =>
    clear hky HKI0
    obtain ⟨k, ks, ps, hk, rfl, hkk, HY, hps, HI⟩ := hrel
    by_cases htl : k < l.length ∧ k < 100
    · have hti : (k : Int) < (l.length : Int) := by omega
      have ht1 : (k : Int) < 100 := by omega
      have hks : ks.length ≤ 100 := by omega
      obtain ⟨b, off, rfl, x0, x1, x2, x3, x4, x5, x6⟩ := ((unhide HA).kp (unhide HY).kp (by simp)).seven k htl.1
      have hokk := unhide HOK _ (List.getElem_mem htl.1)
      have hXC : ∀ W, Kp [] w W → W.cell? ⟨b, off + k * 7, none⟩ = some (.string l[k].k) := fun W hW => by
        obtain ⟨b', off', e, y0, _⟩ := ((unhide HA).kp hW (by simp)).seven k htl.1
        injection e with e; injection e with e1 e2
        subst e1 e2
        exact y0
      have HXC := hide hXC
      have PU := hide ((unhide HY).put l[k] hokk)
      have hki : puP ps l[k] < ps.length := partOf_lt _ (by omega) _
      have hpl := puS_len ps l[k]
      rw [hps] at hpl
      clear HA HOK hXC
      generalize l[k] = y at *
      rcases puE_cases ps y with hE | hE
      · have hA1 : puA ps y = (puP ps y : Int) := if_pos hE
        have HI2 := hide ((unhide HI).1.put y hE hki)
        have HN2 := hide (kAdd_nodup (unhide HI).2.1 y.k)
        have HZ2 : Hid (∀ s ∈ kAdd ks y.k, s.size ≤ 9223372036854775807) := hide (fun s hs => ((kAdd_mem _ _ _).1 hs).elim (fun e => by rw [e]; exact hokk.1) ((unhide HI).2.2 s))
        have hPA : partOf ps.length y.k = puP ps y := rfl
        have HPT := hide (fun W v' ks' ss' (hW : KyS w W g bm v' ks' ss' (puS ps y)) => hW.part y.k hokk.1)
        rw [puS_len, hPA] at HPT
        rw [hA1, hE] at PU
        clear hE hA1 hPA hokk hki HI
        generalize puO ps y = po at *
        generalize puP ps y = pp at *
        generalize puS ps y = PS at *
        obtain ⟨yk, yt, n0, n1, n2, n3, yx⟩ := y
        unfold Ev.c at PU
        dsimp only at x0 x1 x2 x3 x4 x5 x6 PU HXC HI2 HN2 HZ2 HPT
        go_wp2_with fail
        refine (unhide PU).mono ?_
        rintro r w5 ⟨rfl, hy5⟩
        have x5a := unhide HXC w5 hy5.kp
        have HY5 := hide hy5
        clear hy5 PU x0 x1 x2 x3 x4 x5 x6 HY
        go_wp2_with fail
        refine (unhide HPT w5 _ _ _ (unhide HY5)).mono ?_
        rintro r w6 ⟨rfl, hy6, hk6⟩
        have x6a := unhide HXC w6 hy6.kp
        have hseen := hy6.seen
        have HY6 := hide hy6
        clear hy6 HPT HY5 x5a hk6
        by_cases hh : kHas ks yk = true
        · have hka : kAdd ks yk = ks := if_pos hh
          rw [hka] at HI2 HN2 HZ2
          go_wp2_with (first
            | (at_mapUpdate; refine wpList_mark rfl _ _ _ rfl rfl hseen yk rfl rfl ?_; intro w7 hs7 hg7)
            | (at_lookup; refine wpList_seen rfl _ _ rfl rfl hseen yk rfl ?_; rw [hh]))
          rw [hka] at hs7
          have HY7 := hide ((unhide HY6).mark hs7 hg7)
          clear hs7 hg7 HY6 hseen x6a
          go_wp2
          go_roundw
          case rel => exact ⟨k + 1, ks, PS, by omega, by go_num, by omega, HY7, hpl, hide ⟨unhide HI2, unhide HN2, unhide HZ2⟩⟩
          case measure => simp [intOf]; omega
        · have hka : kAdd ks yk = ks ++ [yk] := if_neg hh
          have hh' : kHas ks yk = false := by simpa using hh
          rw [hka] at HI2 HN2 HZ2
          have hrow := (unhide HY6).row
          have hw0 := (unhide HY6).kp.size
          go_wp2_with (first
            | (at_mapUpdate; refine wpList_mark rfl _ _ _ rfl rfl hseen8 yk rfl rfl ?_; intro w9 hs9 hg9)
            | (at_builtin; refine wpList_append_own _ rfl _ _ 65 rfl w.heap.size 9 i0 (.string ⟨#[]⟩) 1 16 Try.underlying65 hi0 hz0 hz1 hz2 rfl (by decide) _ _ _ rfl (hrow.alloc _) ⟨w6.heap.size, 0, none⟩ 1 1 [.string yk] rfl rfl (one_new _ _ _) (by intro u hu; simp at hu; subst hu; rfl) (by unfold maxLen; omega) (by omega) (by simp; omega) ?_; intro v8 w8 ow8 hg8 _; have hy8 := (unhide HY6).push ow8 hg8; have hseen8 := hy8.seen; have x8a := unhide HXC w8 hy8.kp; have HY8 := hide hy8; clear hy8 ow8 hg8)
            | (at_lookup; refine wpList_seen rfl _ _ rfl rfl hseen yk rfl ?_; rw [hh']))
          rw [hka] at hs9
          have HY9 := hide ((unhide HY8).mark hs9 hg9)
          clear hs9 hg9 HY6 HY8 hseen hseen8 x6a x8a hrow
          go_wp2
          go_roundw
          case rel => exact ⟨k + 1, ks ++ [yk], PS, by omega, by go_num, by rw [List.length_append, List.length_singleton]; omega, HY9, hpl, hide ⟨unhide HI2, unhide HN2, unhide HZ2⟩⟩
          case measure => simp [intOf]; omega
      · have hA1 : puA ps y = 0 := if_neg hE
        have hO1 : puO ps y = 0 := if_neg hE
        have hS1 : puS ps y = ps := if_neg hE
        rw [hA1, hO1, hS1] at PU
        clear hA1 hO1 hS1 hokk hki hpl HXC HY
        generalize puE ps y = er at *
        obtain ⟨yk, yt, n0, n1, n2, n3, yx⟩ := y
        unfold Ev.c at PU
        dsimp only at x0 x1 x2 x3 x4 x5 x6 PU
        go_wp2_with fail
        refine (unhide PU).mono ?_
        rintro r w5 ⟨rfl, hy5⟩
        have HY5 := hide hy5
        clear hy5 PU x0 x1 x2 x3 x4 x5 x6
        go_wp2
        go_roundw
        case rel => exact ⟨k + 1, ks, ps, by omega, by go_num, by omega, HY5, hps, HI⟩
        case measure => simp [intOf]; omega
    · have hlim := (unhide HY).own.lim
      have EN := hide ((unhide HY).own.ends)
      have hmk := mk_ints n (by omega)
      clear HA HOK
      by_cases htl2 : k < l.length
      · have hti : (k : Int) < (l.length : Int) := by omega
        have ht1 : ¬ (k : Int) < 100 := by omega
        go_wp2_with fail
        refine (unhide EN).mono ?_
        rintro r w5 ⟨rfl, hbe, ho5, hk5⟩
        have hbe0 : wr.heap.size < w5.heap.size := (Array.getElem?_eq_some_iff.1 hbe).1
        have hwr := (unhide HY).kp.size
        have hC0 : CuS w (w5.alloc (.cells (Array.replicate n (Value.int .i64 0)) 3)) g bm wr.heap.size w5.heap.size n u9 ks ps [] := by
          have ha := Kp.alloc w5 (.cells (Array.replicate n (Value.int .i64 0)) 3)
          refine ⟨((unhide HY).next hk5).next ha, hbe.kp ha (by simp), ?_, by omega, by omega, by simp, hps⟩
          have := CBox.new w5 (Array.replicate n (Value.int .i64 0)) 3
          exact this
        have HC0 := hide hC0
        have hlm : ∀ (j : Nat) (hj : j < ps.length), ps[j].length ≤ 4096 := fun j hj => hlim _ (List.getElem_mem _)
        have HLM := hide hlm
        clear hC0 hbe ho5 hk5 EN HY hlim hlm hbe0 hwr hi0 hz0 hz1 hz2
        rw [hps]
        go_wp2_with fail
        generalize w5.alloc (.cells (Array.replicate n (Value.int .i64 0)) 3) = W6 at *
        generalize w5.heap.size = bc at *
        generalize wr.heap.size = be at *
        clear hmk
        go_loopw [17, 104] (fun t i wx => ∃ (tot : Nat) (cs : List Nat), cs.length ≤ n ∧ i = .int .i64 (cs.length : Int) ∧ t = .int .i64 (tot : Int) ∧ tot ≤ cs.length * 4096 ∧ Hid (cs.sum = tot) ∧ Hid (CuS w wx g bm be bc n u9 ks ps cs)) (fun _ i _ => n - (intOf i).toNat)
        case atStart => exact ⟨0, [], Nat.zero_le _, rfl, rfl, by simp, hide rfl, HC0⟩
        case round =>
          clear HC0
          obtain ⟨tot, cs, hcn, rfl, rfl, htot, HSU, HC⟩ := hrel
          by_cases hj : cs.length < n
          · have hji : (cs.length : Int) < (n : Int) := by omega
            have hjp : cs.length < ps.length := by omega
            by_cases hjo : cs.length < os.length
            · have hjoi : (cs.length : Int) < (os.length : Int) := by omega
              obtain ⟨bo, oo, rfl, hbo, hco⟩ := unhide HO (fun e => by rw [e] at hjo; simp at hjo)
              have co := hco cs.length hjo
              have kW := (unhide HC).ky.kp.trans (Kp.drew wr) (by simp)
              have hC2 := (unhide HC).next (Kp.drew wr)
              have c1 := kW.cell co (by simp)
              have c2 := hC2.endC cs.length hjp
              have cz := hC2.zero hj
              have fz := hC2.cut.froz cs.length
              have hm := unhide HLM cs.length hjp
              obtain ⟨c, hc, hcm⟩ : ∃ c : Nat, os[cs.length] % ((ps[cs.length].length : Int) + 1) = (c : Int) ∧ c ≤ ps[cs.length].length := ⟨(os[cs.length] % ((ps[cs.length].length : Int) + 1)).toNat, by
                have := Int.emod_nonneg os[cs.length] (show ((ps[cs.length].length : Int) + 1) ≠ 0 by omega)
                omega, by
                have := Int.emod_lt_of_pos os[cs.length] (show (0 : Int) < ((ps[cs.length].length : Int) + 1) by omega)
                omega⟩
              have AM := hide (fun W => soAmong_any os[cs.length] ((ps[cs.length].length : Int) + 1) W (by omega) (by omega))
              rw [hc] at AM
              have hC3 : CuS w (wr.setCell ⟨bc, cs.length, none⟩ (.int .i64 ((c : Nat) : Int))).drew g bm be bc n u9 ks ps (cs ++ [c]) := hC2.set hj c (fun p hp => by rw [List.getElem?_eq_getElem hjp] at hp; injection hp with e; rw [← e]; exact hcm)
              have c1s := hC3.ky.kp.cell co (by simp)
              have c2s := hC3.endC cs.length hjp
              have cus := hC3.cutC cs.length (by rw [List.length_append]; simp)
              rw [List.getElem_append_right (Nat.le_refl _)] at cus
              simp only [Nat.sub_self, List.getElem_cons_zero] at cus
              have HC3 := hide hC3
              have cS := And.intro c1 c2
              have cS2 := And.intro c1s c2s
              have hct : c ≤ 4096 := by omega
              have HSU2 : Hid ((cs ++ [c]).sum = tot + c) := hide (by rw [List.sum_append, unhide HSU]; simp)
              have htot2 : tot + c ≤ (cs ++ [c]).length * 4096 := by rw [List.length_append]; simp; omega
              have hlen2 : (cs ++ [c]).length ≤ n := by rw [List.length_append]; simp; omega
              have HB := hide (And.intro htot2 hlen2)
              clear hC2 hC3 c1 c2 c1s c2s HC hco co hc kW htot2 hlen2 HLM
              generalize os[cs.length] = o at *
              generalize ps[cs.length].length = m at *
              clear hjp
              have hl2 : (cs ++ [c]).length = cs.length + 1 := by rw [List.length_append]; rfl
              have HL2 := hide hl2
              clear hl2
              generalize cs.length = J at *
              have hwr : IntKind.i64.wrap ((m : Int) + 1) = (m : Int) + 1 := by rw [IntKind.wrap_i64]; omega
              go_wp2_with fail
              go_region_held3 (fun W => W.cell? ⟨bo, oo + J, none⟩ = some (.int .i64 o) ∧ W.cell? ⟨be, J, none⟩ = some (.int .i64 (m : Int)))
                (first | with_reducible exact cS | with_reducible exact cS2)
                (first
                  | (go_at_call 15; refine (unhide AM _).mono ?_; rintro r w7 ⟨rfl, rfl⟩))
              go_wp2
              go_roundw
              case rel => exact ⟨tot + c, cs ++ [c], (unhide HB).2, by rw [unhide HL2]; go_num, by go_num, (unhide HB).1, HSU2, HC3⟩
              case measure => simp [intOf]; omega
            · have hjoi : ¬ (cs.length : Int) < (os.length : Int) := by omega
              have cz := (unhide HC).zero hj
              have HC3 := hide ((unhide HC).stay hj)
              have HSU2 : Hid ((cs ++ [0]).sum = tot) := hide (by rw [List.sum_append, unhide HSU]; simp)
              have hl2 : (cs ++ [0]).length = cs.length + 1 := by rw [List.length_append]; rfl
              have HL2 := hide hl2
              clear hl2 HC HLM
              generalize cs.length = J at *
              go_wp2
              go_roundw
              case rel => exact ⟨tot, cs ++ [0], by rw [unhide HL2]; omega, by rw [unhide HL2]; go_num, rfl, by rw [unhide HL2]; omega, HSU2, HC3⟩
              case measure => simp [intOf]; omega
          · have hcl : cs.length = n := by omega
            have hnn : ¬ (cs.length : Int) < (n : Int) := by omega
            have HCL := hide hcl
            have hsum : (ks.map fun k => (kyX ps cs k).length).sum = tot := by
              rw [← unhide HSU]
              exact keys_all ks ps cs (unhide HI).2.1 (unhide HI).1 (by omega) (unhide HC).le (by omega)
            have HSM := hide hsum
            have HXL := hide (fun k => kyX_len (unhide HC) k)
            obtain ⟨adk, cpk, hv9⟩ : ∃ adk cpk, u9 = .slice adk ks.length cpk := by
              obtain ⟨_, ⟨e, h0⟩ | ⟨gk, cp, cur, e, _⟩⟩ := (unhide HC).ky.row
              · exact ⟨none, 0, by rw [e, h0]⟩
              · exact ⟨_, _, e⟩
            have HKC : Hid (∀ W (hW : CuS w W g bm be bc n (.slice adk ks.length cpk) ks ps cs) (j : Nat) (hj : j < ks.length), ∃ gk, adk = some ⟨gk, 0, none⟩ ∧ W.cell? ⟨gk, j, none⟩ = some (.string ks[j])) := hide (fun W hW j hj => by
              have hrow := hW.ky.row
              obtain ⟨_, ⟨e, h0⟩ | ⟨gk, cp, cur, e, _⟩⟩ := id hrow
              · omega
              · injection e with e1 e2 e3
                subst e1 e3
                refine ⟨gk, rfl, ?_⟩
                rw [World.ownsRow.cellAt hrow j (by omega), List.getElem?_map, List.getElem?_eq_getElem hj]
                rfl)
            subst hv9
            clear hsum HLM HO HSU
            have hksb : ks.length ≤ 100 := by omega
            go_wp2_with fail
            go_loopw [19, 133] (fun m i wx => ∃ (j mny : Nat), j ≤ ks.length ∧ i = .int .i64 (j : Int) ∧ m = .int .i64 (mny : Int) ∧ mny ≤ j * 4096 ∧ Hid (((ks.take j).map fun k => (kyX ps cs k).length).sum = mny) ∧ Hid (CuS w wx g bm be bc n (.slice adk ks.length cpk) ks ps cs)) (fun _ i _ => ks.length - (intOf i).toNat)
            case atStart => exact ⟨0, 0, Nat.zero_le _, rfl, rfl, by omega, hide rfl, HC⟩
            case round =>
              clear HC
              obtain ⟨j, mny, hj, rfl, rfl, hmb, HMS, HC⟩ := hrel
              by_cases hjk : j < ks.length
              · have hji : (j : Int) < (ks.length : Int) := by omega
                obtain ⟨gk, rfl, ck⟩ := unhide HKC wr (unhide HC) j hjk
                have hkz := (unhide HI).2.2 ks[j] (List.getElem_mem hjk)
                have BL := hide ((unhide HC).below (unhide HCL) ks[j] hkz)
                have PT := hide (fun W (hW : CuS w W g bm be bc n (.slice (some ⟨gk, 0, none⟩) ks.length cpk) ks ps cs) => hW.part ks[j] hkz)
                have hpc : partOf ps.length ks[j] < cs.length := by rw [hcl, ← hps]; exact partOf_lt _ (by omega) _
                have RD := hide (fun W (hW : CuS w W g bm be bc n (.slice (some ⟨gk, 0, none⟩) ks.length cpk) ks ps cs) => hW.read (unhide HCL) ks[j] hpc)
                have CC := hide (fun W (hW : CuS w W g bm be bc n (.slice (some ⟨gk, 0, none⟩) ks.length cpk) ks ps cs) => hW.cutC (partOf ps.length ks[j]) hpc)
                have hxl := (unhide HXL ks[j]).1
                have hal := (unhide HXL ks[j]).2
                have hXA : kyX ps cs ks[j] = keyL ks[j] (kyA ps cs ks[j]) := rfl
                have hpn : (partOf ps.length ks[j] : Int) < (n : Int) := by omega
                have HMS2 : Hid (((ks.take (j + 1)).map fun k => (kyX ps cs k).length).sum = mny + (kyX ps cs ks[j]).length) := hide (by
                  rw [List.take_succ_eq_append_getElem hjk, List.map_append, List.sum_append, unhide HMS]
                  simp)
                have HXA := hide hXA
                clear hkz hXA HKC HMS HXL HI HCL HSM hcl hnn hcn
                generalize kyX ps cs ks[j] = X at *
                generalize kyA ps cs ks[j] = A at *
                generalize cs[partOf ps.length ks[j]] = cc at *
                generalize partOf ps.length ks[j] = pp at *
                generalize ks[j] = key at *
                have HKEEP := HC
                go_wp2_with fail
                refine (unhide BL).mono ?_
                rintro r w5 ⟨ax, cx, rfl, hrx, hc5⟩
                have HRX := hide hrx
                have HC5 := hide hc5
                clear hrx hc5 BL
                go_wp2_with fail
                refine (unhide PT w5 (unhide HC5)).mono ?_
                rintro r w6 ⟨rfl, hc6, hk6⟩
                have HC6 := hide hc6
                have HRX6 := hide ((unhide HRX).kp hk6 (by simp))
                clear hc6 hk6 HRX HC5
                go_wp2_with fail
                refine (unhide PT w6 (unhide HC6)).mono ?_
                rintro r w7 ⟨rfl, hc7, hk7⟩
                have HC7 := hide hc7
                have ccc := unhide CC w7 hc7
                have HRX7 := hide ((unhide HRX6).kp hk7 (by simp))
                clear hc7 hk7 HRX6 HC6 PT CC
                go_wp2_with fail
                refine (unhide RD w7 (unhide HC7)).mono ?_
                rintro r w8 ⟨aA, cA, rfl, hrA, hc8, hk8⟩
                have HC8 := hide hc8
                have HRX8 := hide ((unhide HRX7).kp hk8 (by simp)).evs
                have HRA8 := hide hrA.evs
                clear hc8 hk8 hrA HRX7 HC7 RD ccc
                go_wp2_with fail
                go_loopw [24, 166] (fun a i wx => ∃ t : Nat, t ≤ A.length ∧ i = .int .i64 (t : Int) ∧ a = .int .i64 ((keyL key (A.take t)).length : Int) ∧ Kp [] w8 wx) (fun _ i _ => A.length - (intOf i).toNat)
                case atStart => exact ⟨0, Nat.zero_le _, rfl, rfl, Kp.refl _ _⟩
                case round =>
                  obtain ⟨t, ht, rfl, rfl, kp8⟩ := hrel
                  by_cases htA : t < A.length
                  · have hti2 : (t : Int) < (A.length : Int) := by omega
                    obtain ⟨bA, oA, rfl, x0, x1, x2, x3, x4, x5, x6⟩ := ((unhide HRA8).kp kp8 (by simp)).seven t htA
                    have hnx := keyL_next key A t htA
                    have hql := keyL_len key A t
                    by_cases he : A[t].k = key
                    · rw [if_pos he] at hnx
                      have hat := keyL_at key A t htA he
                      rw [← unhide HXA] at hat
                      obtain ⟨hq, hqe⟩ := List.getElem?_eq_some_iff.1 hat
                      have kp9 := (kp8.trans (Kp.alloc wr (.cells A[t].c 45)) (by simp)).trans (Kp.drew _) (by simp)
                      obtain ⟨bX, oX, rfl, y0, y1, y2, y3, y4, y5, y6⟩ := ((unhide HRX8).kp kp9 (by simp)).seven _ hq
                      rw [hqe] at y0 y1 y2 y3 y4 y5 y6
                      have hbx := (CBox.new wr A[t].c 45).kp (Kp.drew _) (by simp)
                      have HL2 : Hid ((keyL key (A.take (t + 1))).length = (keyL key (A.take t)).length + 1) := hide (by rw [hnx, List.length_append]; rfl)
                      clear hnx hat hqe
                      generalize A[t] = y at *
                      generalize (keyL key (A.take t)).length = q at *
                      have hqi : (q : Int) < (X.length : Int) := by omega
                      have hdec : ¬ (X.length : Int) ≤ (q : Int) := by omega
                      have hdN : ¬ X.length ≤ q := by omega
                      have hdM : (X.length ≤ q) = False := eq_false hdN
                      obtain ⟨yk, yt, n0, n1, n2, n3, yx⟩ := y
                      unfold Ev.c at kp9 hbx y0 y1 y2 y3 y4 y5 y6
                      dsimp only at x0 x1 x2 x3 x4 x5 x6 y0 y1 y2 y3 y4 y5 y6 he kp9 hbx
                      subst he
                      have h4 := fun d W => eq4 d n0 n1 n2 n3 n0 n1 n2 n3 W
                      simp only [BEq.rfl, Bool.and_true] at h4
                      have z0 := hbx.cell (i := 0) rfl
                      have z1 := hbx.cell (i := 1) rfl
                      have z2 := hbx.cell (i := 2) rfl
                      have z3 := hbx.cell (i := 3) rfl
                      have z4 := hbx.cell (i := 4) rfl
                      have z5 := hbx.cell (i := 5) rfl
                      have z6 := hbx.cell (i := 6) rfl
                      have cS : (wr.alloc (.cells #[.string yk, .string yt, .int .i64 n0, .int .i64 n1, .int .i64 n2, .int .i64 n3, .string yx] 45)).drew.cell? ⟨bX, oX + q * 7, none⟩ = some (.string yk) ∧ (wr.alloc (.cells #[.string yk, .string yt, .int .i64 n0, .int .i64 n1, .int .i64 n2, .int .i64 n3, .string yx] 45)).drew.cell? ⟨bX, oX + q * 7 + 1, none⟩ = some (.string yt) ∧ (wr.alloc (.cells #[.string yk, .string yt, .int .i64 n0, .int .i64 n1, .int .i64 n2, .int .i64 n3, .string yx] 45)).drew.cell? ⟨bX, oX + q * 7 + 2, none⟩ = some (.int .i64 n0) ∧ (wr.alloc (.cells #[.string yk, .string yt, .int .i64 n0, .int .i64 n1, .int .i64 n2, .int .i64 n3, .string yx] 45)).drew.cell? ⟨bX, oX + q * 7 + 3, none⟩ = some (.int .i64 n1) ∧ (wr.alloc (.cells #[.string yk, .string yt, .int .i64 n0, .int .i64 n1, .int .i64 n2, .int .i64 n3, .string yx] 45)).drew.cell? ⟨bX, oX + q * 7 + 4, none⟩ = some (.int .i64 n2) ∧ (wr.alloc (.cells #[.string yk, .string yt, .int .i64 n0, .int .i64 n1, .int .i64 n2, .int .i64 n3, .string yx] 45)).drew.cell? ⟨bX, oX + q * 7 + 5, none⟩ = some (.int .i64 n3) ∧ (wr.alloc (.cells #[.string yk, .string yt, .int .i64 n0, .int .i64 n1, .int .i64 n2, .int .i64 n3, .string yx] 45)).drew.cell? ⟨bX, oX + q * 7 + 6, none⟩ = some (.string yx) ∧ (wr.alloc (.cells #[.string yk, .string yt, .int .i64 n0, .int .i64 n1, .int .i64 n2, .int .i64 n3, .string yx] 45)).drew.cell? ⟨wr.heap.size, 0, none⟩ = some (.string yk) ∧ (wr.alloc (.cells #[.string yk, .string yt, .int .i64 n0, .int .i64 n1, .int .i64 n2, .int .i64 n3, .string yx] 45)).drew.cell? ⟨wr.heap.size, 1, none⟩ = some (.string yt) ∧ (wr.alloc (.cells #[.string yk, .string yt, .int .i64 n0, .int .i64 n1, .int .i64 n2, .int .i64 n3, .string yx] 45)).drew.cell? ⟨wr.heap.size, 2, none⟩ = some (.int .i64 n0) ∧ (wr.alloc (.cells #[.string yk, .string yt, .int .i64 n0, .int .i64 n1, .int .i64 n2, .int .i64 n3, .string yx] 45)).drew.cell? ⟨wr.heap.size, 3, none⟩ = some (.int .i64 n1) ∧ (wr.alloc (.cells #[.string yk, .string yt, .int .i64 n0, .int .i64 n1, .int .i64 n2, .int .i64 n3, .string yx] 45)).drew.cell? ⟨wr.heap.size, 4, none⟩ = some (.int .i64 n2) ∧ (wr.alloc (.cells #[.string yk, .string yt, .int .i64 n0, .int .i64 n1, .int .i64 n2, .int .i64 n3, .string yx] 45)).drew.cell? ⟨wr.heap.size, 5, none⟩ = some (.int .i64 n3) ∧ (wr.alloc (.cells #[.string yk, .string yt, .int .i64 n0, .int .i64 n1, .int .i64 n2, .int .i64 n3, .string yx] 45)).drew.cell? ⟨wr.heap.size, 6, none⟩ = some (.string yx) := ⟨y0, y1, y2, y3, y4, y5, y6, z0, z1, z2, z3, z4, z5, z6⟩
                      have KP9 := hide kp9
                      clear y0 y1 y2 y3 y4 y5 y6 z0 z1 z2 z3 z4 z5 z6 hbx kp9 kp8
                      go_wp2_with fail
                      go_region_held3 (fun W => W.cell? ⟨bX, oX + q * 7, none⟩ = some (.string yk) ∧ W.cell? ⟨bX, oX + q * 7 + 1, none⟩ = some (.string yt) ∧ W.cell? ⟨bX, oX + q * 7 + 2, none⟩ = some (.int .i64 n0) ∧ W.cell? ⟨bX, oX + q * 7 + 3, none⟩ = some (.int .i64 n1) ∧ W.cell? ⟨bX, oX + q * 7 + 4, none⟩ = some (.int .i64 n2) ∧ W.cell? ⟨bX, oX + q * 7 + 5, none⟩ = some (.int .i64 n3) ∧ W.cell? ⟨bX, oX + q * 7 + 6, none⟩ = some (.string yx) ∧ W.cell? ⟨wr.heap.size, 0, none⟩ = some (.string yk) ∧ W.cell? ⟨wr.heap.size, 1, none⟩ = some (.string yt) ∧ W.cell? ⟨wr.heap.size, 2, none⟩ = some (.int .i64 n0) ∧ W.cell? ⟨wr.heap.size, 3, none⟩ = some (.int .i64 n1) ∧ W.cell? ⟨wr.heap.size, 4, none⟩ = some (.int .i64 n2) ∧ W.cell? ⟨wr.heap.size, 5, none⟩ = some (.int .i64 n3) ∧ W.cell? ⟨wr.heap.size, 6, none⟩ = some (.string yx))
                        (first | with_reducible exact cS)
                        (first | fail)
                      go_wp2
                      go_roundw
                      case rel => exact ⟨t + 1, by omega, by go_num, by rw [unhide HL2]; go_num, unhide KP9⟩
                      case measure => simp [intOf]; omega
                    · rw [if_neg he] at hnx
                      have heb := strNe he
                      have HL2 : Hid ((keyL key (A.take (t + 1))).length = (keyL key (A.take t)).length) := hide (by rw [hnx])
                      have kp9 := kp8.trans (Kp.alloc wr (.cells A[t].c 45)) (by simp)
                      clear hnx he
                      generalize A[t] = y at *
                      generalize (keyL key (A.take t)).length = q at *
                      obtain ⟨yk, yt, n0, n1, n2, n3, yx⟩ := y
                      unfold Ev.c at kp9
                      dsimp only at x0 x1 x2 x3 x4 x5 x6 heb kp9
                      have KP9 := hide kp9
                      clear kp9 kp8
                      go_wp2
                      go_roundw
                      case rel => exact ⟨t + 1, by omega, by go_num, by rw [unhide HL2], unhide KP9⟩
                      case measure => simp [intOf]; omega
                  · obtain rfl : t = A.length := by omega
                    have hta : ¬ (A.length : Int) < (A.length : Int) := by omega
                    have HC9 := hide ((unhide HC8).next kp8)
                    have hlq : (keyL key (A.take A.length)).length = X.length := by rw [List.take_of_length_le (Nat.le_refl _), unhide HXA]
                    rw [hlq]
                    clear hlq HC8 kp8 HRA8 HRX8 HXA
                    go_wp2
                    go_roundw
                    case rel => exact ⟨j + 1, mny + X.length, by omega, by go_num, by go_num, by omega, HMS2, HC9⟩
                    case measure => simp [intOf]; omega
              · obtain rfl : j = ks.length := by omega
                have hjj : ¬ (ks.length : Int) < (ks.length : Int) := by omega
                have hms := unhide HMS
                rw [List.take_of_length_le (Nat.le_refl _), unhide HSM] at hms
                subst hms
                have KB := hide (unhide HC).ky.kp
                clear HC HMS HSM HXL HKC HI HCL
                go_wp2
                go_ret
                exact ⟨rfl, (unhide KB).below (Nat.le_refl _) (by simp)⟩
      · have hti : ¬ (k : Int) < (l.length : Int) := by omega
        go_wp2_with fail
        refine (unhide EN).mono ?_
        rintro r w5 ⟨rfl, hbe, ho5, hk5⟩
        have hbe0 : wr.heap.size < w5.heap.size := (Array.getElem?_eq_some_iff.1 hbe).1
        have hwr := (unhide HY).kp.size
        have hC0 : CuS w (w5.alloc (.cells (Array.replicate n (Value.int .i64 0)) 3)) g bm wr.heap.size w5.heap.size n u9 ks ps [] := by
          have ha := Kp.alloc w5 (.cells (Array.replicate n (Value.int .i64 0)) 3)
          refine ⟨((unhide HY).next hk5).next ha, hbe.kp ha (by simp), ?_, by omega, by omega, by simp, hps⟩
          have := CBox.new w5 (Array.replicate n (Value.int .i64 0)) 3
          exact this
        have HC0 := hide hC0
        have hlm : ∀ (j : Nat) (hj : j < ps.length), ps[j].length ≤ 4096 := fun j hj => hlim _ (List.getElem_mem _)
        have HLM := hide hlm
        clear hC0 hbe ho5 hk5 EN HY hlim hlm hbe0 hwr hi0 hz0 hz1 hz2
        rw [hps]
        go_wp2_with fail
        generalize w5.alloc (.cells (Array.replicate n (Value.int .i64 0)) 3) = W6 at *
        generalize w5.heap.size = bc at *
        generalize wr.heap.size = be at *
        clear hmk
        go_loopw [17, 104] (fun t i wx => ∃ (tot : Nat) (cs : List Nat), cs.length ≤ n ∧ i = .int .i64 (cs.length : Int) ∧ t = .int .i64 (tot : Int) ∧ tot ≤ cs.length * 4096 ∧ Hid (cs.sum = tot) ∧ Hid (CuS w wx g bm be bc n u9 ks ps cs)) (fun _ i _ => n - (intOf i).toNat)
        case atStart => exact ⟨0, [], Nat.zero_le _, rfl, rfl, by simp, hide rfl, HC0⟩
        case round =>
          clear HC0
          obtain ⟨tot, cs, hcn, rfl, rfl, htot, HSU, HC⟩ := hrel
          by_cases hj : cs.length < n
          · have hji : (cs.length : Int) < (n : Int) := by omega
            have hjp : cs.length < ps.length := by omega
            by_cases hjo : cs.length < os.length
            · have hjoi : (cs.length : Int) < (os.length : Int) := by omega
              obtain ⟨bo, oo, rfl, hbo, hco⟩ := unhide HO (fun e => by rw [e] at hjo; simp at hjo)
              have co := hco cs.length hjo
              have kW := (unhide HC).ky.kp.trans (Kp.drew wr) (by simp)
              have hC2 := (unhide HC).next (Kp.drew wr)
              have c1 := kW.cell co (by simp)
              have c2 := hC2.endC cs.length hjp
              have cz := hC2.zero hj
              have fz := hC2.cut.froz cs.length
              have hm := unhide HLM cs.length hjp
              obtain ⟨c, hc, hcm⟩ : ∃ c : Nat, os[cs.length] % ((ps[cs.length].length : Int) + 1) = (c : Int) ∧ c ≤ ps[cs.length].length := ⟨(os[cs.length] % ((ps[cs.length].length : Int) + 1)).toNat, by
                have := Int.emod_nonneg os[cs.length] (show ((ps[cs.length].length : Int) + 1) ≠ 0 by omega)
                omega, by
                have := Int.emod_lt_of_pos os[cs.length] (show (0 : Int) < ((ps[cs.length].length : Int) + 1) by omega)
                omega⟩
              have AM := hide (fun W => soAmong_any os[cs.length] ((ps[cs.length].length : Int) + 1) W (by omega) (by omega))
              rw [hc] at AM
              have hC3 : CuS w (wr.setCell ⟨bc, cs.length, none⟩ (.int .i64 ((c : Nat) : Int))).drew g bm be bc n u9 ks ps (cs ++ [c]) := hC2.set hj c (fun p hp => by rw [List.getElem?_eq_getElem hjp] at hp; injection hp with e; rw [← e]; exact hcm)
              have c1s := hC3.ky.kp.cell co (by simp)
              have c2s := hC3.endC cs.length hjp
              have cus := hC3.cutC cs.length (by rw [List.length_append]; simp)
              rw [List.getElem_append_right (Nat.le_refl _)] at cus
              simp only [Nat.sub_self, List.getElem_cons_zero] at cus
              have HC3 := hide hC3
              have cS := And.intro c1 c2
              have cS2 := And.intro c1s c2s
              have hct : c ≤ 4096 := by omega
              have HSU2 : Hid ((cs ++ [c]).sum = tot + c) := hide (by rw [List.sum_append, unhide HSU]; simp)
              have htot2 : tot + c ≤ (cs ++ [c]).length * 4096 := by rw [List.length_append]; simp; omega
              have hlen2 : (cs ++ [c]).length ≤ n := by rw [List.length_append]; simp; omega
              have HB := hide (And.intro htot2 hlen2)
              clear hC2 hC3 c1 c2 c1s c2s HC hco co hc kW htot2 hlen2 HLM
              generalize os[cs.length] = o at *
              generalize ps[cs.length].length = m at *
              clear hjp
              have hl2 : (cs ++ [c]).length = cs.length + 1 := by rw [List.length_append]; rfl
              have HL2 := hide hl2
              clear hl2
              generalize cs.length = J at *
              have hwr : IntKind.i64.wrap ((m : Int) + 1) = (m : Int) + 1 := by rw [IntKind.wrap_i64]; omega
              go_wp2_with fail
              go_region_held3 (fun W => W.cell? ⟨bo, oo + J, none⟩ = some (.int .i64 o) ∧ W.cell? ⟨be, J, none⟩ = some (.int .i64 (m : Int)))
                (first | with_reducible exact cS | with_reducible exact cS2)
                (first
                  | (go_at_call 15; refine (unhide AM _).mono ?_; rintro r w7 ⟨rfl, rfl⟩))
              go_wp2
              go_roundw
              case rel => exact ⟨tot + c, cs ++ [c], (unhide HB).2, by rw [unhide HL2]; go_num, by go_num, (unhide HB).1, HSU2, HC3⟩
              case measure => simp [intOf]; omega
            · have hjoi : ¬ (cs.length : Int) < (os.length : Int) := by omega
              have cz := (unhide HC).zero hj
              have HC3 := hide ((unhide HC).stay hj)
              have HSU2 : Hid ((cs ++ [0]).sum = tot) := hide (by rw [List.sum_append, unhide HSU]; simp)
              have hl2 : (cs ++ [0]).length = cs.length + 1 := by rw [List.length_append]; rfl
              have HL2 := hide hl2
              clear hl2 HC HLM
              generalize cs.length = J at *
              go_wp2
              go_roundw
              case rel => exact ⟨tot, cs ++ [0], by rw [unhide HL2]; omega, by rw [unhide HL2]; go_num, rfl, by rw [unhide HL2]; omega, HSU2, HC3⟩
              case measure => simp [intOf]; omega
          · have hcl : cs.length = n := by omega
            have hnn : ¬ (cs.length : Int) < (n : Int) := by omega
            have HCL := hide hcl
            have hsum : (ks.map fun k => (kyX ps cs k).length).sum = tot := by
              rw [← unhide HSU]
              exact keys_all ks ps cs (unhide HI).2.1 (unhide HI).1 (by omega) (unhide HC).le (by omega)
            have HSM := hide hsum
            have HXL := hide (fun k => kyX_len (unhide HC) k)
            obtain ⟨adk, cpk, hv9⟩ : ∃ adk cpk, u9 = .slice adk ks.length cpk := by
              obtain ⟨_, ⟨e, h0⟩ | ⟨gk, cp, cur, e, _⟩⟩ := (unhide HC).ky.row
              · exact ⟨none, 0, by rw [e, h0]⟩
              · exact ⟨_, _, e⟩
            have HKC : Hid (∀ W (hW : CuS w W g bm be bc n (.slice adk ks.length cpk) ks ps cs) (j : Nat) (hj : j < ks.length), ∃ gk, adk = some ⟨gk, 0, none⟩ ∧ W.cell? ⟨gk, j, none⟩ = some (.string ks[j])) := hide (fun W hW j hj => by
              have hrow := hW.ky.row
              obtain ⟨_, ⟨e, h0⟩ | ⟨gk, cp, cur, e, _⟩⟩ := id hrow
              · omega
              · injection e with e1 e2 e3
                subst e1 e3
                refine ⟨gk, rfl, ?_⟩
                rw [World.ownsRow.cellAt hrow j (by omega), List.getElem?_map, List.getElem?_eq_getElem hj]
                rfl)
            subst hv9
            clear hsum HLM HO HSU
            have hksb : ks.length ≤ 100 := by omega
            go_wp2_with fail
            go_loopw [19, 133] (fun m i wx => ∃ (j mny : Nat), j ≤ ks.length ∧ i = .int .i64 (j : Int) ∧ m = .int .i64 (mny : Int) ∧ mny ≤ j * 4096 ∧ Hid (((ks.take j).map fun k => (kyX ps cs k).length).sum = mny) ∧ Hid (CuS w wx g bm be bc n (.slice adk ks.length cpk) ks ps cs)) (fun _ i _ => ks.length - (intOf i).toNat)
            case atStart => exact ⟨0, 0, Nat.zero_le _, rfl, rfl, by omega, hide rfl, HC⟩
            case round =>
              clear HC
              obtain ⟨j, mny, hj, rfl, rfl, hmb, HMS, HC⟩ := hrel
              by_cases hjk : j < ks.length
              · have hji : (j : Int) < (ks.length : Int) := by omega
                obtain ⟨gk, rfl, ck⟩ := unhide HKC wr (unhide HC) j hjk
                have hkz := (unhide HI).2.2 ks[j] (List.getElem_mem hjk)
                have BL := hide ((unhide HC).below (unhide HCL) ks[j] hkz)
                have PT := hide (fun W (hW : CuS w W g bm be bc n (.slice (some ⟨gk, 0, none⟩) ks.length cpk) ks ps cs) => hW.part ks[j] hkz)
                have hpc : partOf ps.length ks[j] < cs.length := by rw [hcl, ← hps]; exact partOf_lt _ (by omega) _
                have RD := hide (fun W (hW : CuS w W g bm be bc n (.slice (some ⟨gk, 0, none⟩) ks.length cpk) ks ps cs) => hW.read (unhide HCL) ks[j] hpc)
                have CC := hide (fun W (hW : CuS w W g bm be bc n (.slice (some ⟨gk, 0, none⟩) ks.length cpk) ks ps cs) => hW.cutC (partOf ps.length ks[j]) hpc)
                have hxl := (unhide HXL ks[j]).1
                have hal := (unhide HXL ks[j]).2
                have hXA : kyX ps cs ks[j] = keyL ks[j] (kyA ps cs ks[j]) := rfl
                have hpn : (partOf ps.length ks[j] : Int) < (n : Int) := by omega
                have HMS2 : Hid (((ks.take (j + 1)).map fun k => (kyX ps cs k).length).sum = mny + (kyX ps cs ks[j]).length) := hide (by
                  rw [List.take_succ_eq_append_getElem hjk, List.map_append, List.sum_append, unhide HMS]
                  simp)
                have HXA := hide hXA
                clear hkz hXA HKC HMS HXL HI HCL HSM hcl hnn hcn
                generalize kyX ps cs ks[j] = X at *
                generalize kyA ps cs ks[j] = A at *
                generalize cs[partOf ps.length ks[j]] = cc at *
                generalize partOf ps.length ks[j] = pp at *
                generalize ks[j] = key at *
                have HKEEP := HC
                go_wp2_with fail
                refine (unhide BL).mono ?_
                rintro r w5 ⟨ax, cx, rfl, hrx, hc5⟩
                have HRX := hide hrx
                have HC5 := hide hc5
                clear hrx hc5 BL
                go_wp2_with fail
                refine (unhide PT w5 (unhide HC5)).mono ?_
                rintro r w6 ⟨rfl, hc6, hk6⟩
                have HC6 := hide hc6
                have HRX6 := hide ((unhide HRX).kp hk6 (by simp))
                clear hc6 hk6 HRX HC5
                go_wp2_with fail
                refine (unhide PT w6 (unhide HC6)).mono ?_
                rintro r w7 ⟨rfl, hc7, hk7⟩
                have HC7 := hide hc7
                have ccc := unhide CC w7 hc7
                have HRX7 := hide ((unhide HRX6).kp hk7 (by simp))
                clear hc7 hk7 HRX6 HC6 PT CC
                go_wp2_with fail
                refine (unhide RD w7 (unhide HC7)).mono ?_
                rintro r w8 ⟨aA, cA, rfl, hrA, hc8, hk8⟩
                have HC8 := hide hc8
                have HRX8 := hide ((unhide HRX7).kp hk8 (by simp)).evs
                have HRA8 := hide hrA.evs
                clear hc8 hk8 hrA HRX7 HC7 RD ccc
                go_wp2_with fail
                go_loopw [24, 166] (fun a i wx => ∃ t : Nat, t ≤ A.length ∧ i = .int .i64 (t : Int) ∧ a = .int .i64 ((keyL key (A.take t)).length : Int) ∧ Kp [] w8 wx) (fun _ i _ => A.length - (intOf i).toNat)
                case atStart => exact ⟨0, Nat.zero_le _, rfl, rfl, Kp.refl _ _⟩
                case round =>
                  obtain ⟨t, ht, rfl, rfl, kp8⟩ := hrel
                  by_cases htA : t < A.length
                  · have hti2 : (t : Int) < (A.length : Int) := by omega
                    obtain ⟨bA, oA, rfl, x0, x1, x2, x3, x4, x5, x6⟩ := ((unhide HRA8).kp kp8 (by simp)).seven t htA
                    have hnx := keyL_next key A t htA
                    have hql := keyL_len key A t
                    by_cases he : A[t].k = key
                    · rw [if_pos he] at hnx
                      have hat := keyL_at key A t htA he
                      rw [← unhide HXA] at hat
                      obtain ⟨hq, hqe⟩ := List.getElem?_eq_some_iff.1 hat
                      have kp9 := (kp8.trans (Kp.alloc wr (.cells A[t].c 45)) (by simp)).trans (Kp.drew _) (by simp)
                      obtain ⟨bX, oX, rfl, y0, y1, y2, y3, y4, y5, y6⟩ := ((unhide HRX8).kp kp9 (by simp)).seven _ hq
                      rw [hqe] at y0 y1 y2 y3 y4 y5 y6
                      have hbx := (CBox.new wr A[t].c 45).kp (Kp.drew _) (by simp)
                      have HL2 : Hid ((keyL key (A.take (t + 1))).length = (keyL key (A.take t)).length + 1) := hide (by rw [hnx, List.length_append]; rfl)
                      clear hnx hat hqe
                      generalize A[t] = y at *
                      generalize (keyL key (A.take t)).length = q at *
                      have hqi : (q : Int) < (X.length : Int) := by omega
                      have hdec : ¬ (X.length : Int) ≤ (q : Int) := by omega
                      have hdN : ¬ X.length ≤ q := by omega
                      have hdM : (X.length ≤ q) = False := eq_false hdN
                      obtain ⟨yk, yt, n0, n1, n2, n3, yx⟩ := y
                      unfold Ev.c at kp9 hbx y0 y1 y2 y3 y4 y5 y6
                      dsimp only at x0 x1 x2 x3 x4 x5 x6 y0 y1 y2 y3 y4 y5 y6 he kp9 hbx
                      subst he
                      have h4 := fun d W => eq4 d n0 n1 n2 n3 n0 n1 n2 n3 W
                      simp only [BEq.rfl, Bool.and_true] at h4
                      have z0 := hbx.cell (i := 0) rfl
                      have z1 := hbx.cell (i := 1) rfl
                      have z2 := hbx.cell (i := 2) rfl
                      have z3 := hbx.cell (i := 3) rfl
                      have z4 := hbx.cell (i := 4) rfl
                      have z5 := hbx.cell (i := 5) rfl
                      have z6 := hbx.cell (i := 6) rfl
                      have cS : (wr.alloc (.cells #[.string yk, .string yt, .int .i64 n0, .int .i64 n1, .int .i64 n2, .int .i64 n3, .string yx] 45)).drew.cell? ⟨bX, oX + q * 7, none⟩ = some (.string yk) ∧ (wr.alloc (.cells #[.string yk, .string yt, .int .i64 n0, .int .i64 n1, .int .i64 n2, .int .i64 n3, .string yx] 45)).drew.cell? ⟨bX, oX + q * 7 + 1, none⟩ = some (.string yt) ∧ (wr.alloc (.cells #[.string yk, .string yt, .int .i64 n0, .int .i64 n1, .int .i64 n2, .int .i64 n3, .string yx] 45)).drew.cell? ⟨bX, oX + q * 7 + 2, none⟩ = some (.int .i64 n0) ∧ (wr.alloc (.cells #[.string yk, .string yt, .int .i64 n0, .int .i64 n1, .int .i64 n2, .int .i64 n3, .string yx] 45)).drew.cell? ⟨bX, oX + q * 7 + 3, none⟩ = some (.int .i64 n1) ∧ (wr.alloc (.cells #[.string yk, .string yt, .int .i64 n0, .int .i64 n1, .int .i64 n2, .int .i64 n3, .string yx] 45)).drew.cell? ⟨bX, oX + q * 7 + 4, none⟩ = some (.int .i64 n2) ∧ (wr.alloc (.cells #[.string yk, .string yt, .int .i64 n0, .int .i64 n1, .int .i64 n2, .int .i64 n3, .string yx] 45)).drew.cell? ⟨bX, oX + q * 7 + 5, none⟩ = some (.int .i64 n3) ∧ (wr.alloc (.cells #[.string yk, .string yt, .int .i64 n0, .int .i64 n1, .int .i64 n2, .int .i64 n3, .string yx] 45)).drew.cell? ⟨bX, oX + q * 7 + 6, none⟩ = some (.string yx) ∧ (wr.alloc (.cells #[.string yk, .string yt, .int .i64 n0, .int .i64 n1, .int .i64 n2, .int .i64 n3, .string yx] 45)).drew.cell? ⟨wr.heap.size, 0, none⟩ = some (.string yk) ∧ (wr.alloc (.cells #[.string yk, .string yt, .int .i64 n0, .int .i64 n1, .int .i64 n2, .int .i64 n3, .string yx] 45)).drew.cell? ⟨wr.heap.size, 1, none⟩ = some (.string yt) ∧ (wr.alloc (.cells #[.string yk, .string yt, .int .i64 n0, .int .i64 n1, .int .i64 n2, .int .i64 n3, .string yx] 45)).drew.cell? ⟨wr.heap.size, 2, none⟩ = some (.int .i64 n0) ∧ (wr.alloc (.cells #[.string yk, .string yt, .int .i64 n0, .int .i64 n1, .int .i64 n2, .int .i64 n3, .string yx] 45)).drew.cell? ⟨wr.heap.size, 3, none⟩ = some (.int .i64 n1) ∧ (wr.alloc (.cells #[.string yk, .string yt, .int .i64 n0, .int .i64 n1, .int .i64 n2, .int .i64 n3, .string yx] 45)).drew.cell? ⟨wr.heap.size, 4, none⟩ = some (.int .i64 n2) ∧ (wr.alloc (.cells #[.string yk, .string yt, .int .i64 n0, .int .i64 n1, .int .i64 n2, .int .i64 n3, .string yx] 45)).drew.cell? ⟨wr.heap.size, 5, none⟩ = some (.int .i64 n3) ∧ (wr.alloc (.cells #[.string yk, .string yt, .int .i64 n0, .int .i64 n1, .int .i64 n2, .int .i64 n3, .string yx] 45)).drew.cell? ⟨wr.heap.size, 6, none⟩ = some (.string yx) := ⟨y0, y1, y2, y3, y4, y5, y6, z0, z1, z2, z3, z4, z5, z6⟩
                      have KP9 := hide kp9
                      clear y0 y1 y2 y3 y4 y5 y6 z0 z1 z2 z3 z4 z5 z6 hbx kp9 kp8
                      go_wp2_with fail
                      go_region_held3 (fun W => W.cell? ⟨bX, oX + q * 7, none⟩ = some (.string yk) ∧ W.cell? ⟨bX, oX + q * 7 + 1, none⟩ = some (.string yt) ∧ W.cell? ⟨bX, oX + q * 7 + 2, none⟩ = some (.int .i64 n0) ∧ W.cell? ⟨bX, oX + q * 7 + 3, none⟩ = some (.int .i64 n1) ∧ W.cell? ⟨bX, oX + q * 7 + 4, none⟩ = some (.int .i64 n2) ∧ W.cell? ⟨bX, oX + q * 7 + 5, none⟩ = some (.int .i64 n3) ∧ W.cell? ⟨bX, oX + q * 7 + 6, none⟩ = some (.string yx) ∧ W.cell? ⟨wr.heap.size, 0, none⟩ = some (.string yk) ∧ W.cell? ⟨wr.heap.size, 1, none⟩ = some (.string yt) ∧ W.cell? ⟨wr.heap.size, 2, none⟩ = some (.int .i64 n0) ∧ W.cell? ⟨wr.heap.size, 3, none⟩ = some (.int .i64 n1) ∧ W.cell? ⟨wr.heap.size, 4, none⟩ = some (.int .i64 n2) ∧ W.cell? ⟨wr.heap.size, 5, none⟩ = some (.int .i64 n3) ∧ W.cell? ⟨wr.heap.size, 6, none⟩ = some (.string yx))
                        (first | with_reducible exact cS)
                        (first | fail)
                      go_wp2
                      go_roundw
                      case rel => exact ⟨t + 1, by omega, by go_num, by rw [unhide HL2]; go_num, unhide KP9⟩
                      case measure => simp [intOf]; omega
                    · rw [if_neg he] at hnx
                      have heb := strNe he
                      have HL2 : Hid ((keyL key (A.take (t + 1))).length = (keyL key (A.take t)).length) := hide (by rw [hnx])
                      have kp9 := kp8.trans (Kp.alloc wr (.cells A[t].c 45)) (by simp)
                      clear hnx he
                      generalize A[t] = y at *
                      generalize (keyL key (A.take t)).length = q at *
                      obtain ⟨yk, yt, n0, n1, n2, n3, yx⟩ := y
                      unfold Ev.c at kp9
                      dsimp only at x0 x1 x2 x3 x4 x5 x6 heb kp9
                      have KP9 := hide kp9
                      clear kp9 kp8
                      go_wp2
                      go_roundw
                      case rel => exact ⟨t + 1, by omega, by go_num, by rw [unhide HL2], unhide KP9⟩
                      case measure => simp [intOf]; omega
                  · obtain rfl : t = A.length := by omega
                    have hta : ¬ (A.length : Int) < (A.length : Int) := by omega
                    have HC9 := hide ((unhide HC8).next kp8)
                    have hlq : (keyL key (A.take A.length)).length = X.length := by rw [List.take_of_length_le (Nat.le_refl _), unhide HXA]
                    rw [hlq]
                    clear hlq HC8 kp8 HRA8 HRX8 HXA
                    go_wp2
                    go_roundw
                    case rel => exact ⟨j + 1, mny + X.length, by omega, by go_num, by go_num, by omega, HMS2, HC9⟩
                    case measure => simp [intOf]; omega
              · obtain rfl : j = ks.length := by omega
                have hjj : ¬ (ks.length : Int) < (ks.length : Int) := by omega
                have hms := unhide HMS
                rw [List.take_of_length_le (Nat.le_refl _), unhide HSM] at hms
                subst hms
                have KB := hide (unhide HC).ky.kp
                clear HC HMS HSM HXL HKC HI HCL
                go_wp2
                go_ret
                exact ⟨rfl, (unhide KB).below (Nat.le_refl _) (by simp)⟩
end Go.Proofs.Ytkcbjjpbcgdabaa
