/-
  BufferStays: its walk.
-/
import Derived.Test.YthdfaidjdddagaaJ09
import Derived.Deep.CutBlock
namespace Go.Proofs.Ythdfaidjdddagaa
open Go.RowKit

/-- What is to be put: behind nothing, or behind what is held. -/
structure PIn (w wr wc : World) (vw : Value) (L : List It) (c : Nat → Ent) (t : Nat) (q s p : Int) (wy : List (Int × Int)) : Prop where
  rng : 0 ≤ s ∧ s < 8 ∧ 0 ≤ p ∧ p ≤ 1003 + 3 * (t : Int)
  par : ParOk c s p q
  way : IsWay c q wy
  len : wy.length ≤ t
  bnd : ∀ y ∈ wy, 0 ≤ y.1 ∧ y.1 < 8 ∧ 0 ≤ y.2 ∧ y.2 ≤ 1000 + 3 * (t : Int)
  own : OwP wr.heap.size wc vw wy
  kp : Kp [] wr wc
set_option maxHeartbeats 8000000 in
set_option maxRecDepth 100000 in
theorem bstays_walk (ad : Option Addr) (cp : Nat) (l : List Act16) (w : World) (_hl : l.length ≤ 9223372036854775807) (hA : Acs16 w ad l) (_hok : ∀ y ∈ l, y.ok) :
    Calls Try.prog 5 #[.slice ad l.length cp] w fun e w' => e = .returned (.bool true) ∧ Below w.heap.size w w' := by
  have NW := hide (buNew_any w)
  have HA := hide hA
  clear hA
  go_enter Try.func5, Try.ntmps5
  go_wp2_with fail
  refine (unhide NW).mono ?_
  rintro r w1 ⟨rfl, hb1, hk1⟩
  have HB1 := hide hb1
  have HK1 := hide hk1
  have WK := hide (bworks_any w1)
  clear NW hb1 hk1
  go_wp2_with fail
  refine (unhide WK).mono ?_
  rintro r w2 ⟨rfl, hk2⟩
  have HS : Hid (StS w w2 (.slice none 0 0) [] (fun _ => zeE) 0 0) := hide ⟨World.ownsRow_nil _ _ _ _, (unhide HB1).kp hk2 (by simp), StP.empty, (fun _ h => by cases h), (unhide HK1).trans hk2 (by simp)⟩
  clear WK HB1 HK1 hk2
  go_wp2_with fail
  go_loopw [4, 5] (fun v vi wr => ∃ (t m : Nat) (L : List It) (c : Nat → Ent), t ≤ 200 ∧ t ≤ l.length ∧ vi = .int .i64 (t : Int) ∧ Hid (StS w wr v L c m t)) (fun _ vi _ => 200 - (intOf vi).toNat)
  case atStart => exact ⟨0, 0, _, _, by decide, Nat.zero_le _, rfl, HS⟩
  case round =>
    clear HS
    obtain ⟨t, m, L, c, ht, htl, rfl, HS⟩ := hrel
    obtain ⟨av, cv, hv4⟩ := (unhide HS).form
    have hLl := (unhide HS).pl.len
    by_cases hcc : t < l.length ∧ t < 200
    · obtain ⟨h1, h2⟩ := hcc
      have i1 : (t : Int) < (l.length : Int) := by omega
      have i2 : (t : Int) < 200 := by omega
      obtain ⟨ba, oa, rfl, _, c0, c1, c2, c3⟩ := ((unhide HA).kp (unhide HS).kp).at t h1
      generalize l[t].kind = kd at *
      generalize l[t].stage = sg at *
      generalize l[t].place = pc at *
      generalize l[t].id = ii at *
      have kA : Kp [] wr (wr.alloc (.cells #[.int .i64 kd, .int .i64 sg, .int .i64 pc, .int .i64 ii] 30)) := Kp.alloc wr _
      have x1 := CBox.new wr #[.int .i64 kd, .int .i64 sg, .int .i64 pc, .int .i64 ii] 30
      have HX : Hid (CBox wr.heap.size #[.int .i64 kd, .int .i64 sg, .int .i64 pc, .int .i64 ii] 30 (wr.alloc (.cells #[.int .i64 kd, .int .i64 sg, .int .i64 pc, .int .i64 ii] 30))) := hide x1
      have HS3 := hide ((unhide HS).kp0 kA)
      have y0 := x1.cell (i := 0) (v := .int .i64 kd) rfl
      have y3 := x1.cell (i := 3) (v := .int .i64 ii) rfl
      have hv4' := hv4
      clear x1 kA
      subst hv4
      go_upto_if 48 with fail
      generalize wr.alloc (.cells #[.int .i64 kd, .int .i64 sg, .int .i64 pc, .int .i64 ii] 30) = w3 at *
      go_cut [7] (fun v wc => wc = w3 ∧ ∃ k : Nat, v = .int .i64 (k : Int) ∧ (0 < L.length → k < L.length))
      case first =>
        by_cases h0 : 0 < L.length
        · have j0 : (0 : Int) < (L.length : Int) := by omega
          have AM := hide (buAmong_any ii (L.length : Int) w3 j0 (by omega))
          have hx := Int.emod_nonneg ii (b := (L.length : Int)) (by omega)
          have hx2 := Int.emod_lt_of_pos ii (b := (L.length : Int)) (by omega)
          go_wp2_with fail
          refine (unhide AM).mono ?_
          rintro r w4 ⟨rfl, rfl⟩
          clear AM
          generalize ii % (L.length : Int) = X at *
          go_wp2_with fail
          go_meet
          exact ⟨rfl, X.toNat, by congr 1; omega, fun _ => by omega⟩
        · have j0 : ¬ (0 : Int) < (L.length : Int) := by omega
          go_wp2_with fail
          go_meet
          exact ⟨rfl, 0, rfl, fun h => absurd h h0⟩
      case rest =>
        obtain ⟨hw, k, rfl, hk⟩ := hcut
        obtain rfl := hw.symm
        clear c0 c1 c2 c3 y3
        have AM := hide (buAmong_any kd 4 w3 (by decide) (by decide))
        have hx := Int.emod_nonneg kd (b := 4) (by decide)
        have hx2 := Int.emod_lt_of_pos kd (b := 4) (by decide)
        go_upto_block 2 with (go_at_call 9; refine (unhide AM).mono ?_; rintro r w4 ⟨rfl, hw4⟩; obtain rfl := hw4.symm)
        go_cut [4] (fun v wc => ∃ (m' : Nat) (L' : List It) (c' : Nat → Ent), Hid (StS w wc v L' c' m' (t + 1)))
        case first =>
          clear AM
          generalize kd % 4 = K at *
          rcases (show K = 2 ∨ K = 3 ∨ (K = 0 ∨ K = 1) by omega) with rfl | rfl | hK
          · -- held once more
            as_aux_lemma =>
              by_cases h0 : 0 < L.length
              · have j0 : (0 : Int) < (L.length : Int) := by omega
                have hkL := hk h0
                have hki : (k : Int) < (L.length : Int) := by omega
                obtain ⟨g, cap, hv, hg, hcap, hcm, hgl, hcell⟩ := (unhide HS3).at h0
                simp only [Value.slice.injEq, true_and] at hv
                obtain ⟨rfl, hcp⟩ := hv
                obtain rfl := hcp.symm
                have a1 := hcell _ _ (itC_at L k hkL).1
                have hxL : L[k] ∈ L := List.getElem_mem hkL
                obtain ⟨hd1, hd2, hd3⟩ := (unhide HS3).pl.held hxL
                have HO := hide (buHold_ok w.heap.size L[k].id hd1 c m w3 (unhide HS3).bu ((unhide HS3).pl.iv.sml (by omega)) hd3)
                have HP := hide ((unhide HS3).pl.hold1 hxL)
                have HXL := hide hxL
                have HC2 := hide (hcell _ _ (itC_at L k hkL).2)
                clear hcell hxL hd2 hd3
                generalize L[k] = x at *
                go_wp2_with fail
                refine (unhide HO).mono ?_
                rintro r w5 ⟨rfl, hb5, hk5⟩
                obtain ⟨row5, bu5, ways5, kp5⟩ := (unhide HS3).step hk5 hb5
                have b1 : w5.cell? ⟨g, k * 2, none⟩ = some (.int .i64 (x.id : Int)) := hk5.cell a1 (by simp; omega)
                have b2 : w5.cell? ⟨g, k * 2 + 1, none⟩ = some x.v := hk5.cell (unhide HC2) (by simp; omega)
                have HW5 : Hid (∀ y ∈ L ++ [x], OwP (w.heap.size + 1) w5 y.v y.way) := hide (fun y hy => by
                  rcases List.mem_append.1 hy with h | h
                  · exact ways5 y h
                  · simp at h; subst h; exact ways5 _ (unhide HXL))
                have HONE : Hid (x.v.oneCell' = true) := hide (by
                  obtain ⟨a, b, e⟩ := (ways5 x (unhide HXL)).form
                  rw [e]; rfl)
                have HB5 := hide bu5
                have HK5 := hide kp5
                have hsz5 : w.heap.size + 1 ≤ w5.heap.size := by have := bu5.lt; omega
                have HR5 := hide row5
                obtain ⟨i0, hi0, hz0, hz1, hz2⟩ := info_parts info_held
                have hb1 : L.length + 1 ≤ maxLen := by unfold maxLen; omega
                have hb2 : (L.length + 1) * 32 ≤ 140737488355328 := by omega
                clear HO hb5 hk5 a1 ways5 bu5 kp5 HC2
                go_wp2_with (at_builtin; refine wpList_append_lies _ rfl _ _ 46 rfl (w.heap.size + 1) 48 i0 (.agg #[.int .i64 0, .slice none 0 0]) 2 32 Try.underlying46 hi0 hz0 hz1 hz2 rfl (by decide) (.slice (some ⟨g, 0, none⟩) L.length cap) L.length (itC L) rfl (row5.alloc _) ⟨w5.heap.size, 0, none⟩ 1 1 [.int .i64 (x.id : Int), x.v] rfl rfl (two_new w5 _ rfl _ _ _) (by intro u hu; simp at hu; rcases hu with rfl | rfl; exact rfl; exact unhide HONE) (by omega) hb1 hb2 (by simp; omega) _ rfl ?_; intro g6 cap6 w6 hown6 hgr6 hat6 hlt6; have HS6 := hide (StS.push (unhide HR5) (unhide HB5) (unhide HW5) (unhide HK5) (unhide HP) hown6 hgr6); clear hown6 hgr6 hat6 hlt6)
                go_wp2_with fail
                go_meet
                exact ⟨_, _, _, HS6⟩
              · have j0 : ¬ (0 : Int) < (L.length : Int) := by omega
                go_wp2_with fail
                go_meet
                exact ⟨m, L, c, hide ⟨(unhide HS3).row, (unhide HS3).bu, (unhide HS3).pl.up (by omega), (unhide HS3).ways, (unhide HS3).kp⟩⟩
          · -- dropped
            as_aux_lemma =>
              by_cases h0 : 0 < L.length
              · have j0 : (0 : Int) < (L.length : Int) := by omega
                have hkL := hk h0
                have hki : (k : Int) < (L.length : Int) := by omega
                obtain ⟨g, cap, hv, hg, hcap, hcm, hgl, hcell⟩ := (unhide HS3).at h0
                simp only [Value.slice.injEq, true_and] at hv
                obtain ⟨rfl, hcp⟩ := hv
                obtain rfl := hcp.symm
                have a1 := hcell _ _ (itC_at L k hkL).1
                have hxL : L[k] ∈ L := List.getElem_mem hkL
                obtain ⟨hd1, hd2, hd3⟩ := (unhide HS3).pl.held hxL
                have DR := hide (buDrop_ok w.heap.size L[k].id hd1 c m (t : Int) w3 (unhide HS3).bu (unhide HS3).pl.iv (by omega) (by omega) hd2)
                have HCL := hide hcell
                have HPD : Hid (∀ n d, Swp (lgE c L[k].id) (L[k].id : Int) n d → BIv d (-1) (m - n) (t : Int) → StP d (m - n) (L.take k ++ L.drop (k + 1)) t) := hide (fun n d h1 h2 => (unhide HS3).pl.drop hkL h1 h2)
                clear hcell hxL hd2 hd3
                generalize L[k].id = xi at *
                unfold maxLen at hcm
                have hcw : IntKind.i64.wrap (cap : Int) = (cap : Int) := by rw [IntKind.wrap_i64] <;> omega
                have hk1w : IntKind.i64.wrap ((k : Int) + 1) = ((k + 1 : Nat) : Int) := by rw [IntKind.wrap_i64] <;> omega
                go_wp2_with fail
                refine (unhide DR).mono ?_
                rintro r w5 ⟨n, d, rfl, _, hsw, hb5, hi5, hk5⟩
                have HP5 := hide (unhide HPD n d (unhide hsw) (unhide hi5))
                obtain ⟨row5, bu5, ways5, kp5⟩ := (unhide HS3).step hk5 hb5
                have SRC : Hid (∀ W, Kp [] w5 W → ∀ j u, (itC L)[j]? = some u → W.cell? ⟨g, j, none⟩ = some u) := hide (fun W hW j u hu => hW.cell (hk5.cell (unhide HCL j u hu) (by simp; omega)) (by simp))
                have HON := hide (unhide HS3).one
                have HB5 := hide bu5
                have HK5 := hide kp5
                have HW5 := hide ways5
                have hsz5 : w.heap.size + 1 ≤ w5.heap.size := by have := bu5.lt; omega
                clear DR HPD hsw hb5 hi5 hk5 row5 bu5 ways5 kp5 a1 HCL HS3
                obtain ⟨kk, hkk⟩ : ∃ kk, kk = k + 1 := ⟨_, rfl⟩
                rw [← hkk] at hk1w HP5
                have hkk1 : kk ≤ L.length := by omega
                have q1 : (kk : Int) ≤ (L.length : Int) := by omega
                have q2 : (kk : Int) ≤ (cap : Int) := by omega
                have q3 : (k : Int) ≤ (cap : Int) := by omega
                have q4 : (L.length : Int) ≤ (cap : Int) := by omega
                have HT1 : Hid ((itC (L.take k)).length = k * 2) := hide (by rw [itC_len, List.length_take]; congr 1; omega)
                have HT2 : Hid ((itC (L.drop kk)).length = (L.length - kk) * 2) := hide (by rw [itC_len, List.length_drop])
                have HLN : Hid (k + (L.length - kk) = L.length - 1) := hide (by omega)
                have HKL : Hid ((L.take k ++ L.drop kk).length = L.length - 1) := hide (by rw [List.length_append, List.length_take, List.length_drop]; omega)
                have HSUB : Hid (∀ y ∈ L.take k ++ L.drop kk, y ∈ L) := hide (fun y hy => by
                  rcases List.mem_append.1 hy with h | h
                  · exact List.mem_of_mem_take h
                  · exact List.mem_of_mem_drop h)
                have HO1 : Hid (∀ u ∈ itC (L.take k), u.oneCell' = true) := hide (fun u hu => unhide HON u (by rw [itC_take] at hu; exact List.mem_of_mem_take hu))
                have HO2 : Hid (∀ u ∈ itC (L.drop kk), u.oneCell' = true) := hide (fun u hu => unhide HON u (by rw [itC_drop] at hu; exact List.mem_of_mem_drop hu))
                have HDE : Hid (cap = kk → itC (L.drop kk) = []) := hide (fun h => by rw [List.drop_of_length_le (by omega)]; rfl)
                have kE : Kp [] w5 (w5.alloc (.cells #[] 48)).drew := (Kp.alloc _ _).trans (Kp.drew _) (by simp)
                have oE : (w5.alloc (.cells #[] 48)).drew.ownsRow 0 48 2 (.slice (some ⟨w5.heap.size, 0, none⟩) 0 0) 0 [] := it_empty w5
                obtain ⟨i0, hi0, hz0, hz1, hz2⟩ := info_parts info_held
                have HKE := hide kE
                have hcap2 : L.length ≤ 200 := by omega
                clear hkk kE HON
                have HDD0 := HDE
                by_cases hck : cap = kk
                · have HDD : Hid (itC (L.drop kk) = []) := hide (unhide HDE hck)
                  obtain rfl := hck.symm
                  have HT0 : Hid ((itC (L.drop kk)).length = 0 * 2) := hide (by rw [unhide HDD]; rfl)
                  have HL0 : Hid (k + 0 = L.length - 1) := hide (by have := unhide HLN; omega)
                  clear HDE HDD0
                  go_wp2_with fail
                  go_region_law
                    (first
                      | (refine step_app_any rfl (.tmp 76) (.tmp 80) 46 rfl 48 i0 (.agg #[.int .i64 0, .slice none 0 0]) 2 32 Try.underlying46 hi0 hz0 hz1 hz2 rfl (by decide) rfl own6 _ _ _ (itC (L.drop kk)) rfl (by first | exact unhide HT2 | exact unhide HT0) (fun h => by cases h) (fun a ha => by injection ha with ha; subst ha; rfl) (by first | exact src2 kk (unhide SRC _ (unhide HK6)) | exact fun a ha j u hu => absurd hu (by rw [unhide HDD]; simp)) (unhide HO2) (by unfold maxLen; omega) (by omega) (L.length - 1) (by first | exact unhide HLN | exact unhide HL0) ?_; intro g7 cap7 w7 own7 gr7 at7; have k7 : Kp [] w5 w7 := (unhide HK6).trans (Kp.of gr7) (by simp; omega); have HG7 : Hid (w5.heap.size ≤ g7) := hide (by have := (unhide HK6).size; rcases at7 with rfl | rfl <;> omega); have HS7 : Hid (StS w w7 (.slice (some ⟨g7, 0, none⟩) (L.length - 1) cap7) (L.take k ++ L.drop kk) d (m - n) (t + 1)) := hide (StS.less (unhide HB5) (unhide HW5) (unhide HSUB) (unhide HK5) ((unhide HP5).up (by omega)) (unhide HG7) (by rw [unhide HKL]) hsz5 (by rw [unhide HKL, itC_app]; exact own7) k7); clear own7 gr7 at7 k7)
                      | (refine step_app_any rfl (.tmp 72) (.tmp 75) 46 rfl 48 i0 (.agg #[.int .i64 0, .slice none 0 0]) 2 32 Try.underlying46 hi0 hz0 hz1 hz2 rfl (by decide) rfl oE _ _ _ (itC (L.take k)) rfl (unhide HT1) (fun h => by cases h) (fun a ha => by injection ha with ha; subst ha; rfl) (src1 k (unhide SRC _ (unhide HKE))) (unhide HO1) (by unfold maxLen; omega) (by omega) k (Nat.zero_add _) ?_; intro g6 cap6 w6 own6 gr6 at6; have HK6 : Hid (Kp [] w5 w6) := hide (kp_gr (unhide HKE) gr6 (Nat.le_refl _)); have hg6 : w5.heap.size ≤ g6 := (by rcases at6 with rfl | rfl <;> (try simp) <;> omega); clear gr6 at6))
                  all_goals
                    go_wp2_with fail
                    go_meet
                    exact ⟨_, _, _, HS7⟩
                · clear HDE
                  have HDD := HDD0
                  go_wp2_with fail
                  go_region_law
                    (first
                      | (refine step_app_any rfl (.tmp 76) (.tmp 80) 46 rfl 48 i0 (.agg #[.int .i64 0, .slice none 0 0]) 2 32 Try.underlying46 hi0 hz0 hz1 hz2 rfl (by decide) rfl own6 _ _ _ (itC (L.drop kk)) rfl (by first | exact unhide HT2 | exact unhide HT0) (fun h => by cases h) (fun a ha => by injection ha with ha; subst ha; rfl) (by first | exact src2 kk (unhide SRC _ (unhide HK6)) | exact fun a ha j u hu => absurd hu (by rw [unhide HDD]; simp)) (unhide HO2) (by unfold maxLen; omega) (by omega) (L.length - 1) (by first | exact unhide HLN | exact unhide HL0) ?_; intro g7 cap7 w7 own7 gr7 at7; have k7 : Kp [] w5 w7 := (unhide HK6).trans (Kp.of gr7) (by simp; omega); have HG7 : Hid (w5.heap.size ≤ g7) := hide (by have := (unhide HK6).size; rcases at7 with rfl | rfl <;> omega); have HS7 : Hid (StS w w7 (.slice (some ⟨g7, 0, none⟩) (L.length - 1) cap7) (L.take k ++ L.drop kk) d (m - n) (t + 1)) := hide (StS.less (unhide HB5) (unhide HW5) (unhide HSUB) (unhide HK5) ((unhide HP5).up (by omega)) (unhide HG7) (by rw [unhide HKL]) hsz5 (by rw [unhide HKL, itC_app]; exact own7) k7); clear own7 gr7 at7 k7)
                      | (refine step_app_any rfl (.tmp 72) (.tmp 75) 46 rfl 48 i0 (.agg #[.int .i64 0, .slice none 0 0]) 2 32 Try.underlying46 hi0 hz0 hz1 hz2 rfl (by decide) rfl oE _ _ _ (itC (L.take k)) rfl (unhide HT1) (fun h => by cases h) (fun a ha => by injection ha with ha; subst ha; rfl) (src1 k (unhide SRC _ (unhide HKE))) (unhide HO1) (by unfold maxLen; omega) (by omega) k (Nat.zero_add _) ?_; intro g6 cap6 w6 own6 gr6 at6; have HK6 : Hid (Kp [] w5 w6) := hide (kp_gr (unhide HKE) gr6 (Nat.le_refl _)); have hg6 : w5.heap.size ≤ g6 := (by rcases at6 with rfl | rfl <;> (try simp) <;> omega); clear gr6 at6))
                  all_goals
                    go_wp2_with fail
                    go_meet
                    exact ⟨_, _, _, HS7⟩
              · have j0 : ¬ (0 : Int) < (L.length : Int) := by omega
                go_wp2_with fail
                go_meet
                exact ⟨m, L, c, hide ⟨(unhide HS3).row, (unhide HS3).bu, (unhide HS3).pl.up (by omega), (unhide HS3).ways, (unhide HS3).kp⟩⟩
          · -- put
            have x3 := (unhide HX)
            have y1 := x3.cell (i := 1) (v := .int .i64 sg) rfl
            have y2 := x3.cell (i := 2) (v := .int .i64 pc) rfl
            have A1 : Hid (∀ W, Calls Try.prog 9 #[.int .i64 sg, .int .i64 8] W fun e w' => e = .returned (.int .i64 (sg % 8)) ∧ w' = W) := hide (fun W => buAmong_any _ 8 W (by decide) (by decide))
            have A2 : Hid (∀ W, Calls Try.prog 9 #[.int .i64 pc, .int .i64 1000] W fun e w' => e = .returned (.int .i64 (pc % 1000)) ∧ w' = W) := hide (fun W => buAmong_any _ 1000 W (by decide) (by decide))
            have A3 : Hid (∀ W, Calls Try.prog 9 #[.int .i64 pc, .int .i64 3] W fun e w' => e = .returned (.int .i64 (pc % 3)) ∧ w' = W) := hide (fun W => buAmong_any _ 3 W (by decide) (by decide))
            have r1 := Int.emod_nonneg sg (b := 8) (by decide)
            have r2 := Int.emod_lt_of_pos sg (b := 8) (by decide)
            have r3 := Int.emod_nonneg pc (b := 1000) (by decide)
            have r4 := Int.emod_lt_of_pos pc (b := 1000) (by decide)
            have r5 := Int.emod_nonneg pc (b := 3) (by decide)
            have r6 := Int.emod_lt_of_pos pc (b := 3) (by decide)
            generalize sg % 8 = s0 at *
            generalize pc % 1000 = p0 at *
            generalize pc % 3 = d0 at *
            have hsz3 : w.heap.size + 1 ≤ w3.heap.size := by have := (unhide HS3).bu.lt; omega
            clear x3
            go_upto_if 82 with fail
            go_cut [82] (fun v wc => v = .bool true ∧ wc = w3)
            case first =>
              rcases hK with rfl | rfl
              · go_wp2_with fail
                go_meet
                exact ⟨rfl, rfl⟩
              · go_wp2_with fail
                go_meet
                exact ⟨rfl, rfl⟩
            case rest =>
              obtain ⟨rfl, hw⟩ := hcut
              obtain rfl := hw.symm
              go_upto_region 22 with fail
              go_cut [10, 11] (fun v u wc => v = .int .i64 s0 ∧ u = .int .i64 p0 ∧ Hid (Kp [] w3 wc))
              case first =>
                go_region_with (go_at_call 9; first | ((with_reducible refine (unhide A1 _).mono ?_); rintro e w' ⟨rfl, rfl⟩) | ((with_reducible refine (unhide A2 _).mono ?_); rintro e w' ⟨rfl, rfl⟩))
                all_goals
                  go_wp2_with fail
                  go_meet
                  exact ⟨rfl, rfl, hide (Kp.drew _)⟩
              case rest =>
                obtain ⟨rfl, rfl, HK4⟩ := hcut
                have HS4 := hide ((unhide HS3).kp0 (unhide HK4))
                have x4 := (unhide HX).kp (unhide HK4) (by simp)
                have z0 := x4.cell (i := 0) (v := .int .i64 kd) rfl
                have HX4 := hide x4
                have hsz4 : w.heap.size + 1 ≤ wc.heap.size := by have := (unhide HK4).size; omega
                clear A1 A2 y0 y1 y2 HS3 HX HK4 x4
                generalize wc = w4 at *
                go_upto_region 23 with fail
                go_cut [99] (fun v wc => wc = w4 ∧ ∃ cc : Bool, v = .bool cc ∧ Hid (cc = true ↔ 0 < L.length ∧ kd.tmod 2 ≠ 0))
                case first =>
                  by_cases h0 : 0 < L.length
                  · have j0 : (0 : Int) < (L.length : Int) := by omega
                    by_cases hm : kd.tmod 2 = 0
                    · go_wp2_with fail
                      go_meet
                      exact ⟨rfl, _, rfl, hide (by simp [hm])⟩
                    · go_wp2_with fail
                      go_meet
                      exact ⟨rfl, _, rfl, hide (by simp [hm, h0])⟩
                  · have j0 : ¬ (0 : Int) < (L.length : Int) := by omega
                    go_wp2_with fail
                    go_meet
                    exact ⟨rfl, _, rfl, hide (by simp [h0])⟩
                case rest =>
                obtain ⟨hw, cc, rfl, HCC⟩ := hcut
                obtain rfl := hw.symm
                go_upto_if 99 with fail
                go_cut [8, 9, 10, 11] (fun vq vw vs vp wc => ∃ (q s p : Int) (wy : List (Int × Int)), vq = .int .i64 q ∧ vs = .int .i64 s ∧ vp = .int .i64 p ∧ Hid (PIn w w4 wc vw L c t q s p wy))
                case first =>
                  cases cc with
                  | false =>
                    go_wp2_with fail
                    go_meet
                    exact ⟨_, _, _, [], rfl, rfl, rfl, hide ⟨by omega, Or.inl rfl, IsWay.none, by simp, by simp, OwP.nil _ _, Kp.refl _ _⟩⟩
                  | true =>
                    as_aux_lemma =>
                      have h0 : 0 < L.length := ((unhide HCC).1 (by trivial)).1
                      have hkL := hk h0
                      have hki : (k : Int) < (L.length : Int) := by omega
                      obtain ⟨g, cap, hv, hg, hcap, hcm, hgl, hcell⟩ := (unhide HS4).at h0
                      simp only [Value.slice.injEq, true_and] at hv
                      obtain ⟨rfl, hcp⟩ := hv
                      obtain rfl := hcp.symm
                      have a1 := hcell _ _ (itC_at L k hkL).1
                      have a2 := hcell _ _ (itC_at L k hkL).2
                      have hxL : L[k] ∈ L := List.getElem_mem hkL
                      obtain ⟨hd1, hd2, hd3⟩ := (unhide HS4).pl.held hxL
                      have hway := (unhide HS4).pl.way _ hxL
                      obtain ⟨_, _, kx, hkx, _⟩ := hway.lv
                      obtain ⟨hbl, hbb⟩ := (unhide HS4).pl.bnd _ hxL
                      obtain ⟨gx, cx, hxv, hsrc⟩ := ((unhide HS4).ways _ hxL).src hway.ne
                      rw [hxv] at a2
                      have hlast := hbb ((c L[k].id).s, (c L[k].id).p) (by rw [hkx]; simp)
                      have hn1 : L[k].way.length = kx.length + 1 := by rw [hkx]; simp
                      have hgt : ∀ i, i = kx.length → L[k].way.getD i (0, 0) = ((c L[k].id).s, (c L[k].id).p) := fun i hi => by rw [hi, hkx]; exact getD_end _ _
                      have HWY := hide hway
                      have HBB := hide hbb
                      have HD := hide (And.intro hd1 hd3)
                      clear hcell hxL hd2 hxv hkx hway hbb
                      generalize L[k].way = Y at *
                      generalize L[k].id = xi at *
                      generalize kx.length = n1 at *
                      generalize hls : (c xi).s = lS at *
                      generalize hlp : (c xi).p = lP at *
                      have HLS := hide hls
                      have HLP := hide hlp
                      obtain ⟨hl1, hl2, hl3, hl4⟩ := hlast
                      dsimp only at hl1 hl2 hl3 hl4
                      have FIN5 : Hid (∀ g5 cap5 w5, w5.ownsRow w4.heap.size 41 2 (.slice (some ⟨g5, 0, none⟩) (0 + Y.length) cap5) (0 + Y.length) ([] ++ prC Y) → w4.grownBy w5 (Value.slice none 0 0).ownBlock → w5.cell? ⟨g5, n1 * 2, none⟩ = some (.int .i64 lS) ∧ w5.cell? ⟨g5, n1 * 2 + 1, none⟩ = some (.int .i64 lP) ∧ Hid (OwP w4.heap.size w5 (.slice (some ⟨g5, 0, none⟩) Y.length cap5) Y) ∧ Hid (Kp [] w4 w5)) := hide (fun g5 cap5 w5 h1 h2 => by
                        rw [Nat.zero_add, List.nil_append] at h1
                        have o5 : OwP w4.heap.size w5 (.slice (some ⟨g5, 0, none⟩) Y.length cap5) Y := h1
                        obtain ⟨g', cap', e, _, hf⟩ := o5.at (fun h => by rw [h] at hn1; simp at hn1)
                        simp only [Value.slice.injEq, true_and, Option.some.injEq, Addr.mk.injEq, and_true] at e
                        obtain ⟨rfl, rfl⟩ := e
                        have f1 := hf.fst n1 (by omega)
                        have f2 := hf.snd n1 (by omega)
                        rw [hgt n1 rfl] at f1 f2
                        exact ⟨f1, f2, hide o5, hide (Kp.of h2)⟩)
                      have hYw : IntKind.i64.wrap ((Y.length : Int) - 1) = (n1 : Int) := by rw [IntKind.wrap_i64] <;> omega
                      have hYi : (n1 : Int) < (Y.length : Int) := by omega
                      have hYn : n1 < Y.length := by omega
                      have HN1 := hide hn1
                      obtain ⟨j1, hj1, hy0, hy1, hy2⟩ := info_parts info_pair
                      have hb1 : 0 + Y.length ≤ maxLen := by unfold maxLen; omega
                      have hb2 : (0 + Y.length) * 16 ≤ 140737488355328 := by omega
                      have hYp : 0 < Y.length := by omega
                      clear hgt hls hlp hn1 HCC
                      go_wp2_with (at_builtin; refine wpList_append_lies _ rfl _ _ 37 rfl w4.heap.size 41 j1 (.agg #[.int .i64 0, .int .i64 0]) 2 16 Try.underlying37 hj1 hy0 hy1 hy2 rfl (by decide) (.slice none 0 0) 0 [] rfl (World.ownsRow_nil _ _ _ _) ⟨gx, 0, none⟩ Y.length cx (prC Y) rfl (prC_len Y) hsrc (prC_one Y) hYp hb1 hb2 (Nat.le_refl _) _ rfl ?_; intro g5 cap5 w5 hown5 hgr5 hat5 hlt5; obtain ⟨f1, f2, OW5, KP5⟩ := unhide FIN5 g5 cap5 w5 hown5 hgr5; have x6 := ((unhide HX4).kp (unhide KP5) (by simp)).kp (Kp.alloc w5 (.cells #[.int .i64 lS, .int .i64 lP] 41)) (by simp); have m2 := x6.cell (i := 2) (v := .int .i64 pc) rfl; have b6 := CBox.new w5 #[.int .i64 lS, .int .i64 lP] 41; have m3 := b6.cell (i := 0) (v := .int .i64 lS) rfl; have m4 := b6.cell (i := 1) (v := .int .i64 lP) rfl; clear hown5 hgr5 hat5 hlt5 x6 b6)
                      have hw1 : IntKind.i64.wrap (lP + 1) = lP + 1 := by rw [IntKind.wrap_i64] <;> omega
                      have hw2 : IntKind.i64.wrap (lP + 1 + d0) = lP + 1 + d0 := by rw [IntKind.wrap_i64] <;> omega
                      have HPN : Hid (∀ (s : Int) wc, s0 ≤ s → lS ≤ s → s < 8 → Kp [] (w5.alloc (.cells #[.int .i64 lS, .int .i64 lP] 41)) wc → PIn w w4 wc (.slice (some ⟨g5, 0, none⟩) Y.length cap5) L c t (xi : Int) s (lP + 1 + d0) Y) := hide (fun s wc h1 h2 h3 h4 => ⟨⟨by omega, h3, by omega, by omega⟩, Or.inr ⟨xi, rfl, (unhide HD).1, (unhide HD).2, by rw [unhide HLS]; exact h2, by rw [unhide HLP]; omega⟩, unhide HWY, hbl, unhide HBB, own_kp (unhide OW5) ((Kp.alloc _ _).trans h4 (by simp)) (fun _ _ => by simp), ((unhide KP5).trans (Kp.alloc _ _) (by simp)).trans h4 (by simp)⟩)
                      by_cases hmx : s0 < lS
                      · go_region_held3 (fun W => W.cell? ⟨w5.heap.size, 0, none⟩ = some (.int .i64 lS) ∧ W.cell? ⟨w5.heap.size, 1, none⟩ = some (.int .i64 lP) ∧ W.cell? ⟨wr.heap.size, 2, none⟩ = some (.int .i64 pc))
                          (exact ⟨m3, m4, m2⟩)
                          (first | (go_at_call 9; (with_reducible refine (unhide A3 _).mono ?_); rintro e w' ⟨rfl, rfl⟩))
                        all_goals
                          go_wp2_with fail
                          go_meet
                          exact ⟨_, lS, _, Y, rfl, rfl, rfl, hide (unhide HPN _ _ (by omega) (by omega) (by omega) (Kp.drew _))⟩
                      · go_region_held3 (fun W => W.cell? ⟨w5.heap.size, 0, none⟩ = some (.int .i64 lS) ∧ W.cell? ⟨w5.heap.size, 1, none⟩ = some (.int .i64 lP) ∧ W.cell? ⟨wr.heap.size, 2, none⟩ = some (.int .i64 pc))
                          (exact ⟨m3, m4, m2⟩)
                          (first | (go_at_call 9; (with_reducible refine (unhide A3 _).mono ?_); rintro e w' ⟨rfl, rfl⟩))
                        all_goals
                          go_wp2_with fail
                          go_meet
                          exact ⟨_, s0, _, Y, rfl, rfl, rfl, hide (unhide HPN _ _ (by omega) (by omega) (by omega) (Kp.drew _))⟩
                case rest =>
                  as_aux_lemma =>
                    obtain ⟨q, s, p, wy, rfl, rfl, rfl, HPI⟩ := hcut
                    clear z0 HX4 A3
                    generalize wc = w5 at *
                    have HS5 := hide ((unhide HS4).kp0 (unhide HPI).kp)
                    have PT := hide (put_any w.heap.size s p q c m (t : Int) w5 (unhide HS5).bu (unhide HS5).pl.iv (by omega))
                    have HL4 := hide (unhide HPI).len
                    go_wp2_with fail
                    refine (unhide PT).mono ?_
                    rintro r w6 ⟨id, er, d, n, rfl, hR, hb6, hk6⟩
                    obtain ⟨rfl, i, rfl, hpl⟩ := (unhide HS5).pl.put (by omega) (unhide hR) (unhide HPI).rng (unhide HPI).par (unhide HPI).way (unhide HPI).len (unhide HPI).bnd
                    obtain ⟨row6, bu6, ways6, kp6⟩ := (unhide HS5).step hk6 hb6
                    have ow6 : w6.ownsRow w4.heap.size 41 2 u9 wy.length (prC wy) := own_kp (unhide HPI).own hk6 (fun b hb => by have := own_ge (unhide HPI).own b hb; simp; omega)
                    have hsz6 : w4.heap.size ≤ w6.heap.size := Nat.le_trans (unhide HPI).kp.size hk6.size
                    have hwl : wy.length ≤ t := unhide HL4
                    have FIN : Hid (∀ (o : Obj) g7 cap7 w7, w7.ownsRow w4.heap.size 41 2 (.slice (some ⟨g7, 0, none⟩) (wy.length + 1) cap7) (wy.length + 1) (prC wy ++ [.int .i64 s, .int .i64 p]) → (w6.alloc o).grownBy w7 u9.ownBlock → _) := hide (fun o g7 cap7 w7 h1 h2 => StS.wayed (i := i) row6 bu6 ways6 (unhide HS4).ways kp6 hsz4 ow6 h1 h2)
                    have HPL := hide hpl
                    clear PT hR hb6 hk6 hpl row6 bu6 ways6 kp6 HPI HS5 HL4
                    obtain ⟨i0, hi0, hz0, hz1, hz2⟩ := info_parts info_held
                    obtain ⟨j1, hj1, hy0, hy1, hy2⟩ := info_parts info_pair
                    have hb1 : wy.length + 1 ≤ maxLen := by unfold maxLen; omega
                    have hb2 : (wy.length + 1) * 16 ≤ 140737488355328 := by omega
                    have hb3 : L.length + 1 ≤ maxLen := by unfold maxLen; omega
                    have hb4 : (L.length + 1) * 32 ≤ 140737488355328 := by omega
                    go_wp2_with (first
                      | (at_builtin; refine wpList_append_lies _ rfl _ _ 46 rfl (w.heap.size + 1) 48 i0 (.agg #[.int .i64 0, .slice none 0 0]) 2 32 Try.underlying46 hi0 hz0 hz1 hz2 rfl (by decide) (.slice av L.length cv) L.length (itC L) rfl (row7.alloc _) ⟨w7.heap.size, 0, none⟩ 1 1 [.int .i64 (i : Int), .slice (some ⟨g7, 0, none⟩) (wy.length + 1) cap7] rfl rfl (two_new w7 _ rfl _ _ _) (by intro u hu; simp at hu; rcases hu with rfl | rfl <;> rfl) (by omega) hb3 hb4 (by simp; omega) _ rfl ?_; intro g8 cap8 w8 hown8 hgr8 hat8 hlt8; have HS8 := hide (StS.push (x := ⟨i, wy ++ [(s, p)], .slice (some ⟨g7, 0, none⟩) (wy.length + 1) cap7⟩) row7 (unhide HB7) (unhide HW7) (unhide HK7) (unhide HPL _) hown8 hgr8); clear hown8 hgr8 hat8 hlt8)
                      | (at_builtin; refine wpList_append_lies _ rfl _ _ 37 rfl w4.heap.size 41 j1 (.agg #[.int .i64 0, .int .i64 0]) 2 16 Try.underlying37 hj1 hy0 hy1 hy2 rfl (by decide) u9 wy.length (prC wy) rfl (ow6.alloc _) ⟨w6.heap.size, 0, none⟩ 1 1 [.int .i64 s, .int .i64 p] rfl rfl (two_new w6 _ rfl _ _ _) (by intro u hu; simp at hu; rcases hu with rfl | rfl <;> rfl) (by omega) hb1 hb2 (by simp; omega) _ rfl ?_; intro g7 cap7 w7 hown7 hgr7 hat7 hlt7; obtain ⟨row7, bu7, ways7, kp7⟩ := unhide FIN _ g7 cap7 w7 hown7 hgr7; have HB7 := hide bu7; have HW7 := hide ways7; have HK7 := hide kp7; have hsz7 : w.heap.size + 1 ≤ w7.heap.size := (by have := bu7.lt; omega); clear hown7 hgr7 hat7 hlt7 bu7 ways7 kp7))
                    go_wp2_with fail
                    go_meet
                    exact ⟨_, _, _, HS8⟩
        case rest =>
          obtain ⟨m', L', c', HS4⟩ := hcut
          clear HS3 AM HX y0 hx hx2 hk
          generalize wc = w5 at *
          obtain ⟨av5, cv5, hv5⟩ := (unhide HS4).form
          have hLl5 := (unhide HS4).pl.len
          subst hv5
          go_wp2_with fail
          go_loopw [172] (fun v wq => ∃ j : Nat, j ≤ L'.length ∧ v = .int .i64 (j : Int) ∧ Hid (StS w wq (.slice av5 L'.length cv5) L' c' m' (t + 1))) (fun v _ => L'.length - (intOf v).toNat)
          case atStart => exact ⟨0, Nat.zero_le _, rfl, HS4⟩
          case round =>
            as_aux_lemma =>
              clear HS4
              obtain ⟨j, hj, rfl, HS5⟩ := hrel
              by_cases hjl : j < L'.length
              · have hji : (j : Int) < (L'.length : Int) := by omega
                obtain ⟨g, cap, hv, hg, hcap, hcm, hgl, hcell⟩ := (unhide HS5).at (by omega)
                simp only [Value.slice.injEq, true_and] at hv
                obtain ⟨rfl, hcp⟩ := hv
                obtain rfl := hcp.symm
                have a1 := hcell _ _ (itC_at L' j hjl).1
                have a2 := hcell _ _ (itC_at L' j hjl).2
                have hxL : L'[j] ∈ L' := List.getElem_mem hjl
                obtain ⟨hd1, hd2, hd3⟩ := (unhide HS5).pl.held hxL
                have HWY := hide ((unhide HS5).pl.way _ hxL)
                have hbl := ((unhide HS5).pl.bnd _ hxL).1
                have HXL := hide hxL
                obtain ⟨ax, cx, hxv⟩ := ((unhide HS5).ways _ hxL).form
                rw [hxv] at a2
                clear hcell hxL hd2
                generalize L'[j] = x at *
                have HXV := hide hxv
                clear hxv
                have HS6 := hide ((unhide HS5).kp0 (Kp.alloc wr (.cells #[.int .i64 (x.id : Int), .slice ax x.way.length cx] 48)))
                have bx := CBox.new wr #[.int .i64 (x.id : Int), .slice ax x.way.length cx] 48
                have b1 := bx.cell (i := 0) (v := .int .i64 (x.id : Int)) rfl
                have HBX := hide bx
                have WY := hide (buWay_ok w.heap.size x.id hd1 c' m' ((t + 1 : Nat) : Int) _ (unhide HS6).bu (unhide HS6).pl.iv (by omega) hd3)
                clear bx hd3 HS5
                go_wp2_with fail
                refine (unhide WY).mono ?_
                rintro r w7 ⟨l7, v7, rfl, hw7, hl7, ho7, hk7⟩
                obtain rfl := IsWay.one (unhide HWY) (unhide hw7)
                have HS7 := hide ((unhide HS6).kp0 hk7)
                have b2 := ((unhide HBX).kp hk7 (by simp)).cell (i := 1) (v := .slice ax x.way.length cx) rfl
                have WS := hide (ways_any v7 (.slice ax x.way.length cx) x.way x.way w7 ho7.read (by rw [← unhide HXV]; exact ((unhide HS7).ways x (unhide HXL)).read) (by omega) true (by simp))
                clear WY hw7 ho7 hk7 HS6 HBX a1 a2 b1
                go_wp2_with fail
                refine (unhide WS).mono ?_
                rintro r w8 ⟨rfl, hk8⟩
                have HS8 := hide ((unhide HS7).kp0 hk8)
                clear WS hk8 HS7 b2
                go_wp2_with fail
                go_roundw
                case rel => exact ⟨j + 1, by omega, by go_num, HS8⟩
                case measure => simp [intOf]; omega
              · obtain rfl : j = L'.length := by omega
                have hjj : ¬ (L'.length : Int) < (L'.length : Int) := by omega
                go_wp2_with fail
                go_roundw
                case rel => exact ⟨t + 1, m', L', c', by omega, by omega, by go_num, HS5⟩
                case measure => simp [intOf]; omega
    · -- the end
      rcases (show ¬ (t : Int) < (l.length : Int) ∨ ((t : Int) < (l.length : Int) ∧ ¬ (t : Int) < 200) by omega) with i1 | ⟨i1, i2⟩
      all_goals
        subst hv4
        go_wp2_with fail
        go_loopw [195] (fun v wq => ∃ (j m' : Nat) (c' : Nat → Ent), j ≤ L.length ∧ v = .int .i64 (j : Int) ∧ Hid (EnS w wq (.slice av L.length cv) L c' m' t j)) (fun v _ => L.length - (intOf v).toNat)
        case atStart => exact ⟨0, m, c, Nat.zero_le _, rfl, hide ⟨(unhide HS).row, (unhide HS).bu, by rw [List.drop_zero]; exact (unhide HS).pl, (unhide HS).kp, fun x hx => by obtain ⟨a, b, e⟩ := ((unhide HS).ways x hx).form; exact ⟨a, _, b, e⟩⟩⟩
        case round =>
          as_aux_lemma =>
            clear HS
            obtain ⟨j, m', c', hj, rfl, HE⟩ := hrel
            by_cases hjl : j < L.length
            · have hji : (j : Int) < (L.length : Int) := by omega
              obtain ⟨g, cap, hv, hcell⟩ := itr_at (unhide HE).row (by omega)
              simp only [Value.slice.injEq, true_and] at hv
              obtain ⟨rfl, hcp⟩ := hv
              obtain rfl := hcp.symm
              have a1 := hcell _ _ (itC_at L j hjl).1
              have a2 := hcell _ _ (itC_at L j hjl).2
              obtain ⟨hd1, hd2⟩ := (unhide HE).held hjl
              obtain ⟨ax, nx, cx, hxv⟩ := (unhide HE).sl _ (List.getElem_mem hjl)
              rw [hxv] at a2
              clear hxv
              have bx := CBox.new wr #[.int .i64 (L[j].id : Int), .slice ax nx cx] 48
              have b1 := bx.cell (i := 0) (v := .int .i64 (L[j].id : Int)) rfl
              have kb : Kp [] wr (wr.alloc (.cells #[.int .i64 (L[j].id : Int), .slice ax nx cx] 48)) := Kp.alloc _ _
              have DR := hide (buDrop_ok w.heap.size L[j].id hd1 c' m' (t : Int) _ ((unhide HE).bu.kp kb (by simp)) (unhide HE).pl.iv (by omega) (by omega) hd2)
              have FIN : Hid (∀ n d w', Swp (lgE c' L[j].id) (L[j].id : Int) n d → BIv d (-1) (m' - n) (t : Int) → Bu w.heap.size d ((m' - n : Nat) : Int) w' → Kp [w.heap.size] (wr.alloc (.cells #[.int .i64 (L[j].id : Int), .slice ax nx cx] 48)) w' → EnS w w' (.slice (some ⟨g, 0, none⟩) L.length cap) L d (m' - n) t (j + 1)) := hide (fun n d w' h1 h2 h3 h4 => (unhide HE).next hjl h1 h2 h3 ((kb.mono (by simp)).trans h4 (by simp)))
              clear hcell hd2 bx kb
              generalize L[j].id = xi at *
              go_wp2_with fail
              refine (unhide DR).mono ?_
              rintro r w7 ⟨n, d, rfl, _, hsw, hb7, hi7, hk7⟩
              have HE7 := hide (unhide FIN n d w7 (unhide hsw) (unhide hi7) hb7 hk7)
              clear DR FIN hsw hb7 hi7 hk7 HE a1 a2 b1
              go_wp2_with fail
              go_roundw
              case rel => exact ⟨j + 1, _, _, by omega, by go_num, HE7⟩
              case measure => simp [intOf]; omega
            · obtain rfl : j = L.length := by omega
              have hjj : ¬ (L.length : Int) < (L.length : Int) := by omega
              have hm0 : m' = 0 := by have := (unhide HE).pl; rw [List.drop_length] at this; exact this.fin
              have LN := hide (buLen_any w.heap.size _ _ _ (unhide HE).bu)
              subst hm0
              go_wp2_with fail
              refine (unhide LN).mono ?_
              rintro r w8 ⟨rfl, rfl⟩
              clear LN
              go_wp2_with fail
              go_ret
              exact ⟨rfl, (unhide HE).kp.below (Nat.le_refl _) (by simp)⟩
end Go.Proofs.Ythdfaidjdddagaa
