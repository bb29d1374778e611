/-
  The document's DecodeMatch, walked: where the list begins as a match does.
  The document's DecodeMatch, whatever the bytes.
-/
import Derived.Test.YtpfcoaimciojjaaG26
namespace Go.Proofs.Ytpfcoaimciojjaa
open Go.RowKit

set_option maxHeartbeats 16000000 in
set_option maxRecDepth 100000 in
theorem refDecodeMatch_yes (b : ByteArray) (w : World) (hb : b.size ≤ 9223372036854775807) (x y : It) (r : List It) (hc0 : itC b = 0) (hL : itL b = x :: y :: r) (hx : x.t = true) :
    Calls Try.prog 17 #[.string b] w fun r w' => Below w.heap.size w w' ∧ DRes (dmC b) (mtOf (itL b)) w' r := by
  have s0 := RS2.start w
  have d := fun w => refDecode_any b w hb
  have hbig : ¬ 262144 < b.size := fun h => by unfold itC at hc0; rw [if_pos h] at hc0; cases hc0
  have hcz : (decS b.data.toList).2.2 = 0 := by
    unfold itC at hc0
    rw [if_neg hbig] at hc0
    by_cases h : (decS b.data.toList).2.2 = 0
    · exact h
    · rw [if_pos h] at hc0; cases hc0
  have hpz : (decS b.data.toList).2.1 = 0 := decS_at b.data.toList hcz
  have hlz : (decS b.data.toList).1 = itL b := (if_pos hc0).symm
  have hlen := (itL_ok b).2
  have hks : x.s.size ≤ 9223372036854775807 := ((itL_ok b).1 x (by rw [hL]; simp)).2.2
  have hC : dmC b = match mtOf (itL b) with
    | some z => if mayM z.1 z.2 = true then 0 else 20
    | none => 20 := if_neg (by simp [hc0])
  rw [hcz, hpz, hlz, hL] at d
  rw [hL] at hlen hC ⊢
  have hfail : ∀ N : Nat, numR (x :: y :: r) 1 = (N : Int) → rdSs N ((x :: y :: r).drop 2) = none → dmC b = 20 := fun N h1 h2 => by rw [hC, mtOf_fail h1 h2]
  have hneg : numR (x :: y :: r) 1 = -1 → dmC b = 20 := fun h1 => by rw [hC, mtOf_neg h1]
  have hend : ∀ (N : Nat) ss rest, numR (x :: y :: r) 1 = (N : Int) → rdSs N ((x :: y :: r).drop 2) = some (ss, rest) → (rest = [] ∧ mayM x.s ss = true → dmC b = 0 ∧ mtOf (x :: y :: r) = some (x.s, ss)) ∧ (¬ (rest = [] ∧ mayM x.s ss = true) → dmC b = 20) := fun N ss rest h1 h2 => by
    obtain ⟨e1, e2⟩ := mtOf_end hx h1 h2
    refine ⟨fun h => ⟨?_, e1 h⟩, fun h => ?_⟩
    · rw [hC, e1 h]; exact if_pos h.2
    · rw [hC]
      cases hz : mtOf (x :: y :: r) with
      | none => rfl
      | some z =>
        have := e2 h z hz
        dsimp only
        rw [if_neg (by rw [this]; simp)]
  have hnum := numR_cases (x :: y :: r) 1
  have h2l : 2 ≤ (x :: y :: r).length := by simp
  have h00 : (x :: y :: r)[0]? = some x := rfl
  clear hC hL hlz hpz hcz hc0
  generalize dmC b = C at *
  generalize mtOf (x :: y :: r) = o at *
  generalize x :: y :: r = l at *
  obtain ⟨xt, xn, xs⟩ := x
  dsimp only at hx hks hend h00
  subst hx
  have HF := hide hfail
  have HNG := hide hneg
  have HE := hide hend
  have HNUM := hide hnum
  have H00 := hide h00
  have D := hide d
  have S0 := hide s0
  clear hfail hneg hend hnum d s0 h00
  go_enter Try.func17, Try.ntmps17
  go_upto_region 2 with fail
  have s0 := unhide S0
  clear S0
  generalize (w.alloc (.cells #[.string ⟨#[]⟩, .slice none 0 0] 35)).alloc (.cells #[.string ⟨#[]⟩, .slice none 0 0] 35) = W0 at *
  go_wp2_with fail
  refine (unhide D W0).mono ?_
  rintro e w1 ⟨v1, rfl, ow, hb1⟩
  have s1 := (s0.next hb1).alloc (.cells #[.int .i64 0, .int .i64 0] 57)
  obtain ⟨a1, c1, rfl, hi1⟩ := ow.items
  have hi := hi1.below (below_new w1 (.cells #[.int .i64 0, .int .i64 0] 57)) (Nat.le_refl _)
  have fF : (w1.alloc (.cells #[.int .i64 0, .int .i64 0] 57)).cell? ⟨w1.heap.size, 0, none⟩ = some (.int .i64 0) ∧ (w1.alloc (.cells #[.int .i64 0, .int .i64 0] 57)).cell? ⟨w1.heap.size, 1, none⟩ = some (.int .i64 0) := by simp
  clear s0 hb1 ow hi1 D
  go_upto_region 5 with fail
  generalize w1.alloc (.cells #[.int .i64 0, .int .i64 0] 57) = W1 at *
  generalize w1.heap.size = gF at *
  obtain ⟨bI, offI, rfl, _, hcI⟩ := id hi (fun e => by rw [e] at h2l; simp at h2l)
  obtain ⟨d0, _, d2⟩ := hcI 0 (by omega)
  have hl0 : l[0]'(by omega) = ⟨true, xn, xs⟩ := by
    have := unhide H00
    rw [List.getElem?_eq_getElem (by omega), Option.some.injEq] at this
    exact this
  rw [hl0] at d0 d2
  simp only [Nat.zero_mul, Nat.add_zero] at d0 d2
  have hn2 : ¬ ((l.length : Int) < 2) := by omega
  have hn0 : (0 : Int) < (l.length : Int) := by omega
  have hS : ∀ W, Below W1.heap.size W1 W → RS2 w W ∧ ItemsAt W (some ⟨bI, offI, none⟩) l := fun W hW => ⟨s1.next hW, hi.below hW (Nat.le_refl _)⟩
  have bM2 : VBox W1.heap.size xs (.slice none 0 0) (W1.alloc (.cells #[.string xs, .slice none 0 0] 35)) := heap_alloc_new W1 _
  have hq2 := below_new W1 (.cells #[.string xs, .slice none 0 0] 35)
  have hgm : w.heap.size + 1 < W1.heap.size := s1.bN.lt
  have p1 := refPlace_any (some ⟨bI, offI, none⟩) c1 l 1 _ (hS _ hq2).2
  have HS := hide hS
  have P1 := hide p1
  clear hcI hl0 H00 hS s1 hi p1
  go_wp2_with fail
  generalize W1.alloc (.cells #[.string xs, .slice none 0 0] 35) = W2 at *
  generalize W1.heap.size = gm at *
  refine (unhide P1).mono ?_
  rintro e w3 ⟨rfl, rfl⟩
  clear P1 d0 d2 fF hn0 hn2
  rcases unhide HNUM with hneg | ⟨_, N, hN, _, _, hN30⟩
  · have hC := unhide HNG hneg
    subst hC
    rw [hneg]
    have mm := fun W => refMayMatch_any xs none 0 [] W ⟨hks, by simp, by simp⟩ (stages_nil _ _)
    have hmf : mayM xs [] = false := by unfold mayM; simp
    simp only [hmf, List.length_nil] at mm
    have MM := hide mm
    clear HF HNG HE HNUM mm hmf hneg
    go_wp2_with fail
    go_loopw [9, 10] (fun a i wr => a = .int .i64 2 ∧ i = .int .i64 0 ∧ Below gm W1 wr ∧ VBox gm xs (.slice none 0 0) wr) (fun _ _ _ => 0)
    case atStart => exact ⟨rfl, rfl, hq2, bM2⟩
    case round =>
      clear hq2 bM2
      obtain ⟨rfl, rfl, hq2, bM2⟩ := hrel
      have s2 := (unhide HS _ hq2).1
      have f2 := s2.full
      have fM := bM2.cells
      by_cases h22 : l.length = 2
      · have g2 : ((2 : Int) != (l.length : Int)) = false := by rw [h22]; rfl
        clear h22 hq2 bM2 HS
        go_wp2_with fail
        refine (unhide MM _).mono ?_
        rintro e w4 ⟨rfl, rfl⟩
        have s3 := s2.alloc (.cells #[.string xs, .slice none 0 0] 35)
        generalize wr.alloc (.cells #[.string xs, .slice none 0 0] 35) = W3 at *
        have f3 := s3.full
        clear s2 f2 fM MM
        go_wp2
        exact bodyPost_ret (v := .tuple #[.agg #[.string ⟨#[]⟩, .slice none 0 0], .int .i64 20]) (by simp [results, Try.results17, go_sem, f3]) rfl ⟨s3.put _ _, DRes.no _ _ _ (by decide)⟩
      · have g2 : ((2 : Int) != (l.length : Int)) = true := by rw [bne_iff_ne]; omega
        clear h22 hq2 bM2 HS MM
        go_wp2
        exact bodyPost_ret (v := .tuple #[.agg #[.string ⟨#[]⟩, .slice none 0 0], .int .i64 20]) (by simp [results, Try.results17, go_sem, f2]) rfl ⟨s2.put _ _, DRes.no _ _ _ (by decide)⟩
  · rw [hN]
    have hstart : rdSs N (l.drop 2) = (rdSs (N - 0) (l.drop 2)).bind fun z => some ([] ++ z.1, z.2) := by
      rw [Nat.sub_zero]
      cases rdSs N (l.drop 2) with
      | none => rfl
      | some z => simp
    have HST0 := hide hstart
    have HN := hide hN
    have mm := fun a c ss W h1 h2 => refMayMatch_any xs a c ss W ⟨hks, h1⟩ h2
    have MM := hide mm
    obtain ⟨i0, hin, hz0, hz1, hz2⟩ := info_parts info_ints
    obtain ⟨j0, hjn, hy0, hy1, hy2⟩ := info_parts info_int
    clear HNG HNUM hstart hN mm
    go_wp2_with fail
    go_loopw [9, 10] (fun va vi wr => ∃ (j at_ : Nat) (acc : List (List Int)) (vs : List Value) (mv : Value), j ≤ N ∧ vi = .int .i64 (j : Int) ∧ va = .int .i64 (at_ : Int) ∧ at_ ≤ l.length ∧ Below gm W1 wr ∧ VBox gm xs mv wr ∧ OwnsV gm wr mv vs ∧ All2 wr vs acc ∧ vs.length + 2 ≤ at_ ∧ acc.length + 2 ≤ at_ ∧ Hid (∀ p ∈ acc, p.length ≤ 4096) ∧ Hid (rdSs N (l.drop 2) = (rdSs (N - j) (l.drop at_)).bind fun z => some (acc ++ z.1, z.2))) (fun _ vi _ => N - (intOf vi).toNat)
    case atStart => exact ⟨0, 2, [], [], .slice none 0 0, by omega, rfl, rfl, h2l, hq2, bM2, OwnsV.nil _ _, trivial, by simp, by simp, hide (by simp), HST0⟩
    case round =>
      clear hq2 bM2 HST0
      obtain ⟨j, at_, acc, vs, mv, hj, rfl, rfl, hat, hq, bM, ow, al, hvs, hac, HP, HK⟩ := hrel
      obtain ⟨s4, hit4⟩ := unhide HS wr hq
      have f4 := s4.full
      have fM := bM.cells
      have hgw := bM.lt
      by_cases hlt : j < N
      · have hjN : (j : Int) < (N : Int) := by omega
        have p1 := refPlace_any (some ⟨bI, offI, none⟩) c1 l at_ wr hit4
        have P1 := hide p1
        clear p1 hit4
        go_wp2_with fail
        refine (unhide P1).mono ?_
        rintro e w4 ⟨rfl, rfl⟩
        clear P1
        rcases numR_cases l at_ with hneg | ⟨hal, M, hM, _, _, hM30⟩
        · have hC := unhide HF N (unhide HN) (rdSs_fail hlt (unhide HK) (rdS_at_none hlen (Or.inl hneg)))
          subst hC
          rw [hneg]
          clear HK HP ow al bM hq HS MM fM HE HF hneg
          go_wp2
          exact bodyPost_ret (v := .tuple #[.agg #[.string ⟨#[]⟩, .slice none 0 0], .int .i64 20]) (by simp [results, Try.results17, go_sem, f4]) rfl ⟨s4.put _ _, DRes.no _ _ _ (by decide)⟩
        · by_cases hgt : l.length < at_ + 1 + M
          · have hC := unhide HF N (unhide HN) (rdSs_fail hlt (unhide HK) (rdS_at_none hlen (Or.inr ⟨M, hM, hgt⟩)))
            subst hC
            rw [hM]
            have hgi : (l.length : Int) - ((at_ : Int) + 1) < (M : Int) := by omega
            have hm0 : ¬ ((M : Int) < 0) := by omega
            clear HK HP ow al bM hq HS MM fM HE HF hM
            go_wp2
            exact bodyPost_ret (v := .tuple #[.agg #[.string ⟨#[]⟩, .slice none 0 0], .int .i64 20]) (by simp [results, Try.results17, go_sem, f4]) rfl ⟨s4.put _ _, DRes.no _ _ _ (by decide)⟩
          · have hm0 : ¬ ((M : Int) < 0) := by omega
            have hgi : ¬ ((l.length : Int) - ((at_ : Int) + 1) < (M : Int)) := by omega
            rw [hM]
            have HM := hide hM
            have MM0 := MM
            clear hM MM f4 fM
            obtain ⟨W3, rfl⟩ : ∃ W3, W3 = w4 := ⟨w4, rfl⟩
            go_wp2_with fail
            go_loopw [9, 12, 13] (fun va v vi wr2 => ∃ q : Nat, q ≤ M ∧ vi = .int .i64 (q : Int) ∧ va = .int .i64 ((at_ + 1 + q : Nat) : Int) ∧ Below W3.heap.size W3 wr2 ∧ OwnsN W3.heap.size wr2 v (((l.drop (at_ + 1)).take q).map It.n) ∧ Hid (∀ y ∈ (l.drop (at_ + 1)).take q, nupB y 1073741824 = true)) (fun _ _ vi _ => M - (intOf vi).toNat)
            case atStart => exact ⟨0, by omega, rfl, by go_num, Below.refl _ _, OwnsN.nil _ _, hide (by simp)⟩
            case round =>
              obtain ⟨q, hqM, rfl, rfl, hbq, own, HA⟩ := hrel
              have hq3 := hq.trans (hbq.mono (Nat.le_of_lt hgw))
              obtain ⟨s6, hit6⟩ := unhide HS wr hq3
              have f6 := s6.full
              have hzq := hbq.size
              by_cases hql : q < M
              · have hqi : (q : Int) < (M : Int) := by omega
                have hqb : at_ + 1 + q < l.length := by omega
                have p2 := refPlace_any (some ⟨bI, offI, none⟩) c1 l (at_ + 1 + q) wr hit6
                have P2 := hide p2
                clear p2 hit6
                go_wp2_with fail
                refine (unhide P2).mono ?_
                rintro e w5 ⟨rfl, rfl⟩
                clear P2
                rcases numR_cases l (at_ + 1 + q) with hneg | ⟨_, Y, hY, hY2, hY3, hY30⟩
                · have hC := unhide HF N (unhide HN) (rdSs_fail hlt (unhide HK) (rdS_at_bad (unhide HM) (by omega) hql hneg))
                  subst hC
                  rw [hneg]
                  clear HK HP ow al bM hq HS HE HF hneg own HA hbq hq3
                  go_wp2
                  exact bodyPost_ret (v := .tuple #[.agg #[.string ⟨#[]⟩, .slice none 0 0], .int .i64 20]) (by simp [results, Try.results17, go_sem, f6]) rfl ⟨s6.put _ _, DRes.no _ _ _ (by decide)⟩
                · rw [hY]
                  have hnew : nupB l[at_ + 1 + q] 1073741824 = true := (nupB_iff _ _).2 ⟨hY3, by omega, by omega⟩
                  have htk := take_at (l := l) (at_ := at_ + 1) (q := q) hqb
                  have HA2 : Hid (∀ y ∈ (l.drop (at_ + 1)).take (q + 1), nupB y 1073741824 = true) := hide (fun z hz => by
                    rw [htk] at hz
                    rcases List.mem_append.1 hz with hz | hz
                    · exact unhide HA z hz
                    · rw [List.mem_singleton] at hz; rw [hz]; exact hnew)
                  have htm : ((l.drop (at_ + 1)).take (q + 1)).map It.n = ((l.drop (at_ + 1)).take q).map It.n ++ [(Y : Int)] := by rw [htk, List.map_append, ← hY2]; rfl
                  have HTM := hide htm
                  have hl2 : (((l.drop (at_ + 1)).take q).map It.n).length ≤ 4096 := by rw [List.length_map, List.length_take, List.length_drop]; omega
                  have hy0i : ¬ ((Y : Int) < 0) := by omega
                  clear htm htk hnew hY2 hY3 hY HA f6 s6 hq3
                  generalize ((l.drop (at_ + 1)).take q).map It.n = LL at *
                  go_wp2_with (at_builtin; refine wpList_append_own _ rfl _ _ 61 rfl W3.heap.size 3 j0 (.int .i64 0) 1 8 Try.underlying61 hjn hy0 hy1 hy2 rfl (by decide) _ _ _ rfl (own.alloc _) ⟨w5.heap.size, 0, none⟩ 1 1 [.int .i64 (Y : Int)] rfl rfl ?c1 ?c2 ?c3 ?c4 ?c5 ?_)
                  case c1 => exact cell_one_new _ _ _
                  case c2 => intro u hu; simp at hu; subst hu; rfl
                  case c3 => unfold maxLen; omega
                  case c4 => omega
                  case c5 => simp; omega
                  intro v7 w7 ow7 hg7 _
                  have hf7 : Fr W3.heap.size 3 w5 w7 := ((Fr.refl _ _ w5).alloc hzq _).grown (own.alloc _) hg7 (by simp; omega)
                  have ow8 : OwnsN W3.heap.size w7 v7 (((l.drop (at_ + 1)).take (q + 1)).map It.n) := by
                    rw [unhide HTM]
                    unfold OwnsN intC
                    rw [List.length_append, List.map_append]
                    exact ow7
                  have hb7 := hbq.trans hf7.below
                  clear ow7 hg7 hf7 own hbq
                  go_wp2
                  go_roundw
                  case rel => exact ⟨q + 1, by omega, by go_num, by go_num, hb7, ow8, HA2⟩
                  case measure => simp [intOf]; omega
              · obtain rfl : q = M := by omega
                have hst := rdS_at_some (unhide HM) (by omega) (unhide HA)
                have hstep := rdSs_step hlt (unhide HK) hst
                have al3 := al.mono (w' := wr) (fun v p h => h.below hbq (Nat.le_refl _))
                have ip := own.ints
                obtain ⟨pa, pc, rfl, _⟩ := id ip
                have ow3 := ow.below hbq (Nat.le_refl _)
                have bM3 := bM.below hbq bM.lt
                have fM3 := bM3.cells
                have hz3 := bM3.lt
                have hl4 : (((l.drop (at_ + 1)).take q).map It.n).length ≤ 4096 := by rw [List.length_map, List.length_take, List.length_drop]; omega
                have HSP := hide hstep
                clear hstep hst HK al ow bM HA HM own hbq hq f6 s6 hit6
                generalize ((l.drop (at_ + 1)).take q).map It.n = ps at *
                have HP2 : Hid (∀ p ∈ acc ++ [ps], p.length ≤ 4096) := hide (fun p hp => by
                  rcases List.mem_append.1 hp with h | h
                  · exact unhide HP p h
                  · rw [List.mem_singleton] at h; rw [h]; exact hl4)
                have hone : (Value.slice pa ps.length pc).oneCell' = true := rfl
                clear HP
                go_wp2_with (at_builtin; refine wpList_append_own _ rfl _ _ 33 rfl gm 61 i0 (.slice none 0 0) 1 24 Try.underlying33 hin hz0 hz1 hz2 rfl (by decide) _ _ _ rfl (ow3.alloc _) ⟨wr.heap.size, 0, none⟩ 1 1 [.slice pa ps.length pc] rfl rfl ?c1 ?c2 ?c3 ?c4 ?c5 ?_)
                case c1 => exact cell_one_new _ _ _
                case c2 => intro u hu; simp at hu; subst hu; exact hone
                case c3 => unfold maxLen; omega
                case c4 => omega
                case c5 => simp; omega
                intro v4 w4 ow4 hg4 _
                have hf4 : Fr gm 61 wr w4 := ((Fr.refl _ _ wr).alloc (Nat.le_of_lt hz3) _).grown (ow3.alloc _) hg4 (by simp; omega)
                have bM4 := bM3.fr hf4
                have al4 := (All2.snoc ip al3).mono (w' := w4) (fun v p h => h.fr hf4 (by decide))
                have hq4 := hq3.trans hf4.below
                have ow5 : OwnsV gm w4 v4 (vs ++ [.slice pa ps.length pc]) := by
                  unfold OwnsV
                  rw [List.length_append]
                  exact ow4
                obtain ⟨a4, c4, rfl⟩ := ow5.form
                have rM4 := bM4.froz
                have fM4 := bM4.cells
                have bM5 := bM4.set (.slice a4 (vs ++ [Value.slice pa ps.length pc]).length c4)
                have ow6 := ow5.setBox (i := 1) (y := .slice a4 (vs ++ [Value.slice pa ps.length pc]).length c4) bM4
                have al6 := al4.mono (w' := w4.setCell ⟨gm, 1, none⟩ (.slice a4 (vs ++ [Value.slice pa ps.length pc]).length c4)) (fun v p h => IntsT.setBox bM4 v p h)
                have hq5 := hq4.setCell (p := ⟨gm, 1, none⟩) (Nat.le_refl _) (.slice a4 (vs ++ [Value.slice pa ps.length pc]).length c4)
                clear ow3 ow4 hg4 hf4 bM3 al3 ip bM4 al4 hq4 ow5 fM3 hq3
                have hln : (vs ++ [Value.slice pa ps.length pc]).length = vs.length + 1 := by simp
                rw [hln] at bM5 ow6 al6 hq5 ⊢
                go_wp2
                go_roundw
                case rel => exact ⟨j + 1, at_ + 1 + q, acc ++ [ps], vs ++ [.slice pa ps.length pc], _, by omega, by go_num, by go_num, by omega, hq5, bM5, ow6, al6, by simp; omega, by simp; omega, HP2, HSP⟩
                case measure => simp [intOf]; omega
      · obtain rfl : j = N := by omega
        have hk := unhide HK
        rw [Nat.sub_self] at hk
        simp only [rdSs, Option.bind_some, List.append_nil] at hk
        obtain ⟨e1, e2⟩ := unhide HE j acc (l.drop at_) (unhide HN) hk
        obtain ⟨sa, sc, rfl, hst⟩ := ow.stages al
        have hnj : ¬ ((j : Int) < (j : Int)) := by omega
        have mm := unhide MM sa sc acc wr ⟨by omega, fun p hp => by have := unhide HP p hp; omega⟩ hst
        clear hk HK HP HE HF HN MM HS hst hit4
        by_cases hfin : at_ = l.length
        · have hdr : l.drop at_ = [] := by rw [hfin]; exact List.drop_length
          have g2 : ((at_ : Int) != (l.length : Int)) = false := by rw [hfin]; simp
          by_cases hm : mayM xs acc = true
          · obtain ⟨hC, ho⟩ := e1 ⟨hdr, hm⟩
            subst hC
            subst ho
            rw [hm] at mm
            have MM2 := hide mm
            clear e1 e2 mm hm hdr hfin
            go_wp2_with fail
            refine (unhide MM2).mono ?_
            rintro e w4 ⟨rfl, rfl⟩
            have s5 := s4.alloc (.cells #[.string xs, .slice sa acc.length sc] 35)
            have bM5 := bM.alloc (.cells #[.string xs, .slice sa acc.length sc] 35)
            have ow5 := ow.alloc (.cells #[.string xs, .slice sa acc.length sc] 35)
            have al5 := al.mono (w' := wr.alloc (.cells #[.string xs, .slice sa acc.length sc] 35)) (fun v p h => h.below (below_new _ _) (Nat.le_refl _))
            generalize wr.alloc (.cells #[.string xs, .slice sa acc.length sc] 35) = W5 at *
            have f5 := s5.full
            have fM5 := bM5.cells
            have hst5 : StagesAt ((W5.setCell ⟨w.heap.size, 0, none⟩ (.string xs)).setCell ⟨w.heap.size, 1, none⟩ (.slice sa acc.length sc)) sa acc := by
              have bR4 := s5.bR
              have bR6 : VBox w.heap.size xs (.slice none 0 0) (W5.setCell ⟨w.heap.size, 0, none⟩ (.string xs)) := by
                unfold VBox at bR4 ⊢
                unfold World.setCell
                simp [bR4, Array.getElem?_modify]
              have ov7 := (ow5.setBox (i := 0) (y := .string xs) bR4).setBox (i := 1) (y := .slice sa acc.length sc) bR6
              have al7 := (al5.mono (w' := W5.setCell ⟨w.heap.size, 0, none⟩ (.string xs)) (fun v p h => IntsT.setBox bR4 v p h)).mono (w' := (W5.setCell ⟨w.heap.size, 0, none⟩ (.string xs)).setCell ⟨w.heap.size, 1, none⟩ (.slice sa acc.length sc)) (fun v p h => IntsT.setBox bR6 v p h)
              obtain ⟨_, _, he, hst⟩ := ov7.stages al7
              simp only [Value.slice.injEq, true_and] at he
              obtain ⟨rfl, rfl⟩ := he
              exact hst
            have HS5 := hide hst5
            clear hst5 s4 bM ow al f4 fM bM5 ow5 al5 hq MM2
            go_wp2
            exact bodyPost_ret (v := .tuple #[.agg #[.string xs, .slice sa acc.length sc], .int .i64 0]) (by simp [results, Try.results17, go_sem, f5]) rfl ⟨s5.put _ _, xs, acc, sa, sc, rfl, unhide HS5, fun _ => rfl, fun h => absurd rfl h⟩
          · have hC := e2 (fun h => hm h.2)
            subst hC
            have hm' : mayM xs acc = false := by simpa using hm
            rw [hm'] at mm
            have MM2 := hide mm
            clear e1 e2 mm hm hm' hdr hfin
            go_wp2_with fail
            refine (unhide MM2).mono ?_
            rintro e w4 ⟨rfl, rfl⟩
            have s5 := s4.alloc (.cells #[.string xs, .slice sa acc.length sc] 35)
            generalize wr.alloc (.cells #[.string xs, .slice sa acc.length sc] 35) = W5 at *
            have f5 := s5.full
            clear s4 bM ow al f4 fM hq MM2
            go_wp2
            exact bodyPost_ret (v := .tuple #[.agg #[.string ⟨#[]⟩, .slice none 0 0], .int .i64 20]) (by simp [results, Try.results17, go_sem, f5]) rfl ⟨s5.put _ _, DRes.no _ _ _ (by decide)⟩
        · have hC := e2 (fun h => hfin (by have := List.drop_eq_nil_iff.1 h.1; omega))
          subst hC
          have g2 : ((at_ : Int) != (l.length : Int)) = true := by rw [bne_iff_ne]; omega
          clear e1 e2 mm hfin bM ow al hq
          go_wp2
          exact bodyPost_ret (v := .tuple #[.agg #[.string ⟨#[]⟩, .slice none 0 0], .int .i64 20]) (by simp [results, Try.results17, go_sem, f4]) rfl ⟨s4.put _ _, DRes.no _ _ _ (by decide)⟩
end Go.Proofs.Ytpfcoaimciojjaa
namespace Go.Proofs.Ytpfcoaimciojjaa
open Go.RowKit

theorem refDecodeMatch_any (b : ByteArray) (w : World) (hb : b.size ≤ 9223372036854775807) :
    Calls Try.prog 17 #[.string b] w fun r w' => Below w.heap.size w w' ∧ DRes (dmC b) (mtOf (itL b)) w' r := by
  by_cases h : ∃ x y r, itC b = 0 ∧ itL b = x :: y :: r ∧ x.t = true
  · obtain ⟨x, y, r, h0, h1, h2⟩ := h
    exact refDecodeMatch_yes b w hb x y r h0 h1 h2
  · exact refDecodeMatch_no b w hb (fun x y r h0 h1 h2 => h ⟨x, y, r, h0, h1, h2⟩)
end Go.Proofs.Ytpfcoaimciojjaa
