/-
  The document's plan: a channel's ends, a task's channels.
-/
import Derived.Test.YtlljilekompbeaaRtS
namespace Go.Proofs.Ytlljilekompbeaa
open Go.RowKit

theorem refEnds_no (g s m c : Int) (w : World) (h : mayP g s m = false) : Calls Try.prog 24 #[.agg #[.int .i64 g, .int .i64 s, .int .i64 m], .int .i64 c] w fun e w' => e = .returned (.tuple #[.int .i64 0, .int .i64 0, .int .i64 1]) ∧ Kp [] w w' := by
  have AL := hide (fun W => refAll_no g s m W h)
  clear h
  go_enter Try.func24, Try.ntmps24
  go_wp2_with fail
  refine (unhide AL _).mono ?_
  rintro r w1 ⟨rfl, hk⟩
  have HK := hide (kp_two hk)
  clear hk AL
  by_cases h0 : c < 0
  · go_wp2
    go_ret3
    exact ⟨rfl, unhide HK⟩
  · have h0' : (0 : Int) ≤ c := by omega
    go_wp2
    go_ret3
    exact ⟨rfl, unhide HK⟩
theorem refEnds_not (G S M : Nat) (c : Int) (w : World) (hm : MayP G S M) (hc : ¬ (0 ≤ c ∧ c < ((S * M + M : Nat) : Int))) : Calls Try.prog 24 #[.agg #[.int .i64 (G : Int), .int .i64 (S : Int), .int .i64 (M : Int)], .int .i64 c] w fun e w' => e = .returned (.tuple #[.int .i64 0, .int .i64 0, .int .i64 1]) ∧ Kp [] w w' := by
  have AL := hide (fun W => refAll_ok G S M W hm)
  clear hm
  go_enter Try.func24, Try.ntmps24
  go_wp2_with fail
  refine (unhide AL _).mono ?_
  rintro r w1 ⟨v, rfl, ho, hk⟩
  have HK := hide (kp_two hk)
  obtain ⟨ad, cap, rfl, _⟩ := ho.at
  clear hk AL ho
  generalize S * M + M = n at *
  by_cases h0 : c < 0
  · go_wp2
    go_ret3
    exact ⟨rfl, unhide HK⟩
  · have h0' : (n : Int) ≤ c := by omega
    go_wp2
    go_ret3
    exact ⟨rfl, unhide HK⟩
set_option maxHeartbeats 1000000 in
theorem refEnds_ok (G S M c : Nat) (w : World) (hm : MayP G S M) (hc : c < S * M + M) : Calls Try.prog 24 #[.agg #[.int .i64 (G : Int), .int .i64 (S : Int), .int .i64 (M : Int)], .int .i64 (c : Int)] w fun e w' => e = .returned (.tuple #[.int .i64 (frC S M c : Int), .int .i64 (toC S M c : Int), .int .i64 0]) ∧ Kp [] w w' := by
  have AL := hide (fun W => refAll_ok G S M W hm)
  clear hm
  go_enter Try.func24, Try.ntmps24
  go_wp2_with fail
  refine (unhide AL _).mono ?_
  rintro r w1 ⟨v, rfl, ho, hk⟩
  have HK := hide (kp_two hk)
  obtain ⟨ad, cap, rfl, hat⟩ := ho.at
  obtain ⟨q, rfl, a1, a2⟩ := hat c hc
  clear hk AL ho hat
  generalize S * M + M = n at *
  generalize hx : frC S M c = x at *
  generalize hy : toC S M c = y at *
  have HX := hide hx
  have HY := hide hy
  clear hx hy
  have hc' : (c : Int) < (n : Int) := by omega
  have hc0 : ¬ ((c : Int) < 0) := by omega
  go_wp2_with fail
  go_region
  go_wp2
  go_ret3
  exact ⟨by rw [unhide HX, unhide HY]; rfl, (unhide HK).trans (Kp.drew _) (by simp)⟩
theorem refSide0_no (g s m t : Int) (w : World) (h : mayP g s m = false) : Calls Try.prog 17 #[.agg #[.int .i64 g, .int .i64 s, .int .i64 m], .int .i64 t, .int .i64 0] w fun e w' => e = .returned (.tuple #[.slice none 0 0, .int .i64 1]) ∧ Kp [] w w' := by
  have CT := hide (fun W => refTask_no g s m t W h)
  clear h
  go_enter Try.func17, Try.ntmps17
  go_wp2_with fail
  refine (unhide CT _).mono ?_
  rintro r w1 ⟨rfl, hk⟩
  go_wp2
  go_ret2
  exact ⟨rfl, kp_two hk⟩
theorem refSide0_not (G S M : Nat) (t : Int) (w : World) (hm : MayP G S M) (ht : ¬ (0 ≤ t ∧ t < ((S + M + 1 : Nat) : Int))) : Calls Try.prog 17 #[.agg #[.int .i64 (G : Int), .int .i64 (S : Int), .int .i64 (M : Int)], .int .i64 t, .int .i64 0] w fun e w' => e = .returned (.tuple #[.slice none 0 0, .int .i64 70]) ∧ Kp [] w w' := by
  have CT := hide (fun W => refTask_ok G S M t W hm)
  unfold tkE at CT
  rw [if_neg ht] at CT
  clear ht
  go_enter Try.func17, Try.ntmps17
  go_wp2_with fail
  refine (unhide CT _).mono ?_
  rintro r w1 ⟨rfl, hk⟩
  go_wp2
  go_ret2
  exact ⟨rfl, kp_two hk⟩
set_option maxHeartbeats 1000000 in
set_option maxRecDepth 100000 in
theorem refSide0_ok (G S M t : Nat) (w : World) (hm : MayP G S M) (ht : t < S + M + 1) : Calls Try.prog 17 #[.agg #[.int .i64 (G : Int), .int .i64 (S : Int), .int .i64 (M : Int)], .int .i64 (t : Int), .int .i64 0] w fun e w' => ∃ v, e = .returned (.tuple #[v, .int .i64 0]) ∧ OwnN w.heap.size w' v (sdL (frC S M) t (S * M + M)) ∧ Kp [] w w' := by
  have CT := hide (fun W => refTask_ok G S M (t : Int) W hm)
  unfold tkE at CT
  rw [if_pos (by omega)] at CT
  have AL := hide (fun W => refAll_ok G S M W hm)
  have h1 := hm.s2
  have h2 := hm.gm.t3
  have b1 := mul_lt_small S M (by omega) (by omega)
  have hn : S * M + M ≤ 40016 := by omega
  generalize S * M + M = n at *
  obtain ⟨i0, hi, hz0, hz1, hz2⟩ := info_parts info_num
  clear hm ht b1 h1 h2
  go_enter Try.func17, Try.ntmps17
  go_wp2_with fail
  refine (unhide CT _).mono ?_
  rintro r w1 ⟨rfl, hk⟩
  obtain ⟨c0, c1, c2⟩ := (PBox.kp (CBox.new w _ _ : PBox w.heap.size 24 (G : Int) (S : Int) (M : Int) _) hk (by simp)).cells
  have HK := hide (kp_two hk)
  clear hk CT
  go_wp2_with fail
  refine (unhide AL _).mono ?_
  rintro r w2 ⟨va, rfl, ho, hk2⟩
  have HK2 := hide (kp_tr (unhide HK) hk2)
  have HQ := hide ho
  obtain ⟨ad, capa, rfl, _⟩ := ho.at
  clear hk2 AL HK ho c0 c1 c2
  go_wp2_with fail
  go_loopw [10, 11] (fun v i wr => ∃ (k : Nat) (ov : Value), k ≤ n ∧ i = .int .i64 (k : Int) ∧ ov = v ∧ Hid (OwnN w2.heap.size wr ov (sdL (frC S M) t k)) ∧ Hid (Kp [] w2 wr)) (fun _ i _ => n - (intOf i).toNat)
  case atStart => exact ⟨0, _, Nat.zero_le _, rfl, rfl, hide ⟨rfl, Or.inl ⟨rfl, rfl⟩⟩, hide (Kp.refl _ _)⟩
  case round =>
    obtain ⟨k, v, hk, rfl, rfl, HO, HP⟩ := hrel
    by_cases hlt : k < n
    · have hlt' : (k : Int) < (n : Int) := by omega
      obtain ⟨q, hq, a1, a2⟩ : ∃ q, ad = some ⟨q, 0, none⟩ ∧ wr.cell? ⟨q, k * 2, none⟩ = some (.int .i64 (frC S M k : Int)) ∧ wr.cell? ⟨q, k * 2 + 1, none⟩ = some (.int .i64 (toC S M k : Int)) := by
        obtain ⟨ad', cp', he, hc⟩ := ((unhide HQ).kp (unhide HP)).at
        simp only [Value.slice.injEq] at he
        obtain ⟨rfl, _, rfl⟩ := he
        exact hc k hlt
      subst hq
      have HM : Hid (sdL (frC S M) t (k + 1) = sdL (frC S M) t k ++ (if frC S M k = t then [k] else [])) := hide rfl
      have hle := sdL_len (frC S M) t k
      generalize sdL (frC S M) t k = L at *
      generalize frC S M k = x0 at *
      generalize toC S M k = x1 at *
      by_cases hxy : x0 = t
      · subst hxy
        have hown : wr.ownsRow w2.heap.size 3 1 v L.length (nuC L) := unhide HO
        have hs := (unhide HP).size
        have HL : Hid (sdL (frC S M) x0 (k + 1) = L ++ [k]) := hide (by have := unhide HM; rwa [if_pos rfl] at this)
        clear HM HO
        go_wp2_with (at_builtin; refine wpList_append_own _ rfl _ _ 33 rfl w2.heap.size 3 i0 (.int .i64 0) 1 8 Try.underlying33 hi hz0 hz1 hz2 rfl (by decide) _ _ _ rfl (hown.alloc _) ⟨wr.heap.size, 0, none⟩ 1 1 [.int .i64 (k : Int)] rfl rfl ?c1 ?c2 ?c3 ?c4 ?c5 ?_)
        case c1 => exact one_new _ _ _
        case c2 => intro u hu; simp at hu; subst hu; rfl
        case c3 => unfold maxLen; omega
        case c4 => omega
        case c5 => simp; omega
        intro v' w5 hown2 hgrow _
        have hk5 : Kp [] w2 w5 := by
          refine ((unhide HP).trans (Kp.alloc _ _) (by simp)).trans (Kp.of hgrow) ?_
          intro z hz
          right
          cases hv : v.ownBlock with
          | none => rw [hv] at hz; cases hz
          | some g =>
            rw [hv] at hz
            simp at hz
            subst hz
            exact (hown.lt _ hv).1
        have HO2 : Hid (OwnN w2.heap.size w5 v' (sdL (frC S M) x0 (k + 1))) := hide (by
          unfold OwnN
          rw [unhide HL, nuC_append, List.length_append]
          exact hown2)
        have HK5 := hide hk5
        clear hown2 hgrow hown HL hk5 a1 a2
        go_wp2
        go_roundw
        case rel => exact ⟨k + 1, _, by omega, by go_num, rfl, HO2, HK5⟩
        case measure => simp [intOf]; omega
      · have hx1 : ¬ ((x0 : Int) = (t : Int)) := by omega
        have HO4 : Hid (OwnN w2.heap.size wr v (sdL (frC S M) t (k + 1))) := hide (by rw [unhide HM, if_neg hxy, List.append_nil]; exact unhide HO)
        clear HM HO
        go_wp2
        go_roundw
        case rel => exact ⟨k + 1, _, by omega, by go_num, rfl, HO4, HP⟩
        case measure => simp [intOf]; omega
    · obtain rfl : k = n := by omega
      have hlt' : ¬ ((k : Int) < (k : Int)) := by omega
      go_wp2
      go_ret2
      exact ⟨_, rfl, (unhide HO).mono (unhide HK2).size, kp_tr (unhide HK2) (unhide HP)⟩
theorem refSide1_no (g s m t : Int) (w : World) (h : mayP g s m = false) : Calls Try.prog 17 #[.agg #[.int .i64 g, .int .i64 s, .int .i64 m], .int .i64 t, .int .i64 1] w fun e w' => e = .returned (.tuple #[.slice none 0 0, .int .i64 1]) ∧ Kp [] w w' := by
  have CT := hide (fun W => refTask_no g s m t W h)
  clear h
  go_enter Try.func17, Try.ntmps17
  go_wp2_with fail
  refine (unhide CT _).mono ?_
  rintro r w1 ⟨rfl, hk⟩
  go_wp2
  go_ret2
  exact ⟨rfl, kp_two hk⟩
theorem refSide1_not (G S M : Nat) (t : Int) (w : World) (hm : MayP G S M) (ht : ¬ (0 ≤ t ∧ t < ((S + M + 1 : Nat) : Int))) : Calls Try.prog 17 #[.agg #[.int .i64 (G : Int), .int .i64 (S : Int), .int .i64 (M : Int)], .int .i64 t, .int .i64 1] w fun e w' => e = .returned (.tuple #[.slice none 0 0, .int .i64 70]) ∧ Kp [] w w' := by
  have CT := hide (fun W => refTask_ok G S M t W hm)
  unfold tkE at CT
  rw [if_neg ht] at CT
  clear ht
  go_enter Try.func17, Try.ntmps17
  go_wp2_with fail
  refine (unhide CT _).mono ?_
  rintro r w1 ⟨rfl, hk⟩
  go_wp2
  go_ret2
  exact ⟨rfl, kp_two hk⟩
set_option maxHeartbeats 1000000 in
set_option maxRecDepth 100000 in
theorem refSide1_ok (G S M t : Nat) (w : World) (hm : MayP G S M) (ht : t < S + M + 1) : Calls Try.prog 17 #[.agg #[.int .i64 (G : Int), .int .i64 (S : Int), .int .i64 (M : Int)], .int .i64 (t : Int), .int .i64 1] w fun e w' => ∃ v, e = .returned (.tuple #[v, .int .i64 0]) ∧ OwnN w.heap.size w' v (sdL (toC S M) t (S * M + M)) ∧ Kp [] w w' := by
  have CT := hide (fun W => refTask_ok G S M (t : Int) W hm)
  unfold tkE at CT
  rw [if_pos (by omega)] at CT
  have AL := hide (fun W => refAll_ok G S M W hm)
  have h1 := hm.s2
  have h2 := hm.gm.t3
  have b1 := mul_lt_small S M (by omega) (by omega)
  have hn : S * M + M ≤ 40016 := by omega
  generalize S * M + M = n at *
  obtain ⟨i0, hi, hz0, hz1, hz2⟩ := info_parts info_num
  clear hm ht b1 h1 h2
  go_enter Try.func17, Try.ntmps17
  go_wp2_with fail
  refine (unhide CT _).mono ?_
  rintro r w1 ⟨rfl, hk⟩
  obtain ⟨c0, c1, c2⟩ := (PBox.kp (CBox.new w _ _ : PBox w.heap.size 24 (G : Int) (S : Int) (M : Int) _) hk (by simp)).cells
  have HK := hide (kp_two hk)
  clear hk CT
  go_wp2_with fail
  refine (unhide AL _).mono ?_
  rintro r w2 ⟨va, rfl, ho, hk2⟩
  have HK2 := hide (kp_tr (unhide HK) hk2)
  have HQ := hide ho
  obtain ⟨ad, capa, rfl, _⟩ := ho.at
  clear hk2 AL HK ho c0 c1 c2
  go_wp2_with fail
  go_loopw [10, 11] (fun v i wr => ∃ (k : Nat) (ov : Value), k ≤ n ∧ i = .int .i64 (k : Int) ∧ ov = v ∧ Hid (OwnN w2.heap.size wr ov (sdL (toC S M) t k)) ∧ Hid (Kp [] w2 wr)) (fun _ i _ => n - (intOf i).toNat)
  case atStart => exact ⟨0, _, Nat.zero_le _, rfl, rfl, hide ⟨rfl, Or.inl ⟨rfl, rfl⟩⟩, hide (Kp.refl _ _)⟩
  case round =>
    obtain ⟨k, v, hk, rfl, rfl, HO, HP⟩ := hrel
    by_cases hlt : k < n
    · have hlt' : (k : Int) < (n : Int) := by omega
      obtain ⟨q, hq, a1, a2⟩ : ∃ q, ad = some ⟨q, 0, none⟩ ∧ wr.cell? ⟨q, k * 2, none⟩ = some (.int .i64 (frC S M k : Int)) ∧ wr.cell? ⟨q, k * 2 + 1, none⟩ = some (.int .i64 (toC S M k : Int)) := by
        obtain ⟨ad', cp', he, hc⟩ := ((unhide HQ).kp (unhide HP)).at
        simp only [Value.slice.injEq] at he
        obtain ⟨rfl, _, rfl⟩ := he
        exact hc k hlt
      subst hq
      have HM : Hid (sdL (toC S M) t (k + 1) = sdL (toC S M) t k ++ (if toC S M k = t then [k] else [])) := hide rfl
      have hle := sdL_len (toC S M) t k
      generalize sdL (toC S M) t k = L at *
      generalize frC S M k = x1 at *
      generalize toC S M k = x0 at *
      by_cases hxy : x0 = t
      · subst hxy
        have hown : wr.ownsRow w2.heap.size 3 1 v L.length (nuC L) := unhide HO
        have hs := (unhide HP).size
        have HL : Hid (sdL (toC S M) x0 (k + 1) = L ++ [k]) := hide (by have := unhide HM; rwa [if_pos rfl] at this)
        clear HM HO
        go_wp2_with (at_builtin; refine wpList_append_own _ rfl _ _ 33 rfl w2.heap.size 3 i0 (.int .i64 0) 1 8 Try.underlying33 hi hz0 hz1 hz2 rfl (by decide) _ _ _ rfl (hown.alloc _) ⟨wr.heap.size, 0, none⟩ 1 1 [.int .i64 (k : Int)] rfl rfl ?c1 ?c2 ?c3 ?c4 ?c5 ?_)
        case c1 => exact one_new _ _ _
        case c2 => intro u hu; simp at hu; subst hu; rfl
        case c3 => unfold maxLen; omega
        case c4 => omega
        case c5 => simp; omega
        intro v' w5 hown2 hgrow _
        have hk5 : Kp [] w2 w5 := by
          refine ((unhide HP).trans (Kp.alloc _ _) (by simp)).trans (Kp.of hgrow) ?_
          intro z hz
          right
          cases hv : v.ownBlock with
          | none => rw [hv] at hz; cases hz
          | some g =>
            rw [hv] at hz
            simp at hz
            subst hz
            exact (hown.lt _ hv).1
        have HO2 : Hid (OwnN w2.heap.size w5 v' (sdL (toC S M) x0 (k + 1))) := hide (by
          unfold OwnN
          rw [unhide HL, nuC_append, List.length_append]
          exact hown2)
        have HK5 := hide hk5
        clear hown2 hgrow hown HL hk5 a1 a2
        go_wp2
        go_roundw
        case rel => exact ⟨k + 1, _, by omega, by go_num, rfl, HO2, HK5⟩
        case measure => simp [intOf]; omega
      · have hx1 : ¬ ((x0 : Int) = (t : Int)) := by omega
        have HO4 : Hid (OwnN w2.heap.size wr v (sdL (toC S M) t (k + 1))) := hide (by rw [unhide HM, if_neg hxy, List.append_nil]; exact unhide HO)
        clear HM HO
        go_wp2
        go_roundw
        case rel => exact ⟨k + 1, _, by omega, by go_num, rfl, HO4, HP⟩
        case measure => simp [intOf]; omega
    · obtain rfl : k = n := by omega
      have hlt' : ¬ ((k : Int) < (k : Int)) := by omega
      go_wp2
      go_ret2
      exact ⟨_, rfl, (unhide HO).mono (unhide HK2).size, kp_tr (unhide HK2) (unhide HP)⟩
end Go.Proofs.Ytlljilekompbeaa
