/-
  RouteEnds: the walk.
-/
import Derived.Test.YtlljilekompbeaaREnP
namespace Go.Proofs.Ytlljilekompbeaa
open Go.RowKit

set_option maxHeartbeats 1000000 in
set_option maxRecDepth 100000 in
theorem rend_no (g s m : Int) (w : World) (hno : mayP g s m = false) :
    Calls Try.prog 5 #[.agg #[.int .i64 g, .int .i64 s, .int .i64 m]] w fun e w' => e = .returned (.bool true) ∧ Below w.heap.size w w' := by
  have WK := hide (fun W => rtWorks_any W)
  have CK := hide (fun W => pcheck_any g s m W)
  have e4 : chP g s m = 1 := by unfold chP; rw [hno]; rfl
  rw [e4] at CK
  have TK := hide (fun W => tasks_no g s m W hno)
  have CH := hide (fun W => chans_no g s m W hno)
  clear e4 hno
  go_enter Try.func5, Try.ntmps5
  go_wp2_with fail
  refine (unhide WK _).mono ?_
  rintro r w1 ⟨rfl, hk1⟩
  have HX : Hid (PBox w.heap.size 39 g s m w1) := hide (PBox.kp (CBox.new w _ _) hk1 (by simp))
  obtain ⟨x0, x1, x2⟩ := (unhide HX).cells
  have HK1 := hide (kp_two hk1)
  clear hk1 WK
  go_wp2_with fail
  refine (unhide CK _).mono ?_
  rintro r w2 ⟨rfl, hk2⟩
  have HS : Hid (TwP w w.heap.size w1.heap.size 39 g s m w2) := hide ⟨kp_tr (unhide HK1) (kp_two hk2), (unhide HX).kp (kp_two hk2) (by simp), PBox.kp (CBox.new w1 _ _) hk2 (by simp)⟩
  clear hk2 CK x0 x1 x2 HX HK1
  generalize w.heap.size = q1 at *
  generalize w1.heap.size = q2 at *
  obtain ⟨p0, p1, p2⟩ := (unhide HS).p.cells
  go_wp2_with fail
  refine (unhide TK _).mono ?_
  rintro r w3 ⟨rfl, hk3⟩
  have HS3 := hide ((unhide HS).next hk3)
  clear p0 p1 p2 HS hk3 TK
  obtain ⟨p0, p1, p2⟩ := (unhide HS3).p.cells
  go_wp2_with fail
  refine (unhide CH _).mono ?_
  rintro r w4 ⟨rfl, hk4⟩
  have HS4 := hide ((unhide HS3).next hk4)
  clear p0 p1 p2 HS3 hk4 CH
  go_wp2
  go_ret
  exact ⟨rfl, (unhide HS4).kp.below (Nat.le_refl _) (by simp)⟩
set_option maxHeartbeats 4000000 in
set_option maxRecDepth 100000 in
theorem rend_ok (G S M : Nat) (w : World) (hm : MayP G S M) :
    Calls Try.prog 5 #[.agg #[.int .i64 (G : Int), .int .i64 (S : Int), .int .i64 (M : Int)]] w fun e w' => e = .returned (.bool true) ∧ Below w.heap.size w w' := by
  have WK := hide (fun W => rtWorks_any W)
  have CK := hide (fun W => pcheck_any (G : Int) (S : Int) (M : Int) W)
  have e4 : chP (G : Int) (S : Int) (M : Int) = 0 := by unfold chP; rw [hm.of]; rfl
  rw [e4] at CK
  have TK := hide (fun W => tasks_ok G S M W hm)
  have CH := hide (fun W => chans_ok G S M W hm)
  have KD := hide (fun t W ht => kind_ok G S M t W hm ht)
  have EN := hide (fun c W hc => ends_ok G S M c W hm hc)
  have IN := hide (fun t W ht => ins_ok G S M t W hm ht)
  have OU := hide (fun t W ht => outs_ok G S M t W hm ht)
  have h1 := hm.s2
  have h2 := hm.gm.t3
  have h3 := hm.gm.t1
  have h4 := hm.s1
  have b1 := mul_lt_small S M (by omega) (by omega)
  have HI := hide (fun t ht => ins_none S M t ⟨h4, h3⟩ ht)
  have HO := hide (fun t => outs_none S M t ⟨h4, h3⟩)
  have HKN := hide (fun c hc => ends_kinds S M c h3 hc)
  have HFL := hide (fun c hc => frC_lt S M c h3 hc)
  have hnn : S * M + M ≤ 40016 := by omega
  generalize S * M + M = n at *
  clear e4 hm b1
  go_enter Try.func5, Try.ntmps5
  go_wp2_with fail
  refine (unhide WK _).mono ?_
  rintro r w1 ⟨rfl, hk1⟩
  have HX : Hid (PBox w.heap.size 39 (G : Int) (S : Int) (M : Int) w1) := hide (PBox.kp (CBox.new w _ _) hk1 (by simp))
  obtain ⟨x0, x1, x2⟩ := (unhide HX).cells
  have HK1 := hide (kp_two hk1)
  clear hk1 WK
  go_wp2_with fail
  refine (unhide CK _).mono ?_
  rintro r w2 ⟨rfl, hk2⟩
  have HS : Hid (TwP w w.heap.size w1.heap.size 39 (G : Int) (S : Int) (M : Int) w2) := hide ⟨kp_tr (unhide HK1) (kp_two hk2), (unhide HX).kp (kp_two hk2) (by simp), PBox.kp (CBox.new w1 _ _) hk2 (by simp)⟩
  clear hk2 CK x0 x1 x2 HX HK1
  generalize w.heap.size = q1 at *
  generalize w1.heap.size = q2 at *
  obtain ⟨p0, p1, p2⟩ := (unhide HS).p.cells
  go_wp2_with fail
  refine (unhide TK _).mono ?_
  rintro r w3 ⟨rfl, hk3⟩
  have HS3 := hide ((unhide HS).next hk3)
  clear p0 p1 p2 HS hk3 TK
  go_wp2_with fail
  go_loopw [4, 46] (fun s i wr => ∃ k : Nat, k ≤ S + M + 1 ∧ i = .int .i64 (k : Int) ∧ s = .int .i64 ((cn (frC S M) k n : Nat) : Int) ∧ Hid (TwP w q1 q2 39 (G : Int) (S : Int) (M : Int) wr)) (fun _ i _ => S + M + 1 - (intOf i).toNat)
  case atStart => exact ⟨0, Nat.zero_le _, rfl, by rw [cn_zero]; rfl, HS3⟩
  case round =>
    obtain ⟨k, hk, rfl, rfl, HS4⟩ := hrel
    obtain ⟨p0, p1, p2⟩ := (unhide HS4).p.cells
    clear HS3
    by_cases hlt : k < S + M + 1
    · have hlt' : (k : Int) < (S : Int) + (M : Int) + 1 := by omega
      have INk := hide (fun W => unhide IN k W hlt)
      have OUk := hide (fun W => unhide OU k W hlt)
      have KDk := hide (fun W => unhide KD k W hlt)
      have hI := unhide HI k hlt
      have hO := unhide HO k
      have MI := hide (fun c => (mem_sdL (toC S M) k n c).1)
      have MO := hide (fun c => (mem_sdL (frC S M) k n c).1)
      have HC := hide (cn_up (frC S M) k n)
      have hcle := cn_le (frC S M) k n
      have hcle2 := cn_le (frC S M) (k + 1) n
      have hLi := sdL_len (toC S M) k n
      have hLo := sdL_len (frC S M) k n
      generalize hCe : cn (frC S M) (k + 1) n = C' at *
      have HCe := hide hCe
      clear hCe
      generalize cn (frC S M) k n = C at *
      generalize sdL (toC S M) k n = Li at *
      generalize sdL (frC S M) k n = Lo at *
      clear IN OU HI HO CH HFL
      go_wp2_with fail
      refine (unhide INk _).mono ?_
      rintro r w5 ⟨v5, rfl, ho5, hk5⟩
      have HS5 := hide ((unhide HS4).next hk5)
      clear p0 p1 p2 HS4 hk5 INk
      obtain ⟨p0, p1, p2⟩ := (unhide HS5).p.cells
      have HI5 := hide (ho5.mono (Nat.zero_le _))
      clear ho5
      go_wp2_with fail
      refine (unhide OUk _).mono ?_
      rintro r w6 ⟨v6, rfl, ho6, hk6⟩
      have HS6 := hide ((unhide HS5).next hk6)
      have HI6 := hide ((unhide HI5).kp hk6)
      have HO6 := hide (ho6.mono (Nat.zero_le _))
      clear p0 p1 p2 HS5 hk6 OUk ho6 HI5
      obtain ⟨p0, p1, p2⟩ := (unhide HS6).p.cells
      go_wp2_with fail
      refine (unhide KDk _).mono ?_
      rintro r w7 ⟨rfl, hk7⟩
      have HS7 := hide ((unhide HS6).next hk7)
      have HI7 := hide ((unhide HI6).kp hk7)
      have HO7 := hide ((unhide HO6).kp hk7)
      clear p0 p1 p2 HS6 hk7 KDk HI6 HO6
      obtain ⟨adi, capi, rfl, ci⟩ := (unhide HI7).at
      obtain ⟨ado, capo, rfl, co⟩ := (unhide HO7).at
      clear ci co
      generalize hKe : kdT S M k = K at *
      have HKe := hide hKe
      clear hKe
      have hI1 : ((Li.length : Int) = 0) = ((K : Int) = 0) := by simp only [eq_iff_iff]; omega
      have hO1 : ((Lo.length : Int) = 0) = ((K : Int) = 2) := by simp only [eq_iff_iff]; omega
      have hI2 : ((Li.length : Int) == 0) = ((K : Int) == 0) := by rw [Bool.eq_iff_iff, beq_iff_eq, beq_iff_eq]; omega
      have hO2 : ((Lo.length : Int) == 0) = ((K : Int) == 2) := by rw [Bool.eq_iff_iff, beq_iff_eq, beq_iff_eq]; omega
      clear hI hO
      go_wp2_with fail
      clear hI1 hO1 hI2 hO2
      go_loopw [95] (fun i wr => ∃ j : Nat, j ≤ Li.length ∧ i = .int .i64 (j : Int) ∧ Hid (TwP w q1 q2 39 (G : Int) (S : Int) (M : Int) wr) ∧ Hid (OwnN 0 wr (.slice adi Li.length capi) Li) ∧ Hid (OwnN 0 wr (.slice ado Lo.length capo) Lo)) (fun i _ => Li.length - (intOf i).toNat)
      case atStart => exact ⟨0, Nat.zero_le _, rfl, HS7, HI7, HO7⟩
      case round =>
        obtain ⟨j, hj, rfl, HS8, HI8, HO8⟩ := hrel
        clear HS7 HI7 HO7
        by_cases hjl : j < Li.length
        · have hjl' : (j : Int) < (Li.length : Int) := by omega
          obtain ⟨gi, hgi, cj⟩ : ∃ gi, adi = some ⟨gi, 0, none⟩ ∧ wr.cell? ⟨gi, j, none⟩ = some (.int .i64 ((Li[j] : Nat) : Int)) := by
            obtain ⟨ad, cp, he, hc⟩ := (unhide HI8).at
            simp only [Value.slice.injEq] at he
            obtain ⟨rfl, _, rfl⟩ := he
            exact hc j hjl
          subst hgi
          obtain ⟨hc1, hc2⟩ := unhide MI Li[j] (List.getElem_mem hjl)
          have ENj := hide (fun W => unhide EN Li[j] W hc1)
          rw [hc2] at ENj
          clear hc2 MI EN KD HKN MO HC
          obtain ⟨p0, p1, p2⟩ := (unhide HS8).p.cells
          generalize Li[j] = x at *
          go_wp2_with fail
          refine (unhide ENj _).mono ?_
          rintro r w9 ⟨rfl, hk9⟩
          have HS9 := hide ((unhide HS8).next hk9)
          have HI9 := hide ((unhide HI8).kp hk9)
          have HO9 := hide ((unhide HO8).kp hk9)
          clear p0 p1 p2 HS8 hk9 ENj HI8 HO8 cj
          go_wp2
          go_roundw
          case rel => exact ⟨j + 1, by omega, by go_num, HS9, HI9, HO9⟩
          case measure => simp [intOf]; omega
        · have hjl' : ¬ ((j : Int) < (Li.length : Int)) := by omega
          go_wp2_with fail
          go_loopw [4, 116] (fun s i wr => ∃ j : Nat, j ≤ Lo.length ∧ i = .int .i64 (j : Int) ∧ s = .int .i64 ((C + j : Nat) : Int) ∧ Hid (TwP w q1 q2 39 (G : Int) (S : Int) (M : Int) wr) ∧ Hid (OwnN 0 wr (.slice ado Lo.length capo) Lo)) (fun _ i _ => Lo.length - (intOf i).toNat)
          case atStart => exact ⟨0, Nat.zero_le _, rfl, rfl, HS8, HO8⟩
          case round =>
            obtain ⟨i, hi, rfl, rfl, HS9, HO9⟩ := hrel
            clear HS8 HO8 HI8
            by_cases hil : i < Lo.length
            · have hil' : (i : Int) < (Lo.length : Int) := by omega
              obtain ⟨go, hgo, cj⟩ : ∃ go, ado = some ⟨go, 0, none⟩ ∧ wr.cell? ⟨go, i, none⟩ = some (.int .i64 ((Lo[i] : Nat) : Int)) := by
                obtain ⟨ad, cp, he, hc⟩ := (unhide HO9).at
                simp only [Value.slice.injEq] at he
                obtain ⟨rfl, _, rfl⟩ := he
                exact hc i hil
              subst hgo
              obtain ⟨hc1, hc2⟩ := unhide MO Lo[i] (List.getElem_mem hil)
              have ENj := hide (fun W => unhide EN Lo[i] W hc1)
              obtain ⟨hk1, hk2⟩ := unhide HKN Lo[i] hc1
              have KDj := hide (fun W => unhide KD _ W hk2)
              rw [hk1, hc2, unhide HKe] at KDj
              rw [hc2] at ENj
              have hK2 : K ≤ 2 := by rw [← unhide HKe]; unfold kdT; split <;> (try split) <;> omega
              clear hc2 MI EN KD HKN MO HC hk1 hk2
              generalize toC S M Lo[i] = y at *
              obtain ⟨p0, p1, p2⟩ := (unhide HS9).p.cells
              generalize Lo[i] = x at *
              go_wp2_with fail
              refine (unhide ENj _).mono ?_
              rintro r w10 ⟨rfl, hk10⟩
              have HS10 := hide ((unhide HS9).next hk10)
              have HO10 := hide ((unhide HO9).kp hk10)
              clear p0 p1 p2 HS9 hk10 ENj HO9 cj
              obtain ⟨p0, p1, p2⟩ := (unhide HS10).p.cells
              go_wp2_with fail
              refine (unhide KDj _).mono ?_
              rintro r w11 ⟨rfl, hk11⟩
              have HS11 := hide ((unhide HS10).next hk11)
              have HO11 := hide ((unhide HO10).kp hk11)
              clear p0 p1 p2 HS10 hk11 KDj HO10
              go_wp2
              go_roundw
              case rel => exact ⟨i + 1, by omega, by go_num, by go_num, HS11, HO11⟩
              case measure => simp [intOf]; omega
            · obtain rfl : i = Lo.length := by omega
              have hil' : ¬ ((Lo.length : Int) < (Lo.length : Int)) := by omega
              rw [← unhide HC]
              clear MI EN KD HKN MO
              go_wp2
              go_roundw
              case rel => exact ⟨k + 1, by omega, by go_num, by rw [unhide HCe], HS9⟩
              case measure => simp [intOf]; omega
    · obtain rfl : k = S + M + 1 := by omega
      have hlt' : ¬ (((S + M + 1 : Nat) : Int) < (S : Int) + (M : Int) + 1) := by omega
      have hcn : cn (frC S M) (S + M + 1) n = n := cn_all _ _ _ (fun c hc => by have := unhide HFL c hc; omega)
      rw [hcn]
      clear hcn IN OU HI HO HFL HKN EN KD
      go_wp2_with fail
      refine (unhide CH _).mono ?_
      rintro r w5 ⟨rfl, hk5⟩
      have HS5 := hide ((unhide HS4).next hk5)
      clear p0 p1 p2 HS4 hk5
      go_wp2
      go_ret
      exact ⟨rfl, (unhide HS5).kp.below (Nat.le_refl _) (by simp)⟩
theorem rend_walk (g s m : Int) (w : World) :
    Calls Try.prog 5 #[.agg #[.int .i64 g, .int .i64 s, .int .i64 m]] w fun e w' => e = .returned (.bool true) ∧ Below w.heap.size w w' := by
  cases h : mayP g s m with
  | false => exact rend_no g s m w h
  | true =>
    obtain ⟨G, S, M, rfl, rfl, rfl, hm⟩ := mayP_nat h
    exact rend_ok G S M w hm
end Go.Proofs.Ytlljilekompbeaa
