/-
  RouteCounts: the walk.
-/
import Derived.Test.YtlljilekompbeaaRtW
import Derived.Test.YtlljilekompbeaaEq3
namespace Go.Proofs.Ytlljilekompbeaa
open Go.RowKit

theorem kdT_up (S M t : Nat) : kdT S M t ≤ kdT S M (t + 1) := by
  unfold kdT
  split <;> split <;> (try split) <;> (try split) <;> omega
set_option maxHeartbeats 1000000 in
set_option maxRecDepth 100000 in
theorem rcou_no (g s m : Int) (w : World) (hno : mayP g s m = false) :
    Calls Try.prog 7 #[.agg #[.int .i64 g, .int .i64 s, .int .i64 m]] w fun e w' => e = .returned (.bool true) ∧ Below w.heap.size w w' := by
  have WK := hide (fun W => rtWorks_any W)
  have CK := hide (fun W => pcheck_any g s m W)
  have e4 : chP g s m = 1 := by unfold chP; rw [hno]; rfl
  rw [e4] at CK
  clear e4 hno
  go_enter Try.func7, Try.ntmps7
  go_wp2_with fail
  refine (unhide WK _).mono ?_
  rintro r w1 ⟨rfl, hk1⟩
  have HX : Hid (PBox w.heap.size 39 g s m w1) := hide (PBox.kp (CBox.new w _ _) hk1 (by simp))
  obtain ⟨x0, x1, x2⟩ := (unhide HX).cells
  have HK1 := hide (kp_two hk1)
  clear hk1 WK
  go_wp2_with fail
  refine (unhide CK _).mono ?_
  rintro r w2 ⟨rfl, hk2⟩
  have HK2 := hide (kp_tr (unhide HK1) (kp_two hk2))
  clear hk2 CK x0 x1 x2 HX HK1
  go_wp2
  go_ret
  exact ⟨rfl, (unhide HK2).below (Nat.le_refl _) (by simp)⟩
/-- What lies there while the tasks are counted. -/
structure RcS (w : World) (q1 q2 q3 : Nat) (G S M : Nat) (a b c : Nat) (wr : World) : Prop where
  kp : Kp [] w wr
  x : PBox q1 39 (G : Int) (S : Int) (M : Int) wr
  p : PBox q2 23 (G : Int) (S : Int) (M : Int) wr
  m : CBox q3 #[.int .i64 (a : Int), .int .i64 (b : Int), .int .i64 (c : Int)] 48 wr
  ne1 : q1 ≠ q3
  ne2 : q2 ≠ q3
  ge : w.heap.size ≤ q3
theorem RcS.next {w wr w' : World} {q1 q2 q3 G S M a b c : Nat} (h : RcS w q1 q2 q3 G S M a b c wr) (hk : Kp [] wr w') : RcS w q1 q2 q3 G S M a b c w' :=
  ⟨kp_tr h.kp hk, h.x.kp hk (by simp), h.p.kp hk (by simp), CBox.kp h.m hk (by simp), h.ne1, h.ne2, h.ge⟩
theorem RcS.set {w wr : World} {q1 q2 q3 G S M a b c : Nat} (h : RcS w q1 q2 q3 G S M a b c wr) (i : Nat) (v : Value) (a' b' c' : Nat) (he : (#[Value.int .i64 (a : Int), .int .i64 (b : Int), .int .i64 (c : Int)] : Array Value).setIfInBounds i v = #[.int .i64 (a' : Int), .int .i64 (b' : Int), .int .i64 (c' : Int)]) : RcS w q1 q2 q3 G S M a' b' c' (wr.setCell ⟨q3, i, none⟩ v) :=
  ⟨h.kp.trans (Kp.set _ _ _ _) (by simp; exact h.ge), h.x.kp (Kp.set _ _ _ _) (by simp; exact h.ne1), h.p.kp (Kp.set _ _ _ _) (by simp; exact h.ne2), by rw [← he]; exact CBox.set h.m i v, h.ne1, h.ne2, h.ge⟩
theorem RcS.cells {w wr : World} {q1 q2 q3 G S M a b c : Nat} (h : RcS w q1 q2 q3 G S M a b c wr) : wr.cell? ⟨q3, 0, none⟩ = some (.int .i64 (a : Int)) ∧ wr.cell? ⟨q3, 1, none⟩ = some (.int .i64 (b : Int)) ∧ wr.cell? ⟨q3, 2, none⟩ = some (.int .i64 (c : Int)) := ⟨CBox.cell h.m rfl, CBox.cell h.m rfl, CBox.cell h.m rfl⟩
theorem RcS.all1 {w wr : World} {q1 q2 q3 G S M a b : Nat} (h : RcS w q1 q2 q3 G S M a b 1 wr) : wr.cell? ⟨q1, 0, none⟩ = some (.int .i64 (G : Int)) ∧ wr.cell? ⟨q1, 1, none⟩ = some (.int .i64 (S : Int)) ∧ wr.cell? ⟨q1, 2, none⟩ = some (.int .i64 (M : Int)) ∧ wr.cell? ⟨q2, 0, none⟩ = some (.int .i64 (G : Int)) ∧ wr.cell? ⟨q2, 1, none⟩ = some (.int .i64 (S : Int)) ∧ wr.cell? ⟨q2, 2, none⟩ = some (.int .i64 (M : Int)) ∧ wr.cell? ⟨q3, 0, none⟩ = some (.int .i64 (a : Int)) ∧ wr.cell? ⟨q3, 1, none⟩ = some (.int .i64 (b : Int)) ∧ wr.cell? ⟨q3, 2, none⟩ = some (.int .i64 1) :=
  ⟨h.x.cells.1, h.x.cells.2.1, h.x.cells.2.2, h.p.cells.1, h.p.cells.2.1, h.p.cells.2.2, h.cells.1, h.cells.2.1, h.cells.2.2⟩
set_option maxHeartbeats 2000000 in
set_option maxRecDepth 100000 in
theorem rcou_ok (G S M : Nat) (w : World) (hm : MayP G S M) :
    Calls Try.prog 7 #[.agg #[.int .i64 (G : Int), .int .i64 (S : Int), .int .i64 (M : Int)]] w fun e w' => e = .returned (.bool true) ∧ Below w.heap.size w w' := by
  have WK := hide (fun W => rtWorks_any W)
  have CK := hide (fun W => pcheck_any (G : Int) (S : Int) (M : Int) W)
  have e4 : chP (G : Int) (S : Int) (M : Int) = 0 := by unfold chP; rw [hm.of]; rfl
  rw [e4] at CK
  have TK := hide (fun W => tasks_ok G S M W hm)
  have CH := hide (fun W => chans_ok G S M W hm)
  have KD := hide (fun t W ht => kind_ok G S M t W hm ht)
  have E3 := eq3
  have h1 := hm.s2
  have h2 := hm.gm.t3
  have e1 : (S : Int) * (M : Int) = ((S * M : Nat) : Int) := by simp
  have b1 := mul_lt_small S M (by omega) (by omega)
  generalize S * M = n at *
  clear e4 hm
  go_enter Try.func7, Try.ntmps7
  go_wp2_with fail
  refine (unhide WK _).mono ?_
  rintro r w1 ⟨rfl, hk1⟩
  have HX : Hid (PBox w.heap.size 39 (G : Int) (S : Int) (M : Int) w1) := hide (PBox.kp (CBox.new w _ _) hk1 (by simp))
  have hq1 : w.heap.size < w1.heap.size := by have := hk1.size; simp at this; omega
  obtain ⟨x0, x1, x2⟩ := (unhide HX).cells
  have HK1 := hide (kp_two hk1)
  clear hk1 WK
  go_wp2_with fail
  refine (unhide CK _).mono ?_
  rintro r w2 ⟨rfl, hk2⟩
  have HP : Hid (PBox w1.heap.size 23 (G : Int) (S : Int) (M : Int) w2) := hide (PBox.kp (CBox.new w1 _ _) hk2 (by simp))
  have HX2 := hide ((unhide HX).kp (kp_two hk2) (by simp))
  have hq2 : w1.heap.size < w2.heap.size := by have := hk2.size; simp at this; omega
  have HK2 := hide (kp_tr (unhide HK1) (kp_two hk2))
  clear hk2 CK x0 x1 x2 HX HK1
  obtain ⟨p0, p1, p2⟩ := (unhide HP).cells
  go_wp2_with fail
  refine (unhide TK _).mono ?_
  rintro r w3 ⟨rfl, hk3⟩
  have HS3 : Hid (RcS w w.heap.size w1.heap.size w2.heap.size G S M 0 0 0 w3) := hide ⟨kp_tr (unhide HK2) (kp_two hk3), (unhide HX2).kp (kp_two hk3) (by simp), (unhide HP).kp (kp_two hk3) (by simp), CBox.kp (CBox.new w2 _ _) hk3 (by simp), by omega, by omega, by omega⟩
  clear hk3 TK p0 p1 p2 HX2 HP HK2
  generalize w.heap.size = q1 at *
  generalize w1.heap.size = q2 at *
  generalize w2.heap.size = q3 at *
  go_wp2_with fail
  go_loopw [5, 23] (fun l i wr => ∃ (k L : Nat), k ≤ S + M + 1 ∧ L ≤ kdT S M k ∧ i = .int .i64 (k : Int) ∧ l = .int .i64 (L : Int) ∧ Hid (RcS w q1 q2 q3 G S M (min k S) (min (k - S) M) (k - (S + M)) wr)) (fun _ i _ => S + M + 1 - (intOf i).toNat)
  case atStart => exact ⟨0, 0, Nat.zero_le _, Nat.zero_le _, rfl, rfl, by simpa using HS3⟩
  case round =>
    obtain ⟨k, L, hk, hL, rfl, rfl, HS⟩ := hrel
    by_cases hlt : k < S + M + 1
    · have hlt' : (k : Int) < (S : Int) + (M : Int) + 1 := by omega
      obtain ⟨p0, p1, p2⟩ := (unhide HS).p.cells
      have KK := hide (unhide KD k wr hlt)
      have hup := kdT_up S M k
      have HKD : Hid (kdT S M k = if k < S then 0 else if k < S + M then 1 else 2) := hide rfl
      clear KD CH E3
      go_wp2_with fail
      refine (unhide KK).mono ?_
      rintro r w4 ⟨rfl, hk4⟩
      have HS4 := hide ((unhide HS).next hk4)
      obtain ⟨m0, m1, m2⟩ := (unhide HS4).cells
      have f0 := (unhide HS4).m.froz 0
      have f1 := (unhide HS4).m.froz 1
      have f2 := (unhide HS4).m.froz 2
      clear hk4 KK p0 p1 p2 HS
      by_cases hA : k < S
      · have hK : kdT S M k = 0 := by rw [unhide HKD, if_pos hA]
        rw [hK] at hL hup ⊢
        obtain rfl : L = 0 := by omega
        have HS5 := hide ((unhide HS4).set 0 (.int .i64 ((min k S : Nat) + 1 : Int)) (min (k + 1) S) (min (k + 1 - S) M) (k + 1 - (S + M)) (by rw [show min (k + 1) S = min k S + 1 by omega, show min (k + 1 - S) M = min (k - S) M by omega, show k + 1 - (S + M) = k - (S + M) by omega]; rfl))
        have hb : min k S ≤ 100 := by omega
        generalize min k S = a at *
        generalize min (k - S) M = b at *
        generalize k - (S + M) = c at *
        clear HKD
        go_wp2
        go_roundw
        case rel => exact ⟨k + 1, 0, by omega, by omega, by go_num, rfl, HS5⟩
        case measure => simp [intOf]; omega
      · by_cases hB : k < S + M
        · have hK : kdT S M k = 1 := by rw [unhide HKD, if_neg hA, if_pos hB]
          rw [hK] at hL hup ⊢
          have HS5 := hide ((unhide HS4).set 1 (.int .i64 ((min (k - S) M : Nat) + 1 : Int)) (min (k + 1) S) (min (k + 1 - S) M) (k + 1 - (S + M)) (by rw [show min (k + 1) S = min k S by omega, show min (k + 1 - S) M = min (k - S) M + 1 by omega, show k + 1 - (S + M) = k - (S + M) by omega]; rfl))
          have hb : min (k - S) M ≤ 100 := by omega
          have hL' : ¬ ((1 : Int) < (L : Int)) := by omega
          generalize min k S = a at *
          generalize min (k - S) M = b at *
          generalize k - (S + M) = c at *
          clear HKD
          go_wp2
          go_roundw
          case rel => exact ⟨k + 1, 1, by omega, by omega, by go_num, rfl, HS5⟩
          case measure => simp [intOf]; omega
        · have hK : kdT S M k = 2 := by rw [unhide HKD, if_neg hA, if_neg hB]
          rw [hK] at hL hup ⊢
          have HS5 := hide ((unhide HS4).set 2 (.int .i64 ((k - (S + M) : Nat) + 1 : Int)) (min (k + 1) S) (min (k + 1 - S) M) (k + 1 - (S + M)) (by rw [show min (k + 1) S = min k S by omega, show min (k + 1 - S) M = min (k - S) M by omega, show k + 1 - (S + M) = k - (S + M) + 1 by omega]; rfl))
          have hb : k - (S + M) ≤ 100 := by omega
          have hL' : ¬ ((2 : Int) < (L : Int)) := by omega
          generalize min k S = a at *
          generalize min (k - S) M = b at *
          generalize k - (S + M) = c at *
          clear HKD
          go_wp2
          go_roundw
          case rel => exact ⟨k + 1, 2, by omega, by omega, by go_num, rfl, HS5⟩
          case measure => simp [intOf]; omega
    · obtain rfl : k = S + M + 1 := by omega
      rw [show min (S + M + 1) S = S by omega, show min (S + M + 1 - S) M = M by omega, show S + M + 1 - (S + M) = 1 by omega] at HS
      have cS : wr.drew.cell? ⟨q1, 0, none⟩ = some (.int .i64 (G : Int)) ∧ wr.drew.cell? ⟨q1, 1, none⟩ = some (.int .i64 (S : Int)) ∧ wr.drew.cell? ⟨q1, 2, none⟩ = some (.int .i64 (M : Int)) ∧ wr.drew.cell? ⟨q2, 0, none⟩ = some (.int .i64 (G : Int)) ∧ wr.drew.cell? ⟨q2, 1, none⟩ = some (.int .i64 (S : Int)) ∧ wr.drew.cell? ⟨q2, 2, none⟩ = some (.int .i64 (M : Int)) ∧ wr.drew.cell? ⟨q3, 0, none⟩ = some (.int .i64 (S : Int)) ∧ wr.drew.cell? ⟨q3, 1, none⟩ = some (.int .i64 (M : Int)) ∧ wr.drew.cell? ⟨q3, 2, none⟩ = some (.int .i64 1) :=
        ⟨(unhide HS).x.cells.1, (unhide HS).x.cells.2.1, (unhide HS).x.cells.2.2, (unhide HS).p.cells.1, (unhide HS).p.cells.2.1, (unhide HS).p.cells.2.2, (unhide HS).cells.1, (unhide HS).cells.2.1, (unhide HS).cells.2.2⟩
      have hsm : IntKind.i64.wrap ((n : Int) + (M : Int)) = (n : Int) + (M : Int) := by rw [IntKind.wrap_i64]; omega
      have hn : IntKind.i64.wrap (n : Int) = (n : Int) := by rw [IntKind.wrap_i64]; omega
      clear KD
      go_wp2_with fail
      go_region_held3 (fun W => W.cell? ⟨q1, 0, none⟩ = some (.int .i64 (G : Int)) ∧ W.cell? ⟨q1, 1, none⟩ = some (.int .i64 (S : Int)) ∧ W.cell? ⟨q1, 2, none⟩ = some (.int .i64 (M : Int)) ∧ W.cell? ⟨q2, 0, none⟩ = some (.int .i64 (G : Int)) ∧ W.cell? ⟨q2, 1, none⟩ = some (.int .i64 (S : Int)) ∧ W.cell? ⟨q2, 2, none⟩ = some (.int .i64 (M : Int)) ∧ W.cell? ⟨q3, 0, none⟩ = some (.int .i64 (S : Int)) ∧ W.cell? ⟨q3, 1, none⟩ = some (.int .i64 (M : Int)) ∧ W.cell? ⟨q3, 2, none⟩ = some (.int .i64 1))
        (first | with_reducible exact cS | with_reducible exact cS2)
        (first | (go_at_call 12; refine (unhide CH _).mono ?_; rintro r w5 ⟨rfl, hk5⟩; have HS5 := hide ((unhide HS).next (kp_undrew hk5)); have cS2 := (unhide HS5).all1; clear hk5))
      go_wp2
      go_ret
      exact ⟨rfl, (unhide HS5).kp.below (Nat.le_refl _) (by simp)⟩
theorem rcou_walk (g s m : Int) (w : World) :
    Calls Try.prog 7 #[.agg #[.int .i64 g, .int .i64 s, .int .i64 m]] w fun e w' => e = .returned (.bool true) ∧ Below w.heap.size w w' := by
  cases h : mayP g s m with
  | false => exact rcou_no g s m w h
  | true =>
    obtain ⟨G, S, M, rfl, rfl, rfl, hm⟩ := mayP_nat h
    exact rcou_ok G S M w hm
end Go.Proofs.Ytlljilekompbeaa
