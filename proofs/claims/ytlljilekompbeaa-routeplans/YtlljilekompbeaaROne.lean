/-
  RouteOne: the walk.
-/
import Derived.Test.YtlljilekompbeaaRtW
namespace Go.Proofs.Ytlljilekompbeaa
open Go.RowKit

set_option maxHeartbeats 1000000 in
set_option maxRecDepth 100000 in
theorem rone_no (g s m : Int) (b : ByteArray) (w : World) (hno : mayP g s m = false) :
    Calls Try.prog 6 #[.agg #[.int .i64 g, .int .i64 s, .int .i64 m], .string b] w fun e w' => e = .returned (.bool true) ∧ Below w.heap.size w w' := by
  have WK := hide (fun W => rtWorks_any W)
  have CK := hide (fun W => pcheck_any g s m W)
  have e4 : chP g s m = 1 := by unfold chP; rw [hno]; rfl
  rw [e4] at CK
  clear e4 hno
  go_enter Try.func6, Try.ntmps6
  go_wp2_with fail
  refine (unhide WK _).mono ?_
  rintro r w1 ⟨rfl, hk1⟩
  have HX : Hid (PBox w.heap.size 39 g s m w1) := hide (PBox.kp (CBox.new w _ _) hk1 (by simp))
  obtain ⟨x0, x1, x2⟩ := (unhide HX).cells
  have HK1 := hide (kp_two hk1)
  clear hk1 WK
  go_wp2_with fail
  refine (unhide CK _).mono ?_
  rintro r w2 ⟨rfl, hk2⟩
  have HK2 := hide (kp_tr (unhide HK1) (kp_two hk2))
  clear hk2 CK x0 x1 x2 HX HK1
  go_wp2
  go_ret
  exact ⟨rfl, (unhide HK2).below (Nat.le_refl _) (by simp)⟩
/-- What lies there: the law's plan and the program's. -/
structure TwP (w : World) (q1 q2 t : Nat) (G S M : Int) (wr : World) : Prop where
  kp : Kp [] w wr
  x : PBox q1 t G S M wr
  p : PBox q2 23 G S M wr
theorem TwP.next {w wr w' : World} {q1 q2 t : Nat} {G S M : Int} (h : TwP w q1 q2 t G S M wr) (hk : Kp [] wr w') : TwP w q1 q2 t G S M w' :=
  ⟨kp_tr h.kp hk, h.x.kp hk (by simp), h.p.kp hk (by simp)⟩
theorem fr_of (S M n o : Nat) (ho : o < M) (hn : n < S) : frC S M (n * M + o) = n ∧ toC S M (n * M + o) = S + o ∧ n * M + o < S * M := by
  have h1 : n * M + o < S * M := by
    have := Nat.mul_le_mul_right M (show n + 1 ≤ S by omega)
    rw [Nat.add_mul, Nat.one_mul] at this
    omega
  unfold frC toC
  rw [if_pos h1, if_pos h1]
  refine ⟨?_, ?_, h1⟩
  · rw [Nat.add_comm, Nat.add_mul_div_right _ _ (by omega), Nat.div_eq_of_lt ho]; omega
  · rw [Nat.add_comm (n * M), Nat.add_mul_mod_self_right, Nat.mod_eq_of_lt ho]
set_option maxHeartbeats 2000000 in
set_option maxRecDepth 100000 in
theorem rone_ok (G S M : Nat) (b : ByteArray) (w : World) (hb : b.size ≤ maxLen) (hm : MayP G S M) :
    Calls Try.prog 6 #[.agg #[.int .i64 (G : Int), .int .i64 (S : Int), .int .i64 (M : Int)], .string b] w fun e w' => e = .returned (.bool true) ∧ Below w.heap.size w w' := by
  have WK := hide (fun W => rtWorks_any W)
  have CK := hide (fun W => pcheck_any (G : Int) (S : Int) (M : Int) W)
  have e4 : chP (G : Int) (S : Int) (M : Int) = 0 := by unfold chP; rw [hm.of]; rfl
  rw [e4] at CK
  have OF := hide (fun W => of_ok b G W hb hm.gm.g1 hm.gm.g2)
  have OW := hide (fun W => owner_ok G M (hshL b.data.toList % G) W hm.gm (Nat.mod_lt _ hm.gm.g1))
  have hlt := rtM_lt G S M b hm
  have RT := hide (fun n W hn => route_ok G S M n b W hb hm hn)
  have EN := hide (fun n W (hn : n < S) => by
    have := ends_ok G S M (n * M + rtM G M b) W hm (by have := (fr_of S M n _ hlt hn).2.2; omega)
    rw [(fr_of S M n _ hlt hn).1, (fr_of S M n _ hlt hn).2.1] at this
    exact this)
  have h1 := hm.s2
  have h2 := hm.gm.t3
  have HMU := hide (fun n (hn : n < S) => (fr_of S M n _ hlt hn).2.2)
  unfold rtM at *
  generalize own G M (hshL b.data.toList % G) = o at *
  generalize hshL b.data.toList % G = q at *
  clear e4 hm
  go_enter Try.func6, Try.ntmps6
  go_wp2_with fail
  refine (unhide WK _).mono ?_
  rintro r w1 ⟨rfl, hk1⟩
  have HX : Hid (PBox w.heap.size 39 (G : Int) (S : Int) (M : Int) w1) := hide (PBox.kp (CBox.new w _ _) hk1 (by simp))
  obtain ⟨x0, x1, x2⟩ := (unhide HX).cells
  have HK1 := hide (kp_two hk1)
  clear hk1 WK
  go_wp2_with fail
  refine (unhide CK _).mono ?_
  rintro r w2 ⟨rfl, hk2⟩
  have HS : Hid (TwP w w.heap.size w1.heap.size 39 (G : Int) (S : Int) (M : Int) w2) := hide ⟨kp_tr (unhide HK1) (kp_two hk2), (unhide HX).kp (kp_two hk2) (by simp), PBox.kp (CBox.new w1 _ _) hk2 (by simp)⟩
  clear hk2 CK x0 x1 x2 HX HK1
  generalize w.heap.size = q1 at *
  generalize w1.heap.size = q2 at *
  obtain ⟨x0, x1, x2⟩ := (unhide HS).x.cells
  obtain ⟨p0, p1, p2⟩ := (unhide HS).p.cells
  go_wp2_with fail
  refine (unhide OF _).mono ?_
  rintro r w3 ⟨rfl, rfl⟩
  clear OF
  go_wp2_with fail
  refine (unhide OW _).mono ?_
  rintro r w4 ⟨rfl, rfl⟩
  clear OW x0 x1 x2 p0 p1 p2
  obtain ⟨x0, x1, x2⟩ := (unhide HS).x.cells
  go_wp2
  go_loopw [52] (fun i wr => ∃ k : Nat, k ≤ S ∧ i = .int .i64 (k : Int) ∧ Hid (TwP w q1 q2 39 (G : Int) (S : Int) (M : Int) wr)) (fun i _ => S - (intOf i).toNat)
  case atStart => exact ⟨0, Nat.zero_le _, rfl, HS⟩
  case round =>
    obtain ⟨k, hk, rfl, HS2⟩ := hrel
    clear x0 x1 x2 HS
    obtain ⟨x0, x1, x2⟩ := (unhide HS2).x.cells
    obtain ⟨p0, p1, p2⟩ := (unhide HS2).p.cells
    by_cases hlk : k < S
    · have hlk' : (k : Int) < (S : Int) := by omega
      have RK := hide (fun W => unhide RT k W hlk)
      have EK := hide (fun W => unhide EN k W hlk)
      have hmu := unhide HMU k hlk
      have hmb := mul_lt_small S M (by omega) (by omega)
      clear RT EN HMU
      generalize k * M + o = c at *
      go_wp2_with fail
      refine (unhide RK _).mono ?_
      rintro r w5 ⟨rfl, hk5⟩
      have HS3 := hide ((unhide HS2).next hk5)
      clear x0 x1 x2 p0 p1 p2 HS2 hk5 RK
      obtain ⟨p0, p1, p2⟩ := (unhide HS3).p.cells
      go_wp2_with fail
      refine (unhide EK _).mono ?_
      rintro r w6 ⟨rfl, hk6⟩
      have HS4 := hide ((unhide HS3).next hk6)
      clear p0 p1 p2 HS3 hk6 EK
      obtain ⟨x0, x1, x2⟩ := (unhide HS4).x.cells
      go_wp2
      go_roundw
      case rel => exact ⟨k + 1, by omega, by go_num, HS4⟩
      case measure => simp [intOf]; omega
    · have hlk' : ¬ ((k : Int) < (S : Int)) := by omega
      clear RT EN HMU
      go_wp2
      go_ret
      exact ⟨rfl, (unhide HS2).kp.below (Nat.le_refl _) (by simp)⟩
theorem rone_walk (g s m : Int) (b : ByteArray) (w : World) (hb : b.size ≤ maxLen) :
    Calls Try.prog 6 #[.agg #[.int .i64 g, .int .i64 s, .int .i64 m], .string b] w fun e w' => e = .returned (.bool true) ∧ Below w.heap.size w w' := by
  cases h : mayP g s m with
  | false => exact rone_no g s m b w h
  | true =>
    obtain ⟨G, S, M, rfl, rfl, rfl, hm⟩ := mayP_nat h
    exact rone_ok G S M b w hb hm
end Go.Proofs.Ytlljilekompbeaa
