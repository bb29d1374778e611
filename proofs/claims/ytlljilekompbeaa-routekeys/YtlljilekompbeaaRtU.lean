/-
  The document's plan: the channel that a key takes.
-/
import Derived.Test.YtlljilekompbeaaRtS
import Derived.Test.YtlljilekompbeaaGrBR
import Derived.Test.YtlljilekompbeaaGrOR
namespace Go.Proofs.Ytlljilekompbeaa
open Go.RowKit

theorem eq2 (d : Nat) (a0 a1 b0 b1 : Int) (w : World) : (Op.equalIn (d + 2) 50 (.agg #[.int .i64 a0, .int .i64 a1]) (.agg #[.int .i64 b0, .int .i64 b1])).run Try.prog w = .ok (a0 == b0 && a1 == b1) w := by
  have hi := fun (a b : Int) (w : World) => run_equalIn_int (P := Try.prog) w d 3 .i64 .i64 a b Try.underlying3
  unfold Op.equalIn
  simp only [Sem.run_bind, run_underlying Try.underlying50, Result.andThen_ok]
  simp [part, Try.sizeOf3, go_sem, hi, Std.Legacy.Range.forIn_eq_forIn_range', List.range'_succ]
  by_cases h0 : a0 = b0 <;> by_cases h1 : a1 = b1 <;> simp [h0, h1]
theorem refOf_ok (b : ByteArray) (G : Nat) (w : World) (hb : b.size ≤ maxLen) (h1 : 1 ≤ G) (h2 : G ≤ 128) : Calls Try.prog 36 #[.string b, .int .i64 (G : Int)] w fun e w' => e = .returned (.tuple #[.int .i64 ((hshL b.data.toList % G : Nat) : Int), .int .i64 0]) ∧ w' = w := by
  have h := refOf_any b (G : Int) w hb
  have e1 : mayG (G : Int) = true := by unfold mayG; simp; omega
  unfold ofA ofE at h
  rw [if_pos e1, if_pos e1] at h
  simpa using h
theorem the_one (S M n o c : Nat) (ho : o < M) (hn : n < S) (hc : c < S * M + M) : (frC S M c = n ∧ toC S M c = S + o) ↔ c = n * M + o := by
  constructor
  · intro ⟨h1, h2⟩
    unfold frC at h1
    unfold toC at h2
    split at h1
    · rename_i h
      rw [if_pos h] at h2
      have h3 := Nat.div_add_mod c M
      rw [h1, show c % M = o by omega, Nat.mul_comm] at h3
      omega
    · rename_i h
      rw [if_neg h] at h2
      omega
  · rintro rfl
    exact ⟨(fr_of S M n o ho hn).1, (fr_of S M n o ho hn).2.1⟩
theorem refRoute_no (g s m n : Int) (b : ByteArray) (w : World) (h : mayP g s m = false) : Calls Try.prog 22 #[.agg #[.int .i64 g, .int .i64 s, .int .i64 m], .int .i64 n, .string b] w fun e w' => e = .returned (.tuple #[.int .i64 0, .int .i64 1]) ∧ Kp [] w w' := by
  have MB := hide (refMayP_any g s m)
  rw [h] at MB
  clear h
  go_enter Try.func22, Try.ntmps22
  go_wp2_with fail
  refine (unhide MB _).mono ?_
  rintro r w1 ⟨rfl, hk⟩
  go_wp2
  go_ret2
  exact ⟨rfl, kp_two hk⟩
theorem refRoute_not (G S M : Nat) (n : Int) (b : ByteArray) (w : World) (hm : MayP G S M) (hn : ¬ (0 ≤ n ∧ n < (S : Int))) : Calls Try.prog 22 #[.agg #[.int .i64 (G : Int), .int .i64 (S : Int), .int .i64 (M : Int)], .int .i64 n, .string b] w fun e w' => e = .returned (.tuple #[.int .i64 0, .int .i64 70]) ∧ Kp [] w w' := by
  have MB := hide (refMayP_any (G : Int) (S : Int) (M : Int))
  rw [hm.of] at MB
  clear hm
  go_enter Try.func22, Try.ntmps22
  go_wp2_with fail
  refine (unhide MB _).mono ?_
  rintro r w1 ⟨rfl, hk⟩
  obtain ⟨c0, c1, c2⟩ := (PBox.kp (CBox.new w _ _ : PBox w.heap.size 24 (G : Int) (S : Int) (M : Int) _) hk (by simp)).cells
  have HK := hide (kp_two hk)
  clear hk MB
  by_cases h0 : n < 0
  · go_wp2
    go_ret2
    exact ⟨rfl, unhide HK⟩
  · have h1 : (S : Int) ≤ n := by omega
    go_wp2
    go_ret2
    exact ⟨rfl, unhide HK⟩
set_option maxHeartbeats 2000000 in
set_option maxRecDepth 100000 in
theorem refRoute_ok (G S M n : Nat) (b : ByteArray) (w : World) (hb : b.size ≤ maxLen) (hm : MayP G S M) (hn : n < S) : Calls Try.prog 22 #[.agg #[.int .i64 (G : Int), .int .i64 (S : Int), .int .i64 (M : Int)], .int .i64 (n : Int), .string b] w fun e w' => e = .returned (.tuple #[.int .i64 ((n * M + rtM G M b : Nat) : Int), .int .i64 0]) ∧ Kp [] w w' := by
  have MB := hide (refMayP_any (G : Int) (S : Int) (M : Int))
  rw [hm.of] at MB
  have OF := hide (fun W => refOf_ok b G W hb hm.gm.g1 hm.gm.g2)
  have OW := hide (fun W => refOwner_ok G M (hshL b.data.toList % G) W hm.gm (Nat.mod_lt _ hm.gm.g1))
  have AL := hide (fun W => refAll_ok G S M W hm)
  have hlt := rtM_lt G S M b hm
  have h1 := hm.s2
  have h2 := hm.gm.t3
  have E2 := eq2
  unfold rtM at *
  generalize own G M (hshL b.data.toList % G) = o at *
  generalize hshL b.data.toList % G = qq at *
  have HON := hide (fun c => the_one S M n o c hlt hn)
  have hT := (fr_of S M n o hlt hn).2.2
  have b1 := mul_lt_small S M (by omega) (by omega)
  have hT2 : n * M + o < S * M + M := by omega
  have hN : S * M + M ≤ 40016 := by omega
  generalize n * M + o = T at *
  generalize S * M + M = N at *
  clear hm hT b1
  have hn' : (n : Int) < (S : Int) := by omega
  have hn0 : ¬ ((n : Int) < 0) := by omega
  go_enter Try.func22, Try.ntmps22
  go_wp2_with fail
  refine (unhide MB _).mono ?_
  rintro r w1 ⟨rfl, hk⟩
  have HB : Hid (PBox w.heap.size 24 (G : Int) (S : Int) (M : Int) w1) := hide (PBox.kp (CBox.new w _ _) hk (by simp))
  obtain ⟨c0, c1, c2⟩ := (unhide HB).cells
  have HK := hide (kp_two hk)
  clear hk MB
  go_wp2_with fail
  refine (unhide OF _).mono ?_
  rintro r w2 ⟨rfl, rfl⟩
  clear OF
  go_wp2_with fail
  refine (unhide OW _).mono ?_
  rintro r w3 ⟨rfl, rfl⟩
  clear OW
  go_wp2_with fail
  refine (unhide AL _).mono ?_
  rintro r w4 ⟨va, rfl, ho, hk4⟩
  have HK4 := hide (kp_tr (unhide HK) hk4)
  have HB4 := hide ((unhide HB).kp hk4 (by simp))
  have HQ := hide ho
  obtain ⟨ad, capa, rfl, _⟩ := ho.at
  clear hk4 AL HK ho c0 c1 c2 HB
  go_wp2_with fail
  go_loopw [13, 14] (fun a i wr => ∃ k : Nat, k ≤ N ∧ i = .int .i64 (k : Int) ∧ a = .int .i64 ((if k ≤ T then 0 else T : Nat) : Int) ∧ Hid (Kp [] w4 wr)) (fun _ i _ => N - (intOf i).toNat)
  case atStart => exact ⟨0, Nat.zero_le _, rfl, by rw [if_pos (Nat.zero_le _)]; rfl, hide (Kp.refl _ _)⟩
  case round =>
    obtain ⟨k, hk, rfl, rfl, HP⟩ := hrel
    by_cases hlk : k < N
    · have hlk' : (k : Int) < (N : Int) := by omega
      obtain ⟨q, hq, a1, a2⟩ : ∃ q, ad = some ⟨q, 0, none⟩ ∧ wr.cell? ⟨q, k * 2, none⟩ = some (.int .i64 (frC S M k : Int)) ∧ wr.cell? ⟨q, k * 2 + 1, none⟩ = some (.int .i64 (toC S M k : Int)) := by
        obtain ⟨ad', cp', he, hc⟩ := ((unhide HQ).kp (unhide HP)).at
        simp only [Value.slice.injEq] at he
        obtain ⟨rfl, _, rfl⟩ := he
        exact hc k hlk
      subst hq
      have hone := unhide HON k hlk
      obtain ⟨c0, c1, c2⟩ := ((unhide HB4).kp (unhide HP) (by simp)).cells
      have HPd : Hid (Kp [] w4 wr.drew) := hide (kp_tr (unhide HP) (Kp.drew _))
      generalize frC S M k = x at *
      generalize toC S M k = y at *
      generalize hA : (if k ≤ T then 0 else T : Nat) = A at *
      have HA := hide hA
      clear hA HON
      by_cases hkT : k = T
      · obtain ⟨rfl, rfl⟩ := hone.2 hkT
        have HkT := hide hkT
        clear hone hkT
        go_wp2_with fail
        go_region
        go_wp2
        go_roundw
        case rel => exact ⟨k + 1, by omega, by go_num, by rw [if_neg (by have := unhide HkT; omega), ← unhide HkT], HPd⟩
        case measure => simp [intOf]; omega
      · have hxy : ((x : Int) == (n : Int) && (y : Int) == (S : Int) + (o : Int)) = false := by
          rw [Bool.eq_false_iff]
          intro h
          simp at h
          exact hkT (hone.1 (by omega))
        have hxy2 : ¬ ((x : Int) = (n : Int) ∧ (y : Int) = (S : Int) + (o : Int)) := fun h => hkT (hone.1 (by omega))
        clear hone
        go_wp2_with fail
        go_region
        go_wp2
        go_roundw
        case rel => exact ⟨k + 1, by omega, by go_num, by rw [← unhide HA]; congr 2; split <;> split <;> omega, HPd⟩
        case measure => simp [intOf]; omega
    · obtain rfl : k = N := by omega
      have hlk' : ¬ ((k : Int) < (k : Int)) := by omega
      rw [if_neg (by omega)]
      go_wp2
      go_ret2
      exact ⟨rfl, kp_tr (unhide HK4) (unhide HP)⟩
end Go.Proofs.Ytlljilekompbeaa
