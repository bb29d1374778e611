/-
  The program's plan and the document's answer alike, for every number.
-/
import Derived.Test.YtlljilekompbeaaRtT
import Derived.Test.YtlljilekompbeaaRtU
import Derived.Test.YtlljilekompbeaaROne
namespace Go.Proofs.Ytlljilekompbeaa
open Go.RowKit

theorem route_both (g s m n : Int) (b : ByteArray) (hb : b.size ≤ maxLen) : ∃ a e : Int, (∀ w, Calls Try.prog 21 #[.agg #[.int .i64 g, .int .i64 s, .int .i64 m], .int .i64 n, .string b] w fun r w' => r = .returned (.tuple #[.int .i64 a, .int .i64 e]) ∧ Kp [] w w') ∧ (∀ w, Calls Try.prog 22 #[.agg #[.int .i64 g, .int .i64 s, .int .i64 m], .int .i64 n, .string b] w fun r w' => r = .returned (.tuple #[.int .i64 a, .int .i64 e]) ∧ Kp [] w w') := by
  cases h : mayP g s m with
  | false => exact ⟨0, 1, fun w => route_no g s m n b w h, fun w => refRoute_no g s m n b w h⟩
  | true =>
    obtain ⟨G, S, M, rfl, rfl, rfl, hm⟩ := mayP_nat h
    by_cases hn : 0 ≤ n ∧ n < (S : Int)
    · obtain ⟨k, rfl⟩ : ∃ k : Nat, n = (k : Int) := ⟨n.toNat, by omega⟩
      exact ⟨_, _, fun w => route_ok G S M k b w hb hm (by omega), fun w => refRoute_ok G S M k b w hb hm (by omega)⟩
    · exact ⟨_, _, fun w => route_not G S M n b w hm hn, fun w => refRoute_not G S M n b w hm hn⟩
theorem ends_both (g s m n : Int) : ∃ a c e : Int, (∀ w, Calls Try.prog 23 #[.agg #[.int .i64 g, .int .i64 s, .int .i64 m], .int .i64 n] w fun r w' => r = .returned (.tuple #[.int .i64 a, .int .i64 c, .int .i64 e]) ∧ Kp [] w w') ∧ (∀ w, Calls Try.prog 24 #[.agg #[.int .i64 g, .int .i64 s, .int .i64 m], .int .i64 n] w fun r w' => r = .returned (.tuple #[.int .i64 a, .int .i64 c, .int .i64 e]) ∧ Kp [] w w') := by
  cases h : mayP g s m with
  | false => exact ⟨_, _, _, fun w => ends_no g s m n w h, fun w => refEnds_no g s m n w h⟩
  | true =>
    obtain ⟨G, S, M, rfl, rfl, rfl, hm⟩ := mayP_nat h
    by_cases hn : 0 ≤ n ∧ n < ((S * M + M : Nat) : Int)
    · obtain ⟨k, rfl⟩ : ∃ k : Nat, n = (k : Int) := ⟨n.toNat, by omega⟩
      exact ⟨_, _, _, fun w => ends_ok G S M k w hm (by omega), fun w => refEnds_ok G S M k w hm (by omega)⟩
    · exact ⟨_, _, _, fun w => ends_not G S M n w hm hn, fun w => refEnds_not G S M n w hm hn⟩
theorem kind_both (g s m t : Int) : ∃ a e : Int, (∀ w, Calls Try.prog 14 #[.agg #[.int .i64 g, .int .i64 s, .int .i64 m], .int .i64 t] w fun r w' => r = .returned (.tuple #[.int .i64 a, .int .i64 e]) ∧ Kp [] w w') ∧ (∀ w, Calls Try.prog 15 #[.agg #[.int .i64 g, .int .i64 s, .int .i64 m], .int .i64 t] w fun r w' => r = .returned (.tuple #[.int .i64 a, .int .i64 e]) ∧ Kp [] w w') := by
  cases h : mayP g s m with
  | false => exact ⟨_, _, fun w => kind_no g s m t w h, fun w => refKind_no g s m t w h⟩
  | true =>
    obtain ⟨G, S, M, rfl, rfl, rfl, hm⟩ := mayP_nat h
    by_cases hn : 0 ≤ t ∧ t < ((S + M + 1 : Nat) : Int)
    · obtain ⟨k, rfl⟩ : ∃ k : Nat, t = (k : Int) := ⟨t.toNat, by omega⟩
      exact ⟨_, _, fun w => kind_ok G S M k w hm (by omega), fun w => refKind_ok G S M k w hm (by omega)⟩
    · exact ⟨_, _, fun w => kind_not G S M t w hm hn, fun w => refKind_not G S M t w hm hn⟩
theorem own_nil (B : Nat) (w : World) : OwnN B w (.slice none 0 0) [] := ⟨rfl, Or.inl ⟨rfl, rfl⟩⟩
theorem calls_nil {f : Nat} {args : Array Value} {w : World} {e : Int} (h : Calls Try.prog f args w fun r w' => r = .returned (.tuple #[.slice none 0 0, .int .i64 e]) ∧ Kp [] w w') : Calls Try.prog f args w fun r w' => ∃ v, r = .returned (.tuple #[v, .int .i64 e]) ∧ OwnN 0 w' v [] ∧ Kp [] w w' :=
  h.mono fun _ _ ⟨h1, h2⟩ => ⟨_, h1, own_nil _ _, h2⟩
theorem calls_zero {f : Nat} {args : Array Value} {w : World} {e : Int} {L : List Nat} (h : Calls Try.prog f args w fun r w' => ∃ v, r = .returned (.tuple #[v, .int .i64 e]) ∧ OwnN w.heap.size w' v L ∧ Kp [] w w') : Calls Try.prog f args w fun r w' => ∃ v, r = .returned (.tuple #[v, .int .i64 e]) ∧ OwnN 0 w' v L ∧ Kp [] w w' :=
  h.mono fun _ _ ⟨v, h1, h2, h3⟩ => ⟨v, h1, h2.mono (Nat.zero_le _), h3⟩
theorem ins_both (g s m t : Int) : ∃ (L : List Nat) (e : Int), L.length ≤ 40016 ∧ (∀ w, Calls Try.prog 16 #[.agg #[.int .i64 g, .int .i64 s, .int .i64 m], .int .i64 t] w fun r w' => ∃ v, r = .returned (.tuple #[v, .int .i64 e]) ∧ OwnN 0 w' v L ∧ Kp [] w w') ∧ (∀ w, Calls Try.prog 17 #[.agg #[.int .i64 g, .int .i64 s, .int .i64 m], .int .i64 t, .int .i64 1] w fun r w' => ∃ v, r = .returned (.tuple #[v, .int .i64 e]) ∧ OwnN 0 w' v L ∧ Kp [] w w') := by
  cases h : mayP g s m with
  | false => exact ⟨[], _, by simp, fun w => calls_nil (ins_no g s m t w h), fun w => calls_nil (refSide1_no g s m t w h)⟩
  | true =>
    obtain ⟨G, S, M, rfl, rfl, rfl, hm⟩ := mayP_nat h
    by_cases hn : 0 ≤ t ∧ t < ((S + M + 1 : Nat) : Int)
    · obtain ⟨k, rfl⟩ : ∃ k : Nat, t = (k : Int) := ⟨t.toNat, by omega⟩
      refine ⟨_, _, ?_, fun w => calls_zero (ins_ok G S M k w hm (by omega)), fun w => calls_zero (refSide1_ok G S M k w hm (by omega))⟩
      have h1 := hm.s2
      have h2 := hm.gm.t3
      have h3 := mul_lt_small S M (by omega) (by omega)
      exact Nat.le_trans (sdL_len _ _ _) (by omega)
    · exact ⟨[], _, by simp, fun w => calls_nil (ins_not G S M t w hm hn), fun w => calls_nil (refSide1_not G S M t w hm hn)⟩
theorem outs_both (g s m t : Int) : ∃ (L : List Nat) (e : Int), L.length ≤ 40016 ∧ (∀ w, Calls Try.prog 18 #[.agg #[.int .i64 g, .int .i64 s, .int .i64 m], .int .i64 t] w fun r w' => ∃ v, r = .returned (.tuple #[v, .int .i64 e]) ∧ OwnN 0 w' v L ∧ Kp [] w w') ∧ (∀ w, Calls Try.prog 17 #[.agg #[.int .i64 g, .int .i64 s, .int .i64 m], .int .i64 t, .int .i64 0] w fun r w' => ∃ v, r = .returned (.tuple #[v, .int .i64 e]) ∧ OwnN 0 w' v L ∧ Kp [] w w') := by
  cases h : mayP g s m with
  | false => exact ⟨[], _, by simp, fun w => calls_nil (outs_no g s m t w h), fun w => calls_nil (refSide0_no g s m t w h)⟩
  | true =>
    obtain ⟨G, S, M, rfl, rfl, rfl, hm⟩ := mayP_nat h
    by_cases hn : 0 ≤ t ∧ t < ((S + M + 1 : Nat) : Int)
    · obtain ⟨k, rfl⟩ : ∃ k : Nat, t = (k : Int) := ⟨t.toNat, by omega⟩
      refine ⟨_, _, ?_, fun w => calls_zero (outs_ok G S M k w hm (by omega)), fun w => calls_zero (refSide0_ok G S M k w hm (by omega))⟩
      have h1 := hm.s2
      have h2 := hm.gm.t3
      have h3 := mul_lt_small S M (by omega) (by omega)
      exact Nat.le_trans (sdL_len _ _ _) (by omega)
    · exact ⟨[], _, by simp, fun w => calls_nil (outs_not G S M t w hm hn), fun w => calls_nil (refSide0_not G S M t w hm hn)⟩
set_option maxHeartbeats 1000000 in
theorem sameN_any (u v : Value) (L : List Nat) (w : World) (hl : L.length ≤ 40016) (h1 : OwnN 0 w u L) (h2 : OwnN 0 w v L) : Calls Try.prog 19 #[u, v] w fun e w' => e = .returned (.bool true) ∧ Kp [] w w' := by
  have H1 := hide h1
  have H2 := hide h2
  obtain ⟨a1, c1, rfl, _⟩ := h1.at
  obtain ⟨a2, c2, rfl, _⟩ := h2.at
  clear h1 h2
  go_enter Try.func19, Try.ntmps19
  go_wp2_with fail
  go_loopw [5] (fun i wr => ∃ k : Nat, k ≤ L.length ∧ i = .int .i64 (k : Int) ∧ Hid (Kp [] w wr)) (fun i _ => L.length - (intOf i).toNat)
  case atStart => exact ⟨0, Nat.zero_le _, rfl, hide (Kp.refl _ _)⟩
  case round =>
    obtain ⟨k, hk, rfl, HP⟩ := hrel
    by_cases hlk : k < L.length
    · have hlk' : (k : Int) < (L.length : Int) := by omega
      obtain ⟨q1, hq1, x1⟩ : ∃ q, a1 = some ⟨q, 0, none⟩ ∧ wr.cell? ⟨q, k, none⟩ = some (.int .i64 ((L[k] : Nat) : Int)) := by
        obtain ⟨ad', cp', he, hc⟩ := ((unhide H1).kp (unhide HP)).at
        simp only [Value.slice.injEq] at he
        obtain ⟨rfl, _, rfl⟩ := he
        exact hc k hlk
      obtain ⟨q2, hq2, x2⟩ : ∃ q, a2 = some ⟨q, 0, none⟩ ∧ wr.cell? ⟨q, k, none⟩ = some (.int .i64 ((L[k] : Nat) : Int)) := by
        obtain ⟨ad', cp', he, hc⟩ := ((unhide H2).kp (unhide HP)).at
        simp only [Value.slice.injEq] at he
        obtain ⟨rfl, _, rfl⟩ := he
        exact hc k hlk
      subst hq1 hq2
      have HPd : Hid (Kp [] w wr.drew) := hide (kp_tr (unhide HP) (Kp.drew _))
      generalize L[k] = x at *
      clear H1 H2
      go_wp2_with fail
      go_region
      go_wp2
      go_roundw
      case rel => exact ⟨k + 1, by omega, by go_num, HPd⟩
      case measure => simp [intOf]; omega
    · have hlk' : ¬ ((k : Int) < (L.length : Int)) := by omega
      clear H1 H2
      go_wp2
      go_ret
      exact ⟨rfl, unhide HP⟩
end Go.Proofs.Ytlljilekompbeaa
