/-
  A plan: Ins, Outs, Route.
-/
import Derived.Test.YtlljilekompbeaaRtD
import Derived.Test.YtlljilekompbeaaGrD
import Derived.Shelf.Abstract
namespace Go.Proofs.Ytlljilekompbeaa
open Go.RowKit

theorem to_en : ∀ args W, (callFunc 34 args).run Try.prog W = .ok (.enter 34 args) W := fun args W => enters_of Try.func34 (by kernel_rfl) rfl args W
theorem ins_no (g s m t : Int) (w : World) (h : mayP g s m = false) : Calls Try.prog 16 #[.agg #[.int .i64 g, .int .i64 s, .int .i64 m], .int .i64 t] w fun e w' => e = .returned (.tuple #[.slice none 0 0, .int .i64 1]) ∧ Kp [] w w' := by
  have CW := hide (fun W => chw_no 34 g s m t W h)
  clear h
  go_enter Try.func16, Try.ntmps16
  go_wp2_with fail
  refine (unhide CW _).mono ?_
  rintro r w1 ⟨rfl, hk⟩
  go_wp2
  go_ret2
  exact ⟨rfl, kp_two hk⟩
theorem ins_not (G S M : Nat) (t : Int) (w : World) (hm : MayP G S M) (ht : ¬ (0 ≤ t ∧ t < ((S + M + 1 : Nat) : Int))) : Calls Try.prog 16 #[.agg #[.int .i64 (G : Int), .int .i64 (S : Int), .int .i64 (M : Int)], .int .i64 t] w fun e w' => e = .returned (.tuple #[.slice none 0 0, .int .i64 70]) ∧ Kp [] w w' := by
  have CW := hide (fun W => chw_not 34 G S M t W hm ht)
  clear ht hm
  go_enter Try.func16, Try.ntmps16
  go_wp2_with fail
  refine (unhide CW _).mono ?_
  rintro r w1 ⟨rfl, hk⟩
  go_wp2
  go_ret2
  exact ⟨rfl, kp_two hk⟩
theorem ins_ok (G S M t : Nat) (w : World) (hm : MayP G S M) (ht : t < S + M + 1) : Calls Try.prog 16 #[.agg #[.int .i64 (G : Int), .int .i64 (S : Int), .int .i64 (M : Int)], .int .i64 (t : Int)] w fun e w' => ∃ v, e = .returned (.tuple #[v, .int .i64 0]) ∧ OwnN w.heap.size w' v (sdL (toC S M) t (S * M + M)) ∧ Kp [] w w' := by
  have CW := hide (fun W => chw_ok 34 (toC S M) G S M t W hm ht to_en (fun c W hc => to_ok G S M c W hm hc))
  clear ht hm
  go_enter Try.func16, Try.ntmps16
  go_wp2_with fail
  refine (unhide CW _).mono ?_
  rintro r w1 ⟨v, rfl, ho, hk⟩
  have HO := hide (ho.mono (by simp : w.heap.size ≤ _))
  have HK := hide (kp_two hk)
  clear ho hk CW
  go_wp2
  go_ret2
  exact ⟨v, rfl, unhide HO, unhide HK⟩
theorem from_en : ∀ args W, (callFunc 35 args).run Try.prog W = .ok (.enter 35 args) W := fun args W => enters_of Try.func35 (by kernel_rfl) rfl args W
theorem outs_no (g s m t : Int) (w : World) (h : mayP g s m = false) : Calls Try.prog 18 #[.agg #[.int .i64 g, .int .i64 s, .int .i64 m], .int .i64 t] w fun e w' => e = .returned (.tuple #[.slice none 0 0, .int .i64 1]) ∧ Kp [] w w' := by
  have CW := hide (fun W => chw_no 35 g s m t W h)
  clear h
  go_enter Try.func18, Try.ntmps18
  go_wp2_with fail
  refine (unhide CW _).mono ?_
  rintro r w1 ⟨rfl, hk⟩
  go_wp2
  go_ret2
  exact ⟨rfl, kp_two hk⟩
theorem outs_not (G S M : Nat) (t : Int) (w : World) (hm : MayP G S M) (ht : ¬ (0 ≤ t ∧ t < ((S + M + 1 : Nat) : Int))) : Calls Try.prog 18 #[.agg #[.int .i64 (G : Int), .int .i64 (S : Int), .int .i64 (M : Int)], .int .i64 t] w fun e w' => e = .returned (.tuple #[.slice none 0 0, .int .i64 70]) ∧ Kp [] w w' := by
  have CW := hide (fun W => chw_not 35 G S M t W hm ht)
  clear ht hm
  go_enter Try.func18, Try.ntmps18
  go_wp2_with fail
  refine (unhide CW _).mono ?_
  rintro r w1 ⟨rfl, hk⟩
  go_wp2
  go_ret2
  exact ⟨rfl, kp_two hk⟩
theorem outs_ok (G S M t : Nat) (w : World) (hm : MayP G S M) (ht : t < S + M + 1) : Calls Try.prog 18 #[.agg #[.int .i64 (G : Int), .int .i64 (S : Int), .int .i64 (M : Int)], .int .i64 (t : Int)] w fun e w' => ∃ v, e = .returned (.tuple #[v, .int .i64 0]) ∧ OwnN w.heap.size w' v (sdL (frC S M) t (S * M + M)) ∧ Kp [] w w' := by
  have CW := hide (fun W => chw_ok 35 (frC S M) G S M t W hm ht from_en (fun c W hc => from_ok G S M c W hm hc))
  clear ht hm
  go_enter Try.func18, Try.ntmps18
  go_wp2_with fail
  refine (unhide CW _).mono ?_
  rintro r w1 ⟨v, rfl, ho, hk⟩
  have HO := hide (ho.mono (by simp : w.heap.size ≤ _))
  have HK := hide (kp_two hk)
  clear ho hk CW
  go_wp2
  go_ret2
  exact ⟨v, rfl, unhide HO, unhide HK⟩
theorem of_ok (b : ByteArray) (G : Nat) (w : World) (hb : b.size ≤ maxLen) (h1 : 1 ≤ G) (h2 : G ≤ 128) : Calls Try.prog 25 #[.string b, .int .i64 (G : Int)] w fun e w' => e = .returned (.tuple #[.int .i64 ((hshL b.data.toList % G : Nat) : Int), .int .i64 0]) ∧ w' = w := by
  have h := of_any b (G : Int) w hb
  have e1 : mayG (G : Int) = true := by unfold mayG; simp; omega
  unfold ofA ofE at h
  rw [if_pos e1, if_pos e1] at h
  simpa using h
theorem route_no (g s m n : Int) (b : ByteArray) (w : World) (h : mayP g s m = false) : Calls Try.prog 21 #[.agg #[.int .i64 g, .int .i64 s, .int .i64 m], .int .i64 n, .string b] w fun e w' => e = .returned (.tuple #[.int .i64 0, .int .i64 1]) ∧ Kp [] w w' := by
  have CW := hide (fun W => kind_no g s m n W h)
  clear h
  go_enter Try.func21, Try.ntmps21
  go_wp2_with fail
  refine (unhide CW _).mono ?_
  rintro r w1 ⟨rfl, hk⟩
  go_wp2
  go_ret2
  exact ⟨rfl, kp_two hk⟩
set_option maxHeartbeats 1000000 in
theorem route_not (G S M : Nat) (n : Int) (b : ByteArray) (w : World) (hm : MayP G S M) (hn : ¬ (0 ≤ n ∧ n < (S : Int))) : Calls Try.prog 21 #[.agg #[.int .i64 (G : Int), .int .i64 (S : Int), .int .i64 (M : Int)], .int .i64 n, .string b] w fun e w' => e = .returned (.tuple #[.int .i64 0, .int .i64 70]) ∧ Kp [] w w' := by
  by_cases h : 0 ≤ n ∧ n < ((S + M + 1 : Nat) : Int)
  · obtain ⟨t, rfl⟩ : ∃ t : Nat, n = (t : Int) := ⟨n.toNat, by omega⟩
    have CW := hide (fun W => kind_ok G S M t W hm (by omega))
    have hk0 : ¬ ((kdT S M t : Int) = 0) := by unfold kdT; rw [if_neg (by omega)]; split <;> simp
    have hk1 : ((kdT S M t : Int) == 0) = false := by simpa using hk0
    generalize kdT S M t = K at *
    clear h hn hm
    go_enter Try.func21, Try.ntmps21
    go_wp2_with fail
    refine (unhide CW _).mono ?_
    rintro r w1 ⟨rfl, hk⟩
    have HK := hide (kp_two hk)
    clear hk CW
    go_wp2
    go_ret2
    exact ⟨rfl, unhide HK⟩
  · have CW := hide (fun W => kind_not G S M n W hm h)
    clear h hn hm
    go_enter Try.func21, Try.ntmps21
    go_wp2_with fail
    refine (unhide CW _).mono ?_
    rintro r w1 ⟨rfl, hk⟩
    go_wp2
    go_ret2
    exact ⟨rfl, kp_two hk⟩
/-- The matcher of a key. -/
def rtM (G M : Nat) (b : ByteArray) : Nat := own G M (hshL b.data.toList % G)
theorem rtM_lt (G S M : Nat) (b : ByteArray) (hm : MayP G S M) : rtM G M b < M := own_lt G M _ hm.gm.g1 hm.gm.t1 (Nat.mod_lt _ hm.gm.g1)
set_option maxHeartbeats 1000000 in
theorem route_ok (G S M n : Nat) (b : ByteArray) (w : World) (hb : b.size ≤ maxLen) (hm : MayP G S M) (hn : n < S) : Calls Try.prog 21 #[.agg #[.int .i64 (G : Int), .int .i64 (S : Int), .int .i64 (M : Int)], .int .i64 (n : Int), .string b] w fun e w' => e = .returned (.tuple #[.int .i64 ((n * M + rtM G M b : Nat) : Int), .int .i64 0]) ∧ Kp [] w w' := by
  have CW := hide (fun W => kind_ok G S M n W hm (by omega))
  have hk0 : kdT S M n = 0 := by unfold kdT; rw [if_pos hn]
  rw [hk0] at CW
  have OF := hide (fun W => of_ok b G W hb hm.gm.g1 hm.gm.g2)
  have OW := hide (fun W => owner_ok G M (hshL b.data.toList % G) W hm.gm (Nat.mod_lt _ hm.gm.g1))
  have hlt := rtM_lt G S M b hm
  have h1 := hm.s2
  have h2 := hm.gm.t3
  unfold rtM at *
  generalize own G M (hshL b.data.toList % G) = o at *
  generalize hshL b.data.toList % G = q at *
  have e1 : (n : Int) * (M : Int) = ((n * M : Nat) : Int) := by simp
  have b1 := mul_lt_small n M (by omega) (by omega)
  generalize n * M = x at *
  clear hm hk0
  go_enter Try.func21, Try.ntmps21
  go_wp2_with fail
  refine (unhide CW _).mono ?_
  rintro r w1 ⟨rfl, hk⟩
  obtain ⟨c0, c1, c2⟩ := (PBox.kp (CBox.new w _ _ : PBox w.heap.size 23 (G : Int) (S : Int) (M : Int) _) hk (by simp)).cells
  have HK := hide (kp_two hk)
  clear hk CW
  go_wp2_with fail
  refine (unhide OF _).mono ?_
  rintro r w2 ⟨rfl, rfl⟩
  clear OF
  go_wp2_with fail
  refine (unhide OW _).mono ?_
  rintro r w3 ⟨rfl, rfl⟩
  clear OW
  go_wp2
  go_ret2
  exact ⟨rem_pair (by omega), unhide HK⟩
end Go.Proofs.Ytlljilekompbeaa
