/-
  GroupOne: the walk where the numbers may be.
-/
import Derived.Test.YtmhicmollnolgaaGOne
namespace Go.Proofs.Ytmhicmollnolgaa
open Go.RowKit

theorem max_if (F s M : Nat) : (if (M : Int) < (F : Int) + (s : Int) - (F : Int) then (F : Int) + (s : Int) - (F : Int) else (M : Int)) = ((max M s : Nat) : Int) := by split <;> omega
set_option maxHeartbeats 4000000 in
set_option maxRecDepth 100000 in
theorem gone_ok (G T : Nat) (w : World) (hm : May G T) :
    Calls Try.prog 6 #[.int .i64 (G : Int), .int .i64 (T : Int)] w fun e w' => e = .returned (.bool true) ∧ Below w.heap.size w w' := by
  have WK := hide (grWorks_any w)
  have RG := hide (fun i W (hi : i < T) => range_ok G T i W hm hi)
  have OW := hide (fun q W (hq : q < G) => owner_ok G T q W hm hq)
  have OI := hide (fun i q => own_in G T i q hm)
  have h1 := hm.t1
  have h3 := hm.t3
  have h2 := hm.g2
  have FZ := hide (fst_zero G T)
  have FA := hide (fst_all G T h1)
  have FU := hide (fun i => fst_up G T i h1 hm.t2)
  have FL := hide (fun i (hi : i ≤ T) => fst_le G T i h1 hi)
  have FS := hide (fun i => fst_share G T i h1)
  clear hm
  go_enter Try.func6, Try.ntmps6
  go_wp2_with fail
  refine (unhide WK).mono ?_
  rintro r w1 ⟨rfl, hk⟩
  have HK := hide hk
  clear hk WK
  go_wp2
  go_loopw [5, 6, 7, 8] (fun l m n i wr => ∃ (k L M : Nat), k ≤ T ∧ i = .int .i64 (k : Int) ∧ n = .int .i64 ((fstG G T k : Nat) : Int) ∧ l = .int .i64 (L : Int) ∧ m = .int .i64 (M : Int) ∧ Hid (Shr (G / T) k L M) ∧ wr = w1) (fun _ _ _ i _ => T - (intOf i).toNat)
  case atStart => exact ⟨0, 0, 0, Nat.zero_le _, rfl, by rw [unhide FZ]; rfl, rfl, rfl, hide (Or.inl ⟨rfl, rfl, rfl⟩), rfl⟩
  case round =>
    obtain ⟨k, L, M, hk, rfl, rfl, rfl, rfl, HS, rfl⟩ := hrel
    by_cases hlt : k < T
    · have hli : (k : Int) < (T : Int) := by omega
      have hl16 : (k : Int) < 16 := by omega
      have RK := hide (unhide RG k wr hlt)
      have OK := hide (fun q W (hq : q < G) (a : fstG G T k ≤ q) (b : q < fstG G T (k + 1)) => by have := unhide OW q W hq; rw [unhide OI k q a b] at this; exact this)
      have hu := unhide FU k
      have hl := unhide FL (k + 1) (by omega)
      obtain ⟨s1, s2⟩ := unhide FS k
      clear RG OW OI FU FL FS FA FZ
      generalize hF : fstG G T (k + 1) = F' at *
      generalize fstG G T k = F at *
      have HF := hide hF
      clear hF
      have HN : Hid (Shr (G / T) (k + 1) (if k = 0 ∨ F' - F < L then F' - F else L) (max M (F' - F))) := hide ((unhide HS).next (by omega) (by omega))
      go_wp2_with fail
      refine (unhide RK).mono ?_
      rintro r w2 ⟨rfl, rfl⟩
      obtain ⟨s, rfl⟩ : ∃ s, F' = F + s := ⟨F' - F, by omega⟩
      rw [show F + s - F = s by omega] at HN
      have hsp : 1 ≤ s := by omega
      clear RK hu s1 s2 HS
      go_wp2
      go_loopw [12] (fun q wr' => ∃ j : Nat, F ≤ j ∧ j ≤ F + s ∧ q = .int .i64 (j : Int) ∧ wr' = w2) (fun q _ => F + s - (intOf q).toNat)
      case atStart => exact ⟨F, Nat.le_refl _, by omega, rfl, rfl⟩
      case round =>
        obtain ⟨j, hj1, hj2, rfl, rfl⟩ := hrel
        by_cases hjl : j < F + s
        · have hji : (j : Int) < ((F + s : Nat) : Int) := by omega
          have OJ := hide (unhide OK j wr (by omega) hj1 hjl)
          clear OK
          go_wp2_with fail
          refine (unhide OJ).mono ?_
          rintro r w3 ⟨rfl, rfl⟩
          go_wp2
          go_roundw
          case rel => exact ⟨j + 1, by omega, by omega, by go_num, trivial⟩
          case measure => simp [intOf]; omega
        · have hji : ¬ ((j : Int) < ((F + s : Nat) : Int)) := by omega
          clear OK
          by_cases hk0 : k = 0
          · subst hk0
            rw [if_pos (Or.inl rfl)] at HN
            go_wp2
            go_roundw
            case rel => exact ⟨0 + 1, _, _, by omega, by go_num, by rw [unhide HF]; simp, congrArg (Value.int .i64) (by omega), congrArg (Value.int .i64) (max_if F s M), HN, trivial⟩
            case measure => simp [intOf]; omega
          · have hk1 : ¬ ((k : Int) = 0) := by omega
            by_cases hsl : s < L
            · rw [if_pos (Or.inr hsl)] at HN
              have hs1 : ((F : Int) + (s : Int) - (F : Int)) < (L : Int) := by omega
              go_wp2
              go_roundw
              case rel => exact ⟨k + 1, _, _, by omega, by go_num, by rw [unhide HF]; simp, congrArg (Value.int .i64) (by omega), congrArg (Value.int .i64) (max_if F s M), HN, trivial⟩
              case measure => simp [intOf]; omega
            · rw [if_neg (by omega)] at HN
              have hs1 : ¬ (((F : Int) + (s : Int) - (F : Int)) < (L : Int)) := by omega
              go_wp2
              go_roundw
              case rel => exact ⟨k + 1, _, _, by omega, by go_num, by rw [unhide HF]; simp, rfl, congrArg (Value.int .i64) (max_if F s M), HN, trivial⟩
              case measure => simp [intOf]; omega
    · obtain rfl : k = T := by omega
      have hti : ¬ ((k : Int) < (k : Int)) := by omega
      rw [unhide FA]
      obtain ⟨hk0, _, _⟩ | ⟨_, m1, m2, m3⟩ := unhide HS
      · omega
      · have hd : ((M : Int) - (L : Int)) ≤ 1 := by omega
        clear RG OW OI FU FL FS FA FZ HS
        go_wp2
        go_ret
        exact ⟨rfl, (unhide HK).below (Nat.le_refl _) (by simp)⟩
theorem gone_walk (g t : Int) (w : World) :
    Calls Try.prog 6 #[.int .i64 g, .int .i64 t] w fun e w' => e = .returned (.bool true) ∧ Below w.heap.size w w' := by
  cases h : mayT g t with
  | false => exact gone_no g t w h
  | true =>
    obtain ⟨G, T, rfl, rfl, hm⟩ := may_nat h
    exact gone_ok G T w hm
end Go.Proofs.Ytmhicmollnolgaa
