/-
  TripRoom: the walk.
-/
import Derived.Test.YtmcilconledabaaTrW
import Derived.Test.YtmcilconledabaaTrG
import Derived.Test.YtmcilconledabaaIAt
import Derived.Lib.MinMax
namespace Go.Proofs.Ytmcilconledabaa
open Go.RowKit

theorem rm_back (b : Nat) (R u n : Int) (w0 w : World) (h0 : 0 ≤ n) (h1 : n ≤ u) (h : GS b ⟨R, u, 0, 0⟩ w0 w) : Calls Try.prog 14 #[.pointer (some ⟨b, 0, none⟩), .int .i64 n] w fun e w' => e = .returned (.int .i64 0) ∧ GS b ⟨R, u - n, 0, 0⟩ w0 w' := by
  have e1 : baE ⟨R, u, 0, 0⟩ n = 0 := by unfold baE; rw [if_neg (by simp), if_neg (by omega), if_neg (by show ¬ u < n; omega)]
  have e2 : baS ⟨R, u, 0, 0⟩ n = ⟨R, u - n, 0, 0⟩ := by unfold baS; rw [if_pos e1]
  have := gs_back b ⟨R, u, 0, 0⟩ n w0 w h
  rw [e1, e2] at this
  exact this
theorem rm_use (b : Nat) (R u n pl : Int) (w0 w : World) (h0 : 0 ≤ n) (h1 : n ≤ R - u) (h : GS b ⟨R, u, 0, 0⟩ w0 w) : Calls Try.prog 12 #[.pointer (some ⟨b, 0, none⟩), .int .i64 n, .int .i64 pl] w fun e w' => e = .returned (.int .i64 0) ∧ GS b ⟨R, u + n, 0, 0⟩ w0 w' := by
  have e1 : usE ⟨R, u, 0, 0⟩ n = 0 := by unfold usE; rw [if_neg (by simp), if_neg (by omega), if_neg (by show ¬ R - u < n; omega)]
  have e2 : usS ⟨R, u, 0, 0⟩ n pl = ⟨R, u + n, 0, 0⟩ := by unfold usS; rw [e1, if_neg (by decide), if_pos rfl]
  have := gs_use b ⟨R, u, 0, 0⟩ n pl w0 w h
  rw [e1, e2] at this
  exact this
theorem rm_full (b : Nat) (R u n pl : Int) (w0 w : World) (h0 : 0 ≤ n) (h1 : R - u < n) (h : GS b ⟨R, u, 0, 0⟩ w0 w) : Calls Try.prog 12 #[.pointer (some ⟨b, 0, none⟩), .int .i64 n, .int .i64 pl] w fun e w' => e = .returned (.int .i64 32) ∧ GS b ⟨R, u, pl, 32⟩ w0 w' := by
  have e1 : usE ⟨R, u, 0, 0⟩ n = 32 := by unfold usE; rw [if_neg (by simp), if_neg (by omega), if_pos (by show R - u < n; omega)]
  have e2 : usS ⟨R, u, 0, 0⟩ n pl = ⟨R, u, pl, 32⟩ := by unfold usS; rw [e1, if_pos rfl]
  have := gs_use b ⟨R, u, 0, 0⟩ n pl w0 w h
  rw [e1, e2] at this
  exact this
theorem rm_up (b : Nat) (R u : Int) (w0 w : World) (h : GS b ⟨R, u, 0, 0⟩ w0 w) : Calls Try.prog 16 #[.pointer (some ⟨b, 0, none⟩)] w fun e w' => e = .returned (.tuple #[.agg #[.int .i64 0, .int .i64 0], .bool false]) ∧ GS b ⟨R, u, 0, 0⟩ w0 w' := gs_fallen b ⟨R, u, 0, 0⟩ w0 w h
theorem rm_down (b : Nat) (R u pl : Int) (w0 w : World) (h : GS b ⟨R, u, pl, 32⟩ w0 w) : Calls Try.prog 16 #[.pointer (some ⟨b, 0, none⟩)] w fun e w' => e = .returned (.tuple #[.agg #[.int .i64 pl, .int .i64 32], .bool true]) ∧ GS b ⟨R, u, pl, 32⟩ w0 w' := gs_fallen b ⟨R, u, pl, 32⟩ w0 w h
theorem rm_room (b : Nat) (R u pl c : Int) (w0 w : World) (h : GS b ⟨R, u, pl, c⟩ w0 w) : Calls Try.prog 17 #[.pointer (some ⟨b, 0, none⟩)] w fun e w' => e = .returned (.int .i64 (R - u)) ∧ GS b ⟨R, u, pl, c⟩ w0 w' := gs_room b ⟨R, u, pl, c⟩ w0 w h
theorem IntsAt.got {w : World} {ad : Option Addr} {l : List Int} (h : IntsAt w ad l) (i : Nat) (hi : i < l.length) : ∃ b off, ad = some ⟨b, off, none⟩ ∧ ∀ w', Kp [] w w' → w'.cell? ⟨b, off + i, none⟩ = some (.int .i64 l[i]) := by
  obtain ⟨b, off, e, _, hc⟩ := h (by intro e; subst e; simp at hi)
  exact ⟨b, off, e, fun w' hk => hk.cell (hc i hi) (by simp)⟩
set_option maxHeartbeats 4000000 in
set_option maxRecDepth 100000 in
theorem room_walk (room : Int) (ad : Option Addr) (cap : Nat) (l : List Int) (w : World) (_hl : l.length ≤ 9223372036854775807) (hA : IntsAt w ad l) (_hok : ∀ y ∈ l, -9223372036854775808 ≤ y ∧ y ≤ 9223372036854775807) :
    Calls Try.prog 5 #[.int .i64 room, .slice ad l.length cap] w fun e w' => e = .returned (.bool true) ∧ Below w.heap.size w w' := by
  have WK := hide (trWorks_any w)
  have AM := hide (fun W => trAmong_any room 1000 W (by decide) (by decide))
  have AN := hide (fun x W => trAmong_any x 200 W (by decide) (by decide))
  have a0 := Int.emod_nonneg room (by decide : (1000 : Int) ≠ 0)
  have a1 := Int.emod_lt_of_pos room (by decide : (0 : Int) < 1000)
  generalize room % 1000 = R at *
  have NW := hide (fun W => trNew_ok R W a0 (by omega))
  have HA := hide hA
  clear hA
  go_enter Try.func5, Try.ntmps5
  go_wp2_with fail
  refine (unhide WK).mono ?_
  rintro r w1 ⟨rfl, hk⟩
  have HK1 := hide hk
  clear hk WK
  go_wp2_with fail
  refine (unhide AM w1).mono ?_
  rintro r w2 ⟨rfl, rfl⟩
  clear AM
  go_wp2_with fail
  refine (unhide NW w2).mono ?_
  rintro r w3 ⟨rfl, hm, hk⟩
  have HS : Hid (GS w2.heap.size ⟨R, 0, 0, 0⟩ w w3) := hide ⟨hm, (unhide HK1).size, kp_tr (unhide HK1) hk⟩
  clear hm hk HK1 NW
  generalize w2.heap.size = b at *
  go_wp2_with fail
  go_loopw [7, 8] (fun y i wr => ∃ (j : Nat) (u : Int), j ≤ l.length ∧ i = .int .i64 (j : Int) ∧ y = .int .i64 u ∧ 0 ≤ u ∧ u ≤ R ∧ Hid (GS b ⟨R, u, 0, 0⟩ w wr)) (fun _ i _ => l.length - (intOf i).toNat)
  case atStart => exact ⟨0, 0, Nat.zero_le _, rfl, rfl, by decide, a0, HS⟩
  case round =>
    clear HS
    obtain ⟨j, u, hj, rfl, rfl, hu0, hu1, HC⟩ := hrel
    by_cases hlt : j < l.length ∧ j < 100
    · obtain ⟨hlt, h100⟩ := hlt
      have hli : (j : Int) < (l.length : Int) := by omega
      obtain ⟨ab, off, rfl, hx⟩ := (unhide HA).got j hlt
      have hx1 := hx wr (unhide HC).kp
      clear hx HA
      generalize l[j] = x at *
      have n0 := Int.emod_nonneg x (by decide : (200 : Int) ≠ 0)
      have n1 := Int.emod_lt_of_pos x (by decide : (0 : Int) < 200)
      have AX := hide (unhide AN x)
      clear AN
      generalize x % 200 = N at *
      have FD := hide (fun U W => rm_up b R U w W)
      have RO := hide (fun U pl c W => rm_room b R U pl c w W)
      go_wp2_with fail
      refine (unhide AX wr).mono ?_
      rintro r w4 ⟨rfl, rfl⟩
      clear AX hx1
      by_cases hm : (j : Int) % 3 = 2
      · obtain ⟨M, hM, m0, m1⟩ : ∃ M : Int, min N u = M ∧ 0 ≤ M ∧ M ≤ u := ⟨min N u, rfl, by omega, by omega⟩
        have BK := hide (rm_back b R u M w w4 m0 m1 (unhide HC))
        clear HC
        go_wp2_with fail
        refine (unhide BK).mono ?_
        rintro r w5 ⟨rfl, h5⟩
        have H5 := hide h5
        clear h5 BK
        go_wp2_with fail
        refine (unhide FD _ w5 (unhide H5)).mono ?_
        rintro r w6 ⟨rfl, h6⟩
        have H6 := hide (h6.next (Kp.alloc w6 (.cells #[.int .i64 0, .int .i64 0] 38)))
        clear h6 H5 FD
        go_wp2_with fail
        refine (unhide RO _ _ _ _ (unhide H6)).mono ?_
        rintro r w7 ⟨rfl, h7⟩
        have H7 := hide h7
        clear h7 H6 RO
        go_wp2
        go_roundw
        case rel => exact ⟨j + 1, u - M, by omega, by go_num, rfl, by omega, by omega, H7⟩
        case measure => simp [intOf]; omega
      · have hm2 : ((j : Int) % 3 == 2) = false := by simpa using hm
        by_cases hN : R - u < N
        · have US := hide (rm_full b R u N (j : Int) w w4 n0 hN (unhide HC))
          have FN := hide (fun W => rm_down b R u (j : Int) w W)
          clear HC FD
          go_wp2_with fail
          refine (unhide US).mono ?_
          rintro r w5 ⟨rfl, h5⟩
          have H5 := hide h5
          clear h5 US
          go_wp2_with fail
          refine (unhide FN w5 (unhide H5)).mono ?_
          rintro r w6 ⟨rfl, h6⟩
          have H6 := hide (h6.next (Kp.alloc w6 (.cells #[.int .i64 (j : Int), .int .i64 32] 38)))
          clear h6 H5 FN
          go_wp2_with fail
          refine (unhide RO _ _ _ _ (unhide H6)).mono ?_
          rintro r w7 ⟨rfl, h7⟩
          have H7 := hide h7.kp
          clear h7 H6 RO
          go_wp2
          go_ret
          exact ⟨rfl, (unhide H7).below (Nat.le_refl _) (by simp)⟩
        · have US := hide (rm_use b R u N (j : Int) w w4 n0 (by omega) (unhide HC))
          clear HC
          go_wp2_with fail
          refine (unhide US).mono ?_
          rintro r w5 ⟨rfl, h5⟩
          have H5 := hide h5
          clear h5 US
          go_wp2_with fail
          refine (unhide FD _ w5 (unhide H5)).mono ?_
          rintro r w6 ⟨rfl, h6⟩
          have H6 := hide (h6.next (Kp.alloc w6 (.cells #[.int .i64 0, .int .i64 0] 38)))
          clear h6 H5 FD
          go_wp2_with fail
          refine (unhide RO _ _ _ _ (unhide H6)).mono ?_
          rintro r w7 ⟨rfl, h7⟩
          have H7 := hide h7
          clear h7 H6 RO
          go_wp2
          go_roundw
          case rel => exact ⟨j + 1, u + N, by omega, by go_num, rfl, by omega, by omega, H7⟩
          case measure => simp [intOf]; omega
    · have HK := hide (unhide HC).kp
      clear HC HA AN
      by_cases hlt2 : j < l.length
      · have hli : (j : Int) < (l.length : Int) := by omega
        have h100 : (100 : Int) ≤ (j : Int) := by omega
        clear hlt
        go_wp2
        go_ret
        exact ⟨rfl, (unhide HK).below (Nat.le_refl _) (by simp)⟩
      · have hli : ¬ ((j : Int) < (l.length : Int)) := by omega
        clear hlt
        go_wp2
        go_ret
        exact ⟨rfl, (unhide HK).below (Nat.le_refl _) (by simp)⟩
end Go.Proofs.Ytmcilconledabaa
