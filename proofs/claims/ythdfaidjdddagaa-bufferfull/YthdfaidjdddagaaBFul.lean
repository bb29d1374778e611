/-
  BufferFull: its walk.
-/
import Derived.Test.YthdfaidjdddagaaBuW
namespace Go.Proofs.Ythdfaidjdddagaa
open Go.RowKit

/-- The first k are there, one place each. -/
def fl (s : Int) (k : Nat) : Nat → Ent := fun j => if j < k then ⟨s, (j : Int), -1, 1, 0⟩ else zeE
theorem fl_in (s : Int) (k j : Nat) (h : j < k) : fl s k j = ⟨s, (j : Int), -1, 1, 0⟩ := by unfold fl; rw [if_pos h]
theorem fl_out (s : Int) (k j : Nat) (h : ¬ j < k) : fl s k j = zeE := by unfold fl; rw [if_neg h]
theorem fl_next (s : Int) (k : Nat) : adE (fl s k) k s (k : Int) (-1) = fl s (k + 1) := by
  funext j
  unfold adE
  rw [if_pos rfl]
  by_cases e : j = k
  · subst e; rw [setE_same, fl_in _ _ _ (by omega)]
  · rw [setE_ne _ _ e]
    by_cases h : j < k
    · rw [fl_in _ _ _ h, fl_in _ _ _ (by omega)]
    · rw [fl_out _ _ _ h, fl_out _ _ _ (by omega)]
theorem fl_put (s : Int) (k : Nat) (hs : 0 ≤ s ∧ s < 8) (hk : k < 4096) : PutR (fl s k) k s (k : Int) (-1) (k : Int) 0 (fl s (k + 1)) (k + 1) := by
  rw [← fl_next]
  refine PutR.more k ⟨hs.1, hs.2, by omega, by omega⟩ (Or.inl rfl) (fun j _ h e => ?_) hk hk ?_ (fun j hj => ?_)
  · by_cases hj : j < k
    · rw [fl_in _ _ _ hj] at e
      have := e.2.1
      dsimp only at this
      omega
    · rw [fl_out _ _ _ hj] at h; cases h
  · rw [fl_out _ _ _ (by omega)]; rfl
  · rw [fl_in _ _ _ hj]; rfl
theorem fl_full (s : Int) (hs : 0 ≤ s ∧ s < 8) : PutR (fl s 4096) 4096 s 4096 (-1) 0 2 (fl s 4096) 4096 :=
  PutR.full ⟨hs.1, hs.2, by decide, by decide⟩ (Or.inl rfl) (fun j hj _ e => by
    rw [fl_in _ _ _ hj] at e
    have := e.2.1
    dsimp only at this
    omega) rfl
/-- One of them is held once more. -/
def f7 (s : Int) : Nat → Ent := hoE (fl s 4096) 7
theorem fl_seven (s : Int) (hs : 0 ≤ s ∧ s < 8) : PutR (fl s 4096) 4096 s 7 (-1) ((7 : Nat) : Int) 0 (f7 s) 4096 :=
  PutR.again 7 ⟨hs.1, hs.2, by decide, by decide⟩ (Or.inl rfl) (by decide) (by rw [fl_in _ _ _ (by decide)]; rfl) (by rw [fl_in _ _ _ (by decide)]; exact ⟨rfl, rfl, rfl⟩)
theorem f7_at (s : Int) (j : Nat) (h : j ≠ 7) : f7 s j = fl s 4096 j := by unfold f7 hoE; rw [setE_ne _ _ h]
theorem f7_seven (s : Int) : f7 s 7 = ⟨s, 7, -1, 2, 0⟩ := by unfold f7 hoE; rw [setE_same, fl_in _ _ _ (by decide)]; rfl
def f5 (s : Int) : Nat → Ent := rmE (lgE (f7 s) 5) 5
theorem f5_five (s : Int) : f7 s 5 = ⟨s, 5, -1, 1, 0⟩ := by rw [f7_at _ _ (by decide), fl_in _ _ _ (by decide)]; rfl
theorem lg_five (s : Int) : lgE (f7 s) 5 5 = ⟨s, 5, -1, 0, 0⟩ := by unfold lgE; rw [setE_same, f5_five]; rfl
theorem f5_swp (s : Int) : Swp (lgE (f7 s) 5) ((5 : Nat) : Int) 1 (f5 s) :=
  Swp.step _ _ 5 0 (by rw [lg_five]; rfl) (by rw [lg_five]; exact Swp.none _)
theorem f5_at (s : Int) (j : Nat) : f5 s j = if j = 5 then zeE else f7 s j := by
  unfold f5 rmE
  rw [lg_five, if_pos rfl]
  by_cases e : j = 5
  · subst e; rw [setE_same, if_pos rfl]
  · rw [setE_ne _ _ e, if_neg e]; unfold lgE; rw [setE_ne _ _ e]
theorem f5_put (s : Int) (hs : 0 ≤ s ∧ s < 8) : PutR (f5 s) 4095 s 4096 (-1) ((5 : Nat) : Int) 0 (adE (f5 s) 5 s 4096 (-1)) 4096 := by
  have key : ∀ j, j < 4096 → j ≠ 5 → f5 s j = ⟨s, (j : Int), -1, if j = 7 then 2 else 1, 0⟩ := fun j hj h5 => by
    rw [f5_at, if_neg h5]
    by_cases e : j = 7
    · subst e; exact f7_seven s
    · rw [f7_at _ _ e, fl_in _ _ _ hj, if_neg e]
  refine PutR.more 5 ⟨hs.1, hs.2, by decide, by decide⟩ (Or.inl rfl) (fun j hj h e => ?_) (by decide) (by decide) (by rw [f5_at, if_pos rfl]; rfl) (fun j hj => ?_)
  · by_cases h5 : j = 5
    · subst h5; rw [f5_at, if_pos rfl] at h; cases h
    · rw [key j hj h5] at e
      have := e.2.1
      dsimp only at this
      omega
  · rw [key j (by omega) (by omega), if_neg (by omega)]; rfl
set_option maxHeartbeats 2000000 in
set_option maxRecDepth 100000 in
theorem bfull_walk (stage : Int) (w : World) : Calls Try.prog 4 #[.int .i64 stage] w fun e w' => e = .returned (.bool true) ∧ Below w.heap.size w w' := by
  have NW := hide (buNew_any w)
  have HS : Hid (0 ≤ stage % 8 ∧ stage % 8 < 8) := hide ⟨Int.emod_nonneg _ (by decide), Int.emod_lt_of_pos _ (by decide)⟩
  go_enter Try.func4, Try.ntmps4
  go_wp2_with fail
  refine (unhide NW).mono ?_
  rintro r w1 ⟨rfl, hb1, hk1⟩
  have HB1 := hide hb1
  have HK1 := hide hk1
  have WK := hide (bworks_any w1)
  clear NW hb1 hk1
  go_wp2_with fail
  refine (unhide WK).mono ?_
  rintro r w2 ⟨rfl, hk2⟩
  have HB2 := hide ((unhide HB1).kp hk2 (by simp))
  have HK2 : Hid (Kp [] w w2) := hide ((unhide HK1).trans hk2 (by simp))
  have AM := hide (buAmong_any stage 8 w2 (by decide) (by decide))
  clear WK HB1 HK1 hk2
  go_wp2_with fail
  refine (unhide AM).mono ?_
  rintro r w3 ⟨rfl, rfl⟩
  clear AM
  generalize stage % 8 = s at *
  go_wp2_with fail
  go_loopw [4] (fun i wr => ∃ k : Nat, k ≤ 4096 ∧ i = .int .i64 (k : Int) ∧ Hid (Bu w.heap.size (fl s k) (k : Int) wr) ∧ Hid (BIv (fl s k) (-1) k (k : Int)) ∧ Hid (Kp [] w wr)) (fun i _ => 4096 - (intOf i).toNat)
  case atStart => exact ⟨0, by decide, rfl, hide (by rw [show fl s 0 = fun _ => zeE from funext fun j => fl_out s 0 j (by omega)]; exact unhide HB2), hide (by rw [show fl s 0 = fun _ => zeE from funext fun j => fl_out s 0 j (by omega)]; exact BIv.empty), HK2⟩
  case round =>
    clear HB2 HK2
    obtain ⟨k, hk, rfl, HB, HI, HK⟩ := hrel
    by_cases hlt : k < 4096
    · have hki : (k : Int) < 4096 := by omega
      have PT := hide (put_is w.heap.size s (k : Int) (-1) (fl s k) k (k : Int) wr (k : Int) 0 (fl s (k + 1)) (k + 1) (unhide HB) (unhide HI) (by omega) (fl_put s k (unhide HS) hlt))
      go_wp2_with fail
      refine (unhide PT).mono ?_
      rintro r w4 ⟨rfl, hb4, hk4⟩
      have HB4 := hide hb4
      have HK4 : Hid (Kp [] w w4) := hide ((unhide HK).trans hk4 (by simp))
      have HI4 : Hid (BIv (fl s (k + 1)) (-1) (k + 1) ((k : Int) + 1)) := hide ((fl_put s k (unhide HS) hlt).iv (unhide HI) (by omega))
      clear PT hb4 hk4 HB HK HI
      go_wp2_with fail
      go_roundw
      case rel => exact ⟨k + 1, by omega, by go_num, HB4, by rw [show ((k + 1 : Nat) : Int) = (k : Int) + 1 by omega]; exact HI4, HK4⟩
      case measure => simp [intOf]; omega
    · obtain rfl : k = 4096 := by omega
      have PT := hide (put_is w.heap.size s 4096 (-1) (fl s 4096) 4096 4096 wr 0 2 (fl s 4096) 4096 (unhide HB) (unhide HI) (by decide) (fl_full s (unhide HS)))
      go_wp2_with fail
      refine (unhide PT).mono ?_
      rintro r w4 ⟨rfl, hb4, hk4⟩
      have HB4 := hide hb4
      have HK4 : Hid (Kp [] w w4) := hide ((unhide HK).trans hk4 (by simp))
      have LN := hide (buLen_any w.heap.size _ _ w4 hb4)
      clear PT hb4 hk4 HB HK
      go_wp2_with fail
      refine (unhide LN).mono ?_
      rintro r w5 ⟨rfl, rfl⟩
      have PT := hide (put_is w.heap.size s 7 (-1) (fl s 4096) 4096 4096 w5 ((7 : Nat) : Int) 0 (f7 s) 4096 (unhide HB4) (unhide HI) (by decide) (fl_seven s (unhide HS)))
      clear LN
      go_wp2_with fail
      refine (unhide PT).mono ?_
      rintro r w6 ⟨rfl, hb6, hk6⟩
      have HI6 : Hid (BIv (f7 s) (-1) 4096 4097) := hide ((fl_seven s (unhide HS)).iv (unhide HI) (by decide))
      have HK6 : Hid (Kp [] w w6) := hide ((unhide HK4).trans hk6 (by simp))
      have DR := hide (buDrop_ok w.heap.size 5 (by decide) (f7 s) 4096 4097 w6 hb6 (unhide HI6) (by decide) (by decide) (by rw [f5_five]; exact Int.one_pos))
      clear PT hb6 hk6 HB4 HK4
      go_wp2_with fail
      refine (unhide DR).mono ?_
      rintro r w7 ⟨n, d, rfl, _, hsw, hb7, hi7, hk7⟩
      obtain ⟨rfl, rfl⟩ := Swp.one (unhide hsw) (f5_swp s)
      have PT := hide (put_is w.heap.size s 4096 (-1) (f5 s) 4095 4097 w7 ((5 : Nat) : Int) 0 _ 4096 hb7 (unhide hi7) (by decide) (f5_put s (unhide HS)))
      have HK7 : Hid (Kp [] w w7) := hide ((unhide HK6).trans hk7 (by simp))
      clear DR hb7 hk7 hsw hi7 HK6
      go_wp2_with fail
      refine (unhide PT).mono ?_
      rintro r w8 ⟨rfl, _, hk8⟩
      have HK8 : Hid (Kp [] w w8) := hide ((unhide HK7).trans hk8 (by simp))
      clear PT hk8 HK7
      go_wp2_with fail
      go_ret
      exact ⟨rfl, (unhide HK8).below (Nat.le_refl _) (by simp)⟩
end Go.Proofs.Ythdfaidjdddagaa
