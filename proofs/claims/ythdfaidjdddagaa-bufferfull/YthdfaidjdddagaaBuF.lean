/-
  A buffer's calls: Hold, Drop, Count.
-/
import Derived.Test.YthdfaidjdddagaaBuE
namespace Go.Proofs.Ythdfaidjdddagaa
open Go.RowKit

set_option maxHeartbeats 1000000 in
set_option maxRecDepth 100000 in
theorem buHold_not (b : Nat) (id : Int) (c : Nat → Ent) (m : Int) (w : World) (h : Bu b c m w) (hS : Sml c) (hn : hasE c id = false) : Calls Try.prog 12 #[.pointer (some ⟨b, 0, none⟩), .int .i64 id] w fun e w' => e = .returned (.int .i64 160) ∧ Kp [] w w' := by
  have HA := hide (has_any b id c m w h hS)
  rw [hn] at HA
  clear h hn
  go_enter Try.func12, Try.ntmps12
  go_wp2_with fail
  refine (unhide HA).mono ?_
  rintro r w1 ⟨rfl, HK1⟩
  have HK1 := hide HK1
  clear HA
  go_wp2_with fail
  go_ret
  exact ⟨rfl, unhide HK1⟩
set_option maxHeartbeats 1000000 in
set_option maxRecDepth 100000 in
theorem buHold_ok (b i : Nat) (hi : i < 4096) (c : Nat → Ent) (m : Int) (w : World) (h : Bu b c m w) (hS : Sml c) (hv : lvE (c i) = true) : Calls Try.prog 12 #[.pointer (some ⟨b, 0, none⟩), .int .i64 (i : Int)] w fun e w' => e = .returned (.int .i64 0) ∧ Bu b (hoE c i) m w' ∧ Kp [b] w w' := by
  have HA := hide (has_any b (i : Int) c m w h hS)
  rw [hasE_nat c i hi, hv] at HA
  have hii : (i : Int) < 4096 := by omega
  obtain ⟨g1, g2, g3, g4⟩ := hS i hi
  have HU := hide h
  clear h hv
  go_enter Try.func12, Try.ntmps12
  go_wp2_with fail
  refine (unhide HA).mono ?_
  rintro r w1 ⟨rfl, HK1⟩
  have HO := hide (hold_any b i hi c m w1 ((unhide HU).kp HK1 (by simp)) g1 (by omega))
  have HK1 := hide HK1
  clear HA g1 g2 g3 g4
  go_wp2_with fail
  refine (unhide HO).mono ?_
  rintro r w2 ⟨rfl, HB2, HK2⟩
  have HB2 := hide HB2
  have HK2 := hide HK2
  clear HO
  go_wp2_with fail
  go_ret
  exact ⟨rfl, unhide HB2, ((unhide HK1).mono (by simp)).trans (unhide HK2) (by simp)⟩
set_option maxHeartbeats 1000000 in
set_option maxRecDepth 100000 in
theorem buCount_not (b : Nat) (id : Int) (c : Nat → Ent) (m : Int) (w : World) (h : Bu b c m w) (hS : Sml c) (hn : hasE c id = false) : Calls Try.prog 18 #[.pointer (some ⟨b, 0, none⟩), .int .i64 id] w fun e w' => e = .returned (.tuple #[.int .i64 0, .int .i64 160]) ∧ Kp [] w w' := by
  have HA := hide (has_any b id c m w h hS)
  rw [hn] at HA
  clear h hn
  go_enter Try.func18, Try.ntmps18
  go_wp2_with fail
  refine (unhide HA).mono ?_
  rintro r w1 ⟨rfl, HK1⟩
  have HK1 := hide HK1
  clear HA
  go_wp2_with fail
  go_ret2
  exact ⟨rfl, unhide HK1⟩
set_option maxHeartbeats 1000000 in
set_option maxRecDepth 100000 in
theorem buCount_ok (b i : Nat) (hi : i < 4096) (c : Nat → Ent) (m : Int) (w : World) (h : Bu b c m w) (hS : Sml c) (hv : lvE (c i) = true) : Calls Try.prog 18 #[.pointer (some ⟨b, 0, none⟩), .int .i64 (i : Int)] w fun e w' => e = .returned (.tuple #[.int .i64 ((c i).h + (c i).k), .int .i64 0]) ∧ Kp [] w w' := by
  have HA := hide (has_any b (i : Int) c m w h hS)
  rw [hasE_nat c i hi, hv] at HA
  have hii : (i : Int) < 4096 := by omega
  obtain ⟨g1, g2, g3, g4⟩ := hS i hi
  have HU := hide h
  clear h hv
  go_enter Try.func18, Try.ntmps18
  go_wp2_with fail
  refine (unhide HA).mono ?_
  rintro r w1 ⟨rfl, HK1⟩
  have HO := hide (sum_any b i hi c m w1 ((unhide HU).kp HK1 (by simp)) (by omega) (by omega))
  have HK1 := hide HK1
  clear HA g1 g2 g3 g4
  go_wp2_with fail
  refine (unhide HO).mono ?_
  rintro r w2 ⟨rfl, HK2⟩
  have HK2 := hide HK2
  clear HO
  go_wp2_with fail
  go_ret2
  exact ⟨rfl, (unhide HK1).trans (unhide HK2) (by simp)⟩
set_option maxHeartbeats 1000000 in
set_option maxRecDepth 100000 in
theorem buDrop_not (b : Nat) (id : Int) (c : Nat → Ent) (m : Int) (w : World) (h : Bu b c m w) (hS : Sml c) (hn : hasE c id = false) : Calls Try.prog 14 #[.pointer (some ⟨b, 0, none⟩), .int .i64 id] w fun e w' => e = .returned (.tuple #[.int .i64 0, .int .i64 160]) ∧ Kp [] w w' := by
  have HA := hide (has_any b id c m w h hS)
  rw [hn] at HA
  clear h hn
  go_enter Try.func14, Try.ntmps14
  go_wp2_with fail
  refine (unhide HA).mono ?_
  rintro r w1 ⟨rfl, HK1⟩
  have HK1 := hide HK1
  clear HA
  go_wp2_with fail
  go_ret2
  exact ⟨rfl, unhide HK1⟩
set_option maxHeartbeats 1000000 in
set_option maxRecDepth 100000 in
theorem buDrop_held (b i : Nat) (hi : i < 4096) (c : Nat → Ent) (m : Int) (w : World) (h : Bu b c m w) (hS : Sml c) (hv : lvE (c i) = true) (hz : (c i).h = 0) : Calls Try.prog 14 #[.pointer (some ⟨b, 0, none⟩), .int .i64 (i : Int)] w fun e w' => e = .returned (.tuple #[.int .i64 0, .int .i64 1]) ∧ Kp [] w w' := by
  have HA := hide (has_any b (i : Int) c m w h hS)
  rw [hasE_nat c i hi, hv] at HA
  have hii : (i : Int) < 4096 := by omega
  have HU := hide h
  have HZ := hide hz
  clear h hv hz
  go_enter Try.func14, Try.ntmps14
  go_wp2_with fail
  refine (unhide HA).mono ?_
  rintro r w1 ⟨rfl, HK1⟩
  have HO := hide (letGo_not b i hi c m w1 ((unhide HU).kp HK1 (by simp)) (unhide HZ))
  have HK1 := hide HK1
  clear HA
  go_wp2_with fail
  refine (unhide HO).mono ?_
  rintro r w2 ⟨rfl, rfl⟩
  clear HO
  go_wp2_with fail
  go_ret2
  exact ⟨rfl, unhide HK1⟩
set_option maxHeartbeats 1000000 in
set_option maxRecDepth 100000 in
theorem buDrop_ok (b i : Nat) (hi : i < 4096) (c : Nat → Ent) (m : Nat) (B : Int) (w : World) (h : Bu b c (m : Int) w) (hI : BIv c (-1) m B) (hB0 : 0 ≤ B) (hB : B ≤ 2305843009213693952) (hz : 0 < (c i).h) : Calls Try.prog 14 #[.pointer (some ⟨b, 0, none⟩), .int .i64 (i : Int)] w fun e w' => ∃ (n : Nat) (d : Nat → Ent), e = .returned (.tuple #[.int .i64 (n : Int), .int .i64 0]) ∧ n ≤ m ∧ Hid (Swp (lgE c i) (i : Int) n d) ∧ Bu b d ((m - n : Nat) : Int) w' ∧ Hid (BIv d (-1) (m - n) B) ∧ Kp [b] w w' := by
  have hS := hI.sml hB
  obtain ⟨g1, g2, g3, g4⟩ := hS i hi
  have HA := hide (has_any b (i : Int) c m w h hS)
  rw [hasE_nat c i hi, (lvE_iff _).2 (by omega)] at HA
  have hii : (i : Int) < 4096 := by omega
  have HU := hide h
  have HZ := hide hz
  have HI := hide (hI.letGo hi hz)
  have HG := hide g2
  clear h hz hI g1 g2 g3 g4
  go_enter Try.func14, Try.ntmps14
  go_wp2_with fail
  refine (unhide HA).mono ?_
  rintro r w1 ⟨rfl, HK1⟩
  have HO := hide (letGo_ok b i hi c m w1 ((unhide HU).kp HK1 (by simp)) (unhide HZ) (by have := unhide HG; omega))
  have HK1 := hide HK1
  clear HA
  go_wp2_with fail
  refine (unhide HO).mono ?_
  rintro r w2 ⟨rfl, HB2, HK2⟩
  have SW := hide (sweep_any b i (lgE c i) m B w2 HB2 (unhide HI) hB0 hB)
  have HKB : Hid (Kp [b] w w2) := hide (((unhide HK1).mono (by simp)).trans HK2 (by simp))
  clear HO HB2 HK2 HK1
  go_wp2_with fail
  refine (unhide SW).mono ?_
  rintro r w3 ⟨n, d, rfl, hn, hs, HB3, HI3, HK3⟩
  have HB3 := hide HB3
  have HK3 := hide HK3
  clear SW
  go_wp2_with fail
  go_ret2
  exact ⟨n, d, rfl, hn, hs, unhide HB3, HI3, (unhide HKB).trans (unhide HK3) (by simp)⟩
end Go.Proofs.Ythdfaidjdddagaa
