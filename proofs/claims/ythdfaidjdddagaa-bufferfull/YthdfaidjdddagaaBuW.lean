/-
  A buffer: the chapter's example; a number from 0 on.
-/
import Derived.Test.YthdfaidjdddagaaBuI
import Derived.Test.YthdfaidjdddagaaAmo
namespace Go.Proofs.Ythdfaidjdddagaa
open Go.RowKit

theorem buAmong_any (x n : Int) (w : World) (hn : 0 < n) (hn1 : n ≤ 1099511627776) :
    Calls Try.prog 9 #[.int .i64 x, .int .i64 n] w fun e w' => e = .returned (.int .i64 (x % n)) ∧ w' = w := by
  have hne : (n == 0) = false := beq_eq_false_iff_ne.2 (by omega)
  have e1 := among_eq x n hn
  have b1 : -n < x.tmod n := Int.lt_tmod_of_pos x hn
  have b2 : x.tmod n < n := Int.tmod_lt_of_pos x hn
  go_enter Try.func9, Try.ntmps9
  go_wp2
  go_ret
  exact ⟨rfl, rfl⟩
/-- No entries at all. -/
def e0 : Nat → Ent := fun _ => zeE
theorem e0_lv (j : Nat) : lvE (e0 j) = false := rfl
def x1 : Nat → Ent := adE e0 0 0 5 (-1)
def x2 : Nat → Ent := adE x1 1 1 7 0
def x3 : Nat → Ent := hoE x2 1
def x4 : Nat → Ent := adE x3 2 1 8 0
theorem x1_at (j : Nat) : x1 j = if j = 0 then ⟨0, 5, -1, 1, 0⟩ else zeE := rfl
theorem x2_at (j : Nat) : x2 j = if j = 0 then ⟨0, 5, -1, 1, 1⟩ else if j = 1 then ⟨1, 7, 0, 1, 0⟩ else zeE := by
  unfold x2 adE kdE
  rw [if_neg (by decide)]
  unfold setE
  by_cases h : j = 0
  · subst h; rfl
  · simp [h, x1_at]
theorem x3_at (j : Nat) : x3 j = if j = 0 then ⟨0, 5, -1, 1, 1⟩ else if j = 1 then ⟨1, 7, 0, 2, 0⟩ else zeE := by
  unfold x3 hoE setE
  by_cases h : j = 1
  · subst h; rfl
  · simp [h, x2_at]
theorem x4_at (j : Nat) : x4 j = if j = 0 then ⟨0, 5, -1, 1, 2⟩ else if j = 1 then ⟨1, 7, 0, 2, 0⟩ else if j = 2 then ⟨1, 8, 0, 1, 0⟩ else zeE := by
  unfold x4 adE kdE
  rw [if_neg (by decide)]
  unfold setE
  by_cases h : j = 0
  · subst h; rfl
  · by_cases h2 : j = 2
    · subst h2; rfl
    · simp [h, h2, x3_at]
theorem wput1 : PutR e0 0 0 5 (-1) 0 0 x1 1 := PutR.more 0 (by decide) (Or.inl rfl) (fun j _ h => by rw [e0_lv] at h; cases h) (by decide) (by decide) rfl (fun j hj => by omega)
theorem wput2 : PutR x1 1 1 7 0 1 0 x2 2 := PutR.more 1 (by decide) (Or.inr ⟨0, rfl, by decide, rfl, by decide, by decide⟩) (fun j _ h => by
  rw [x1_at] at h ⊢
  by_cases e : j = 0
  · subst e; decide
  · rw [if_neg e] at h; cases h) (by decide) (by decide) rfl (fun j hj => by rcases (show j = 0 from Nat.lt_one_iff.1 hj) with rfl; rfl)
theorem wput3 : PutR x2 2 1 7 0 1 0 x3 2 := PutR.again 1 (by decide) (Or.inr ⟨0, rfl, by decide, rfl, by decide, by decide⟩) (by decide) rfl ⟨rfl, rfl, rfl⟩
theorem wput4 : PutR x3 2 1 8 0 2 0 x4 3 := PutR.more 2 (by decide) (Or.inr ⟨0, rfl, by decide, rfl, by decide, by decide⟩) (fun j _ h => by
  rw [x3_at] at h ⊢
  by_cases e : j = 0
  · subst e; decide
  · by_cases e2 : j = 1
    · subst e2; decide
    · rw [if_neg e, if_neg e2] at h; cases h) (by decide) (by decide) rfl (fun j hj => by
      rcases (show j = 0 ∨ j = 1 by omega) with rfl | rfl <;> rfl)
theorem way4 : IsWay x4 2 [(0, 5), (1, 8)] := IsWay.some 2 [(0, 5)] (by decide) rfl (IsWay.some 0 [] (by decide) rfl IsWay.none)
theorem biv0 : BIv e0 (-1) 0 0 := BIv.empty
theorem biv1 : BIv x1 (-1) 1 1 := wput1.iv biv0 (by decide)
theorem biv2 : BIv x2 (-1) 2 2 := wput2.iv biv1 (by decide)
theorem biv3 : BIv x3 (-1) 2 3 := wput3.iv biv2 (by decide)
theorem biv4 : BIv x4 (-1) 3 4 := wput4.iv biv3 (by decide)
/-- Put, where it is known what it tells. -/
theorem put_is (b : Nat) (s p q : Int) (c : Nat → Ent) (m : Nat) (B : Int) (w : World) (id er : Int) (d : Nat → Ent) (n : Nat) (h : Bu b c (m : Int) w) (hI : BIv c (-1) m B) (hB : B ≤ 2305843009213693952) (hR : PutR c m s p q id er d n) : Calls Try.prog 10 #[.pointer (some ⟨b, 0, none⟩), .int .i64 s, .int .i64 p, .int .i64 q] w fun e w' => e = .returned (.tuple #[.int .i64 id, .int .i64 er]) ∧ Bu b d (n : Int) w' ∧ Kp [b] w w' := by
  refine (put_any b s p q c m B w h hI hB).mono ?_
  rintro e w' ⟨id', er', d', n', rfl, hr, hb, hk⟩
  obtain ⟨rfl, rfl, rfl, rfl⟩ := PutR.one hR (unhide hr) hI
  exact ⟨rfl, hb, hk⟩
theorem lit4 (w : World) : PrAt (w.alloc (.cells #[.int .i64 0, .int .i64 5, .int .i64 1, .int .i64 8] 41)) (.slice (some ⟨w.heap.size, 0, none⟩) 2 2) [(0, 5), (1, 8)] := by
  have h := CBox.new w #[.int .i64 0, .int .i64 5, .int .i64 1, .int .i64 8] 41
  refine ⟨_, _, rfl, fun i hi => ⟨_, rfl, ?_⟩⟩
  match i, hi with
  | 0, _ => exact ⟨h.cell rfl, h.cell rfl⟩
  | 1, _ => exact ⟨h.cell rfl, h.cell rfl⟩
set_option maxHeartbeats 1000000 in
set_option maxRecDepth 100000 in
theorem bworks_any (w : World) : Calls Try.prog 23 #[] w fun e w' => e = .returned (.bool true) ∧ Kp [] w w' := by
  have NW := hide (buNew_any w)
  go_enter Try.func23, Try.ntmps23
  go_wp2_with fail
  refine (unhide NW).mono ?_
  rintro r w1 ⟨rfl, hb1, hk1⟩
  have P1 := hide (put_is w.heap.size 0 5 (-1) e0 0 0 w1 0 0 x1 1 hb1 biv0 (by decide) wput1)
  have HK1 := hide hk1
  clear NW hb1 hk1
  go_wp2_with fail
  refine (unhide P1).mono ?_
  rintro r w2 ⟨rfl, hb2, hk2⟩
  have P2 := hide (put_is w.heap.size 1 7 0 x1 1 1 w2 1 0 x2 2 hb2 biv1 (by decide) wput2)
  have HK2 : Hid (Kp [] w w2) := hide ((unhide HK1).trans hk2 (by simp))
  clear P1 hb2 hk2 HK1
  go_wp2_with fail
  refine (unhide P2).mono ?_
  rintro r w3 ⟨rfl, hb3, hk3⟩
  have P3 := hide (put_is w.heap.size 1 7 0 x2 2 2 w3 1 0 x3 2 hb3 biv2 (by decide) wput3)
  have HK3 : Hid (Kp [] w w3) := hide ((unhide HK2).trans hk3 (by simp))
  clear P2 hb3 hk3 HK2
  go_wp2_with fail
  refine (unhide P3).mono ?_
  rintro r w4 ⟨rfl, hb4, hk4⟩
  have P4 := hide (put_is w.heap.size 1 8 0 x3 2 3 w4 2 0 x4 3 hb4 biv3 (by decide) wput4)
  have HK4 : Hid (Kp [] w w4) := hide ((unhide HK3).trans hk4 (by simp))
  clear P3 hb4 hk4 HK3
  go_wp2_with fail
  refine (unhide P4).mono ?_
  rintro r w5 ⟨rfl, hb5, hk5⟩
  have P5 := hide (buCount_ok w.heap.size 0 (by decide) x4 3 w5 hb5 (biv4.sml (by decide)) rfl)
  rw [show (x4 0).h + (x4 0).k = 3 from rfl] at P5
  have HB5 := hide hb5
  have HK5 : Hid (Kp [] w w5) := hide ((unhide HK4).trans hk5 (by simp))
  clear P4 hb5 hk5 HK4
  go_wp2_with fail
  refine (unhide P5).mono ?_
  rintro r w6 ⟨rfl, hk6⟩
  have P6 := hide (buWay_ok w.heap.size 2 (by decide) x4 3 4 w6 ((unhide HB5).kp hk6 (by simp)) biv4 (by decide) rfl)
  have HK6 : Hid (Kp [] w w6) := hide ((unhide HK5).trans hk6 (by simp))
  clear P5 hk6 HK5 HB5
  go_wp2_with fail
  refine (unhide P6).mono ?_
  rintro r w7 ⟨l, v, rfl, hw, _, ho, hk7⟩
  obtain rfl := IsWay.one (unhide hw) way4
  have HK7 : Hid (Kp [] w w7) := hide ((unhide HK6).trans hk7 (by simp))
  have WS := hide (ways_any v _ [(0, 5), (1, 8)] [(0, 5), (1, 8)] (w7.alloc (.cells #[.int .i64 0, .int .i64 5, .int .i64 1, .int .i64 8] 41)) (ho.read.kp0 (Kp.alloc _ _)) (lit4 w7) (by decide) true (by simp))
  clear P6 hk7 HK6 ho hw
  go_wp2_with fail
  refine (unhide WS).mono ?_
  rintro r w8 ⟨rfl, hk8⟩
  have HK8 : Hid (Kp [] w w8) := hide (((unhide HK7).trans (Kp.alloc _ _) (by simp)).trans hk8 (by simp))
  clear WS hk8
  go_wp2_with fail
  go_ret
  exact ⟨rfl, unhide HK8⟩
end Go.Proofs.Ythdfaidjdddagaa
