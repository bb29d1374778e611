/-
  RouteKeys: the walk.
-/
import Derived.Test.YtlljilekompbeaaRtV
import Derived.Test.YtlljilekompbeaaRtW
import Derived.Deep.RegionHeld
import Derived.Deep.DeepCutAuto
namespace Go.Proofs.Ytlljilekompbeaa
open Go.RowKit

theorem two_a {w : World} (o : Obj) (cs : Array Value) (t : TypeId) : CBox w.heap.size cs t ((w.alloc (.cells cs t)).alloc o).drew := CBox.kp (CBox.kp (CBox.new w cs t) (Kp.alloc _ _) (by simp)) (Kp.drew _) (by simp)
theorem two_b {w : World} (o : Obj) (cs : Array Value) (t : TypeId) : CBox (w.heap.size + 1) cs t ((w.alloc o).alloc (.cells cs t)).drew := by
  have h := CBox.new (w.alloc o) cs t
  simp at h
  exact CBox.kp h (Kp.drew _) (by simp)
set_option maxHeartbeats 2000000 in
set_option maxRecDepth 100000 in
theorem rkey_walk (g s m : Int) (b : ByteArray) (n : Int) (w : World) (hb : b.size ≤ maxLen) :
    Calls Try.prog 4 #[.agg #[.int .i64 g, .int .i64 s, .int .i64 m], .string b, .int .i64 n] w fun e w' => e = .returned (.bool true) ∧ Below w.heap.size w w' := by
  obtain ⟨a1, e1, hr, hr'⟩ := route_both g s m n b hb
  obtain ⟨a2, c2, e2, hn, hn'⟩ := ends_both g s m n
  have RT := hide hr
  have RT' := hide hr'
  have EN := hide hn
  have EN' := hide hn'
  have WK := hide (fun W => rtWorks_any W)
  clear hr hr' hn hn'
  go_enter Try.func4, Try.ntmps4
  go_upto_region 1 with fail
  obtain ⟨x0, x1, x2⟩ := (show PBox w.heap.size 39 g s m (w.alloc (.cells #[.int .i64 g, .int .i64 s, .int .i64 m] 39)) from CBox.new w _ _).cells
  generalize hW : w.alloc (.cells #[.int .i64 g, .int .i64 s, .int .i64 m] 39) = w1 at *
  have HW : Hid (Kp [] w w1) := hide (by rw [← hW]; exact Kp.alloc _ _)
  have hq : w.heap.size < w1.heap.size := by rw [← hW]; simp
  clear hW
  have n0 : w1.heap.size ≠ w.heap.size := by omega
  have n1 : ¬ (w1.heap.size + 1 = w.heap.size) := by omega
  generalize hQ : w.heap.size = q at *
  have HQ := hide hQ
  clear hQ
  have cS : w1.drew.cell? ⟨q, 0, none⟩ = some (.int .i64 g) ∧ w1.drew.cell? ⟨q, 1, none⟩ = some (.int .i64 s) ∧ w1.drew.cell? ⟨q, 2, none⟩ = some (.int .i64 m) := ⟨x0, x1, x2⟩
  go_cut [7, 8] (fun a b wc => ∃ q1 q2 : Nat, a = .pointer (some ⟨q2, 0, none⟩) ∧ b = .pointer (some ⟨q1, 0, none⟩) ∧ Hid (TwP w q1 q2 24 g s m wc))
  case first =>
    go_region_held3 (fun W => W.cell? ⟨q, 0, none⟩ = some (.int .i64 g) ∧ W.cell? ⟨q, 1, none⟩ = some (.int .i64 s) ∧ W.cell? ⟨q, 2, none⟩ = some (.int .i64 m))
      (first | with_reducible exact cS | go_keep)
      (first | fail)
    · go_wp2
      go_meet
      exact ⟨_, _, rfl, rfl, hide ⟨kp_tr (unhide HW) (kp_tr (Kp.alloc _ _) (kp_tr (Kp.alloc _ _) (Kp.drew _))), two_b _ _ _, two_a _ _ _⟩⟩
    · go_wp2
      go_meet
      exact ⟨_, _, rfl, rfl, hide ⟨kp_tr (unhide HW) (kp_tr (Kp.alloc _ _) (kp_tr (Kp.alloc _ _) (Kp.drew _))), two_a _ _ _, two_b _ _ _⟩⟩
  case rest =>
    obtain ⟨q1, q2, rfl, rfl, HS⟩ := hcut
    clear cS x0 x1 x2 n0 n1 hq HW
    obtain ⟨p0, p1, p2⟩ := (unhide HS).p.cells
    go_wp2_with fail
    refine (unhide RT _).mono ?_
    rintro r w3 ⟨rfl, hk3⟩
    have HS3 := hide ((unhide HS).next hk3)
    clear p0 p1 p2 HS hk3 RT
    obtain ⟨x0, x1, x2⟩ := (unhide HS3).x.cells
    go_wp2_with fail
    refine (unhide RT' _).mono ?_
    rintro r w4 ⟨rfl, hk4⟩
    have HS4 := hide ((unhide HS3).next hk4)
    clear x0 x1 x2 HS3 hk4 RT'
    obtain ⟨p0, p1, p2⟩ := (unhide HS4).p.cells
    go_wp2_with fail
    refine (unhide EN _).mono ?_
    rintro r w5 ⟨rfl, hk5⟩
    have HS5 := hide ((unhide HS4).next hk5)
    clear p0 p1 p2 HS4 hk5 EN
    obtain ⟨x0, x1, x2⟩ := (unhide HS5).x.cells
    go_wp2_with fail
    refine (unhide EN' _).mono ?_
    rintro r w6 ⟨rfl, hk6⟩
    have HS6 := hide ((unhide HS5).next hk6)
    clear x0 x1 x2 HS5 hk6 EN'
    go_wp2_with fail
    refine (unhide WK _).mono ?_
    rintro r w7 ⟨rfl, hk7⟩
    have HS7 := hide ((unhide HS6).next hk7)
    clear HS6 hk7 WK
    go_wp2
    go_ret
    exact ⟨rfl, (unhide HS7).kp.below (Nat.le_refl _) (by simp)⟩
end Go.Proofs.Ytlljilekompbeaa
