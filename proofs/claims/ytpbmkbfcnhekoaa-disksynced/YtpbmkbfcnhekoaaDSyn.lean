/-
  DiskSynced: behind a sync a crash changes nothing: the law returns true, whatever the acts and whatever is drawn.
-/
import Derived.Test.YtpbmkbfcnhekoaaDkGr
namespace Go.Proofs.Ytpbmkbfcnhekoaa
open Go.RowKit

theorem crash_synced (fs : Fs) (left : Int) (down : Bool) (nw : Fs) (k t : Int) : (Dk.mk fs nw [] left down).crash k t = ⟨fs, fs, [], -1, false⟩ := by
  unfold Dk.crash Dk.left' Dk.kept
  simp
  rfl
theorem OwnD.alLen {w0 w : World} {p : Nat} {d : Dk} (h : OwnD w0 w p d) : (alL d.now).length ≤ 9223372036854775807 := by
  have h1 : (alL d.now).length = 2 * (nmL d.now).length := alL_len d.now (nmL d.now)
  rw [nmL_len] at h1
  have := h.inv.now.1.2
  omega
set_option maxHeartbeats 4000000 in
set_option maxRecDepth 100000 in
theorem synced_walk (ad : Option Addr) (cap : Nat) (l : List Ac) (xk xt : Int) (w : World) (hl : l.length ≤ 9223372036854775807) (hA : ActsAt w ad l) (hok : ∀ y ∈ l, y.ok) (hk1 : xk ≤ 9223372036854775807) (ht1 : xt ≤ 9223372036854775807) :
    Calls Try.prog 5 #[.slice ad l.length cap, .int .i64 xk, .int .i64 xt] w fun e w' => e = .returned (.bool true) ∧ Below w.heap.size w w' := by
  have HG : Hid (∀ W, Kp [] w W → Calls Try.prog 22 #[.slice ad l.length cap] W fun e w' => ∃ p d, e = .returned (.pointer (some ⟨p, 0, none⟩)) ∧ OwnD W w' p d ∧ Fine d) := hide (fun W hk => grown_any ad cap l W hl (hA.kp hk) hok)
  have WK := hide works_any
  clear hA hok
  go_enter Try.func5, Try.ntmps5
  go_wp2_with fail
  refine (unhide WK w).mono ?_
  rintro e w1 ⟨rfl, hk1'⟩
  go_wp2_with fail
  refine (unhide HG w1 hk1').mono ?_
  rintro e w2 ⟨p, d, rfl, o2, hfine⟩
  obtain ⟨f1, f2⟩ := fine_sync hfine
  have o3 := o2.sync
  rw [f1, f2] at o3
  have hlen := o2.alLen
  generalize d.now = fs at *
  clear f1 f2 hfine
  have OA := hide o3
  clear o3
  clear o2
  go_wp2_with fail
  refine (unhide OA).mono ?_
  rintro e w3 ⟨rfl, o3⟩
  go_wp2_with fail
  refine o3.all.mono ?_
  rintro e w4 ⟨v, rfl, o4, hk4⟩
  clear o3 hk4 OA
  go_wp2_with fail
  refine (o4.step fun F hd => crash_any xk xt p _ F w4 hd ht1).mono ?_
  rintro e w5 ⟨rfl, o5⟩
  rw [crash_synced] at o5
  clear o4
  go_wp2_with fail
  refine o5.own.all.mono ?_
  rintro e w6 ⟨v2, rfl, o6, hk6⟩
  have o5' := o5.kp hk6
  go_wp2_with fail
  refine (sameTx_any v2 v (alL fs) w6 o6.row o5'.row hlen).mono ?_
  rintro e w7 ⟨rfl, hk7⟩
  have o7 := o5'.kp hk7
  clear o5 o5' o6 hk6 hk7
  go_wp2_with fail
  refine (o7.step fun F hd => crash_any xt xk p _ F w7 hd hk1).mono ?_
  rintro e w8 ⟨rfl, o8⟩
  rw [crash_synced] at o8
  clear o7
  go_wp2_with fail
  refine o8.own.all.mono ?_
  rintro e w9 ⟨v3, rfl, o9, hk9⟩
  have o9' := o8.kp hk9
  go_wp2_with fail
  refine (sameTx_any v3 v (alL fs) w9 o9.row o9'.row hlen).mono ?_
  rintro e w10 ⟨rfl, hk10⟩
  have o10 := o9'.kp hk10
  clear o8 o9 o9' hk9 hk10
  go_wp2_with fail
  refine o10.own.waiting.mono ?_
  rintro e w11 ⟨rfl, rfl⟩
  have hfin : Below w.heap.size w w11 := (hk1'.trans o10.own.bel (by simp)).below (Nat.le_refl _) (by simp)
  clear o10
  go_wp2
  go_ret
  exact ⟨rfl, hfin⟩
end Go.Proofs.Ytpbmkbfcnhekoaa
