/-
  Open: a tape is opened, or it is told why not.
-/
import Derived.Test.YtllkkflolijpaaaDoorTpE
namespace Go.Proofs.YtllkkflolijpaaaDoor
open Go.RowKit

theorem open_any (p : Nat) (n : ByteArray) (d : Dk) (F : List Nat) (w : World) (hd : DiskAt w p d F) (hT : TabW w) (hs : n.size ≤ 9223372036854775807) :
    Calls Tryd.prog 21 #[.pointer (some ⟨p, 0, none⟩), .string n] w fun r w' =>
      (d.opE n = 0 ∧ ∃ t v, r = .returned (.pointer (some ⟨t, 0, none⟩)) ∧ Opened w F p (d.opD n) n t v (d.opL n) w') ∨ (d.opE n ≠ 0 ∧ r = .panicked (pan (d.opE n)) ∧ Did w F p (d.opD n) w') := by
  unfold Dk.opE Dk.opD
  cases hn : dnm n with
  | false =>
    rw [if_pos rfl, if_pos rfl]
    exact (open_bad p n d F w hd hn hs).mono fun r w' ⟨h1, h2⟩ => Or.inr ⟨by decide, h1, by rw [h2]; exact hd.did⟩
  | true =>
    simp only [reduceCtorEq, if_false]
    by_cases he : d.fEnd n < (hasF d.now n).length
    · rw [if_pos he, if_pos he]
      by_cases hc : d.fCode n = 11
      · rw [if_pos hc, if_pos hc]
        by_cases hz : d.ctE n (d.fEnd n : Int) = 0
        · exact (open_cut p n d F w hd hn hT he hc hz).mono fun r w' ⟨t, v, h1, h2⟩ => Or.inl ⟨hz, t, v, h1, h2⟩
        · exact (open_cutE p n d F w hd hn hT he hc hz).mono fun r w' ⟨h1, h2⟩ => Or.inr ⟨hz, h1, h2⟩
      · rw [if_neg hc, if_neg hc]
        exact (open_rot p n d F w hd hn hT he hc).mono fun r w' ⟨h1, h2⟩ => Or.inr ⟨by decide, h1, hd.did' h2⟩
    · rw [if_neg he, if_neg he]
      exact (open_whole p n d F w hd hn hT he).mono fun r w' ⟨t, v, h1, h2⟩ => Or.inl ⟨rfl, t, v, h1, h2⟩
set_option maxHeartbeats 1000000 in
set_option maxRecDepth 100000 in
theorem topen_nil (n : ByteArray) (w : World) :
    Calls Tryd.prog 8 #[.pointer none, .string n] w fun r w' => r = .returned (.tuple #[.pointer none, .int .i64 5]) ∧ Kp [] w w' := by
  have mf := hmf
  have BX := hide (CBox.new w #[.int .i64 0] 28)
  have KA := hide (Kp.alloc w (.cells #[.int .i64 0] 28))
  go_enter_defers Tryd.func8, Tryd.ntmps8
  go_wp2_with fail
  refine (open_nil n _).mono ?_
  rintro r w1 ⟨rfl, rfl⟩
  refine leaves_cons (f := 19) (args := #[.pointer (some ⟨w.heap.size, 0, none⟩)]) (by simp) (by simp [go_sem]) ?_
  refine (open_caught w.heap.size 0 5 _ (unhide BX)).mono ?_
  rintro e u' w'' ⟨rfl, rfl, hc⟩
  obtain ⟨c9, hk9⟩ := hc.out (unhide BX)
  have K1 := hide ((unhide KA).trans hk9 (fun x hx => by simp at hx; subst hx; exact Or.inr (Nat.le_refl _)))
  clear hk9 hc
  simp [Leaves, settle, results, Tryd.results8, go_sem, c9]
  exact unhide K1
set_option maxHeartbeats 1000000 in
set_option maxRecDepth 100000 in
theorem topen_any (p : Nat) (n : ByteArray) (d : Dk) (F : List Nat) (w : World) (hd : DiskAt w p d F) (hT : TabW w) (hs : n.size ≤ 9223372036854775807) :
    Calls Tryd.prog 8 #[.pointer (some ⟨p, 0, none⟩), .string n] w fun r w' =>
      (d.opE n = 0 ∧ ∃ t v, r = .returned (.tuple #[.pointer (some ⟨t, 0, none⟩), .int .i64 0]) ∧ Opened w F p (d.opD n) n t v (d.opL n) w') ∨ (d.opE n ≠ 0 ∧ r = .returned (.tuple #[.pointer none, .int .i64 (d.opE n)]) ∧ Did w F p (d.opD n) w') := by
  have mf := hmf
  have bx := CBox.new w #[.int .i64 0] 28
  have hka := Kp.alloc w (.cells #[.int .i64 0] 28)
  have hd0 := hd.kp hka (by simp)
  have OP := hide (open_any p n d F _ hd0 (hT.kp hka (by simp)) hs)
  have HN := hide (CBox.outD (p := p) (d := d) bx F hd0)
  have hz : (w.alloc (.cells #[.int .i64 0] 28)).heap.size = w.heap.size + 1 := by simp
  have BX := hide bx
  have KA := hide hka
  have HZ := hide hz
  clear hd hT bx hka hd0 hz
  generalize d.opD n = d2 at *
  generalize d.opL n = L2 at *
  generalize d.opE n = e2 at *
  go_enter_defers Tryd.func8, Tryd.ntmps8
  go_wp2_with fail
  refine (unhide OP).mono ?_
  rintro r w1 (⟨rfl, t, v, rfl, ho⟩ | ⟨he, rfl, hd1⟩)
  · obtain ⟨hd1, ht1, hs1, hv1⟩ := ho
    have hk1 : Kp F _ w1 := let ⟨_, _, a, _⟩ := hd1; a
    have b1 := (unhide BX).kp hk1 (unhide HN)
    have c0 : w1.cell? ⟨w.heap.size, 0, none⟩ = some (.int .i64 0) := b1.cell rfl
    have f0 := b1.froz 0
    have c9 : (w1.setCell ⟨w.heap.size, 0, none⟩ (.int .i64 0)).cell? ⟨w.heap.size, 0, none⟩ = some (.int .i64 0) := (b1.set 0 (.int .i64 0)).cell rfl
    have hD2 := (Did.pre (unhide KA) hd1).post (Kp.set w1 w.heap.size 0 (.int .i64 0)) (Nat.le_refl _) (CBox.outD b1)
    have HO : Hid (Opened w F p d2 n t v L2 (w1.setCell ⟨w.heap.size, 0, none⟩ (.int .i64 0))) := hide (by
      have hz := unhide HZ
      refine ⟨hD2, ht1.kp (Kp.set w1 w.heap.size 0 (.int .i64 0)) (by simp; omega) (fun k hk => by have := hv1 k hk; simp; omega), by omega, fun k hk => by have := hv1 k hk; omega⟩)
    clear hd1 ht1 hs1 hv1 hk1 b1 hD2
    go_wp2
    refine leaves_cons (f := 19) (args := #[.pointer (some ⟨w.heap.size, 0, none⟩)]) (by simp) (by simp [go_sem]) ?_
    refine (open_idle ⟨w.heap.size, 0, none⟩ _).mono ?_
    rintro e u' w'' ⟨rfl, rfl, rfl⟩
    simp [Leaves, settle, results, Tryd.results8, go_sem, c9]
    exact ⟨_, unhide HO⟩
  · have hk1 : Kp F _ w1 := let ⟨_, _, a, _⟩ := hd1; a
    have b1 := (unhide BX).kp hk1 (unhide HN)
    refine leaves_cons (f := 19) (args := #[.pointer (some ⟨w.heap.size, 0, none⟩)]) (by simp) (by simp [go_sem]) ?_
    refine (open_caught w.heap.size 0 e2 _ b1).mono ?_
    rintro e u' w'' ⟨rfl, rfl, hc⟩
    obtain ⟨c9, hk9⟩ := hc.out b1
    have HD2 := hide ((Did.pre (unhide KA) hd1).post hk9 (Nat.le_refl _) (CBox.outD b1))
    clear hk9 hc hd1 hk1 b1
    simp [Leaves, settle, results, Tryd.results8, go_sem, c9]
    exact ⟨he, unhide HD2⟩
end Go.Proofs.YtllkkflolijpaaaDoor
