/-
  A meter: all counts.
-/
import Derived.Test.YtmeoiljjfmlmgaaMeC
import Derived.Laws.Rows
namespace Go.Proofs.Ytmeoiljjfmlmgaa
open Go.RowKit

/-- The first k counts. -/
def fst (c : Nat → Int) (k : Nat) : Nat → Int := fun i => if i < k then c i else 0
theorem fst_next (c : Nat → Int) (k : Nat) : up (fst c k) k (c k) = fst c (k + 1) := by
  funext i
  unfold up fst
  by_cases h : i = k
  · subst h; simp
  · by_cases h2 : i < k
    · simp [h, h2, show i < k + 1 by omega]
    · simp [h, h2, show ¬ i < k + 1 by omega]
theorem fst_all (c : Nat → Int) : mC (fst c 8) = mC c := mC_ext fun k hk => by unfold fst; simp [hk]
theorem fst_none (c : Nat → Int) : fst c 0 = c0 := by funext i; unfold fst c0; simp
/-- A row of eight written over. -/
def set8 (g : Nat) (c : Nat → Int) (w : World) : World := (((((((w.setCell ⟨g, 0, none⟩ (.int .i64 (c 0))).setCell ⟨g, 1, none⟩ (.int .i64 (c 1))).setCell ⟨g, 2, none⟩ (.int .i64 (c 2))).setCell ⟨g, 3, none⟩ (.int .i64 (c 3))).setCell ⟨g, 4, none⟩ (.int .i64 (c 4))).setCell ⟨g, 5, none⟩ (.int .i64 (c 5))).setCell ⟨g, 6, none⟩ (.int .i64 (c 6))).setCell ⟨g, 7, none⟩ (.int .i64 (c 7))
theorem CBox.up {g t : Nat} {z : Nat → Int} {w : World} (h : CBox g (mC z) t w) (k : Nat) (hk : k < 8) (x : Int) : CBox g (mC (Go.Proofs.Ytmeoiljjfmlmgaa.up z k x)) t (w.setCell ⟨g, k, none⟩ (.int .i64 x)) := by
  rw [← mC_up z k x hk]
  exact CBox.set h k _
theorem CBox.set8 {g t : Nat} {z : Nat → Int} {w : World} (h : CBox g (mC z) t w) (c : Nat → Int) : CBox g (mC c) t (set8 g c w) := by
  have e : mC (Go.Proofs.Ytmeoiljjfmlmgaa.up (Go.Proofs.Ytmeoiljjfmlmgaa.up (Go.Proofs.Ytmeoiljjfmlmgaa.up (Go.Proofs.Ytmeoiljjfmlmgaa.up (Go.Proofs.Ytmeoiljjfmlmgaa.up (Go.Proofs.Ytmeoiljjfmlmgaa.up (Go.Proofs.Ytmeoiljjfmlmgaa.up (Go.Proofs.Ytmeoiljjfmlmgaa.up z 0 (c 0)) 1 (c 1)) 2 (c 2)) 3 (c 3)) 4 (c 4)) 5 (c 5)) 6 (c 6)) 7 (c 7)) = mC c := by
    unfold Go.Proofs.Ytmeoiljjfmlmgaa.up mC
    simp
  rw [← e]
  exact (((((((h.up 0 (by decide) _).up 1 (by decide) _).up 2 (by decide) _).up 3 (by decide) _).up 4 (by decide) _).up 5 (by decide) _).up 6 (by decide) _).up 7 (by decide) _
theorem Kp.st {a w : World} {g : Nat} (h : Kp [g] a w) (i : Nat) (v : Value) : Kp [g] a (w.setCell ⟨g, i, none⟩ v) := h.trans (Kp.set w g i v) (fun _ hx => Or.inl hx)
theorem Kp.set8 (w : World) (g : Nat) (c : Nat → Int) : Kp [g] w (set8 g c w) := by
  unfold Go.Proofs.Ytmeoiljjfmlmgaa.set8
  exact (((((((((Kp.refl [g] w).st 0 _).st 1 _).st 2 _).st 3 _).st 4 _).st 5 _).st 6 _).st 7 _)
set_option maxHeartbeats 1000000 in
set_option maxRecDepth 100000 in
theorem all_any (b : Nat) (c : Nat → Int) (w : World) (h : Mt 57 b c w) : Calls Try.prog 10 #[.pointer (some ⟨b, 0, none⟩)] w fun e w' => e = .returned (.agg (mC c)) ∧ Mt 57 b c w' ∧ Kp [] w w' := by
  have HM := hide h
  have hb := h.lt
  clear h
  have HST : Hid (CBox (w.heap.size + 1) (mC (fst c 0)) 26 ((w.alloc (.cells (mC c0) 26)).alloc (.cells (mC c0) 26)) ∧ CBox w.heap.size (mC c0) 26 ((w.alloc (.cells (mC c0) 26)).alloc (.cells (mC c0) 26)) ∧ Kp [] w ((w.alloc (.cells (mC c0) 26)).alloc (.cells (mC c0) 26))) :=
    hide ⟨by rw [fst_none]; exact heap_alloc2_new w _ _, heap_alloc2_old w _ _, (Kp.alloc _ _).trans (Kp.alloc _ _) (by simp)⟩
  go_enter Try.func10, Try.ntmps10
  go_wp2_with fail
  go_loopw [5] (fun i wr => ∃ k : Nat, k ≤ 8 ∧ i = .int .i64 (k : Int) ∧ Hid (CBox (w.heap.size + 1) (mC (fst c k)) 26 wr ∧ CBox w.heap.size (mC c0) 26 wr ∧ Kp [] w wr)) (fun i _ => 8 - (intOf i).toNat)
  case atStart => exact ⟨0, by decide, rfl, HST⟩
  case round =>
    clear HST
    obtain ⟨k, hk, rfl, HR⟩ := hrel
    by_cases hk8 : k < 8
    · have h1 : (k : Int) < 8 := by omega
      have CO := hide (meCount_any b k (c k) hk8 wr (((unhide HM).kp (unhide HR).2.2 (by simp)).cell k hk8))
      have fc := (unhide HR).1.cell (mC_at _ k hk8)
      have fz := (unhide HR).1.froz k
      have HN : Hid (CBox (w.heap.size + 1) (mC (fst c (k + 1))) 26 (wr.setCell ⟨w.heap.size + 1, k, none⟩ (.int .i64 (c k))) ∧ CBox w.heap.size (mC c0) 26 (wr.setCell ⟨w.heap.size + 1, k, none⟩ (.int .i64 (c k))) ∧ Kp [] w (wr.setCell ⟨w.heap.size + 1, k, none⟩ (.int .i64 (c k)))) := hide (by
        refine ⟨?_, (unhide HR).2.1.kp (Kp.set _ _ _ _) (by simp), (unhide HR).2.2.trans (Kp.set _ _ _ _) (by simp)⟩
        rw [← fst_next, ← mC_up _ _ _ hk8]
        exact (unhide HR).1.set k _)
      clear HM HR
      go_wp2_with fail
      refine (unhide CO).mono ?_
      rintro r w1 ⟨rfl, rfl⟩
      go_wp2
      go_roundw
      case rel => exact ⟨k + 1, by omega, by go_num, HN⟩
      case measure => simp [intOf]; omega
    · have hk9 : k = 8 := by omega
      subst hk9
      obtain ⟨hx, hz, hkp⟩ := unhide HR
      rw [fst_all] at hx
      have d0 := hx.cell (mC_at c 0 (by decide))
      have z0 := hz.cell (mC_at c0 0 (by decide))
      have f0 := hz.froz 0
      have d1 := hx.cell (mC_at c 1 (by decide))
      have z1 := hz.cell (mC_at c0 1 (by decide))
      have f1 := hz.froz 1
      have d2 := hx.cell (mC_at c 2 (by decide))
      have z2 := hz.cell (mC_at c0 2 (by decide))
      have f2 := hz.froz 2
      have d3 := hx.cell (mC_at c 3 (by decide))
      have z3 := hz.cell (mC_at c0 3 (by decide))
      have f3 := hz.froz 3
      have d4 := hx.cell (mC_at c 4 (by decide))
      have z4 := hz.cell (mC_at c0 4 (by decide))
      have f4 := hz.froz 4
      have d5 := hx.cell (mC_at c 5 (by decide))
      have z5 := hz.cell (mC_at c0 5 (by decide))
      have f5 := hz.froz 5
      have d6 := hx.cell (mC_at c 6 (by decide))
      have z6 := hz.cell (mC_at c0 6 (by decide))
      have f6 := hz.froz 6
      have d7 := hx.cell (mC_at c 7 (by decide))
      have z7 := hz.cell (mC_at c0 7 (by decide))
      have f7 := hz.froz 7
      have HX := hide hx
      have HZ := hide hz
      have HK := hide hkp
      clear HR hx hz hkp
      go_wp2
      have hw : (set8 w.heap.size c wr).heap[w.heap.size]? = some (.cells (mC c) 26 (0, 0)) := CBox.set8 (unhide HZ) c
      have hq : Kp [] w (set8 w.heap.size c wr) := (unhide HK).trans (Kp.set8 _ _ _) (by simp)
      refine bodyPost_ret (v := .agg (mC c)) ?_ rfl ⟨rfl, (unhide HM).kp hq (by simp), hq⟩
      exact results_cell_row (p := 2) (ty := 26) rfl _ _ w.heap.size 26 (mC c) (0, 0) _ rfl hw Try.underlying26 rfl rfl
end Go.Proofs.Ytmeoiljjfmlmgaa
