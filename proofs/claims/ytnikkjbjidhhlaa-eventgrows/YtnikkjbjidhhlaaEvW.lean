/-
  Check of events, and the chapter's examples (works): they return what they should, and nothing that was there has changed.
-/
import Derived.Test.YtnikkjbjidhhlaaEvX
import Derived.Test.YtnikkjbjidhhlaaEvCk
namespace Go.Proofs.Ytnikkjbjidhhlaa
open Go.RowKit

theorem ints_new (w : World) (x : List Int) (X : Array Value) (t : TypeId) (hX : X = (x.map (Value.int .i64)).toArray) : IntsAt (w.alloc (.cells X t)) (some ⟨w.heap.size, 0, none⟩) x := fun _ => by
  refine ⟨w.heap.size, 0, rfl, by simp, fun i hi => ?_⟩
  have h := heap_alloc_new w (.cells X t)
  rw [Nat.zero_add]
  subst hX
  generalize w.alloc (.cells (x.map (Value.int .i64)).toArray t) = W at *
  simp [World.cell?, h, hi]
theorem below_new (w : World) (o : Obj) : Below w.heap.size w (w.alloc o) := (Below.refl _ _).alloc (Nat.le_refl _) o
theorem below_new3 (w : World) (o1 o2 o3 : Obj) : Below w.heap.size w (((w.alloc o1).alloc o2).alloc o3) := ((below_new w o1).alloc (by simp) o2).alloc (by simp; omega) o3
/-- Two stages, just laid. -/
theorem stages_new (w : World) (x y : List Int) (X Y : Array Value) (tI tS : TypeId) (nx ny : Nat) (hX : X = (x.map (Value.int .i64)).toArray) (hY : Y = (y.map (Value.int .i64)).toArray) (hx : nx = x.length) (hy : ny = y.length) :
    StagesAt (((w.alloc (.cells X tI)).alloc (.cells Y tI)).alloc (.cells #[.slice (some ⟨w.heap.size, 0, none⟩) nx nx, .slice (some ⟨w.heap.size + 1, 0, none⟩) ny ny] tS)) (some ⟨w.heap.size + 1 + 1, 0, none⟩) [x, y] := fun _ => by
  have h1 := (ints_new w x X tI hX).below (below_new _ (.cells Y tI)) (Nat.le_refl _)
  have h2 := ints_new (w.alloc (.cells X tI)) y Y tI hY
  have hs1 : (w.alloc (.cells X tI)).heap.size = w.heap.size + 1 := by simp
  have hs2 : ((w.alloc (.cells X tI)).alloc (.cells Y tI)).heap.size = w.heap.size + 1 + 1 := by simp
  rw [hs1] at h2
  generalize (w.alloc (.cells X tI)).alloc (.cells Y tI) = W at *
  have h1' := h1.below (below_new W (.cells #[.slice (some ⟨w.heap.size, 0, none⟩) nx nx, .slice (some ⟨w.heap.size + 1, 0, none⟩) ny ny] tS)) (Nat.le_refl _)
  have h2' := h2.below (below_new W (.cells #[.slice (some ⟨w.heap.size, 0, none⟩) nx nx, .slice (some ⟨w.heap.size + 1, 0, none⟩) ny ny] tS)) (Nat.le_refl _)
  refine ⟨w.heap.size + 1 + 1, 0, rfl, by simp; omega, fun i hi => ?_⟩
  rw [← hs2]
  match i, hi with
  | 0, _ => exact ⟨_, nx, by subst hx; simp, h1'⟩
  | 1, _ => exact ⟨_, ny, by subst hy; simp, h2'⟩
theorem mtOk_small (k : ByteArray) (ss : List (List Int)) (h : decide (k.size ≤ 100 ∧ ss.length ≤ 100) = true) (h2 : ss.all (fun p => decide (p.length ≤ 100)) = true) : MtOk k ss := by
  have := of_decide_eq_true h
  refine ⟨by omega, by omega, fun p hp => ?_⟩
  have := of_decide_eq_true (List.all_eq_true.1 h2 p hp)
  omega
set_option maxHeartbeats 4000000 in
theorem evWorks_any (w : World) : Calls Try.prog 9 #[] w fun e w' => e = .returned (.bool true) ∧ Below w.heap.size w w' := by
  go_enter Try.func9, Try.ntmps9
  go_wp2_with fail
  have hA := stages_new w [0] [1, 3] #[.int .i64 0] #[.int .i64 1, .int .i64 3] 3 34 1 2 rfl rfl rfl rfl
  have hs3 : (((w.alloc (.cells #[.int .i64 0] 3)).alloc (.cells #[.int .i64 1, .int .i64 3] 3)).alloc (.cells #[.slice (some ⟨w.heap.size, 0, none⟩) 1 1, .slice (some ⟨w.heap.size + 1, 0, none⟩) 2 2] 34)).heap.size = w.heap.size + 1 + 1 + 1 := by simp
  have hb3 : Below w.heap.size w (((w.alloc (.cells #[.int .i64 0] 3)).alloc (.cells #[.int .i64 1, .int .i64 3] 3)).alloc (.cells #[.slice (some ⟨w.heap.size, 0, none⟩) 1 1, .slice (some ⟨w.heap.size + 1, 0, none⟩) 2 2] 34)) := below_new3 _ _ _ _
  generalize (((w.alloc (.cells #[.int .i64 0] 3)).alloc (.cells #[.int .i64 1, .int .i64 3] 3)).alloc (.cells #[.slice (some ⟨w.heap.size, 0, none⟩) 1 1, .slice (some ⟨w.heap.size + 1, 0, none⟩) 2 2] 34)) = W3 at *
  have bA : MBox (w.heap.size + 1 + 1 + 1) ⟨#[107]⟩ (some ⟨w.heap.size + 1 + 1, 0, none⟩) 2 2 (W3.alloc (.cells #[.string ⟨#[107]⟩, .slice (some ⟨w.heap.size + 1 + 1, 0, none⟩) 2 2] 28)) := by
    have := heap_alloc_new W3 (.cells #[.string ⟨#[107]⟩, .slice (some ⟨w.heap.size + 1 + 1, 0, none⟩) 2 2] 28)
    rw [hs3] at this
    exact this
  have hA4 := hA.below (below_new W3 (.cells #[.string ⟨#[107]⟩, .slice (some ⟨w.heap.size + 1 + 1, 0, none⟩) 2 2] 28)) (Nat.le_refl _)
  have hb4 := hb3.alloc hb3.size (.cells #[.string ⟨#[107]⟩, .slice (some ⟨w.heap.size + 1 + 1, 0, none⟩) 2 2] 28)
  have hs4 : (W3.alloc (.cells #[.string ⟨#[107]⟩, .slice (some ⟨w.heap.size + 1 + 1, 0, none⟩) 2 2] 28)).heap.size = w.heap.size + 1 + 1 + 1 + 1 := by simp; omega
  generalize (W3.alloc (.cells #[.string ⟨#[107]⟩, .slice (some ⟨w.heap.size + 1 + 1, 0, none⟩) 2 2] 28)) = W4 at *
  clear hA hb3 hs3
  have hB := stages_new W4 [0] [2, 3] #[.int .i64 0] #[.int .i64 2, .int .i64 3] 3 34 1 2 rfl rfl rfl rfl
  rw [hs4] at hB
  have hb7 : Below W4.heap.size W4 (((W4.alloc (.cells #[.int .i64 0] 3)).alloc (.cells #[.int .i64 2, .int .i64 3] 3)).alloc (.cells #[.slice (some ⟨w.heap.size + 1 + 1 + 1 + 1, 0, none⟩) 1 1, .slice (some ⟨w.heap.size + 1 + 1 + 1 + 1 + 1, 0, none⟩) 2 2] 34)) := below_new3 _ _ _ _
  generalize (((W4.alloc (.cells #[.int .i64 0] 3)).alloc (.cells #[.int .i64 2, .int .i64 3] 3)).alloc (.cells #[.slice (some ⟨w.heap.size + 1 + 1 + 1 + 1, 0, none⟩) 1 1, .slice (some ⟨w.heap.size + 1 + 1 + 1 + 1 + 1, 0, none⟩) 2 2] 34)) = W7 at *
  have hA7 := hA4.below hb7 (Nat.le_refl _)
  have bA7 := bA.below hb7 bA.lt
  have hb7' := hb4.trans (hb7.mono hb4.size)
  have hA8 := hA7.below (below_new W7 (.cells #[.string ⟨#[107]⟩, .slice (some ⟨w.heap.size + 1 + 1 + 1 + 1 + 1 + 1, 0, none⟩) 2 2] 28)) (Nat.le_refl _)
  have hB8 := hB.below (below_new W7 (.cells #[.string ⟨#[107]⟩, .slice (some ⟨w.heap.size + 1 + 1 + 1 + 1 + 1 + 1, 0, none⟩) 2 2] 28)) (Nat.le_refl _)
  have bA8 := bA7.alloc (.cells #[.string ⟨#[107]⟩, .slice (some ⟨w.heap.size + 1 + 1 + 1 + 1 + 1 + 1, 0, none⟩) 2 2] 28)
  have hb8 := hb7'.alloc hb7'.size (.cells #[.string ⟨#[107]⟩, .slice (some ⟨w.heap.size + 1 + 1 + 1 + 1 + 1 + 1, 0, none⟩) 2 2] 28)
  generalize (W7.alloc (.cells #[.string ⟨#[107]⟩, .slice (some ⟨w.heap.size + 1 + 1 + 1 + 1 + 1 + 1, 0, none⟩) 2 2] 28)) = W8 at *
  clear hA4 bA hb4 hs4 hB hb7 hA7 bA7 hb7'
  have c1 := compare_any ⟨#[107]⟩ (some ⟨w.heap.size + 1 + 1, 0, none⟩) 2 [[0], [1, 3]] ⟨#[107]⟩ (some ⟨w.heap.size + 1 + 1 + 1 + 1 + 1 + 1, 0, none⟩) 2 [[0], [2, 3]] W8 (mtOk_small _ _ (by decide) (by decide)) (mtOk_small _ _ (by decide) (by decide)) hA8 hB8
  rw [show cmpV ⟨#[107]⟩ [[0], [1, 3]] ⟨#[107]⟩ [[0], [2, 3]] = -1 by decide +kernel, show cmpE ⟨#[107]⟩ [[0], [1, 3]] ⟨#[107]⟩ [[0], [2, 3]] = 0 by decide +kernel] at c1
  refine c1.mono ?_
  rintro e w9 ⟨rfl, hb9⟩
  have hA9 := hA8.below hb9 (Nat.le_refl _)
  have bA9 := bA8.below hb9 bA8.lt
  have hb9' := hb8.trans (hb9.mono hb8.size)
  clear c1 hA8 hB8 bA8 hb8 hb9
  have hC := stages_new w9 [0, 1] [3] #[.int .i64 0, .int .i64 1] #[.int .i64 3] 3 34 2 1 rfl rfl rfl rfl
  have hb12 := below_new3 w9 (.cells #[.int .i64 0, .int .i64 1] 3) (.cells #[.int .i64 3] 3) (.cells #[.slice (some ⟨w9.heap.size, 0, none⟩) 2 2, .slice (some ⟨w9.heap.size + 1, 0, none⟩) 1 1] 34)
  have bA12 := bA9.below hb12 bA9.lt
  have hA12 := hA9.below hb12 (Nat.le_refl _)
  have hb12' := hb9'.trans (hb12.mono hb9'.size)
  have fA := bA12.cells
  clear hA9 bA9 hb9' hb12
  go_wp2_with fail
  generalize (((w9.alloc (.cells #[.int .i64 0, .int .i64 1] 3)).alloc (.cells #[.int .i64 3] 3)).alloc (.cells #[.slice (some ⟨w9.heap.size, 0, none⟩) 2 2, .slice (some ⟨w9.heap.size + 1, 0, none⟩) 1 1] 34)) = W12 at *
  have c2 := compare_any ⟨#[107]⟩ (some ⟨w9.heap.size + 1 + 1, 0, none⟩) 2 [[0, 1], [3]] ⟨#[107]⟩ (some ⟨w.heap.size + 1 + 1, 0, none⟩) 2 [[0], [1, 3]] W12 (mtOk_small _ _ (by decide) (by decide)) (mtOk_small _ _ (by decide) (by decide)) hC hA12
  rw [show cmpV ⟨#[107]⟩ [[0, 1], [3]] ⟨#[107]⟩ [[0], [1, 3]] = 1 by decide +kernel, show cmpE ⟨#[107]⟩ [[0, 1], [3]] ⟨#[107]⟩ [[0], [1, 3]] = 0 by decide +kernel] at c2
  refine c2.mono ?_
  rintro e w13 ⟨rfl, hb13⟩
  have hb13' := hb12'.trans (hb13.mono hb12'.size)
  have hz := hb13'.size
  clear c2 hC hA12 fA bA12 hb12' hb13
  have k1 := fun w => check_any ⟨#[107]⟩ ⟨#[116]⟩ ⟨#[]⟩ 0 0 0 0 w (by decide) (by decide) (by decide)
  have k2 := fun w => check_any ⟨#[75]⟩ ⟨#[116]⟩ ⟨#[]⟩ 0 0 0 0 w (by decide) (by decide) (by decide)
  rw [show chkE ⟨#[107]⟩ ⟨#[116]⟩ ⟨#[]⟩ = 0 by decide +kernel] at k1
  rw [show chkE ⟨#[75]⟩ ⟨#[116]⟩ ⟨#[]⟩ = 20 by decide +kernel] at k2
  have K1 := hide k1
  have K2 := hide k2
  clear k1 k2
  go_wp2_with fail
  refine (unhide K1 _).mono ?_
  rintro e w14 ⟨rfl, rfl⟩
  go_wp2_with fail
  refine (unhide K2 _).mono ?_
  rintro e w15 ⟨rfl, rfl⟩
  go_wp2
  go_ret
  exact ⟨rfl, (hb13'.alloc hz _).alloc (by simp; omega) _⟩
end Go.Proofs.Ytnikkjbjidhhlaa
