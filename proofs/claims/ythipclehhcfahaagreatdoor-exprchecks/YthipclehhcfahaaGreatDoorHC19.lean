/-
  shapeOf: the kind and the depth of a part and its sides.
  A statement whose order is drawn, and whose last operation (a store) waits for all others: what is read ahead of it may be taken first, though the store changes what was read. Of no program.
  slices.Backward over parts: an iterator that tells them from the last on; statements whose order is drawn, within a round of a loop over an iterator.
-/
import Derived.Test.YthipclehhcfahaaGreatDoorHC18
import Derived.Laws.Rows
import Derived.WalkKit
import Derived.OrdersHeld
import Derived.RangeFuncNested
import Derived.RangeFuncBound
import Derived.RangeFuncCalls
import Derived.RangeFuncLeaves
import Derived.RangeFuncBox
import Derived.Shelf.Abstract
import Derived.Shelf.RegionOpen
import Derived.OwnWalkIn
import Derived.TacticsInMore
import Derived.LoopNIn
import Derived.LoopIn
namespace Go.Proofs.YthipclehhcfahaaGreatDoor
open Go.RowKit

def Sh.ok (a : Sh) : Prop := (0 ≤ a.kd ∧ a.kd ≤ 3) ∧ 0 ≤ a.dp ∧ a.dp ≤ 1000000
/-- The sides that count. -/
def takeS {α : Type} (n : Nat) (a b : α) : List α := if n = 0 then [] else if n = 1 then [a] else [a, b]
theorem ck_hit {p : Pt} {a b : Sh} (h : sds p.kd ≠ 0) (hb : sds p.kd = 1 → b = ⟨0, 0⟩) : shp p (takeS (sds p.kd) a b) = ⟨if bareP p then opK p.kd a.kd b.kd else 0, 1 + max a.dp b.dp⟩ := by
  have h2 := sds_le p.kd
  unfold takeS
  rcases (show sds p.kd = 1 ∨ sds p.kd = 2 by omega) with e | e
  · rw [e, hb e, if_neg (by omega), if_pos rfl]
    rfl
  · rw [e, if_neg (by omega), if_neg (by omega)]
    rfl
theorem max_ite (a b : Int) : (if a < b then b else a) = max a b := by split <;> omega
theorem info_shape : (Tryz.prog.info? 63).map (·.size) = some 2 := by kernel_rfl
theorem CBox.cells2 {g : Nat} {a b : Value} {t : TypeId} {w : World} (h : CBox g #[a, b] t w) : w.cell? ⟨g, 0, none⟩ = some a ∧ w.cell? ⟨g, 1, none⟩ = some b := ⟨h.cell rfl, h.cell rfl⟩
theorem sh_box {w w1 : World} {A B C : Obj} {a b : Value} {t : TypeId} (hb : Below ((((w.alloc A).alloc B).alloc C).alloc (.cells #[a, b] t)).heap.size ((((w.alloc A).alloc B).alloc C).alloc (.cells #[a, b] t)) w1) : CBox (w.heap.size + 3) #[a, b] t w1 := by
  have h := CBox.new (((w.alloc A).alloc B).alloc C) #[a, b] t
  rw [show (((w.alloc A).alloc B).alloc C).heap.size = w.heap.size + 3 by simp] at h
  unfold CBox
  rw [hb.block _ (by simp)]
  exact h
theorem sh_below {w w1 : World} {A B C D : Obj} (hb : Below ((((w.alloc A).alloc B).alloc C).alloc D).heap.size ((((w.alloc A).alloc B).alloc C).alloc D) w1) : Below w.heap.size w w1 :=
  (((((Below.refl _ _).alloc (Nat.le_refl _) _).alloc (by simp) _).alloc (by simp; omega) _).alloc (by simp; omega) _).trans (hb.mono (by simp; omega))
set_option maxHeartbeats 2000000 in
set_option maxRecDepth 100000 in
theorem shapeOf_leaf (p : Pt) (a b : Sh) (w : World) (hT : TbE w) (hf : p.fit) (h0 : sds p.kd = 0) : Calls Tryz.prog 26 #[p.v, .agg (rowC p.kd), .agg #[.int .i64 a.kd, .int .i64 a.dp, .int .i64 b.kd, .int .i64 b.dp]] w fun e w' => e = .returned (.agg #[.int .i64 (lfK p), .int .i64 1]) ∧ Below w.heap.size w w' := by
  have LK := hide (fun W hW => leafKind_any p W hW hf)
  unfold rowC
  rw [h0]
  have hone := fnO_one p.kd
  generalize fnO p.kd = F at *
  generalize txt (sgO p.kd) = S at *
  generalize ofO p.kd = O at *
  generalize isO p.kd = I at *
  generalize lfK p = K at *
  clear hf h0
  unfold Pt.v at *
  have HT := hide hT
  clear hT
  go_enter Tryz.func26, Tryz.ntmps26
  go_wp2_with fail
  refine (unhide LK _ ((((unhide HT).alloc _).alloc _).alloc _ |>.alloc _)).mono ?_
  rintro e w1 ⟨rfl, hb⟩
  have hbx := sh_box hb
  obtain ⟨c0, c1⟩ := hbx.cells2
  have z0 := hbx.froz 0
  have z1 := hbx.froz 1
  have HE : Hid (CBox (w.heap.size + 3) #[.int .i64 K, .int .i64 1] 63 ((w1.setCell ⟨w.heap.size + 3, 0, none⟩ (.int .i64 K)).setCell ⟨w.heap.size + 3, 1, none⟩ (.int .i64 1)) ∧ Below w.heap.size w ((w1.setCell ⟨w.heap.size + 3, 0, none⟩ (.int .i64 K)).setCell ⟨w.heap.size + 3, 1, none⟩ (.int .i64 1))) := hide ⟨(hbx.set 0 _).set 1 _, ((sh_below hb).setCell (p := ⟨w.heap.size + 3, 0, none⟩) (by show w.heap.size ≤ w.heap.size + 3; omega) _).setCell (p := ⟨w.heap.size + 3, 1, none⟩) (by show w.heap.size ≤ w.heap.size + 3; omega) _⟩
  clear hb hbx
  go_wp2
  obtain ⟨hx, hy⟩ := unhide HE
  exact bodyPost_ret (results_cell_row Tryz.results26 _ _ (w.heap.size + 3) 63 _ (0, 0) _ rfl hx Tryz.underlying63 rfl info_shape) rfl ⟨rfl, hy⟩
theorem sh_at (w : World) (A B C D X : Obj) : (((((w.alloc A).alloc B).alloc C).alloc X).alloc D).heap[w.heap.size + 1 + 1 + 1]? = some X := by
  rw [Below.heap_alloc _ _ _ (by simp)]
  have := heap_alloc_new (((w.alloc A).alloc B).alloc C) X
  rwa [show (((w.alloc A).alloc B).alloc C).heap.size = w.heap.size + 1 + 1 + 1 by simp] at this
theorem sh_all (w : World) (A B C D X : Obj) : Below w.heap.size w (((((w.alloc A).alloc B).alloc C).alloc X).alloc D) :=
  (((((Below.refl _ _).alloc (Nat.le_refl _) _).alloc (by simp) _).alloc (by simp; omega) _).alloc (by simp; omega) _).alloc (by simp; omega) _
theorem sh_left {w W : World} {A C : Obj} {o0 o1 o2 o3 o4 r0 r1 s0 s1 : Value} {t t' t'' : TypeId} (hk : Kp [] (((((w.alloc A).alloc (.cells #[o0, o1, o2, o3, o4] t)).alloc C).alloc (.cells #[r0, r1] t')).alloc (.cells #[s0, s1] t'')) W) :
    W.cell? ⟨w.heap.size + 1, 3, none⟩ = some o3 ∧ W.cell? ⟨w.heap.size + 1 + 1 + 1, 0, none⟩ = some r0 ∧ W.cell? ⟨w.heap.size + 1 + 1 + 1, 1, none⟩ = some r1 ∧ W.cell? ⟨w.heap.size + 1 + 1 + 1 + 1, 0, none⟩ = some s0 ∧ W.cell? ⟨w.heap.size + 1 + 1 + 1 + 1, 1, none⟩ = some s1 ∧ (∀ i, W.frozen? ⟨w.heap.size + 1 + 1 + 1, i, none⟩ = false) ∧ (∀ i, W.frozen? ⟨w.heap.size + 1 + 1 + 1 + 1, i, none⟩ = false) ∧ w.heap.size + 1 + 1 + 1 + 1 < W.heap.size ∧ Hid (CBox (w.heap.size + 1 + 1 + 1) #[r0, r1] t' W ∧ CBox (w.heap.size + 1 + 1 + 1 + 1) #[s0, s1] t'' W ∧ Below w.heap.size w W) := by
  have hb := hk.below (Nat.le_refl _) (by simp)
  have h1 : CBox (w.heap.size + 1) #[o0, o1, o2, o3, o4] t W := by
    unfold CBox
    rw [hb.block _ (by simp), Below.heap_alloc _ _ _ (by simp), Below.heap_alloc _ _ _ (by simp), Below.heap_alloc _ _ _ (by simp)]
    have := heap_alloc_new (w.alloc A) (.cells #[o0, o1, o2, o3, o4] t)
    rwa [show (w.alloc A).heap.size = w.heap.size + 1 by simp] at this
  have h2 : CBox (w.heap.size + 1 + 1 + 1) #[r0, r1] t' W := by
    unfold CBox
    rw [hb.block _ (by simp)]
    exact sh_at w A _ C _ _
  have h3 : CBox (w.heap.size + 1 + 1 + 1 + 1) #[s0, s1] t'' W := by
    unfold CBox
    rw [hb.block _ (by simp)]
    have := heap_alloc_new ((((w.alloc A).alloc (.cells #[o0, o1, o2, o3, o4] t)).alloc C).alloc (.cells #[r0, r1] t')) (.cells #[s0, s1] t'')
    rwa [show ((((w.alloc A).alloc (.cells #[o0, o1, o2, o3, o4] t)).alloc C).alloc (.cells #[r0, r1] t')).heap.size = w.heap.size + 1 + 1 + 1 + 1 by simp] at this
  refine ⟨h1.cell rfl, h2.cell rfl, h2.cell rfl, h3.cell rfl, h3.cell rfl, h2.froz, h3.froz, ?_, hide ⟨h2, h3, (sh_all w _ _ _ _ _).trans (hb.mono (by simp; omega))⟩⟩
  have := hk.size
  simp at this
  omega
theorem sh_end2 {w W : World} {r0 r1 s0 s1 : Value} {t t' : TypeId} (h : CBox (w.heap.size + 1 + 1 + 1) #[r0, r1] t W ∧ CBox (w.heap.size + 1 + 1 + 1 + 1) #[s0, s1] t' W ∧ Below w.heap.size w W) (x y : Int) :
    CBox (w.heap.size + 1 + 1 + 1) #[.int .i64 x, .int .i64 y] t ((W.setCell ⟨w.heap.size + 1 + 1 + 1, 0, none⟩ (.int .i64 x)).setCell ⟨w.heap.size + 1 + 1 + 1, 1, none⟩ (.int .i64 y)) ∧ Below w.heap.size w ((W.setCell ⟨w.heap.size + 1 + 1 + 1, 0, none⟩ (.int .i64 x)).setCell ⟨w.heap.size + 1 + 1 + 1, 1, none⟩ (.int .i64 y)) :=
  ⟨(h.1.set 0 _).set 1 _, (h.2.2.setCell (p := ⟨w.heap.size + 1 + 1 + 1, 0, none⟩) (by show w.heap.size ≤ w.heap.size + 1 + 1 + 1; omega) _).setCell (p := ⟨w.heap.size + 1 + 1 + 1, 1, none⟩) (by show w.heap.size ≤ w.heap.size + 1 + 1 + 1; omega) _⟩
theorem sh_end1 {w W : World} {r0 r1 s0 s1 : Value} {t t' : TypeId} (h : CBox (w.heap.size + 1 + 1 + 1) #[r0, r1] t W ∧ CBox (w.heap.size + 1 + 1 + 1 + 1) #[s0, s1] t' W ∧ Below w.heap.size w W) (z x y : Int) :
    CBox (w.heap.size + 1 + 1 + 1) #[.int .i64 x, .int .i64 y] t (((W.setCell ⟨w.heap.size + 1 + 1 + 1 + 1, 0, none⟩ (.int .i64 z)).setCell ⟨w.heap.size + 1 + 1 + 1, 0, none⟩ (.int .i64 x)).setCell ⟨w.heap.size + 1 + 1 + 1, 1, none⟩ (.int .i64 y)) ∧ Below w.heap.size w (((W.setCell ⟨w.heap.size + 1 + 1 + 1 + 1, 0, none⟩ (.int .i64 z)).setCell ⟨w.heap.size + 1 + 1 + 1, 0, none⟩ (.int .i64 x)).setCell ⟨w.heap.size + 1 + 1 + 1, 1, none⟩ (.int .i64 y)) :=
  sh_end2 (W := W.setCell ⟨w.heap.size + 1 + 1 + 1 + 1, 0, none⟩ (.int .i64 z)) ⟨h.1.kp (Kp.set _ _ _ _) (by simp), h.2.1.set 0 _, h.2.2.setCell (p := ⟨w.heap.size + 1 + 1 + 1 + 1, 0, none⟩) (by show w.heap.size ≤ w.heap.size + 1 + 1 + 1 + 1; omega) _⟩ x y
set_option maxHeartbeats 2000000 in
set_option maxRecDepth 100000 in
theorem shapeOf_op (p : Pt) (a b : Sh) (w : World) (h4 : 4 ≤ p.kd) (h13 : p.kd ≤ 13) (ha : a.ok) (hb : b.ok) (hz : p.kd = 13 → b = ⟨0, 0⟩) : Calls Tryz.prog 26 #[p.v, .agg (rowC p.kd), .agg #[.int .i64 a.kd, .int .i64 a.dp, .int .i64 b.kd, .int .i64 b.dp]] w fun e w' => e = .returned (.agg #[.int .i64 (if bareP p then opK p.kd a.kd b.kd else 0), .int .i64 (1 + max a.dp b.dp)]) ∧ Below w.heap.size w w' := by
  have FT := hide (fun W => fits_any (txt (sgO p.kd)) (fnO p.kd) p.kd a.kd b.kd W h4 h13 ha.1.1 ha.1.2 (fun e => by rw [hz e]))
  have q := fun W => eqP 9998 p (opP p.kd) W
  rw [eqPk] at q
  rw [opK_fit]
  have hone := fnO_one p.kd
  have hs0 : ((sds p.kd : Nat) : Int) ≠ 0 := by
    unfold sds
    split
    · omega
    · rw [if_pos (by omega)]; omega
  unfold rowC
  generalize fnO p.kd = F at *
  generalize txt (sgO p.kd) = S at *
  generalize ofO p.kd = O at *
  generalize isO p.kd = I at *
  generalize sds p.kd = N at *
  generalize fitB p.kd a.kd b.kd = fb at *
  generalize bareP p = bp at *
  obtain ⟨ak, ad⟩ := a
  obtain ⟨bk, bd⟩ := b
  obtain ⟨_, ha1, ha2⟩ := ha
  obtain ⟨_, hb1, hb2⟩ := hb
  clear hz h4 h13
  obtain ⟨kd, n, s, st, fl⟩ := p
  unfold Pt.v opP txt at *
  dsimp only at *
  have g0 : ((N : Int) == 0) = false := beq_eq_false_iff_ne.2 hs0
  clear hs0
  cases bp with
  | false =>
    go_enter Tryz.func26, Tryz.ntmps26
    go_wp2
    all_goals exact bodyPost_ret (results_cell_row Tryz.results26 _ _ (w.heap.size + 1 + 1 + 1) 63 _ (0, 0) _ rfl (sh_at w _ _ _ _ _) Tryz.underlying63 rfl info_shape) rfl ⟨rfl, sh_all w _ _ _ _ _⟩
  | true =>
    have HL := hide (fun W1 (hk : Kp [] (((((w.alloc (.cells #[.int .i64 kd, .int .i64 n, .string s, .string st, .int .i64 fl] 53)).alloc (.cells #[.string S, .int .i64 (N : Int), .int .u64 O, .int .i64 I, F] 96)).alloc (.cells #[.int .i64 ak, .int .i64 ad, .int .i64 bk, .int .i64 bd] 105)).alloc (.cells #[.int .i64 0, .int .i64 0] 63)).alloc (.cells #[.int .i64 0, .int .i64 (1 + max ad bd)] 63)) W1) => sh_left hk)
    go_enter Tryz.func26, Tryz.ntmps26
    go_wp2_with (go_at_call 44; refine (unhide FT _).mono ?_; rintro e w1 ⟨rfl, hk⟩; obtain ⟨i3, b0, b1, e0, e1, f0, f1, g0', HB⟩ := unhide HL w1 hk; clear hk HL FT)
    all_goals first
      | exact bodyPost_ret (results_cell_row Tryz.results26 _ _ (w.heap.size + 1 + 1 + 1) 63 _ (0, 0) _ rfl (sh_end1 (unhide HB) I I (1 + max ad bd)).1 Tryz.underlying63 rfl info_shape) rfl ⟨rfl, (sh_end1 (unhide HB) I I (1 + max ad bd)).2⟩
      | exact bodyPost_ret (results_cell_row Tryz.results26 _ _ (w.heap.size + 1 + 1 + 1) 63 _ (0, 0) _ rfl (sh_end2 (unhide HB) 0 (1 + max ad bd)).1 Tryz.underlying63 rfl info_shape) rfl ⟨rfl, (sh_end2 (unhide HB) 0 (1 + max ad bd)).2⟩
/-- The kind and the depth of a part and its sides. -/
theorem shapeOf_any (p : Pt) (a b : Sh) (w : World) (hT : TbE w) (hf : p.fit) (ha : a.ok) (hb : b.ok) (hz : sds p.kd = 1 → b = ⟨0, 0⟩) : Calls Tryz.prog 26 #[p.v, .agg (rowC p.kd), .agg #[.int .i64 a.kd, .int .i64 a.dp, .int .i64 b.kd, .int .i64 b.dp]] w fun e w' => e = .returned (.agg #[.int .i64 (shp p (takeS (sds p.kd) a b)).kd, .int .i64 (shp p (takeS (sds p.kd) a b)).dp]) ∧ Below w.heap.size w w' := by
  by_cases h0 : sds p.kd = 0
  · rw [h0]
    exact shapeOf_leaf p a b w hT hf h0
  · rw [ck_hit h0 hz]
    have hk : 4 ≤ p.kd ∧ p.kd ≤ 13 := by
      have := sds_le p.kd
      rcases (show sds p.kd = 1 ∨ sds p.kd = 2 by omega) with e | e
      · have := sds_one e; omega
      · have := sds_two e; omega
    exact shapeOf_op p a b w hk.1 hk.2 ha hb (fun e => hz (by rw [e]; rfl))
end Go.Proofs.YthipclehhcfahaaGreatDoor
namespace Go.Proofs.YthipclehhcfahaaGreatDoor
open Go.RowKit

section
variable {P : Program} {ops : Array Oper} {Q : Exit → Act → World → Prop} {md : Region.Mode} {S : World → Prop} {late : Nat}
/-- As wpAnyH; behind the late operation the condition is not asked for. -/
def wpAnyL (P : Program) (md : Region.Mode) (ops : Array Oper) (Q : Exit → Act → World → Prop) (S : World → Prop) (late : Nat) : Nat → Array Bool → Act → World → Prop
  | 0, listed, a, w => Region.ready md ops listed = [] ∧ Q .normal a w
  | fuel + 1, listed, a, w =>
    (Region.ready md ops listed = [] → Q .normal a w) ∧
    ∀ i ∈ Region.ready md ops listed, wpOp P ops Q i (fun a' w' => (i = late ∨ S w') ∧ wpAnyL P md ops Q S late fuel (listed.setIfInBounds i true) a' w') a w
theorem wpAny_of_late : ∀ (fuel : Nat) (listed : Array Bool) (a : Act) (w : World), wpAnyL P md ops Q S late fuel listed a w → wpAny P md ops Q fuel listed a w
  | 0, _, _, _, h => h
  | fuel + 1, _, _, _, h => ⟨h.1, fun i hi => wpOp_mono (fun a' w' h' => wpAny_of_late fuel _ a' w' h'.2) (h.2 i hi)⟩
/-- Does the late operation wait for number i? -/
def waits (md : Region.Mode) (ops : Array Oper) (late i : Nat) : Bool := match ops[late]? with
  | some o => o.after.any fun e => Region.binds md e && e.on == i
  | none => false
theorem waits_spec {i : Nat} {o : Oper} (ho : ops[late]? = some o) (h : waits md ops late i = true) : ∃ e ∈ o.after, Region.binds md e = true ∧ e.on = i := by
  unfold waits at h
  rw [ho] at h
  simp only [Array.any_eq_true] at h
  obtain ⟨j, hj, hb⟩ := h
  rw [Bool.and_eq_true, beq_iff_eq] at hb
  exact ⟨_, Array.getElem_mem hj, hb.1, hb.2⟩
theorem wpAnyL_first {i : Nat} {oi : Oper} {v : Value} (hi : ops[i]? = some oi) (hw : waits md ops late i = true) (hsel : ∀ (j : Nat) (o : Oper) cs b, ops[j]? = some o → o.op ≠ .select cs b)
    (hQ : ∀ c a w, Q (.panic c) (a.put oi.dst v) w → Q (.panic c) a w) :
    ∀ (fuel : Nat) (listed : Array Bool) (a : Act) (w : World),
      (∀ j oj, ops[j]? = some oj → j ≠ i → listed.getD j true = false → (∀ e ∈ oj.after, Region.binds md e = true → e.on ≠ i) → oi.apart ops oj = true) →
      i ∈ Region.ready md ops listed → YieldsIf P ops S oi v a → S w →
      wpAnyL P md ops Q S late fuel (listed.setIfInBounds i true) (a.put oi.dst v) w → wpAnyL P md ops Q S late (fuel + 1) listed a w := by
  intro fuel
  induction fuel with
  | zero =>
    intro listed a w _ hr hy hS H
    refine ⟨fun h => (by rw [h] at hr; cases hr), fun j hj => ?_⟩
    by_cases hji : j = i
    · subst hji; exact hy.wpOp hi hS ⟨Or.inr hS, H⟩
    · have := ready_mono hj hji
      rw [H.1] at this
      cases this
  | succ fuel ih =>
    intro listed a w hfree hr hy hS H
    refine ⟨fun h => (by rw [h] at hr; cases hr), fun j hj => ?_⟩
    by_cases hji : j = i
    · subst hji; exact hy.wpOp hi hS ⟨Or.inr hS, H⟩
    · have h1 := H.2 j (ready_mono hj hji)
      obtain ⟨hjun, oj, hoj, hall⟩ := mem_ready.1 hj
      have hnot : ∀ e ∈ oj.after, Region.binds md e = true → e.on ≠ i := fun e he hb heq => by
        have h1 := hall e he hb
        have h0 := (mem_ready.1 hr).1
        rw [heq] at h1
        rcases Nat.lt_or_ge i listed.size with h' | h'
        · simp [h'] at h0 h1; rw [h0] at h1; cases h1
        · simp [Array.getElem?_eq_none h'] at h1
      have hjl : j ≠ late := by
        rintro rfl
        obtain ⟨e, he, hb, hon⟩ := waits_spec hoj hw
        exact hnot e he hb hon
      have h1' : wpOp P ops Q j (fun a' w' => S w' ∧ wpAnyL P md ops Q S late fuel ((listed.setIfInBounds i true).setIfInBounds j true) a' w') (a.put oi.dst v) w := wpOp_mono (fun a' w' h => ⟨h.1.resolve_left hjl, h.2⟩) h1
      have h2 := wpOp_putIf hoj (hfree j oj hoj hji hjun hnot) (fun cs b => hsel i oi cs b hi) (fun cs b => hsel j oj cs b hoj) hQ hy h1'
      have hfree' : ∀ k ok, ops[k]? = some ok → k ≠ i → (listed.setIfInBounds j true).getD k true = false →
          (∀ e ∈ ok.after, Region.binds md e = true → e.on ≠ i) → oi.apart ops ok = true := fun k ok hk hki hun hno => by
        refine hfree k ok hk hki ?_ hno
        by_cases hjk : j = k
        · subst hjk; exact hjun
        · rw [getD_set_ne true hjk] at hun; exact hun
      refine wpOp_mono (fun a' w' h3 => ⟨Or.inr h3.2.1, ih (listed.setIfInBounds j true) a' w' hfree' (ready_mono hr (Ne.symm hji)) h3.1 h3.2.1 ?_⟩) h2
      rw [Array.setIfInBounds_comm _ _ hji]
      exact h3.2.2
/-- Take number i first. -/
theorem wpAnyL_take {i : Nat} {oi : Oper} {v : Value} {fuel : Nat} {listed : Array Bool} {a : Act} {w : World} (hi : ops[i]? = some oi)
    (hw : waits md ops late i = true) (hs : Region.noSelect ops = true) (hf : Region.free md ops listed i = true) (hr : (Region.ready md ops listed).contains i = true)
    (hQ : ∀ c a w, Q (.panic c) (a.put oi.dst v) w → Q (.panic c) a w) (hy : YieldsIf P ops S oi v a) (hS : S w)
    (h : wpAnyL P md ops Q S late fuel (listed.setIfInBounds i true) (a.put oi.dst v) w) : wpAnyL P md ops Q S late (fuel + 1) listed a w :=
  wpAnyL_first hi hw (Region.noSelect_spec hs) hQ fuel listed a w (Region.free_spec hi hf) (by simpa using hr) hy hS h
/-- Just one may come up. -/
theorem wpAnyL_one {i : Nat} {o : Oper} {fuel : Nat} {listed : Array Bool} {a : Act} {w : World} (ho : ops[i]? = some o) (hr : Region.ready md ops listed = [i])
    (h : ∀ K : Act → World → Prop, (∀ a' w', (i = late ∨ S w') → wpAnyL P md ops Q S late fuel (listed.setIfInBounds i true) a' w' → K a' w') → if Region.wanted o (yielded ops a.tmps) = true then Oper.wp P o a w K Q else K (a.put o.dst undef) w) : wpAnyL P md ops Q S late (fuel + 1) listed a w := by
  refine ⟨fun h0 => (by rw [hr] at h0; cases h0), fun j hj => ?_⟩
  rw [hr, List.mem_singleton] at hj
  subst hj
  have := h (fun a' w' => (j = late ∨ S w') ∧ wpAnyL P md ops Q S late fuel (listed.setIfInBounds j true) a' w') (fun a' w' h1 h2 => ⟨h1, h2⟩)
  unfold wpOp
  rw [ho]
  dsimp only
  split
  · rename_i hc
    rw [if_pos hc] at this
    exact Or.inl this
  · rename_i hc
    rw [if_neg hc] at this
    exact this
/-- One of two may come up. -/
theorem wpAnyL_two {i j : Nat} {o o' : Oper} {fuel : Nat} {listed : Array Bool} {a : Act} {w : World} (ho : ops[i]? = some o) (ho' : ops[j]? = some o') (hr : Region.ready md ops listed = [i, j])
    (h : ∀ K : Act → World → Prop, (∀ a' w', (i = late ∨ S w') → wpAnyL P md ops Q S late fuel (listed.setIfInBounds i true) a' w' → K a' w') → if Region.wanted o (yielded ops a.tmps) = true then Oper.wp P o a w K Q else K (a.put o.dst undef) w)
    (h' : ∀ K : Act → World → Prop, (∀ a' w', (j = late ∨ S w') → wpAnyL P md ops Q S late fuel (listed.setIfInBounds j true) a' w' → K a' w') → if Region.wanted o' (yielded ops a.tmps) = true then Oper.wp P o' a w K Q else K (a.put o'.dst undef) w) : wpAnyL P md ops Q S late (fuel + 1) listed a w := by
  have one : ∀ (n : Nat) (x : Oper), ops[n]? = some x → (∀ K : Act → World → Prop, (∀ a' w', (n = late ∨ S w') → wpAnyL P md ops Q S late fuel (listed.setIfInBounds n true) a' w' → K a' w') → if Region.wanted x (yielded ops a.tmps) = true then Oper.wp P x a w K Q else K (a.put x.dst undef) w) → wpOp P ops Q n (fun a' w' => (n = late ∨ S w') ∧ wpAnyL P md ops Q S late fuel (listed.setIfInBounds n true) a' w') a w := fun n x hx hh => by
    have := hh (fun a' w' => (n = late ∨ S w') ∧ wpAnyL P md ops Q S late fuel (listed.setIfInBounds n true) a' w') (fun a' w' h1 h2 => ⟨h1, h2⟩)
    unfold wpOp
    rw [hx]
    dsimp only
    split
    · rename_i hc
      rw [if_pos hc] at this
      exact Or.inl this
    · rename_i hc
      rw [if_neg hc] at this
      exact this
  refine ⟨fun h0 => (by rw [hr] at h0; cases h0), fun n hn => ?_⟩
  rw [hr] at hn
  rcases List.mem_cons.1 hn with rfl | hn
  · exact one _ _ ho h
  · rw [List.mem_singleton] at hn
    subst hn
    exact one _ _ ho' h'
theorem wpAnyL_done {listed : Array Bool} {a : Act} {w : World} (hr : Region.ready md ops listed = []) (h : Q .normal a w) : ∀ fuel, wpAnyL P md ops Q S late fuel listed a w
  | 0 => ⟨hr, h⟩
  | _ + 1 => ⟨fun _ => h, by rw [hr]; simp⟩
theorem wp_region_late (S : World → Prop) (late : Nat) {id : Nat} {a : Act} {w : World} (hm : P.follows .mixedOrders = true)
    (h : wpAnyL P .any ops Q S late ops.size (Array.replicate ops.size false) a w.drew) : (Code.region id ops true).wp P Q a w := wp_region_any hm (wpAny_of_late _ _ _ _ h)
end
end Go.Proofs.YthipclehhcfahaaGreatDoor
namespace Go.Proofs.YthipclehhcfahaaGreatDoor
open Go.RowKit Go.Shelf
attribute [local go_sem] Oper.semAt_some

section
variable {P : Program} {ops : Array Oper} {Q : Exit → Act → World → Prop} {md : Region.Mode} {l n : Nat}
theorem rowsIn_of {row : String} {args : Array Value} {w : World} {R : Value → World → Prop} (h : Rows P row args w R) : RowsIn (Fence.wide.inRound l) n P row args w R := fun c cs _ =>
  let ⟨v, w', r, s⟩ := h c cs
  ⟨v, w', r, stepsIn_wide.2 s⟩
theorem operIn_of {o : Oper} {a : Act} {w : World} {K : Act → World → Prop} (hd : ∀ c, o.op ≠ .defer c) (h : o.wp P a w K Q) : o.wpIn (Fence.wide.inRound l) n P a w K Q := by
  refine ⟨fun _ _ => trivial, ?_⟩
  show o.uponIn _ _ _ _ _ _ ((o.semAt (some l) a.eval).run P w)
  rw [Oper.semAt_some l a.eval o hd]
  unfold Oper.wp at h
  generalize (execOp a.eval o).run P w = r at *
  cases r with
  | ok x w' =>
    cases x <;> first | exact h | exact h.elim | exact ⟨(fun e => by cases e), CallsIn.inRound l (callsIn_wide.2 h)⟩ | exact ⟨(fun e => by cases e), rowsIn_of h⟩
  | halt x w' => cases x <;> first | exact h | exact h.elim
theorem opIn_of {i : Nat} {K : Act → World → Prop} {a : Act} {w : World} (hd : ∀ (j : Nat) (o : Oper) c, ops[j]? = some o → o.op ≠ .defer c) (hl : ¬ LetsOut Q) (h : wpOp P ops Q i K a w) : wpOpIn (Fence.wide.inRound l) n P ops Q i K a w := by
  unfold wpOp at h
  unfold wpOpIn
  cases ho : ops[i]? with
  | none => rw [ho] at h; exact h
  | some o =>
    rw [ho] at h
    dsimp only at h ⊢
    split
    · rename_i hw
      rw [if_pos hw] at h
      rcases h with h | h
      · exact operIn_of (hd i o · ho) h
      · exact absurd h.2 hl
    · rename_i hw
      rw [if_neg hw] at h
      exact ⟨fun _ _ => trivial, h⟩
theorem anyIn_of (hd : ∀ (j : Nat) (o : Oper) c, ops[j]? = some o → o.op ≠ .defer c) (hl : ¬ LetsOut Q) : ∀ (fuel : Nat) (listed : Array Bool) (a : Act) (w : World), wpAny P md ops Q fuel listed a w → wpAnyIn (Fence.wide.inRound l) n P md ops Q fuel listed a w
  | 0, _, _, _, h => h
  | fuel + 1, _, _, _, h => ⟨h.1, fun i hi => wpOpIn_mono (fun a' w' h' => anyIn_of hd hl fuel _ a' w' h') (opIn_of hd hl (h.2 i hi))⟩
def noDefer (ops : Array Oper) : Bool := ops.all fun o => match o.op with | .defer _ => false | _ => true
theorem noDefer_spec (h : noDefer ops = true) : ∀ (j : Nat) (o : Oper) c, ops[j]? = some o → o.op ≠ .defer c := fun j o c ho e => by
  unfold noDefer at h
  rw [Array.all_eq_true] at h
  obtain ⟨hj, rfl⟩ := Array.getElem?_eq_some_iff.1 ho
  have := h j hj
  rw [e] at this
  cases this
/-- A statement whose order is drawn and that ends in a store, within a round. -/
theorem wpIn_region_late (S : World → Prop) (late : Nat) {id : Nat} {a : Act} {w : World} (hm : P.follows .mixedOrders = true) (hd : noDefer ops = true) (hl : ¬ LetsOut Q)
    (h : wpAnyL P .any ops Q S late ops.size (Array.replicate ops.size false) a w.drew) : (Code.region id ops true).wpIn (Fence.wide.inRound l) n P Q a w :=
  wpIn_region_any hm (anyIn_of (noDefer_spec hd) hl _ _ _ _ (wpAny_of_late _ _ _ _ h))
end
end Go.Proofs.YthipclehhcfahaaGreatDoor
