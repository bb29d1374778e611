/-
  Rows of nodes of the call's own; such a row whose first ones were taken off; a set of nodes in a map.
-/
import Derived.Test.YtjijhefmbmdbeaaGreatDoorD23
import Derived.Test.YtjijhefmbmdbeaaGreatDoorD13
import Derived.Test.YtjijhefmbmdbeaaGreatDoorD15
import Derived.Laws.CopyRow
import Derived.Maps.OwnSet
import Derived.WideKeyRuns
namespace Go.Proofs.YtjijhefmbmdbeaaGreatDoor
open Go.RowKit Go.Shelf
open Go.ChangeMaps (setBlock)

def Nd.l (n : Nd) : List Value := [.int .i64 n.st, .bool n.lp, .bool n.tk]
theorem Nd.l_len (n : Nd) : n.l.length = 3 := rfl
theorem Nd.l_c (n : Nd) (j : Nat) : n.l[j]? = n.c[j]? := by unfold Nd.l Nd.c; simp
theorem ndL_len (l : List Nd) : (l.flatMap Nd.l).length = l.length * 3 := by
  induction l with
  | nil => rfl
  | cons a l ih => rw [List.flatMap_cons, List.length_append, ih, Nd.l_len, List.length_cons]; omega
theorem ndL_one (l : List Nd) : ∀ u ∈ l.flatMap Nd.l, u.oneCell' = true := by
  intro u hu
  obtain ⟨n, _, hn⟩ := List.mem_flatMap.1 hu
  unfold Nd.l at hn
  simp only [List.mem_cons, List.not_mem_nil, or_false] at hn
  rcases hn with rfl | rfl | rfl <;> rfl
theorem info_NdW : (Tryz.prog.info? 26).map (fun i => (i.zero, i.size, i.bytes)) = some (some (.agg #[.int .i64 0, .bool false, .bool false]), 3, 16) := by kernel_rfl
/-- A row of nodes of the call's own. -/
def OwnsD (B : Nat) (w : World) (v : Value) (l : List Nd) : Prop := w.ownsRow B 26 3 v l.length (l.flatMap Nd.l)
theorem OwnsD.nil (B : Nat) (w : World) : OwnsD B w (.slice none 0 0) [] := World.ownsRow_nil _ _ _ _
theorem OwnsD.kp {B : Nat} {w w' : World} {v : Value} {l : List Nd} (h : OwnsD B w v l) (hk : Kp [] w w') : OwnsD B w' v l := row_kp h hk (by simp)
theorem OwnsD.app {B : Nat} {w : World} {v : Value} {l : List Nd} (ho : OwnsD B w v l) (hB : B ≤ w.heap.size) (n : Nd) {g c : Nat} (hc : CBox g n.c 26 w) (hl : l.length + 1 ≤ 1000000) (ty : TypeId) :
    ∃ g' cap w', (Builtin.append_ #[41, 41] ty #[v, .slice (some ⟨g, 0, none⟩) 1 c]).run Tryz.prog w = .ok (.slice (some ⟨g', 0, none⟩) (l.length + 1) cap) w' ∧ OwnsD B w' (.slice (some ⟨g', 0, none⟩) (l.length + 1) cap) (l ++ [n]) ∧ Below B w w' ∧ w.grownBy w' v.ownBlock := by
  obtain ⟨i0, hi, hz0, hz1, hz2⟩ := info_parts info_NdW
  obtain ⟨g', cap, w', hrun, r1, r2, _⟩ := run_append_lies (P := Tryz.prog) (w := w) 41 ty B 26 i0 _ 3 16 Tryz.underlying41 hi hz0 hz1 hz2 rfl (by decide) v l.length (l.flatMap Nd.l) ho ⟨g, 0, none⟩ 1 c n.l rfl (fun j u hj => by
    rw [Go.WideShapes.add_plain, Nat.zero_add]
    exact hc.cell (by rw [← Nd.l_c]; exact hj)) (fun u hu => ndL_one [n] u (by simpa using hu)) (by omega) (by unfold maxLen; omega) (by omega) hB _ rfl
  refine ⟨g', cap, w', hrun, ?_, (Kp.of r2).below hB (fun k hk => ?_), r2⟩
  · unfold OwnsD
    rw [List.length_append, List.flatMap_append]
    simpa using r1
  · have : v.ownBlock = some k := by simpa using hk
    exact (World.ownsRow.lt ho k this).1
theorem OwnsD.at {B : Nat} {w : World} {v : Value} {l : List Nd} (h : OwnsD B w v l) : (v = .slice none 0 0 ∧ l = []) ∨ ∃ g cap, v = .slice (some ⟨g, 0, none⟩) l.length cap ∧ B ≤ g ∧ g < w.heap.size ∧ l.length ≤ cap ∧ ∀ j u, (l.flatMap Nd.l)[j]? = some u → w.cell? ⟨g, j, none⟩ = some u := by
  obtain ⟨_, ⟨rfl, h0⟩ | ⟨g, cap, cur, rfl, hB, _, hcap, _⟩⟩ := id h
  · exact Or.inl ⟨rfl, List.eq_nil_of_length_eq_zero h0⟩
  · refine Or.inr ⟨g, cap, rfl, hB, (World.ownsRow.lt h g rfl).2, hcap, fun j u hu => ?_⟩
    have hj : j < l.length * 3 := by rw [← ndL_len]; exact (List.getElem?_eq_some_iff.1 hu).1
    rw [World.ownsRow.cellAt h j hj]
    exact hu
/-- A row of nodes of the call's own, the first ones taken off. -/
def QuD (B : Nat) (w : World) (v : Value) (l : List Nd) : Prop :=
  (v = .slice none 0 0 ∧ l = []) ∨ ∃ g off cap cur, v = .slice (some ⟨g, off, none⟩) l.length cap ∧ B ≤ g ∧ w.heap[g]? = some (.cells cur 26 (0, 0)) ∧ l.length ≤ cap ∧ off + cap * 3 ≤ cur.size ∧ (cur.toList.drop off).take (l.length * 3) = l.flatMap Nd.l
theorem QuD.of {B : Nat} {w : World} {v : Value} {l : List Nd} (h : OwnsD B w v l) : QuD B w v l := by
  obtain ⟨_, ⟨rfl, h0⟩ | ⟨g, cap, cur, rfl, h1, h2, h3, h4, h5, h6⟩⟩ := h
  · exact Or.inl ⟨rfl, List.eq_nil_of_length_eq_zero h0⟩
  · exact Or.inr ⟨g, 0, cap, cur, rfl, h1, h2, h3, by omega, h6⟩
theorem QuD.kp {B : Nat} {w w' : World} {v : Value} {l : List Nd} {F : List Nat} (h : QuD B w v l) (hk : Kp F w w') (hF : ∀ g, v.ownBlock = some g → g ∉ F) : QuD B w' v l := by
  rcases h with h | ⟨g, off, cap, cur, rfl, h1, h2, h3⟩
  · exact Or.inl h
  · exact Or.inr ⟨g, off, cap, cur, rfl, h1, CBox.kp (show CBox g cur 26 w from h2) hk (hF g rfl), h3⟩
theorem QuD.ne {B : Nat} {w : World} {v : Value} {l : List Nd} (h : QuD B w v l) {q : Nat} {o : Obj} (hq : w.heap[q]? = some o) (ho : ∀ cur, o ≠ .cells cur 26 (0, 0)) : v.ownBlock ≠ some q := by
  rcases h with ⟨rfl, _⟩ | ⟨g, off, cap, cur, rfl, h1, h2, h3⟩
  · simp [Value.ownBlock]
  · simp only [Value.ownBlock, ne_eq, Option.some.injEq]
    rintro rfl
    rw [h2] at hq
    exact ho cur (by injection hq with e; exact e.symm)
theorem QuD.low {B : Nat} {w : World} {v : Value} {l : List Nd} (h : QuD B w v l) : ∀ g ∈ v.ownBlock.toList, B ≤ g := by
  rcases h with ⟨rfl, _⟩ | ⟨g, off, cap, cur, rfl, h1, h2, h3⟩
  · simp [Value.ownBlock]
  · intro g' hg
    simp [Value.ownBlock] at hg
    omega
/-- The first node, and the row without it. -/
theorem QuD.head {B : Nat} {w : World} {v : Value} {n : Nd} {l : List Nd} (h : QuD B w v (n :: l)) : ∃ g off cap, v = .slice (some ⟨g, off, none⟩) (l.length + 1) cap ∧ l.length + 1 ≤ cap ∧ g < w.heap.size ∧ w.cell? ⟨g, off, none⟩ = some (.int .i64 n.st) ∧ w.cell? ⟨g, off + 1, none⟩ = some (.bool n.lp) ∧ w.cell? ⟨g, off + 2, none⟩ = some (.bool n.tk) ∧
    (cap = 1 → QuD B w (.slice (some ⟨g, off, none⟩) l.length 0) l) ∧ (cap ≠ 1 → QuD B w (.slice (some ⟨g, off + 3, none⟩) l.length (cap - 1)) l) := by
  rcases h with ⟨_, e⟩ | ⟨g, off, cap, cur, rfl, h1, h2, h3, h4, h5⟩
  · cases e
  · rw [List.length_cons] at h3 h5
    have hlt : g < w.heap.size := (Array.getElem?_eq_some_iff.1 h2).1
    have hc : ∀ j, j < 3 → w.cell? ⟨g, off + j, none⟩ = n.l[j]? := by
      intro j hj
      have e1 : w.cell? ⟨g, off + j, none⟩ = cur[off + j]? := by simp [World.cell?, h2]
      have e2 : ((cur.toList.drop off).take ((l.length + 1) * 3))[j]? = n.l[j]? := by
        rw [h5, List.flatMap_cons, List.getElem?_append_left (by rw [Nd.l_len]; exact hj)]
      rw [List.getElem?_take_of_lt (by omega), List.getElem?_drop, Array.getElem?_toList] at e2
      rw [e1, e2]
    have ht : (cur.toList.drop (off + 3)).take (l.length * 3) = l.flatMap Nd.l := by
      have e := congrArg (List.drop 3) h5
      rw [List.flatMap_cons, List.drop_take, List.drop_drop, List.drop_append_of_le_length (by rw [Nd.l_len]; omega)] at e
      have e3 : (l.length + 1) * 3 - 3 = l.length * 3 := by omega
      rw [e3] at e
      rw [e]
      rfl
    refine ⟨g, off, cap, rfl, h3, hlt, ?_, ?_, ?_, fun hcap => ?_, fun hcap => ?_⟩
    · exact hc 0 (by omega)
    · exact hc 1 (by omega)
    · exact hc 2 (by omega)
    · obtain rfl : l = [] := List.eq_nil_of_length_eq_zero (by omega)
      exact Or.inr ⟨g, off, 0, cur, rfl, h1, h2, Nat.le_refl _, by omega, rfl⟩
    · exact Or.inr ⟨g, off + 3, cap - 1, cur, rfl, h1, h2, by omega, by omega, ht⟩
theorem heap_setRow {w : World} {g : Nat} {cur cs : Array Value} {t : TypeId} (h : w.heap[g]? = some (.cells cur t (0, 0))) : (w.setRow g cs).heap[g]? = some (.cells cs t (0, 0)) := by
  unfold World.setRow
  simp [Array.getElem?_modify, h]
theorem Kp.setRowD (w : World) (g : Nat) (cs : Array Value) : Kp [g] w (w.setRow g cs) := by
  refine ⟨rfl, rfl, rfl, by simp [World.setRow], fun k hk hn => ?_⟩
  unfold World.setRow
  have hg : g ≠ k := fun e => hn (by simp [e])
  simp [Array.getElem?_modify, hg]
/-- Nodes of another row are put at its end. -/
theorem QuD.app {B : Nat} {w : World} {v x : Value} {l ys : List Nd} (h : QuD B w v l) (hB : B ≤ w.heap.size) (hx : OwnsD B w x ys) (hl : l.length + ys.length ≤ 1000000) (ty : TypeId) :
    ∃ ad cap w', (Builtin.append_ #[41, 41] ty #[v, x]).run Tryz.prog w = .ok (.slice ad (l.length + ys.length) cap) w' ∧ QuD B w' (.slice ad (l.length + ys.length) cap) (l ++ ys) ∧ Kp v.ownBlock.toList w w' := by
  obtain ⟨i0, hi, hz0, hz1, hz2⟩ := info_parts info_NdW
  have hys := ndL_len ys
  rcases hx.at with ⟨rfl, rfl⟩ | ⟨gx, cx, rfl, _, _, _, hcx⟩
  · -- nothing is put
    simp only [List.length_nil, Nat.add_zero, List.append_nil]
    rcases h with ⟨rfl, rfl⟩ | ⟨g, off, cap, cur, rfl, h1, h2, h3, h4, h5⟩
    · refine ⟨none, 0, w, ?_, Or.inl ⟨rfl, rfl⟩, Kp.refl _ _⟩
      simp [Builtin.append_, run_underlying Tryz.underlying41, sizeOf, typeInfo, hi, Builtin.lenOf, Builtin.firstCells]
    · refine ⟨_, cap, w, ?_, Or.inr ⟨g, off, cap, cur, rfl, h1, h2, h3, h4, h5⟩, Kp.refl _ _⟩
      simp [Builtin.append_, run_underlying Tryz.underlying41, sizeOf, typeInfo, hi, Builtin.lenOf, Builtin.firstCells, h3, storeCells]
  · have hnews : ∀ j u, (ys.flatMap Nd.l)[j]? = some u → w.cell? ((⟨gx, 0, none⟩ : Addr).add j) = some u := fun j u hj => by
      rw [Go.WideShapes.add_plain, Nat.zero_add]
      exact hcx j u hj
    rcases h with ⟨rfl, rfl⟩ | ⟨g, off, cap, cur, rfl, h1, h2, h3, h4, h5⟩
    · rcases Nat.eq_zero_or_pos ys.length with h0 | h0
      · obtain rfl : ys = [] := List.eq_nil_of_length_eq_zero h0
        refine ⟨none, 0, w, ?_, Or.inl ⟨rfl, rfl⟩, Kp.refl _ _⟩
        simp [Builtin.append_, run_underlying Tryz.underlying41, sizeOf, typeInfo, hi, Builtin.lenOf, Builtin.firstCells, loadCells, loadCellsFrom]
      · have hr := run_append_nil (P := Tryz.prog) w 41 ty 26 i0 _ Tryz.underlying41 hi hz0 ⟨gx, 0, none⟩ ys.length cx (ys.flatMap Nd.l) (by rw [hys, hz1]) hnews h0 (by omega) (by rw [hz2]; omega)
        refine ⟨some ⟨w.heap.size, 0, none⟩, grownCap w ys.length 0 26, _, by simpa using hr, ?_, ?_⟩
        · refine Or.inr ⟨w.heap.size, 0, grownCap w ys.length 0 26, _, by simp, hB, heap_alloc_new w.drew _, ?_, ?_, ?_⟩
          · simpa using grownCap_ge w ys.length 0 26
          · have := grownCap_ge w ys.length 0 26
            rw [Array.size_append, size_zeroCells]
            have e3 : (Value.agg #[Value.int IntKind.i64 0, Value.bool false, Value.bool false]).cells.size = 3 := rfl
            rw [e3]
            simp only [List.size_toArray, hys]
            omega
          · rw [List.nil_append, List.drop_zero, Array.toList_append, ← hys, List.take_left']
            simp
        · exact (Kp.drew w).trans (Kp.alloc _ _) (by simp)
    · by_cases hroom : l.length + ys.length ≤ cap
      · have hcl : cur.toList.length = cur.size := by simp
        have h1c := ndL_one ys
        have hfa : (l ++ ys).flatMap Nd.l = l.flatMap Nd.l ++ ys.flatMap Nd.l := List.flatMap_append
        rw [← h5] at hfa
        generalize ys.flatMap Nd.l = NS at *
        have hf := run_firstCells_some (P := Tryz.prog) w i0.size ys.length ⟨gx, 0, none⟩ ys.length cx NS (by rw [hys, hz1]) hnews
        have hst := run_storeCells_at Tryz.prog g (off + l.length * 3) 26 NS 0 cur w h2 (by rw [hys]; omega) h1c
        simp only [Nat.add_zero] at hst
        rw [hz1] at hf
        refine ⟨some ⟨g, off, none⟩, cap, w.setRow g (cur.toList.take (off + l.length * 3) ++ NS ++ cur.toList.drop (off + l.length * 3 + NS.length)).toArray, ?_, Or.inr ⟨g, off, cap, (cur.toList.take (off + l.length * 3) ++ NS ++ cur.toList.drop (off + l.length * 3 + NS.length)).toArray, by rw [List.length_append], h1, heap_setRow h2, by rw [List.length_append]; exact hroom, ?_, ?_⟩, Kp.setRowD w g _⟩
        · simp [Builtin.append_, run_underlying Tryz.underlying41, sizeOf, typeInfo, hi, Builtin.lenOf, hroom, hf, hz1, Go.WideShapes.add_plain, hst]
        · simp only [List.size_toArray, List.length_append, List.length_take, List.length_drop, hcl, hys]
          omega
        · have hlen : (cur.toList.take (off + l.length * 3)).length = off + l.length * 3 := by rw [List.length_take, hcl]; omega
          rw [hfa]
          show ((cur.toList.take (off + l.length * 3) ++ NS ++ cur.toList.drop (off + l.length * 3 + NS.length)).drop off).take ((l ++ ys).length * 3) = _
          have e1 : (cur.toList.take (off + l.length * 3) ++ NS ++ cur.toList.drop (off + l.length * 3 + NS.length)).drop off = ((cur.toList.drop off).take (l.length * 3) ++ NS) ++ cur.toList.drop (off + l.length * 3 + NS.length) := by
            rw [List.append_assoc, List.drop_append_of_le_length (by omega), List.drop_take, Nat.add_sub_cancel_left, List.append_assoc]
          rw [e1]
          refine List.take_left' ?_
          rw [List.length_append, List.length_take, List.length_drop, hcl, hys, List.length_append]
          omega
      · have holds : ∀ j u, (l.flatMap Nd.l)[j]? = some u → w.cell? ((⟨g, off, none⟩ : Addr).add j) = some u := fun j u hj => by
          have hj3 : j < l.length * 3 := by rw [← ndL_len]; exact (List.getElem?_eq_some_iff.1 hj).1
          rw [Go.WideShapes.add_plain]
          have e1 : w.cell? ⟨g, off + j, none⟩ = cur[off + j]? := by simp [World.cell?, h2]
          rw [← h5, List.getElem?_take_of_lt hj3, List.getElem?_drop, Array.getElem?_toList] at hj
          rw [e1, hj]
        have hr := run_append_grow (P := Tryz.prog) w 41 ty 26 i0 _ Tryz.underlying41 hi hz0 ⟨g, off, none⟩ l.length cap (l.flatMap Nd.l) (by rw [ndL_len, hz1]) holds ⟨gx, 0, none⟩ ys.length cx (ys.flatMap Nd.l) (by rw [hys, hz1]) hnews (by omega) (by omega) (growslice_fits (by omega) (by rw [hz2]; omega))
        refine ⟨_, _, _, hr, ?_, ?_⟩
        · refine Or.inr ⟨w.heap.size, 0, _, _, by rw [List.length_append], hB, heap_alloc_new w.drew _, ?_, ?_, ?_⟩
          · rw [List.length_append]
            exact grownCap_ge w _ _ _
          · have := grownCap_ge w (l.length + ys.length) cap 26
            rw [Array.size_append, Array.size_append, size_zeroCells]
            have e3 : (Value.agg #[Value.int IntKind.i64 0, Value.bool false, Value.bool false]).cells.size = 3 := rfl
            rw [e3]
            simp only [List.size_toArray, hys, ndL_len]
            omega
          · rw [List.drop_zero, Array.toList_append, Array.toList_append, List.flatMap_append]
            refine List.take_left' ?_
            simp only [List.length_append, hys, ndL_len]
            omega
        · exact ((Kp.drew w).trans (Kp.alloc _ _) (by simp)).mono (by simp)
/-! Sets of nodes. -/
/-- A map with just these keys lies there. -/
def SetN (w : World) (b : Nat) (S : List Nd) : Prop := ∃ es clock, w.heap[b]? = some (.map es clock) ∧ es.toList.map (fun e => (e.key, e.val)) = S.map (fun n => (Value.agg n.c, Value.agg #[]))
theorem SetN.new (w : World) : SetN (w.alloc (.map #[] 0)) w.heap.size [] := ⟨#[], 0, heap_alloc_new w _, rfl⟩
theorem SetN.kp {F : List Nat} {w w' : World} {b : Nat} {S : List Nd} (h : SetN w b S) (hk : Kp F w w') (hF : b ∉ F) : SetN w' b S := by
  obtain ⟨es, c, h1, h2⟩ := h
  exact ⟨es, c, (hk.block b (Array.getElem?_eq_some_iff.1 h1).1 hF).trans h1, h2⟩
theorem SetN.lt {w : World} {b : Nat} {S : List Nd} (h : SetN w b S) : b < w.heap.size := let ⟨_, _, h1, _⟩ := h; (Array.getElem?_eq_some_iff.1 h1).1
theorem chkN (n : Nd) (c : Bool) (w : World) : (Instr.checkKey c 10000 26 (.agg n.c)).run Tryz.prog w = .ok () w := by
  unfold Instr.checkKey
  simp only [Sem.run_bind, run_underlying Tryz.underlying26, Result.andThen_ok]
  have hi : ∀ a : Int, (Instr.checkKey c 9999 3 (.int .i64 a)).run Tryz.prog w = .ok () w := fun a => MapKept.run_checkKey Tryz.underlying3 (by simp [MapKept.IsKey]) c 9998
  have hb : ∀ a : Bool, (Instr.checkKey c 9999 4 (.bool a)).run Tryz.prog w = .ok () w := fun a => MapKept.run_checkKey Tryz.underlying4 (by simp [MapKept.IsKey]) c 9998
  simp [Nd.c, part, Tryz.sizeOf3, Tryz.sizeOf4, go_sem, hi, hb]
theorem ask_no (n : Nd) (w : World) : ∀ (es : List MapEntry) (S : List Nd) (i : Nat), es.map (fun e => (e.key, e.val)) = S.map (fun n => (Value.agg n.c, Value.agg #[])) → n ∉ S → (Instr.findAsking 26 (.agg n.c) es i).run Tryz.prog w = .ok none w
  | [], _, _, _, _ => by simp [Instr.findAsking]
  | e :: es, [], _, h, _ => by simp at h
  | e :: es, x :: S, i, h, hn => by
    rw [List.map_cons, List.map_cons, List.cons.injEq] at h
    obtain ⟨h1, h2⟩ := h
    obtain ⟨k, v, bn⟩ := e
    simp only [Prod.mk.injEq] at h1
    obtain ⟨rfl, rfl⟩ := h1
    have hne : ndE n x = false := ndE_no (fun e => hn (by rw [e]; simp))
    have := eqN 9998 n x w
    rw [hne] at this
    have ih := ask_no n w es S (i + 1) h2 (fun hm => hn (by simp [hm]))
    simp [Instr.findAsking, Op.equal, Op.maxDepth, this, ih, Result.andThen]
theorem ask_yes (n : Nd) (w : World) : ∀ (es : List MapEntry) (S : List Nd) (i : Nat), es.map (fun e => (e.key, e.val)) = S.map (fun n => (Value.agg n.c, Value.agg #[])) → n ∈ S → ∃ j, (Instr.findAsking 26 (.agg n.c) es i).run Tryz.prog w = .ok (some (j, .agg #[])) w
  | [], S, _, h, hn => by
    cases S with
    | nil => cases hn
    | cons a b => simp at h
  | e :: es, [], _, h, _ => by simp at h
  | e :: es, x :: S, i, h, hn => by
    rw [List.map_cons, List.map_cons, List.cons.injEq] at h
    obtain ⟨h1, h2⟩ := h
    obtain ⟨k, v, bn⟩ := e
    simp only [Prod.mk.injEq] at h1
    obtain ⟨rfl, rfl⟩ := h1
    have := eqN 9998 n x w
    by_cases hx : n = x
    · rw [(ndE_iff n x).2 hx] at this
      refine ⟨i, ?_⟩
      simp [Instr.findAsking, Op.equal, Op.maxDepth, this, Result.andThen]
    · rw [ndE_no hx] at this
      obtain ⟨j, ih⟩ := ask_yes n w es S (i + 1) h2 (by
        rcases List.mem_cons.1 hn with e | e
        · exact absurd e hx
        · exact e)
      refine ⟨j, ?_⟩
      simp [Instr.findAsking, Op.equal, Op.maxDepth, this, ih, Result.andThen]
def hasD (S : List Nd) (n : Nd) : Bool := S.any (ndE n)
theorem hasD_iff {S : List Nd} {n : Nd} : hasD S n = true ↔ n ∈ S := by
  unfold hasD
  rw [List.any_eq_true]
  constructor
  · rintro ⟨x, hx, h⟩
    rw [(ndE_iff n x).1 h]
    exact hx
  · exact fun h => ⟨n, h, ndE_self n⟩
set_option maxRecDepth 100000 in
/-- A look-up. -/
theorem SetN.look {w : World} {b : Nat} {S : List Nd} (h : SetN w b S) (n : Nd) : (Instr.lookup 65 (.map (some b)) (.agg n.c) true).run Tryz.prog w = .ok (.tuple #[.agg #[], .bool (hasD S n)]) w := by
  obtain ⟨es, c, h1, h2⟩ := h
  have hz : (zeroValue 91).run Tryz.prog w = .ok (.agg #[]) w := by kernel_rfl
  have hf := run_findKey_eq (P := Tryz.prog) w (k := 26) (by rw [Tryz.underlying26]) (.agg n.c) es.toList
  by_cases hn : n ∈ S
  · obtain ⟨j, hj⟩ := ask_yes n w es.toList S 0 h2 hn
    rw [hasD_iff.2 hn]
    simp [Instr.lookup, run_underlying Tryz.underlying65, MapKept.run_getObj_map h1, chkN, hf, hj, Result.andThen]
  · have hj := ask_no n w es.toList S 0 h2 hn
    have : hasD S n = false := by
      cases e : hasD S n with
      | true => exact absurd (hasD_iff.1 e) hn
      | false => rfl
    rw [this]
    simp [Instr.lookup, run_underlying Tryz.underlying65, MapKept.run_getObj_map h1, chkN, hf, hj, hz, Result.andThen]
set_option maxRecDepth 100000 in
/-- A store of one that is not there. -/
theorem SetN.store {w : World} {b : Nat} {S : List Nd} (h : SetN w b S) (n : Nd) (hn : n ∉ S) : ∃ w', (Instr.mapUpdate 65 (.map (some b)) (.agg n.c) (.agg #[])).run Tryz.prog w = .ok () w' ∧ SetN w' b (S ++ [n]) ∧ Kp [b] w w' := by
  obtain ⟨es, c, h1, h2⟩ := h
  have hf := run_findKey_eq (P := Tryz.prog) w (k := 26) (by rw [Tryz.underlying26]) (.agg n.c) es.toList
  have hj := ask_no n w es.toList S 0 h2 hn
  refine ⟨setBlock w b (.map (es.push ⟨.agg n.c, .agg #[], c⟩) (c + 1)), ?_, ⟨_, _, (MapKept.heap_set h1).1, ?_⟩, ?_⟩
  · simp [Instr.mapUpdate, run_underlying Tryz.underlying65, MapKept.run_getObj_map h1, chkN, hf, hj, MapKept.run_setObj_map _ h1, Result.andThen, setBlock]
  · rw [Array.toList_push, List.map_append, h2, List.map_append]
    rfl
  · refine ⟨rfl, rfl, rfl, by simp [setBlock], fun k _ hk => ?_⟩
    have : b ≠ k := fun e => hk (by simp [e])
    unfold setBlock
    simp [this]
theorem SetN.len {w : World} {b : Nat} {S : List Nd} (h : SetN w b S) (ty : TypeId) : (Builtin.len_ #[65] ty #[.map (some b)]).run Tryz.prog w = .ok (.int .i64 (S.length : Int)) w := by
  obtain ⟨es, c, h1, h2⟩ := h
  have e : es.size = S.length := by
    have := congrArg List.length h2
    simpa using this
  simp [Builtin.len_, run_underlying Tryz.underlying65, MapKept.run_getObj_map h1, Result.andThen, goInt, e]
end Go.Proofs.YtjijhefmbmdbeaaGreatDoor
